/- The document's own Room and Put. -/
import Derived.Test.YtcgjolonapndgaaTake
namespace Go.Proofs.Ytcgjolonapndgaa
open Go.RowKit Go.Maps Go.ChangeMaps Go.MapKept
set_option maxRecDepth 100000 in
set_option maxHeartbeats 1000000 in
theorem rroom_ok (size : Int) (w : World) (h1 : 64 ≤ size) (h2 : size ≤ 8192) : Calls Try.prog 17 #[.int .i64 size] w fun e w' => e = .returned (.int .i64 (size - 11)) ∧ w' = w := by
  have d1 : decide (size < 64) = false := by simpa using h1
  have d2 : decide (8192 < size) = false := by simpa using h2
  go_enter Try.func17, Try.ntmps17
  go_wp2
  go_ret
  exact ⟨rfl, rfl⟩
set_option maxRecDepth 100000 in
set_option maxHeartbeats 1000000 in
theorem rroom_bad (size : Int) (w : World) (h : size < 64 ∨ 8192 < size) : Calls Try.prog 17 #[.int .i64 size] w fun e w' => e = .returned (.int .i64 0) ∧ w' = w := by
  by_cases h1 : size < 64
  · go_enter Try.func17, Try.ntmps17
    go_wp2
    go_ret
    exact ⟨rfl, rfl⟩
  · have d1 : decide (size < 64) = false := by simpa using h1
    have h2 : 8192 < size := by omega
    go_enter Try.func17, Try.ntmps17
    go_wp2
    go_ret
    exact ⟨rfl, rfl⟩
theorem be4 (n : Nat) : be 4 n = [((n / 16777216 % 256 : Nat) : Int), ((n / 65536 % 256 : Nat) : Int), ((n / 256 % 256 : Nat) : Int), ((n % 256 : Nat) : Int)] := by
  simp only [be, List.nil_append, List.cons_append, Nat.div_div_eq_div_mul]
theorem be2 (n : Nat) : be 2 n = [((n / 256 % 256 : Nat) : Int), ((n % 256 : Nat) : Int)] := by
  simp only [be, List.nil_append, List.cons_append]
/-- Bytes in a new block, owned. -/
theorem own_lit (w : World) (xs : List Int) (C : Array Value) (n : Nat) (hC : C = (xs.map (Value.int .u8)).toArray) (hn : n = xs.length) (hl : xs.length ≤ 1000) : Own (w.alloc (.cells C 5)) w.heap.size (.slice (some ⟨w.heap.size, 0, none⟩) n n) xs := by
  subst hC hn
  have := World.ownsRow_lit (base := w.heap.size) (e := 5) (size := 1) w (xs.map (Value.int .u8)).toArray xs.length (Nat.le_refl _) (by unfold maxLen; omega) (by simp)
  unfold Own
  simpa using this
theorem own_ne {w : World} {base : Nat} {v : Value} {xs : List Int} (h : Own w base v xs) (h0 : xs ≠ []) : v ≠ .slice none 0 0 := by
  intro e
  subst e
  obtain ⟨h1, h2⟩ := h
  rcases h2 with ⟨_, h2⟩ | ⟨g, cap, cur, e, _⟩
  · exact h0 (by simpa using h2)
  · cases e
set_option maxRecDepth 100000 in
set_option maxHeartbeats 1000000 in
theorem rput_size (size kind id : Int) (lv : Value) (w : World) (h : size < 64 ∨ 8192 < size) :
    Calls Try.prog 11 #[.int .i64 size, .agg #[.int .u8 kind, .int .u32 id, lv]] w fun e w' => e = .returned (.tuple #[.string ⟨#[]⟩, .int .i64 2]) ∧ Below w.heap.size w w' := by
  go_enter Try.func11, Try.ntmps11
  go_wp2_with (first | (go_at_call 17; refine (rroom_bad _ _ h).mono ?_; rintro e w' ⟨rfl, hw'⟩; subst w'))
  go_ret2
  exact ⟨rfl, (Below.refl _ _).alloc (Nat.le_refl _) _⟩
set_option maxRecDepth 100000 in
set_option maxHeartbeats 1000000 in
theorem rput_kind (size id : Int) (lv : Value) (w : World) :
    Calls Try.prog 11 #[.int .i64 size, .agg #[.int .u8 0, .int .u32 id, lv]] w fun e w' => e = .returned (.tuple #[.string ⟨#[]⟩, .int .i64 2]) ∧ Below w.heap.size w w' := by
  by_cases h : size < 64 ∨ 8192 < size
  · exact rput_size size 0 id lv w h
  · have h1 : 64 ≤ size := by omega
    have h2 : size ≤ 8192 := by omega
    clear h
    go_enter Try.func11, Try.ntmps11
    go_wp2_with (first | (go_at_call 17; refine (rroom_ok _ _ h1 h2).mono ?_; rintro e w' ⟨rfl, hw'⟩; subst w'))
    go_ret2
    exact ⟨rfl, (Below.refl _ _).alloc (Nat.le_refl _) _⟩
set_option maxRecDepth 100000 in
set_option maxHeartbeats 1000000 in
theorem rput_long (size kind id : Int) (a : Option Addr) (n c : Nat) (w : World) (h1 : 64 ≤ size) (h2 : size ≤ 8192) (hk : 0 < kind) (hl : size - 11 < (n : Int)) :
    Calls Try.prog 11 #[.int .i64 size, .agg #[.int .u8 kind, .int .u32 id, .slice a n c]] w fun e w' => e = .returned (.tuple #[.string ⟨#[]⟩, .int .i64 1]) ∧ Below w.heap.size w w' := by
  have d1 : (kind == 0) = false := by simp; omega
  have d2 : (size - 11 == 0) = false := by simp; omega
  have d3 : decide (size - 11 < (n : Int)) = true := by simpa using hl
  have hB := (Below.refl w.heap.size w).alloc (Nat.le_refl _) (.cells #[.int .u8 kind, .int .u32 id, .slice a n c] 25)
  have hcl : (w.alloc (.cells #[.int .u8 kind, .int .u32 id, .slice a n c] 25)).cell? ⟨w.heap.size, 2, none⟩ = some (.slice a n c) := by simp
  go_enter Try.func11, Try.ntmps11
  go_wp2_with (first | (go_at_call 17; refine (rroom_ok _ _ h1 h2).mono ?_; rintro e w' ⟨rfl, hw'⟩; subst w'))
  go_region_held3 (fun W => W.cell? ⟨w.heap.size, 2, none⟩ = some (.slice a n c)) (go_keep) (first | (go_at_call 17; refine (rroom_ok _ _ h1 h2).mono ?_; rintro e w' ⟨rfl, hw'⟩; subst w'))
  go_wp2_with fail
  go_ret2
  exact ⟨rfl, hB.drew⟩
set_option maxRecDepth 100000 in
set_option maxHeartbeats 4000000 in
theorem rput_ok (size : Nat) (kind : Int) (id : Nat) (lv : Value) (load : List Int) (w : World) (h1 : 64 ≤ size) (h2 : size ≤ 8192) (hk : 0 < kind ∧ kind < 256) (hid : id < 2 ^ 32) (hb : Bts w lv load) (hby : IsBytes load) (hl : load.length + 11 ≤ size) :
    Calls Try.prog 11 #[.int .i64 size, .agg #[.int .u8 kind, .int .u32 id, lv]] w fun e w' => e = .returned (.tuple #[.string (strOfNums (pageB size kind id load)), .int .i64 0]) ∧ Below w.heap.size w w' := by
  obtain ⟨a, c, hlv⟩ := hb.split
  obtain ⟨n, hn⟩ : ∃ n, n = load.length := ⟨_, rfl⟩
  rw [← hn] at hlv hl
  subst hlv
  have d1 : (kind == 0) = false := by simp; omega
  have d2 : ((size : Int) - 11 == 0) = false := by simp; omega
  have d3 : decide ((size : Int) - 11 < (n : Int)) = false := by simp; omega
  have hB := (Below.refl w.heap.size w).alloc (Nat.le_refl _) (.cells #[.int .u8 kind, .int .u32 id, .slice a n c] 25)
  have hcl : (w.alloc (.cells #[.int .u8 kind, .int .u32 id, .slice a n c] 25)).cell? ⟨w.heap.size, 2, none⟩ = some (.slice a n c) := by simp
  have hp : PageAt (w.alloc (.cells #[.int .u8 kind, .int .u32 id, .slice a n c] 25)) w.heap.size kind id (.slice a n c) := heap_alloc_new w _
  replace hn : Hid _ := hn
  go_enter Try.func11, Try.ntmps11
  go_wp2_with (first | (go_at_call 17; refine (rroom_ok _ _ (by omega) (by omega)).mono ?_; rintro e w' ⟨rfl, hw'⟩; subst w'))
  go_region_held3 (fun W => W.cell? ⟨w.heap.size, 2, none⟩ = some (.slice a n c)) (go_keep) (first | (go_at_call 17; refine (rroom_ok _ _ (by omega) (by omega)).mono ?_; rintro e w' ⟨rfl, hw'⟩; subst w'))
  obtain ⟨P, hP⟩ : ∃ P : Obj, P = .cells #[.int .u8 kind, .int .u32 id, .slice a n c] 25 := ⟨_, rfl⟩
  obtain ⟨C, hC⟩ : ∃ C : Array Value, C = #[.int .u8 kind, .int .u8 ((id : Int) / 16777216), .int .u8 ((id : Int) / 65536 % 256), .int .u8 ((id : Int) / 256 % 256), .int .u8 ((id : Int) % 256), .int .u8 ((n : Int) / 256), .int .u8 ((n : Int) % 256)] := ⟨_, rfl⟩
  obtain ⟨xs, hxs⟩ : ∃ xs : List Int, xs = kind :: (be 4 id ++ be 2 n) := ⟨_, rfl⟩
  have hxl : xs.length = 7 := by rw [hxs]; simp [be_len]
  have hCx : C = (xs.map (Value.int .u8)).toArray := by
    rw [hC, hxs, be4, be2]
    simp
    omega
  have hO5 : Own ((w.alloc P).alloc (.cells C 5)).drew (w.heap.size + 1) (.slice (some ⟨w.heap.size + 1, 0, none⟩) 7 7) xs := by
    have := World.ownsRow.drew (own_lit (w.alloc P) xs C 7 hCx hxl.symm (by omega))
    rw [World.size_alloc] at this
    exact this
  have hp5 : PageAt ((w.alloc P).alloc (.cells C 5)).drew w.heap.size kind id (.slice a n c) := by
    rw [hP]; exact heap2f w _ _
  have hB5 : Below w.heap.size w ((w.alloc P).alloc (.cells C 5)).drew := (((Below.refl _ w).alloc (Nat.le_refl _) _).alloc (by simp) _).drew
  have hb5 := hb.grow hB5
  go_upto_region 6 with fail
  rw [← hP, ← hC]
  generalize ((w.alloc P).alloc (.cells C 5)).drew = W5 at *
  clear hP hC hCx hp hcl hB hb
  obtain ⟨p0, p1, p2⟩ := hp5.cells
  have hx8 : xs ≠ [] := by intro e; rw [e] at hxl; cases hxl
  replace hxl : Hid _ := hxl
  replace hxs : Hid _ := hxs
  go_upto_region 7 with (first | (at_builtin; refine appX rfl (.tmp 50) (.tmp 52) rfl (w.heap.size + 1) _ (.slice a n c) xs load rfl rfl hO5 hb5 (by have := hB5.size; have := hp5.lt; omega) (by rw [hxl.out, ← hn.out]; omega) ?_; intro v6 w6 ho6 hb6 _))
  obtain ⟨ys, hys⟩ : ∃ ys, ys = xs ++ load := ⟨_, rfl⟩
  obtain ⟨m, hm⟩ : ∃ m, m = 7 + n := ⟨_, rfl⟩
  have hyl : ys.length = m := by rw [hm, hys, List.length_append, hxl.out, ← hn.out]
  have hy0 : ys ≠ [] := by intro e; rw [e] at hyl; simp at hyl; omega
  rw [← hys] at ho6
  have hlen6 := len_bts ho6.bts
  rw [hyl] at hlen6
  have hz6 : w.heap.size + 1 ≤ w6.heap.size := by have := hB5.size; have := hb6.size; have := hp5.lt; omega
  obtain ⟨v7, w7, hzr, ho7, hg7, _⟩ := run_zeros ho6 (own_ne ho6 hy0) (size - 4 - m) (by omega) hz6
  have hcast : ((size - 4 - m : Nat) : Int) = (size : Int) - 4 - (m : Int) := by omega
  rw [hcast] at hzr
  have hLd : ys ++ zeros (size - 4 - m) = laid size kind id load := by
    rw [hys, hxs.out]
    unfold laid zeros zs
    rw [← hn.out, show size - 4 - m = size - 11 - n by omega]
    simp
  rw [hLd] at ho7
  have hB6 := hB5.trans (hb6.mono (by omega))
  have hB7 := hB6.grown hg7 (by omega) (fun k hk => by have := (ho6.lt k hk).1; omega)
  have hLb := laid_bytes size kind id load ⟨by omega, hk.2⟩ hby
  have hLl := laid_len size kind id load (by rw [← hn.out]; omega)
  have hcrc := crc_any (laid size kind id load) v7 w7 hLb (by rw [hLl]; omega) ho7.bts
  have hM := mfold_lt (laid size kind id load) hLb 4294967295 (by decide)
  have HP : Hid (laid size kind id load ++ be 4 (mfold 4294967295 (laid size kind id load)) = pageB size kind id load) := rfl
  generalize mfold 4294967295 (laid size kind id load) = M at hcrc hM HP
  have hz7 := hB7.size
  obtain ⟨C, hC⟩ : ∃ C : Array Value, C = #[.int .u8 ((M : Int) / 16777216), .int .u8 ((M : Int) / 65536 % 256), .int .u8 ((M : Int) / 256 % 256), .int .u8 ((M : Int) % 256)] := ⟨_, rfl⟩
  have hCx : C = ((be 4 M).map (Value.int .u8)).toArray := by
    rw [hC, be4]
    simp
    omega
  have hbC : Bts (w7.alloc (.cells C 5)) (.slice (some ⟨w7.heap.size, 0, none⟩) 4 4) (be 4 M) := by
    have := bts_block (W := w7.alloc (.cells C 5)) (g := w7.heap.size) (fr := (0, 0)) (be 4 M) (by rw [← hCx]; exact heap_alloc_new w7 _)
    rwa [be_len] at this
  have ho8 := World.ownsRow.alloc ho7 (.cells C 5)
  rw [hC] at hbC ho8
  generalize laid size kind id load = Lx at *
  clear hCx hC hxs hxl hys hyl hy0 hx8 hp5 p0 p1 p2 hLd hcast hB5 hB6 hO5 hb5 hb6 ho6 hg7
  replace hLl : Hid _ := hLl
  have hm1 : m + 4 ≤ size := by omega
  clear hm
  replace hzr : Hid _ := hzr
  go_upto_region 8 with (first | (at_builtin; refine Lib.wpList_append_run _ rfl _ _ 23 3 rfl v6 (.int .i64 ((size : Int) - 4 - (m : Int))) rfl rfl v7 w7 (hzr.out _) ?_))
  go_wp2_with (first | (go_at_call 38; refine hcrc.mono ?_; rintro e w8 ⟨rfl, hw8⟩; subst w8) | (at_builtin; refine appX rfl (.tmp 63) (.tmp 75) rfl (w.heap.size + 1) _ _ Lx (be 4 M) rfl rfl ho8 hbC (by simp; omega) (by rw [hLl.out, be_len]; omega) ?_; intro v9 w9 ho9 hb9 _; rw [HP.out] at ho9; have hcv := conv_str ho9.bts))
  go_ret2
  have hB8 := hB7.alloc hz7 (.cells #[.int .u8 ((M : Int) / 16777216), .int .u8 ((M : Int) / 65536 % 256), .int .u8 ((M : Int) / 256 % 256), .int .u8 ((M : Int) % 256)] 5)
  exact ⟨rfl, hB8.trans (hb9.mono (by omega))⟩
end Go.Proofs.Ytcgjolonapndgaa
