/- A folder's bytes; layFolder, Put. -/
import Derived.Test.YtfbeilninpapaaaCn
import Derived.Test.YtfbeilninpapaaaKeep
import Derived.Deep.DeepCutAuto
namespace Go.Proofs.Ytfbeilninpapaaa
set_option linter.unusedVariables false
open Go.RowKit
/-- A grant's bytes. -/
def grB (g : Gr) : List Int := encS g.kind ++ (encT g.name ++ encS g.level)
/-- A folder's bytes. -/
def foB (m : ByteArray) (l : List Gr) (z : Int) : List Int := encT m ++ (enc l.length ++ (cat grB l ++ encS z))
/-- Put's error. -/
def puE (m : ByteArray) (l : List Gr) (z : Int) : Int := if nmB m then (if 1 ≤ z then ckE l else 150) else 150
theorem puE_in (m : ByteArray) (l : List Gr) (z : Int) : 0 ≤ puE m l z ∧ puE m l z ≤ 150 := by
  have := ckE_in l
  unfold puE; split <;> (try split) <;> omega
/-- Grants of a size that is laid. -/
def GrS (l : List Gr) : Prop := l.length ≤ 16 ∧ ∀ g ∈ l, GrI g ∧ g.name.size ≤ 24
theorem roB_len {s : ByteArray} (h : roB s = true) : s.size ≤ 24 := by
  have key : ∀ t : List UInt8, (s.toList == t) = true → s.size = t.length := fun t e => by
    have e := eq_of_beq e
    rw [Lib.toList_data] at e
    have : s.size = s.data.toList.length := by simp
    rw [this, e]
  unfold roB at h
  simp only [Bool.or_eq_true] at h
  rcases h with h | h | h
  · have := key _ h; simp at this; omega
  · have := key _ h; simp at this; omega
  · have := key _ h; simp at this; omega
theorem mbB_len {g : Gr} (h : mbB g = true) : g.name.size ≤ 24 := by
  unfold mbB at h
  have h := (Bool.and_eq_true_iff.1 h).1
  unfold namedB at h
  split at h
  · exact (nmB_len h).2
  · split at h
    · exact (nmB_len h).2
    · split at h
      · exact roB_len h
      · cases h
theorem ckE_ok {l : List Gr} (h : ckE l = 0) : l.length ≤ 16 ∧ l.all mbB = true := by
  unfold ckE at h
  split at h
  · simp at h
  · split at h
    · rename_i h1 h2
      exact ⟨by omega, h2⟩
    · simp at h
theorem grS_of {l : List Gr} (h : ckE l = 0) (hi : ∀ g ∈ l, GrI g) : GrS l := by
  obtain ⟨h1, h2⟩ := ckE_ok h
  exact ⟨h1, fun g hg => ⟨hi g hg, mbB_len (List.all_eq_true.1 h2 g hg)⟩⟩
theorem puE_ok {m : ByteArray} {l : List Gr} {z : Int} (h : puE m l z = 0) : nmB m = true ∧ 1 ≤ z ∧ ckE l = 0 := by
  unfold puE at h
  split at h
  · split at h
    · rename_i h1 h2; exact ⟨h1, h2, h⟩
    · simp at h
  · simp at h
theorem grB_len (g : Gr) (h : GrI g ∧ g.name.size ≤ 24) : (grB g).length ≤ 56 := by
  have h1 := encS_len11 g.kind h.1.1.1 h.1.1.2
  have h2 := encS_len11 g.level h.1.2.1 h.1.2.2
  have h3 := encT_len g.name (by have := h.2; omega)
  have h4 := h.2
  unfold grB
  simp only [List.length_append]
  omega
theorem catG_len (l : List Gr) (h : ∀ g ∈ l, GrI g ∧ g.name.size ≤ 24) : (cat grB l).length ≤ 56 * l.length := cat_len grB 56 l fun g hg => grB_len g (h g hg)
set_option maxRecDepth 100000 in
set_option maxHeartbeats 4000000 in
theorem layFolder_any (m : ByteArray) (gv : Value) (l : List Gr) (z : Int) (w : World) (hm : m.size ≤ 24) (hv : Grs w gv l) (hl : GrS l) (hz : -9223372036854775808 ≤ z ∧ z ≤ 9223372036854775807) :
    Calls Try.prog 31 #[.agg #[.string m, gv, .int .i64 z]] w fun e w' => ∃ v', e = .returned v' ∧ Own w' w.heap.size v' (foB m l z) ∧ Below w.heap.size w w' := by
  obtain ⟨a, c, rfl⟩ := hv.shape
  obtain ⟨hl16, hgs⟩ := hl
  obtain ⟨w1, hw1⟩ : ∃ w1, w1 = w.alloc (.cells #[.string m, .slice a l.length c, .int .i64 z] 39) := ⟨_, rfl⟩
  have hsz : w1.heap.size = w.heap.size + 1 := by rw [hw1]; simp
  have hb1 : Hid (Below w.heap.size w w1) := by rw [hw1]; exact (Below.refl _ _).alloc (Nat.le_refl _) _
  have hvk : Hid (∀ W, Below w1.heap.size w1 W → Grs W (.slice a l.length c) l) := fun W h => (by rw [hw1]; exact hv.alloc _ : Grs w1 (.slice a l.length c) l).grow h
  have hc0 : Hid (∀ W, Below w1.heap.size w1 W → W.cell? ⟨w.heap.size, 0, none⟩ = some (.string m)) := fun W h => (h.cell (p := ⟨w.heap.size, 0, none⟩) (by rw [hsz]; exact Nat.lt_succ_self _)).trans (by rw [hw1]; simp)
  have hc1 : Hid (∀ W, Below w1.heap.size w1 W → W.cell? ⟨w.heap.size, 1, none⟩ = some (.slice a l.length c)) := fun W h => (h.cell (p := ⟨w.heap.size, 1, none⟩) (by rw [hsz]; exact Nat.lt_succ_self _)).trans (by rw [hw1]; simp)
  have hc2 : Hid (∀ W, Below w1.heap.size w1 W → W.cell? ⟨w.heap.size, 2, none⟩ = some (.int .i64 z)) := fun W h => (h.cell (p := ⟨w.heap.size, 2, none⟩) (by rw [hsz]; exact Nat.lt_succ_self _)).trans (by rw [hw1]; simp)
  have hT : Hid (∀ W : World, w1.heap.size ≤ W.heap.size → ∀ s v xs, s.size ≤ 24 → Own W w1.heap.size v xs → xs.length ≤ 5000 → Calls Try.prog 46 #[v, .slice (some ⟨W.heap.size, 0, none⟩) 1 1] (W.alloc (.cells #[.string s] 9)) fun e w' => ∃ v', e = .returned v' ∧ Own w' w1.heap.size v' (xs ++ encT s) ∧ Below w1.heap.size (W.alloc (.cells #[.string s] 9)) w' ∧ Kb (W.alloc (.cells #[.string s] 9)) w') := fun W hW s v xs hs ho hx => text1 w1.heap.size v xs s W.heap.size _ (by omega) (ho.alloc _) (by simp; omega) (by omega) (by simp)
  have hN : Hid (∀ W : World, w1.heap.size ≤ W.heap.size → ∀ (n : Nat) v xs, n ≤ 16 → Own W w1.heap.size v xs → xs.length ≤ 5000 → Calls Try.prog 47 #[v, .slice (some ⟨W.heap.size, 0, none⟩) 1 1] (W.alloc (.cells #[.int .u64 n] 63)) fun e w' => ∃ v', e = .returned v' ∧ Own w' w1.heap.size v' (xs ++ enc n) ∧ Below w1.heap.size (W.alloc (.cells #[.int .u64 n] 63)) w' ∧ Kb (W.alloc (.cells #[.int .u64 n] 63)) w') := fun W hW n v xs hs ho hx => number1 w1.heap.size v xs n W.heap.size _ (by omega) (ho.alloc _) (by simp; omega) (by omega) (by simp)
  have hS : Hid (∀ W : World, w1.heap.size ≤ W.heap.size → ∀ (y : Int) v xs, (-9223372036854775808 ≤ y ∧ y ≤ 9223372036854775807) → Own W w1.heap.size v xs → xs.length ≤ 5000 → Calls Try.prog 48 #[v, .slice (some ⟨W.heap.size, 0, none⟩) 1 1] (W.alloc (.cells #[.int .i64 y] 2)) fun e w' => ∃ v', e = .returned v' ∧ Own w' w1.heap.size v' (xs ++ encS y) ∧ Below w1.heap.size (W.alloc (.cells #[.int .i64 y] 2)) w' ∧ Kb (W.alloc (.cells #[.int .i64 y] 2)) w') := fun W hW y v xs hs ho hx => signed1 w1.heap.size v xs y W.heap.size _ hs (ho.alloc _) (by simp; omega) (by omega) (by simp)
  have hal : Hid (∀ W o, Below w1.heap.size w1 W → Below w1.heap.size w1 (W.alloc o)) := fun W o h => h.alloc h.size o
  have hml := encT_len m (by omega)
  have hnl := enc_len10 l.length (by omega)
  have hcl : Hid (∀ k, (cat grB (l.take k)).length ≤ 896) := fun k => by
    have := catG_len (l.take k) (fun g hg => hgs g (List.mem_of_mem_take hg))
    have : (l.take k).length ≤ 16 := by rw [List.length_take]; omega
    omega
  replace hgs : Hid (∀ g ∈ l, GrI g ∧ g.name.size ≤ 24) := hgs
  have hB1 : Hid (Below w1.heap.size w1 w1) := Below.refl _ _
  have p0 := hc0.out _ hB1.out
  have hT1 := hT.out w1 (Nat.le_refl _) m (.slice none 0 0) [] hm (World.ownsRow_nil _ _ _ _) (by simp)
  clear hv hsz
  go_enter Try.func31, Try.ntmps31
  go_upto_region 1 with fail
  rw [← hw1]
  replace hw1 : Hid _ := hw1
  go_wp2_with (first
    | (go_at_call 46; refine hT1.mono ?_; rintro e w2 ⟨v2, rfl, ho2, hb2, hk2⟩; rw [List.nil_append] at ho2; have hB2 := (hal.out _ _ hB1.out).trans hb2; have q1 := hc1.out _ hB2; have hN2 := hN.out w2 hB2.size l.length v2 (encT m) hl16 ho2 (by omega); replace hB2 : Hid (Below w1.heap.size w1 w2) := hB2; replace ho2 : Hid _ := ho2; replace hb2 : Hid _ := hb2; replace hk2 : Hid _ := hk2)
    | (go_at_call 47; refine hN2.mono ?_; rintro e w3 ⟨v3, rfl, ho3, hb3, hk3⟩; have hB3 := (hal.out _ _ hB2.out).trans hb3; have r1 := hc1.out _ hB3; replace hB3 : Hid (Below w1.heap.size w1 w3) := hB3; replace ho3 : Hid (Own w3 w1.heap.size v3 (encT m ++ enc l.length)) := ho3; replace hb3 : Hid _ := hb3; replace hk3 : Hid _ := hk3))
  clear p0 hT1 q1 hN2 r1 hb2 hk2 hb3 hk3 ho2 hB2
  go_loopw [3, 20] (fun y i wr => ∃ k : Nat, k ≤ l.length ∧ i = .int .i64 k ∧ Hid (Own wr w1.heap.size y (encT m ++ enc l.length ++ cat grB (l.take k))) ∧ Hid (Below w1.heap.size w1 wr)) (fun _ i _ => l.length - (intOf i).toNat)
  case atStart => exact ⟨0, Nat.zero_le _, rfl, (show Own _ _ _ _ from ho3.out.cast (by simp [cat])), hB3⟩
  case round =>
    obtain ⟨k, hk, rfl, hown, hB⟩ := hrel
    obtain ⟨bv, rfl⟩ : ∃ bv, bv = u3 := ⟨_, rfl⟩
    clear ho3 hB3
    have hlk := hcl.out k
    by_cases hlt : k < l.length
    · have hki : (k : Int) < (l.length : Int) := by omega
      obtain ⟨b, o, rfl, x0, x1, x2⟩ := gr_at (hvk.out wr hB.out) k hlt
      have hg1 := hgs.out _ (getD_mem l gr0 k hlt)
      have hct : Hid (cat grB (l.take (k + 1)) = cat grB (l.take k) ++ grB (l.getD k gr0)) := cat_take grB l gr0 k hlt
      generalize l.getD k gr0 = g at *
      obtain ⟨gk, gm, gl⟩ := g
      obtain ⟨⟨i1, i2⟩, i3⟩ := hg1
      simp only at x0 x1 x2 i1 i2 i3
      have e1 := encS_len11 gk i1.1 i1.2
      have e2 := encT_len gm (by omega)
      generalize hX : encT m ++ enc l.length ++ cat grB (l.take k) = X at *
      have hXl : X.length ≤ 950 := by rw [← hX]; simp only [List.length_append]; omega
      replace hX : Hid _ := hX
      obtain ⟨w5, hw5⟩ : ∃ w5, w5 = wr.alloc (.cells #[.int .i64 gk, .string gm, .int .i64 gl] 52) := ⟨_, rfl⟩
      have hH5 : w5.heap[wr.heap.size]? = some (.cells #[.int .i64 gk, .string gm, .int .i64 gl] 52 (0, 0)) := by rw [hw5]; exact heap_new _ _
      have hHk : Hid (∀ W W' : World, W.heap[wr.heap.size]? = some (.cells #[.int .i64 gk, .string gm, .int .i64 gl] 52 (0, 0)) → Kb W W' → W'.heap[wr.heap.size]? = some (.cells #[.int .i64 gk, .string gm, .int .i64 gl] 52 (0, 0))) := fun W W' h hK => (hK.block _ (lt_of_block h) (nob_of h (by decide))).trans h
      have hHc : Hid (∀ W : World, W.heap[wr.heap.size]? = some (.cells #[.int .i64 gk, .string gm, .int .i64 gl] 52 (0, 0)) → W.cell? ⟨wr.heap.size, 0, none⟩ = some (.int .i64 gk) ∧ W.cell? ⟨wr.heap.size, 1, none⟩ = some (.string gm) ∧ W.cell? ⟨wr.heap.size, 2, none⟩ = some (.int .i64 gl)) := fun W h => by simp [World.cell?, h]
      have hB5 : Below w1.heap.size w1 w5 := by rw [hw5]; exact hal.out _ _ hB.out
      have ho5 : Own w5 w1.heap.size bv X := by rw [hw5]; exact hown.out.alloc _
      have hS5 := hS.out w5 hB5.size gk bv X i1 ho5 (by omega)
      have t1 : True := trivial
      go_upto_region 6 with fail
      rw [← hw5]
      have c50 := (hHc.out _ hH5).1
      replace hw5 : Hid _ := hw5
      replace hB5 : Hid (Below w1.heap.size w1 w5) := hB5
      replace ho5 : Hid _ := ho5
      replace hH5 : Hid (w5.heap[wr.heap.size]? = some (.cells #[.int .i64 gk, .string gm, .int .i64 gl] 52 (0, 0))) := hH5
      go_wp2_with (first
        | (go_at_call 48; have _t := t1; refine hS5.mono ?_; rintro e w6 ⟨v6, rfl, ho6, hb6, hk6⟩; clear t1; have hB6 := (hal.out _ _ hB5.out).trans hb6; have hH6 := hHk.out _ _ (hHk.out _ _ hH5.out (Kb.alloc _ _)) hk6; have c61 := (hHc.out _ hH6).2.1; have hT6 := hT.out w6 hB6.size gm v6 (X ++ encS gk) i3 ho6 (by simp only [List.length_append]; omega); replace hB6 : Hid (Below w1.heap.size w1 w6) := hB6; replace hH6 : Hid (w6.heap[wr.heap.size]? = some (.cells #[.int .i64 gk, .string gm, .int .i64 gl] 52 (0, 0))) := hH6; replace ho6 : Hid _ := ho6; replace hb6 : Hid _ := hb6; replace hk6 : Hid _ := hk6)
        | (go_at_call 46; refine hT6.mono ?_; rintro e w7 ⟨v7, rfl, ho7, hb7, hk7⟩; have hB7 := (hal.out _ _ hB6.out).trans hb7; have hH7 := hHk.out _ _ (hHk.out _ _ hH6.out (Kb.alloc _ _)) hk7; have c72 := (hHc.out _ hH7).2.2; have hS7 := hS.out w7 hB7.size gl v7 (X ++ encS gk ++ encT gm) i2 ho7 (by simp only [List.length_append]; omega); replace hB7 : Hid (Below w1.heap.size w1 w7) := hB7; replace hH7 : Hid _ := hH7; replace ho7 : Hid _ := ho7; replace hb7 : Hid _ := hb7; replace hk7 : Hid _ := hk7)
        | (go_at_call 48; refine hS7.mono ?_; rintro e w8 ⟨v8, rfl, ho8, hb8, hk8⟩; have hB8 := (hal.out _ _ hB7.out).trans hb8; replace hB8 : Hid (Below w1.heap.size w1 w8) := hB8; replace ho8 : Hid (Own w8 w1.heap.size v8 (X ++ encS gk ++ encT gm ++ encS gl)) := ho8; replace hb8 : Hid _ := hb8; replace hk8 : Hid _ := hk8))
      refine ⟨⟨k + 1, by omega, by go_num, ?_, hB8⟩, ?_⟩
      · show Own _ _ _ _
        refine ho8.out.cast ?_
        rw [hct.out, ← hX.out]
        simp [grB]
      · simp [intOf]; omega
    · obtain rfl : l.length = k := by omega
      have hki : ¬ (l.length : Int) < (l.length : Int) := by omega
      rw [List.take_of_length_le (Nat.le_refl _)] at hown hlk
      have r2 := hc2.out _ hB.out
      generalize hX : encT m ++ enc l.length ++ cat grB l = X at *
      have hXl : X.length ≤ 950 := by rw [← hX]; simp only [List.length_append]; omega
      replace hX : Hid _ := hX
      have hS5 := hS.out wr hB.out.size z bv X hz hown.out (by omega)
      go_wp2_with (first
        | (go_at_call 48; refine hS5.mono ?_; rintro e w6 ⟨v6, rfl, ho6, hb6, hk6⟩; have hB6 := (hal.out _ _ hB.out).trans hb6; replace hB6 : Hid (Below w1.heap.size w1 w6) := hB6; replace ho6 : Hid (Own w6 w1.heap.size v6 (X ++ encS z)) := ho6; replace hb6 : Hid _ := hb6; replace hk6 : Hid _ := hk6))
      go_ret
      refine ⟨v6, rfl, ?_, hb1.out.trans (hB6.out.mono hb1.out.size)⟩
      have hw : Own w6 w.heap.size v6 (X ++ encS z) := by
        refine ⟨ho6.out.1, ?_⟩
        rcases ho6.out.2 with h | ⟨g, cap, cur, e, h1, h2⟩
        · exact .inl h
        · exact .inr ⟨g, cap, cur, e, Nat.le_trans hb1.out.size h1, h2⟩
      refine hw.cast ?_
      rw [← hX.out]
      simp [foB]
/-- What Put answers. -/
def PuQ (w : World) (m : ByteArray) (l : List Gr) (z : Int) (k : IntKind) (e : Ending) (w' : World) : Prop :=
  ∃ v', e = .returned (.tuple #[v', .int k (puE m l z)]) ∧ Own w' w.heap.size v' (if puE m l z = 0 then foB m l z else []) ∧ Below w.heap.size w w'
set_option maxRecDepth 100000 in
set_option maxHeartbeats 4000000 in
/-- acl.Put. -/
theorem put_any (m : ByteArray) (gv : Value) (l : List Gr) (z : Int) (w : World) (hm : m.size ≤ 1000000000000000) (hv : Grs w gv l) (hl : l.length ≤ 1000000000000000) (hr : GrR l) (hi : ∀ g ∈ l, GrI g) (hz : -9223372036854775808 ≤ z ∧ z ≤ 9223372036854775807) :
    Calls Try.prog 17 #[.agg #[.string m, gv, .int .i64 z]] w (PuQ w m l z .i64) := by
  have hC := check_any gv l (w.alloc (.cells #[.string m, gv, .int .i64 z] 39)) (hv.alloc _) hl hr
  have hN := fun W => name_any m W (by omega)
  have hLf := fun h1 h2 W (hW : Below w.heap.size w W) => layFolder_any m gv l z W h1 (hv.grow hW) h2 hz
  replace hLf : Hid _ := hLf
  obtain ⟨a, c, rfl⟩ := hv.shape
  have hb1 : Hid (Below w.heap.size w (w.alloc (.cells #[.string m, .slice a l.length c, .int .i64 z] 39))) := (Below.refl _ _).alloc (Nat.le_refl _) _
  have hE : Hid (puE m l z = if nmB m then (if 1 ≤ z then ckE l else 150) else 150) := rfl
  have hbad : Hid (∀ W e, puE m l z = e → e ≠ 0 → Below w.heap.size w W → PuQ w m l z .i64 (.returned (.tuple #[.slice none 0 0, .int .i64 e])) W) := fun W e h1 h2 h3 => ⟨_, by rw [h1], by rw [if_neg (by rw [h1]; exact h2)]; exact World.ownsRow_nil _ _ _ _, h3⟩
  have hgood : Hid (∀ W v', puE m l z = 0 → Own W w.heap.size v' (foB m l z) → Below w.heap.size w W → PuQ w m l z .i64 (.returned (.tuple #[v', .int .i64 0])) W) := fun W v' h1 h2 h3 => ⟨v', by rw [h1], by rw [if_pos h1]; exact h2, h3⟩
  have hci := ckE_in l
  have hc0 : Hid (∀ W, Below (w.heap.size + 1) (w.alloc (.cells #[.string m, .slice a l.length c, .int .i64 z] 39)) W → W.cell? ⟨w.heap.size, 0, none⟩ = some (.string m) ∧ W.cell? ⟨w.heap.size, 1, none⟩ = some (.slice a l.length c) ∧ W.cell? ⟨w.heap.size, 2, none⟩ = some (.int .i64 z)) := fun W h => ⟨(h.cell (p := ⟨w.heap.size, 0, none⟩) (Nat.lt_succ_self _)).trans (by simp), (h.cell (p := ⟨w.heap.size, 1, none⟩) (Nat.lt_succ_self _)).trans (by simp), (h.cell (p := ⟨w.heap.size, 2, none⟩) (Nat.lt_succ_self _)).trans (by simp)⟩
  have hgs : Hid (ckE l = 0 → GrS l) := fun h => grS_of h hi
  have hnm : Hid (nmB m = true → m.size ≤ 24) := fun h => (nmB_len h).2
  clear hv hi hr
  cases hnb : nmB m with
  | false =>
    rw [hnb] at hN hE
    have h150 : Hid (puE m l z = 150) := hE.out
    clear hC
    go_enter Try.func17, Try.ntmps17
    go_wp2_with (first | (go_at_call 26; refine (hN _).mono ?_; rintro e wx ⟨rfl, hwx⟩; subst wx))
    go_ret2
    exact hbad.out _ _ h150.out (by decide) hb1.out
  | true =>
    rw [hnb] at hN hE
    by_cases hz1 : z < 1
    · have h150 : Hid (puE m l z = 150) := hE.out.trans ((if_pos rfl).trans (if_neg (by omega)))
      clear hC
      go_enter Try.func17, Try.ntmps17
      go_wp2_with (first | (go_at_call 26; refine (hN _).mono ?_; rintro e wx ⟨rfl, hwx⟩; subst wx))
      go_ret2
      exact hbad.out _ _ h150.out (by decide) hb1.out
    · have hck : Hid (puE m l z = ckE l) := hE.out.trans ((if_pos rfl).trans (if_pos (by omega)))
      have hm24 := hnm.out hnb
      rcases Bool.eq_false_or_eq_true (ckE l == 0) with hcz | hcz
      · have hc0' : ckE l = 0 := by simpa using hcz
        have hLf2 := hLf.out hm24 (hgs.out hc0')
        have hpz : Hid (puE m l z = 0) := hck.out.trans hc0'
        rw [hc0'] at hC
        clear hcz hc0' hE hck
        replace hLf2 : Hid _ := hLf2
        go_enter Try.func17, Try.ntmps17
        go_wp2_with (first
          | (go_at_call 26; refine (hN _).mono ?_; rintro e wx ⟨rfl, hwx⟩; subst wx)
          | (go_at_call 10; refine hC.mono ?_; rintro e w2 ⟨rfl, hb2⟩; have q0 := (hc0.out w2 (by simpa using hb2)).1; have q1 := (hc0.out w2 (by simpa using hb2)).2.1; have q2 := (hc0.out w2 (by simpa using hb2)).2.2; have hB2 : Below w.heap.size w w2 := hb1.out.trans (hb2.mono (by simp)); have hL2 := hLf2.out w2 hB2; replace hB2 : Hid (Below w.heap.size w w2) := hB2; replace hb2 : Hid _ := hb2)
          | (go_at_call 31; refine hL2.mono ?_; rintro e w3 ⟨v3, rfl, ho3, hb3⟩; replace ho3 : Hid (Own w3 w2.heap.size v3 (foB m l z)) := ho3; replace hb3 : Hid (Below w2.heap.size w2 w3) := hb3))
        go_ret2
        refine hgood.out _ _ hpz.out ?_ (hB2.out.trans (hb3.out.mono hB2.out.size))
        refine ⟨ho3.out.1, ?_⟩
        rcases ho3.out.2 with h | ⟨g, cap, cur, e, h1, h2⟩
        · exact .inl h
        · exact .inr ⟨g, cap, cur, e, Nat.le_trans hB2.out.size h1, h2⟩
      · have hne : Hid (ckE l ≠ 0) := by show _ ≠ _; simpa using hcz
        clear hLf hE
        generalize ckE l = CE at *
        go_enter Try.func17, Try.ntmps17
        go_wp2_with (first
          | (go_at_call 26; refine (hN _).mono ?_; rintro e wx ⟨rfl, hwx⟩; subst wx)
          | (go_at_call 10; refine hC.mono ?_; rintro e w2 ⟨rfl, hb2⟩; have hB2 : Below w.heap.size w w2 := hb1.out.trans (hb2.mono (by simp)); replace hB2 : Hid (Below w.heap.size w w2) := hB2; replace hb2 : Hid _ := hb2))
        go_ret2
        exact hbad.out _ _ hck.out hne.out hB2.out
end Go.Proofs.Ytfbeilninpapaaa
