/- Put's errors; the contracts of bytes.Clone and bytes.Equal. -/
import Derived.Test.YtcgjolonapndgaaPut
import Derived.Lib.Bytes
namespace Go.Proofs.Ytcgjolonapndgaa
open Go.RowKit Go.Maps Go.ChangeMaps Go.MapKept
set_option maxRecDepth 100000 in
set_option maxHeartbeats 1000000 in
theorem put_size (size : Int) (kind : Int) (id : Int) (lv : Value) (w : World) (h : size < 64 ∨ 8192 < size) :
    Calls Try.prog 10 #[.int .i64 size, .agg #[.int .u8 kind, .int .u32 id, lv]] w fun e w' => e = .returned (.tuple #[.slice none 0 0, .int .i64 2]) ∧ Below w.heap.size w w' := by
  go_enter Try.func10, Try.ntmps10
  go_wp2_with (first | (go_at_call 16; refine (room_bad _ _ h).mono ?_; rintro e w' ⟨rfl, hw'⟩; subst w'))
  go_ret2
  exact ⟨rfl, (Below.refl _ _).alloc (Nat.le_refl _) _⟩
set_option maxRecDepth 100000 in
set_option maxHeartbeats 1000000 in
theorem put_kind (size : Int) (id : Int) (lv : Value) (w : World) :
    Calls Try.prog 10 #[.int .i64 size, .agg #[.int .u8 0, .int .u32 id, lv]] w fun e w' => e = .returned (.tuple #[.slice none 0 0, .int .i64 2]) ∧ Below w.heap.size w w' := by
  by_cases h : size < 64 ∨ 8192 < size
  · exact put_size size 0 id lv w h
  · have h1 : 64 ≤ size := by omega
    have h2 : size ≤ 8192 := by omega
    clear h
    go_enter Try.func10, Try.ntmps10
    go_wp2_with (first | (go_at_call 16; refine (room_ok _ _ h1 h2).mono ?_; rintro e w' ⟨rfl, hw'⟩; subst w'))
    go_ret2
    exact ⟨rfl, (Below.refl _ _).alloc (Nat.le_refl _) _⟩
set_option maxRecDepth 100000 in
set_option maxHeartbeats 1000000 in
theorem put_long (size : Int) (kind : Int) (id : Int) (a : Option Addr) (n c : Nat) (w : World) (h1 : 64 ≤ size) (h2 : size ≤ 8192) (hk : 0 < kind) (hl : size - 11 < (n : Int)) :
    Calls Try.prog 10 #[.int .i64 size, .agg #[.int .u8 kind, .int .u32 id, .slice a n c]] w fun e w' => e = .returned (.tuple #[.slice none 0 0, .int .i64 1]) ∧ Below w.heap.size w w' := by
  have d1 : (kind == 0) = false := by simp; omega
  go_enter Try.func10, Try.ntmps10
  go_wp2_with (first | (go_at_call 16; refine (room_ok _ _ h1 h2).mono ?_; rintro e w' ⟨rfl, hw'⟩; subst w'))
  go_ret2
  exact ⟨rfl, (Below.refl _ _).alloc (Nat.le_refl _) _⟩

theorem strs_inj {a b : List Int} (ha : IsBytes a) (hb : IsBytes b) (h : strOfNums a = strOfNums b) : a = b := by
  unfold strOfNums at h
  have h1 : (a.map fun n : Int => UInt8.ofNat n.toNat) = (b.map fun n : Int => UInt8.ofNat n.toNat) := by
    have := congrArg (fun s : ByteArray => s.data.toList) h
    simpa using this
  clear h
  induction a generalizing b with
  | nil => cases b with
    | nil => rfl
    | cons y r => simp at h1
  | cons x l ih => cases b with
    | nil => simp at h1
    | cons y r =>
      rw [List.map_cons, List.map_cons, List.cons.injEq] at h1
      have hx := ha x (by simp)
      have hy := hb y (by simp)
      have e : x.toNat = y.toNat := by
        have := congrArg UInt8.toNat h1.1
        rwa [UInt8.toNat_ofNat_of_lt' (by show _ < 256; omega), UInt8.toNat_ofNat_of_lt' (by show _ < 256; omega)] at this
      rw [ih (fun c hc => ha c (by simp [hc])) (fun c hc => hb c (by simp [hc])) h1.2, show x = y by omega]
theorem str_beq {a b : List Int} (ha : IsBytes a) (hb : IsBytes b) : ((strOfNums a).toList == (strOfNums b).toList) = decide (a = b) := by
  by_cases h : a = b
  · subst h; simp
  · have hne : (strOfNums a).toList ≠ (strOfNums b).toList := fun e => by
      rw [Lib.toList_data, Lib.toList_data] at e
      refine h (strs_inj ha hb ?_)
      generalize strOfNums a = x at e
      generalize strOfNums b = y at e
      cases x; cases y; simp at e; rw [e]
    rw [beq_eq_false_iff_ne.2 hne]; simp [h]
set_option maxRecDepth 100000 in
set_option maxHeartbeats 1000000 in
theorem equal_any (v1 v2 : Value) (a b : List Int) (w : World) (h1 : Bts w v1 a) (h2 : Bts w v2 b) (ha : IsBytes a) (hb : IsBytes b) :
    Calls Try.prog 41 #[v1, v2] w fun e w' => e = .returned (.bool (decide (a = b))) ∧ w' = w := by
  have c1 := conv_str h1
  have c2 := conv_str h2
  have hq : (( strOfNums a).toList == (strOfNums b).toList) = decide (a = b) := str_beq ha hb
  go_enter Try.func41, Try.ntmps41
  go_wp2
  go_ret
  exact ⟨rfl, rfl⟩
set_option maxRecDepth 100000 in
set_option maxHeartbeats 1000000 in
theorem clone_some (b o n c : Nat) (bs : List Int) (w : World) (_hn : n = bs.length) (hl : bs.length ≤ 1000000) (hb : Bts w (.slice (some ⟨b, o, none⟩) n c) bs) :
    Calls Try.prog 40 #[.slice (some ⟨b, o, none⟩) n c] w fun e w' => ∃ v', e = .returned v' ∧ Own w' w.heap.size v' bs ∧ Below w.heap.size w w' := by
  have hnil : ∀ W, (binOp .eql 23 (.slice (some ⟨b, o, none⟩) n c) (.slice none 0 0)).run Try.prog W = .ok (.bool false) W := fun W => Lib.run_eql_slice_nil W 23 5 (some ⟨b, o, none⟩) n c 0 0 Try.underlying23
  clear _hn
  go_enter Try.func40, Try.ntmps40
  go_wp2_with (first | (at_builtin; refine appX rfl (.tmp 5) (.tmp 6) rfl w.heap.size _ _ [] bs rfl rfl (own_empty w) (hb.alloc _) (by simp) (by simp; omega) ?_; intro v' w1 ho1 hb1 _))
  go_ret
  exact ⟨_, rfl, by simpa using ho1, ((Below.refl _ w).alloc (Nat.le_refl _) _).trans hb1⟩
end Go.Proofs.Ytcgjolonapndgaa
