/- The contracts of appendText, appendPart, check, Int, Text. -/
import Derived.Test.YtkhnhnaefmcngaaGrp
namespace Go.Proofs.Ytkhnhnaefmcngaa
open Go.RowKit
theorem numsS_extract (s : ByteArray) (a b : Nat) : numsS (s.extract a b) = ((numsS s).take b).drop a := by
  simp [numsS, ByteArray.data_extract, List.map_drop, List.map_take, List.drop_take, List.extract_eq_take_drop]
theorem Own.stay {w w' : World} {base : Nat} {v : Value} {xs : List Int} (h : Own w base v xs) (hb : Below w.heap.size w w') : Own w' base v xs := by
  refine World.ownsRow.kept (row := none) h ⟨hb.os, hb.tape, hb.output, hb.size, fun k hk _ => hb.block k hk⟩ ?_
  by_cases e : v.ownBlock = none
  · exact .inl e
  · exact .inr e
set_option maxRecDepth 100000 in
set_option maxHeartbeats 2000000 in
theorem appendText_any (base : Nat) (v : Value) (xs : List Int) (s : ByteArray) (w : World) (hs : s.size ≤ 100000) (hown : Own w base v xs) (hbase : base ≤ w.heap.size) (hlen : xs.length ≤ 10000000) :
    Calls Try.prog 31 #[v, .string s] w fun e w' => ∃ v', e = .returned v' ∧ Own w' base v' (xs ++ textB s) ∧ Below base w w' := by
  have hg := fun t W => groupOf_any t W
  go_enter Try.func31, Try.ntmps31
  go_wp2_with (at_builtin; refine app1 rfl (.tmp 5) (.tmp 6) rfl base v xs _ rfl rfl hown hbase (by omega) ?_; intro v1 w1 ho1 hb1)
  go_loopw [0, 1] (fun u t wr => ∃ (T : ByteArray) (done : List Int), t = .string T ∧ T.size ≤ s.size ∧ done.length + 2 * T.size ≤ 2 * s.size ∧ Hid (done ++ groups (numsS T) = groups (numsS s)) ∧ Own wr base u (xs ++ [160] ++ done) ∧ Below base w wr)
    (fun _ t _ => match t with | .string T => T.size | _ => 0)
  case atStart => exact ⟨s, [], rfl, Nat.le_refl _, by simp, rfl, by simpa using ho1, hb1⟩
  case round =>
    obtain ⟨T, done, rfl, hT, hd, hgr, ho, hb⟩ := hrel
    have hz := hb.size
    clear hown ho1 hb1
    by_cases h8 : 8 < T.size
    · have h8i : (8 : Int) < (T.size : Int) := by omega
      go_wp2_with (first
        | (go_at_call 40; refine (hg T _).mono ?_; rintro e w2 ⟨rfl, hb2⟩)
        | (go_at_call 39; refine (appendGroup_any base _ _ (padN 8 (numsS T)) 9 w2 (padN_len _ _) (ho.stay hb2) (by have := hb2.size; omega) (by simp; omega)).mono ?_; rintro e w3 ⟨v3, rfl, ho3, hb3⟩))
      have hsz : (T.extract 8 T.size).size = T.size - 8 := by rw [← numsS_length, numsS_extract, List.take_of_length_le (by rw [numsS_length]; omega)]; simp [numsS_length]
      refine ⟨⟨T.extract 8 T.size, done ++ (padN 8 (numsS T) ++ [9]), rfl, by omega, by simp [padN_len]; omega, ?_, ho3.cast (by simp), (hb.trans (hb2.mono (by omega))).trans hb3⟩, by simp only [hsz]; omega⟩
      show _ = _
      rw [← hgr.out, numsS_extract, List.take_of_length_le (by rw [numsS_length]; omega), groups_more (numsS T) (by rw [numsS_length]; omega), padN_long 8 _ (by rw [numsS_length]; omega)]
      simp
    · have hw : IntKind.u8.wrap (T.size : Int) = (T.size : Int) := by
        simp only [IntKind.wrap, IntKind.bits, IntKind.signed]
        simp
        omega
      have h8i : ¬ (8 : Int) < (T.size : Int) := by omega
      go_wp2_with (first
        | (go_at_call 40; refine (hg T _).mono ?_; rintro e w2 ⟨rfl, hb2⟩)
        | (go_at_call 39; refine (appendGroup_any base _ _ (padN 8 (numsS T)) _ w2 (padN_len _ _) (ho.stay hb2) (by have := hb2.size; omega) (by simp; omega)).mono ?_; rintro e w3 ⟨v3, rfl, ho3, hb3⟩))
      go_ret
      refine ⟨v3, rfl, ho3.cast ?_, (hb.trans (hb2.mono (by omega))).trans hb3⟩
      rw [textB, ← hgr.out, groups_last (numsS T) (by rw [numsS_length]; omega), numsS_length]
      simp
/-- A part as a value. -/
def ptV (p : Pt) : Value := .agg #[.int .i64 p.kind, .int .i64 p.num, .string p.text]
set_option maxRecDepth 100000 in
theorem int_any (z : Int) (w : World) : Calls Try.prog 17 #[.int .i64 z] w fun e w' => e = .returned (ptV ⟨1, z, ⟨#[]⟩⟩) ∧ Below w.heap.size w w' := by
  go_enter Try.func17, Try.ntmps17
  go_wp2
  refine bodyPost_ret (v := ptV ⟨1, z, ⟨#[]⟩⟩) ?_ rfl ⟨rfl, ?_⟩
  · simp [results, Try.results17, go_sem, ptV]
  · exact (Below.refl _ w).alloc (Nat.le_refl _) _
set_option maxRecDepth 100000 in
theorem text_any (s : ByteArray) (w : World) : Calls Try.prog 18 #[.string s] w fun e w' => e = .returned (ptV ⟨2, 0, s⟩) ∧ Below w.heap.size w w' := by
  go_enter Try.func18, Try.ntmps18
  go_wp2
  refine bodyPost_ret (v := ptV ⟨2, 0, s⟩) ?_ rfl ⟨rfl, ?_⟩
  · simp [results, Try.results18, go_sem, ptV]
  · exact (Below.refl _ w).alloc (Nat.le_refl _) _
set_option maxRecDepth 100000 in
theorem num_any (x : Int) (w : World) (_h1 : -9223372036854775808 ≤ x) (_h2 : x ≤ 9223372036854775807) : Calls Try.prog 15 #[.int .i64 x] w fun e w' => e = .returned (.int .i64 x) ∧ w' = w := by
  go_enter Try.func15, Try.ntmps15
  go_wp2
  go_ret
  exact ⟨rfl, rfl⟩
set_option maxRecDepth 100000 in
set_option maxHeartbeats 1000000 in
theorem appendPart_any (base : Nat) (v : Value) (xs : List Int) (p : Pt) (w : World) (hp : OkP p) (hown : Own w base v xs) (hbase : base ≤ w.heap.size) (hlen : xs.length ≤ 10000000) :
    Calls Try.prog 23 #[v, ptV p] w fun e w' => ∃ v', e = .returned v' ∧ Own w' base v' (xs ++ partB p) ∧ Below base w w' := by
  have hB : ∀ o : Obj, Below base w (w.alloc o) := fun o => (Below.refl base w).alloc hbase o
  unfold ptV
  rcases hp with ⟨h1, h2, h3⟩ | ⟨h1, h2, h3⟩
  · rw [partB_num h1, h1]
    go_enter Try.func23, Try.ntmps23
    go_wp2_with (first | (go_at_call 30; refine (appendInt_any base v xs p.num _ h3 (hown.alloc _) (by simp; omega) (by omega)).mono ?_; rintro e w2 ⟨v2, rfl, ho2, hb2⟩))
    go_ret
    exact ⟨v2, rfl, ho2, (hB _).trans hb2⟩
  · rw [partB_text h1, h1]
    go_enter Try.func23, Try.ntmps23
    go_wp2_with (first | (go_at_call 31; refine (appendText_any base v xs p.text _ (by omega) (hown.alloc _) (by simp; omega) (by omega)).mono ?_; rintro e w2 ⟨v2, rfl, ho2, hb2⟩))
    go_ret
    exact ⟨v2, rfl, ho2, (hB _).trans hb2⟩
end Go.Proofs.Ytkhnhnaefmcngaa
