/- The contract of Crash. -/
import Derived.Test.YtcgjolonapndgaaMeth
namespace Go.Proofs.Ytcgjolonapndgaa
open Go.RowKit Go.Maps Go.ChangeMaps Go.MapKept

/-- How many bytes of sector n last. -/
def lastN (size : Nat) (keep : List Int) (ts : List (Int × Int)) (n : Int) : Nat := ((lastAt size keep ts n).getD 0).toNat
theorem lastAt_in (size : Nat) (keep : List Int) (ts : List (Int × Int)) (n : Int) : 0 ≤ (lastAt size keep ts n).getD 0 ∧ (lastAt size keep ts n).getD 0 ≤ size := by
  unfold lastAt
  split
  · simp
  · cases h : tornAt size ts n with
    | none => simp
    | some x => exact tornAt_in size ts n x h
def St.crash (s : St) (keep : List Int) (ts : List (Int × Int)) : St := { s.settle (lastN s.size keep ts) with dead := false, left := -1 }

section
variable {w : World} {p : Nat} {F : Nat → Prop} {s : St}
set_option maxRecDepth 100000 in
set_option maxHeartbeats 2000000 in
theorem crash_any (h : IsD w p F s) (hops : s.ops < 17592186044416) (keep : List Int) (ts : List (Int × Int)) (vk vt : Value) (hk : Ints w vk keep) (ht : Torns w vt ts) (hkl : keep.length ≤ 140737488355328) (htl : ts.length ≤ 140737488355328)
    (hki : ∀ x ∈ keep, In64 x) (hti : ∀ t ∈ ts, In64 t.1 ∧ In64 t.2) :
    Calls Try.prog 31 #[.pointer (some ⟨p, 0, none⟩), vk, vt] w fun e w' => e = .returned (.tuple #[]) ∧ Turned w p F (s.crash keep ts) w' := by
  obtain ⟨bs, bf, ns, nf, gs, gf, h, hr⟩ := h
  have hz := h.size2
  have c1 := h.c1
  have hlast := lasting_any s.size keep ts vk vt hz hk ht hkl htl hki hti
  have hset : ∀ w1 v, LastF w w1 s.size keep ts v → Calls Try.prog 48 #[.pointer (some ⟨p, 0, none⟩), v] w1 fun e w' => e = .returned (.tuple #[]) ∧ ∃ ns' gs', ns' ≤ ns + nf ∧ IsDisk w' p (fun k => F k ∨ w.heap.size ≤ k) (s.settle (lastN s.size keep ts)) bs bf ns' 0 gs' (fun _ => none) ∧ Frm F w w' := by
    rintro w1 v ⟨n', rfl, hbox, him, hbe⟩
    have hd1 : IsDisk w1 p F s bs bf ns nf gs gf := h.keep fun k _ hk => hbe.block k hk
    have hlt1 : w.heap.size + 1 < w1.heap.size := (Array.getElem?_eq_some_iff.1 hbox).1
    have hns : ∀ k, w.heap.size ≤ k → ¬ SafeF bs gs k := fun k hk hs => by
      rcases hs with rfl | ⟨m, hm⟩
      · have := MapG.lt h.safe; omega
      · have := (h.safeRow m k hm).lt; omega
    refine (settle_41 (w.heap.size + 1) (lastN s.size keep ts) hd1 (by omega) (fun n => ?_) (fun W hW n hn1 hn2 => ?_)).mono ?_
    · have := lastAt_in s.size keep ts n
      unfold lastN; omega
    · have hb2 : W.heap[w.heap.size + 1]? = some (.cells #[.map (some w.heap.size)] 102 (0, 0)) := (hW.block _ hlt1 (hns _ (by omega))).trans hbox
      have him2 := him.keep (hW.block _ (by omega) (hns _ (Nat.le_refl _)))
      have := lastAt_in s.size keep ts n
      have e : ((lastN s.size keep ts n : Nat) : Int) = (lastAt s.size keep ts n).getD 0 := by unfold lastN; omega
      rw [e]
      exact last41 (w.heap.size + 1) w.heap.size n' _ (by simp [World.cell?, hb2]) him2 n hn1 hn2
    · rintro e w' ⟨rfl, ns', gs', hn', hd', hf'⟩
      refine ⟨rfl, ns', gs', hn', hd'.wide (fun k hk => ?_), (Frm.of_below hbe F).trans hf' (fun j hj => .inl hj)⟩
      rcases hk with hk | hk
      · exact .inl hk
      · exact .inr (by have := hbe.size; omega)
  go_enter Try.func31, Try.ntmps31
  go_wp2_with (first | (go_at_call 51; refine hlast.mono ?_; rintro e w1 ⟨v1, rfl, hl1⟩; have hs1 : Hid _ := hset w1 v1 hl1; clear hl1) | (go_at_call 48; refine Calls.mono hs1.out ?_; rintro e w2 ⟨rfl, ns', gs', hn', hd', hf'⟩; have c4 := hd'.c4; have c5 := hd'.c5; have f4 := hd'.fr 4; have f5 := hd'.fr 5))
  go_end0
  refine ⟨rfl, turned_of (ns := ns') (nf := 0) (gs := gs') (gf := fun _ => none) (bs := bs) (bf := bf) (hd'.turn ((block_setCell (block_setCell hd'.cells)).trans ?_) (fun k hk => (other_set _ _ _ _ k hk).trans (other_set _ _ _ _ k hk)) rfl rfl rfl rfl (Int.le_refl _) (by simp [St.crash])) ?_ ?_⟩
  · simp [diskCells, St.crash, St.settle]
  · show ns' + 0 ≤ s.ops
    omega
  · exact hf'.trans (Frm.of_grown (F := F) (grown_set (grown_set (grown_refl _ _) _ _) _ _) (fun j e => by cases e; exact .inl h.inP)) (fun j hj => .inl hj)
end
end Go.Proofs.Ytcgjolonapndgaa
