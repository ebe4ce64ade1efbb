/- What stands between two rounds of page.Write. -/
import Derived.Test.YtcgjolonapndgaaWritB
import Derived.Test.YtcgjolonapndgaaRWri
namespace Go.Proofs.Ytcgjolonapndgaa
set_option linter.unusedVariables false
open Go.RowKit Go.Maps Go.ChangeMaps Go.MapKept
section
variable {w W W0 : World} {p : Nat} {F F0 : Nat → Prop} {s : St} {bs bf nb rb z ops k : Nat}
/-- Of a disk's blocks those that it wants. -/
theorem IsDB.tighten (h : IsDB w p F s bs bf) : ∃ F', IsDB w p F' s bs bf ∧ (∀ k, F' k → F k ∧ k < w.heap.size) ∧ (∀ k, F' k → k = bs ∨ k = bf ∨ ∃ c t fr, w.heap[k]? = some (Obj.cells c t fr)) := by
  obtain ⟨ns, nf, gs, gf, h, hn⟩ := h
  refine ⟨fun k => k = p ∨ k = bs ∨ k = bf ∨ (∃ n, gs n = some k) ∨ ∃ n, gf n = some k, ⟨ns, nf, gs, gf,
    { h with
      inP := .inl rfl
      inS := .inr (.inl rfl)
      inF := .inr (.inr (.inl rfl))
      inG := fun n g hg => .inr (.inr (.inr (.inl ⟨n, hg⟩)))
      inH := fun n g hg => .inr (.inr (.inr (.inr ⟨n, hg⟩))) }, hn⟩, ?_, ?_⟩
  · rintro k (rfl | rfl | rfl | ⟨n, e⟩ | ⟨n, e⟩)
    · exact ⟨h.inP, h.lt⟩
    · exact ⟨h.inS, MapG.lt h.safe⟩
    · exact ⟨h.inF, MapG.lt h.fresh⟩
    · exact ⟨h.inG n k e, (h.safeRow n k e).lt⟩
    · obtain ⟨x, _, _, hrow⟩ := h.freshRow n k e
      exact ⟨h.inH n k e, hrow.lt⟩
  · rintro k (rfl | rfl | rfl | ⟨n, e⟩ | ⟨n, e⟩)
    · exact .inr (.inr ⟨_, _, _, h.cells⟩)
    · exact .inl rfl
    · exact .inr (.inl rfl)
    · exact .inr (.inr ⟨_, _, _, h.safeRow n k e⟩)
    · obtain ⟨x, _, _, hrow⟩ := h.freshRow n k e
      exact .inr (.inr ⟨_, _, _, hrow⟩)
theorem IsDB.keep (h : IsDB w p F s bs bf) (hF : ∀ k, F k → k < w.heap.size → W.heap[k]? = w.heap[k]?) : IsDB W p F s bs bf := by
  obtain ⟨ns, nf, gs, gf, h, hn⟩ := h
  exact ⟨ns, nf, gs, gf, h.keep hF, hn⟩
/-- Between two rounds: the disk, what has turned. -/
def LoopI (W0 : World) (p : Nat) (F0 : Nat → Prop) (bs bf nb rb z ops : Nat) (W : World) (k : Nat) (s' : St) : Prop :=
  (∃ F', IsDB W p F' s' bs bf ∧ ∀ j, F' j → F0 j ∨ W0.heap.size ≤ j) ∧ Frm (fun j => F0 j ∨ j = nb ∨ j = rb) W0 W ∧ s'.size = z ∧ s'.ops ≤ ops + k
theorem LoopI.own {W' : World} {row : Option Nat} (h : LoopI W0 p F0 bs bf nb rb z ops W k s) (h1 : bs < W0.heap.size) (h2 : bf < W0.heap.size) (hg : W.grownBy W' row) (hr : ∀ r, row = some r → W0.heap.size ≤ r ∧ ∃ o : Obj, W.heap[r]? = some o ∧ o.isCells = false) : LoopI W0 p F0 bs bf nb rb z ops W' k s := by
  obtain ⟨⟨F', hd, hF⟩, hf, hz, ho⟩ := h
  exact ⟨⟨F', hd.own h1 h2 hg hr, hF⟩, hf.trans (Frm.of_grown (F := fun j => row = some j) hg (fun j e => .inl e)) (fun j e => .inr (hr j e).1), hz, ho⟩
/-- A store into one of the two boxes. -/
theorem LoopI.set (h : LoopI W0 p F0 bs bf nb rb z ops W k s) {b : Nat} (hb : b = nb ∨ b = rb) (hlt : b < W0.heap.size) (hF0 : ¬ F0 b) (v : Value) : LoopI W0 p F0 bs bf nb rb z ops (W.setCell ⟨b, 0, none⟩ v) k s := by
  obtain ⟨⟨F', hd, hF⟩, hf, hz, ho⟩ := h
  refine ⟨⟨F', hd.keep (fun j hj hl => Below.heap_setCell _ _ _ _ (fun e => ?_)), hF⟩, ?_, hz, ho⟩
  · subst e
    rcases hF _ hj with h1 | h1
    · exact hF0 h1
    · exact absurd hlt (Nat.not_lt.2 h1)
  · have hgb : Frm (fun j => j = b) W (W.setCell ⟨b, 0, none⟩ v) := ⟨rfl, rfl, rfl, by simp, fun j _ hj => Below.heap_setCell _ _ _ _ hj⟩
    exact hf.trans hgb (fun j hj => .inl (by rw [hj]; exact .inr hb))
theorem part_bts {g : Nat} {PB : List Int} {P y : Nat} (h : Row W g PB) (hl : PB.length = P * z) (hy : y < P) : Bts W (.slice (some ⟨g, y * z, none⟩) z z) (part PB z y) := by
  have h1 : (y + 1) * z ≤ P * z := Nat.mul_le_mul_right _ hy
  rw [Nat.succ_mul] at h1
  have hpl : (part PB z y).length = z := by unfold part; rw [List.length_take, List.length_drop]; omega
  refine ⟨some ⟨g, y * z, none⟩, z, by rw [hpl], ⟨(fun e => by cases e), by omega⟩, .inr ⟨g, y * z, rfl, fun t _ ht => ?_⟩⟩
  rw [hpl] at ht
  rw [h.cell (y * z + t) (by omega)]
  unfold part
  simp [ht]
/-- The disk's Write of a part, in a round. -/
theorem loop_write (h : LoopI W0 p F0 bs bf nb rb z ops W k s) (hops : ops + k < 17592186044416) (h1 : bs < W0.heap.size) (h2 : bf < W0.heap.size) {g : Nat} {PB : List Int} {P y : Nat} (hrow : Row W0 g PB) (hg0 : ¬ F0 g ∧ g ≠ nb ∧ g ≠ rb) (hl : PB.length = P * z) (hy : y < P) (n : Int) (hn1 : -9223372036854775808 ≤ n) (hn2 : n ≤ 9223372036854775807) :
    Calls Try.prog 33 #[.pointer (some ⟨p, 0, none⟩), .int .i64 n, .slice (some ⟨W.heap.size, 0, none⟩) 1 1] (W.alloc (.cells #[.slice (some ⟨g, y * z, none⟩) z z] 23)) fun e w' => e = .returned (.int .i64 (s.errWrite n [part PB z y])) ∧ LoopI W0 p F0 bs bf nb rb z ops w' (k + 1) (s.write n [part PB z y]) ∧ KeepsFrom W0.heap.size W w' ∧ ∀ j, j < W0.heap.size → ¬ F0 j → w'.heap[j]? = W.heap[j]? := by
  obtain ⟨⟨F', hd, hF⟩, hf, hz, ho⟩ := h
  obtain ⟨F2, hd2, hF2, hC2⟩ := hd.tighten
  have hR : Row W g PB := hrow.keep (hf.block g hrow.lt (by rintro (e | e | e); exact hg0.1 e; exact hg0.2.1 e; exact hg0.2.2 e))
  have hB := part_bts hR hl hy
  have hnF : ∀ j, j < W0.heap.size → ¬ F0 j → ¬ F2 j := fun j hj hj0 h2 => by
    rcases hF j (hF2 j h2).1 with h3 | h3
    · exact hj0 h3
    · exact absurd hj (Nat.not_lt.2 h3)
  have hls := listsB1 (P := fun b => ¬ F2 b) hB (fun hh => absurd (hF2 _ hh).2 (Nat.lt_irrefl _)) (fun _ j hj hh => by cases hj; exact hnF _ hrow.lt hg0.1 hh)
  have hA : Below W.heap.size W (W.alloc (.cells #[.slice (some ⟨g, y * z, none⟩) z z] 23)) := (Below.refl _ W).alloc (Nat.le_refl _) _
  have hd3 : IsDB (W.alloc (.cells #[.slice (some ⟨g, y * z, none⟩) z z] 23)) p F2 s bs bf := hd2.keep (fun j _ hl => hA.block j hl)
  refine (writeB_any hd3 (by omega) n _ [part PB z y] (fun W' hf' => hls.frm hf' (fun _ hk => hk)) (by simp) hn1 hn2).mono ?_
  rintro e w' ⟨rfl, F3, hd4, hf4, hF4⟩
  have hf5 : Frm F2 W w' := (Frm.of_below hA F2).trans hf4 (fun j hj => .inl hj)
  have hdm := write_dims s n [part PB z y]
  refine ⟨rfl, ⟨⟨F3, hd4, fun j hj => ?_⟩, hf.trans hf5 (fun j hj => ?_), by omega, by omega⟩, ⟨hf5.size, fun j o hB hj ho => ?_⟩, fun j hj hj0 => hf5.block j (Nat.lt_of_lt_of_le hj hf.size) (hnF j hj hj0)⟩
  · rcases (hF4 j hj).1 with h3 | h3
    · exact hF j (hF2 j h3).1
    · exact .inr (Nat.le_trans hf.size (Nat.le_trans hA.size h3))
  · rcases hF j (hF2 j hj).1 with h3 | h3
    · exact .inl (.inl h3)
    · exact .inr h3
  · refine (hf5.block j (Array.getElem?_eq_some_iff.1 hj).1 (fun hh => ?_)).trans hj
    rcases hC2 j hh with rfl | rfl | ⟨c, t, fr, hc⟩
    · exact absurd h1 (Nat.not_lt.2 hB)
    · exact absurd h2 (Nat.not_lt.2 hB)
    · rw [hc] at hj
      cases hj
      cases ho
end
end Go.Proofs.Ytcgjolonapndgaa
