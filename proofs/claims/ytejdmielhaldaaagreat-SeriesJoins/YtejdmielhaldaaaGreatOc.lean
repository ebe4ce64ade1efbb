/- Join with a scalar. -/
import Derived.Test.YtejdmielhaldaaaGreatTaTd
namespace Go.Proofs.YtejdmielhaldaaaGreat
set_option linter.unusedVariables false
open Go.RowKit
theorem nil_set : IsSet ([] : List Lb) := ⟨fun a ha => (by cases ha), List.Pairwise.nil, by simp⟩
theorem scal_frame {v : Vl} (hv : IsV v) : Series10.IsFrame [⟨[], v⟩] := ⟨fun a ha => by rw [List.mem_singleton.1 ha]; exact nil_set, fun a ha => by rw [List.mem_singleton.1 ha]; exact hv, List.pairwise_singleton _ _, by simp⟩
theorem fit_r (a : List Lb) : fitB a [] = true ∧ bigger a [] = a := by
  cases a with
  | nil => exact ⟨by simp [fitB, withinB], rfl⟩
  | cons x r => exact ⟨by simp [fitB, withinB], by simp [bigger]⟩
theorem fit_l (b : List Lb) : fitB [] b = true ∧ bigger [] b = b := ⟨by simp [fitB, withinB], by simp [bigger]⟩
def mapL (op : ByteArray) (v : Vl) (F : List Series10.Sr) : List Series10.Sr := F.map fun s => ⟨s.labels, doV op [s.value, v]⟩
def mapR (op : ByteArray) (v : Vl) (F : List Series10.Sr) : List Series10.Sr := F.map fun s => ⟨s.labels, doV op [v, s.value]⟩
theorem join_l (op : ByteArray) (v : Vl) (F : List Series10.Sr) : joinA op F [⟨[], v⟩] = mapL op v F := by
  unfold joinA mapL
  induction F with
  | nil => rfl
  | cons s r ih =>
    rw [List.flatMap_cons, ih, List.map_cons]
    simp [joinX, joinP, (fit_r s.labels).1, (fit_r s.labels).2]
theorem join_r (op : ByteArray) (v : Vl) (F : List Series10.Sr) : joinA op [⟨[], v⟩] F = mapR op v F := by
  unfold joinA mapR joinX
  rw [List.flatMap_cons, List.flatMap_nil, List.append_nil]
  induction F with
  | nil => rfl
  | cons s r ih =>
    rw [List.filterMap_cons, ih]
    simp [joinP, (fit_l s.labels).1, (fit_l s.labels).2]
theorem frame_l {op : ByteArray} {v : Vl} {F : List Series10.Sr} (h0 : doE op [nul, nul] = 0) (hv : IsV v) (h : Series10.IsFrame F) : Series10.IsFrame (mapL op v F) := h.map (fun x => doV op [x, v]) fun x hx => op2_isV h0 x v hx hv
theorem frame_r {op : ByteArray} {v : Vl} {F : List Series10.Sr} (h0 : doE op [nul, nul] = 0) (hv : IsV v) (h : Series10.IsFrame F) : Series10.IsFrame (mapR op v F) := h.map (fun x => doV op [v, x]) fun x hx => op2_isV h0 v x hv hx
/-- Join with a scalar, on either side. -/
theorem scal_ok {op : ByteArray} {v : Vl} {F F' : List Series10.Sr} (hv : IsV v) (hq : Series10.SortQ F F' 0) (h0 : doE op [nul, nul] = 0) : JoinT op F [⟨[], v⟩] (mapL op v F') 0 ∧ JoinT op [⟨[], v⟩] F (mapR op v F') 0 := by
  have hf := (hq.frame rfl).1
  refine ⟨.inl ⟨F', hq, .inl ⟨_, (scal_frame hv).sort, .inr ⟨h0, ?_⟩⟩⟩, .inl ⟨_, (scal_frame hv).sort, .inl ⟨F', hq, .inr ⟨h0, ?_⟩⟩⟩⟩
  · rw [join_l]; exact (frame_l h0 hv hf).sort
  · rw [join_r]; exact (frame_r h0 hv hf).sort
theorem scal_op {op : ByteArray} {v : Vl} {F F' : List Series10.Sr} (hv : IsV v) (hq : Series10.SortQ F F' 0) (h0 : doE op [nul, nul] ≠ 0) : JoinT op F [⟨[], v⟩] [] (doE op [nul, nul]) ∧ JoinT op [⟨[], v⟩] F [] (doE op [nul, nul]) :=
  ⟨.inl ⟨F', hq, .inl ⟨_, (scal_frame hv).sort, .inl ⟨h0, rfl, rfl⟩⟩⟩, .inl ⟨_, (scal_frame hv).sort, .inl ⟨F', hq, .inl ⟨h0, rfl, rfl⟩⟩⟩⟩
theorem ins_ex (m : List Series10.Sr) (a : Series10.Sr) (h : Series10.Rise m) (ha : ∀ x ∈ m, a.labels ≠ x.labels) : ∃ out, Series10.Rise out ∧ out.Perm (a :: m) := by
  induction m with
  | nil => exact ⟨[a], List.pairwise_singleton _ _, List.Perm.refl _⟩
  | cons b m ih =>
    rcases Series10.slt_total a b with h1 | h1 | h1
    · refine ⟨a :: b :: m, List.pairwise_cons.2 ⟨fun x hx => ?_, h⟩, List.Perm.refl _⟩
      rcases List.mem_cons.1 hx with rfl | hx
      · exact h1
      · exact h1.trans (h.head x hx)
    · exact absurd h1 (ha b (by simp))
    · obtain ⟨out, h2, h3⟩ := ih h.tail fun x hx => ha x (List.mem_cons_of_mem _ hx)
      refine ⟨b :: out, List.pairwise_cons.2 ⟨fun x hx => ?_, h2⟩, (h3.cons b).trans (List.Perm.swap a b m)⟩
      rcases List.mem_cons.1 (h3.mem_iff.1 hx) with rfl | hx
      · exact h1
      · exact h.head x hx
theorem sorted_ex (F : List Series10.Sr) (h : Series10.Apart F) : ∃ out, Series10.Rise out ∧ out.Perm F := by
  induction F with
  | nil => exact ⟨[], List.Pairwise.nil, List.Perm.refl _⟩
  | cons a r ih =>
    have h' := List.pairwise_cons.1 h
    obtain ⟨m, h1, h2⟩ := ih h'.2
    obtain ⟨out, h3, h4⟩ := ins_ex m a h1 fun x hx => h'.1 x (h2.mem_iff.1 hx)
    exact ⟨out, h3, h4.trans (h2.cons a)⟩
theorem sort_er {F : List Series10.Sr} (h : ¬ ∃ out, Series10.SortQ F out 0) : ∃ er : Int, er ≠ 0 ∧ Series10.SortQ F [] er := by
  by_cases h1 : ∀ a ∈ F, IsSet a.labels
  · by_cases h2 : ∀ a ∈ F, IsV a.value
    · by_cases h3 : Series10.Apart F
      · by_cases h4 : 200 < F.length
        · exact ⟨6, by decide, .inr (.inr (.inr (.inl ⟨h1, h2, h3, h4, rfl, rfl⟩)))⟩
        · exfalso
          apply h
          obtain ⟨out, h5, h6⟩ := sorted_ex F h3
          exact ⟨out, .inr (.inr (.inr (.inr ⟨h1, h2, by omega, rfl, h5, h6⟩)))⟩
      · exact ⟨8, by decide, .inr (.inr (.inl ⟨h1, h2, h3, rfl, rfl⟩))⟩
    · exact ⟨80, by decide, .inr (.inl ⟨h1, Classical.byContradiction fun g => h2 fun a ha => Classical.byContradiction fun k => g ⟨a, ha, k⟩, rfl, rfl⟩)⟩
  · exact ⟨90, by decide, .inl ⟨Classical.byContradiction fun g => h1 fun a ha => Classical.byContradiction fun k => g ⟨a, ha, k⟩, rfl, rfl⟩⟩
theorem scal_no {op : ByteArray} {v : Vl} {F : List Series10.Sr} {er : Int} (hv : IsV v) (h0 : er ≠ 0) (hq : Series10.SortQ F [] er) : JoinT op F [⟨[], v⟩] [] er ∧ JoinT op [⟨[], v⟩] F [] er :=
  ⟨.inr ⟨h0, hq, rfl⟩, .inl ⟨_, (scal_frame hv).sort, .inr ⟨h0, hq, rfl⟩⟩⟩
/-- One of a list. -/
theorem IsSer.one {w : World} {b o n c : Nat} {F : List Series10.Sr} (h : IsSer w (some ⟨b, o, none⟩) n c F) (k : Nat) (hk : k < n) : IsSer w (some ⟨b, o + k * 3, none⟩) 1 (c - k) [F.getD k ⟨[], zer⟩] := by
  obtain ⟨l, rfl, h2, h3, rfl⟩ := h
  have hm : l.getD k se0 ∈ l := by rw [List.getD_eq_getElem?_getD, List.getElem?_eq_getElem hk]; exact List.getElem_mem hk
  obtain ⟨b', o', e, hat⟩ := h2.at k hk
  cases e
  obtain ⟨a', c', e, hc, _⟩ := h2
  injection e with e1 e2 e3
  refine ⟨[l.getD k se0], rfl, ⟨_, _, rfl, ⟨(fun e => by cases e), by rw [e3]; simp; omega⟩, .inr ⟨b, o + k * 3, rfl, fun t ht => ?_⟩⟩, fun x hx => by rw [List.mem_singleton.1 hx]; exact h3 _ hm, ?_⟩
  · obtain rfl : t = 0 := by simpa using ht
    rw [show o + k * 3 + 0 * encR.k = o + k * 3 by simp]
    exact hat
  · simp only [List.map_cons, List.map_nil, List.getD_eq_getElem?_getD, List.getElem?_map, List.getElem?_eq_getElem hk]
    rfl
end Go.Proofs.YtejdmielhaldaaaGreat
