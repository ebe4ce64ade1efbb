/- Lists of parts that came in, with the bounds of their lengths. -/
import Derived.Test.YtkhnhnaefmcngaaSml
import Derived.Deep.Slices
import Derived.Deep.Fields
import Derived.ChangeArms
import Derived.ProofKit
import Derived.SizedLaws
namespace Go.Proofs.Ytkhnhnaefmcngaa
set_option linter.unusedVariables false
open Go.RowKit Go.ChangeShapes Go.WideShapes Go.ChangeAt Go.Deep
theorem in64_of {a : Int} (h : (Lit.int .i64 a).wf = true) : I64 a := by
  simp only [Lit.wf, Bool.and_eq_true, decide_eq_true_eq] at h
  exact h
/-- What is read is within the reach. -/
def Fits {H : Type} (d : DataW H) (t : TypeId) : Prop := ∀ q ∈ d.weights Try.prog t, q ≤ reachBytes
theorem weightsAll_in {H : Type} {P : Program} {e : TypeId} {d : DataW H} : ∀ {l : List (DataW H)}, d ∈ l → ∀ n ∈ d.weights P e, n ∈ DataW.weightsAll P e l
  | [], h, _, _ => by cases h
  | x :: r, h, n, hn => by
    simp only [DataW.weightsAll, List.mem_append]
    rcases List.mem_cons.1 h with rfl | h
    · exact .inl hn
    · exact .inr (weightsAll_in h n hn)
section
variable {H : Type} {enc : TypeId × Value → H} {W : World} {n : Nat}
theorem cells3_at {b o : Nat} {cs : List Value} (h : W.cells? 0 ⟨b, o, none⟩ 3 = some cs) : ∃ v0 v1 v2, cs = [v0, v1, v2] ∧ W.cell? ⟨b, o, none⟩ = some v0 ∧ W.cell? ⟨b, o + 1, none⟩ = some v1 ∧ W.cell? ⟨b, o + 2, none⟩ = some v2 := by
  obtain ⟨_, hlen, hcell⟩ := World.cells?_some h
  match cs, hlen with
  | [v0, v1, v2], _ =>
    have e0 := hcell 0 (by omega)
    have e1 := hcell 1 (by omega)
    have e2 := hcell 2 (by omega)
    rw [add_at] at e0 e1 e2
    exact ⟨v0, v1, v2, rfl, by simpa using e0, by simpa using e1, by simpa using e2⟩
theorem part_of_trod {b o : Nat} {cs : List Value} {x : DataW H × List MemPlace} (hc : W.cells? 0 ⟨b, o, none⟩ 3 = some cs) (h : DataW.trod enc Try.prog W 0 (fun _ => true) true n 39 cs = some x) (hF : Fits x.1 39) : ∃ p, PtAt W b o p ∧ I64 p.num ∧ p.text.size ≤ reachBytes := by
  obtain ⟨v0, v1, v2, rfl, c0, c1, c2⟩ := cells3_at hc
  obtain ⟨xs, k, _, hxx, _, hxl, hf⟩ := DataW.trod_struct Try.underlying39 h
  have g0 : DataW.trod enc Try.prog W 0 (fun _ => true) true k 3 (([v0, v1, v2].drop 0).take (Try.prog.cellsOf 3)) = xs[0]? := hf 0 _ rfl
  have g1 : DataW.trod enc Try.prog W 0 (fun _ => true) true k 2 (([v0, v1, v2].drop 1).take (Try.prog.cellsOf 2)) = xs[1]? := hf 1 _ rfl
  have g2 : DataW.trod enc Try.prog W 0 (fun _ => true) true k 9 (([v0, v1, v2].drop 2).take (Try.prog.cellsOf 9)) = xs[2]? := hf 2 _ rfl
  have k3 : Try.prog.cellsOf 3 = 1 := by kernel_rfl
  have k2 : Try.prog.cellsOf 2 = 1 := by kernel_rfl
  have k9 : Try.prog.cellsOf 9 = 1 := by kernel_rfl
  simp only [k3, k2, k9, List.drop_zero, List.drop_succ_cons, List.take_succ_cons, List.take_zero] at g0 g1 g2
  match xs, hxl with
  | [y0, y1, y2], _ =>
    simp at g0 g1 g2
    have F2 : Fits y2.1 9 := by
      intro q hq
      refine hF q ?_
      rw [hxx]
      have hh := DataW.weights_mem_each (P := Try.prog) (ts := [3, 2, 9]) (ds := [y0.1, y1.1, y2.1]) (j := 2) (t := 9) rfl rfl q hq
      simp only [DataW.weights, Try.underlying39]
      exact hh
    obtain ⟨a0, e0, _, i0⟩ := DataW.trod_int Try.underlying3 g0
    obtain ⟨a1, e1, _, i1⟩ := DataW.trod_int Try.underlying2 g1
    obtain ⟨s2, e2, hy2, _⟩ := DataW.trod_string Try.underlying9 g2
    simp at e0 e1 e2
    subst e0 e1 e2
    refine ⟨⟨a0, a1, s2⟩, ⟨c0, c1, c2⟩, in64_of i1, ?_⟩
    have := F2 s2.size (by rw [hy2]; simp [DataW.weights])
    exact this
theorem parts_of_trod {v : Value} {x : DataW H × List MemPlace} (h : DataW.trod enc Try.prog W 0 (fun _ => true) true n 22 [v] = some x) (hF : Fits x.1 22) : ∃ l, Pts W v l ∧ Ins l ∧ TxB l ∧ l.length ≤ reachBytes := by
  rcases open_slice Try.underlying22 h with ⟨hcs, _⟩ | ⟨a, len, cap, m, k, D, Pl, hcs, _, hl, hm, hmm, hxx, hx⟩
  · simp at hcs
    subst hcs
    exact ⟨[], pts_nil _, (fun p hp => by cases hp), (fun p hp => by cases hp), by simp⟩
  · simp at hcs hmm
    subst hcs hmm
    have k39 : Try.prog.cellsOf 39 = 3 := by kernel_rfl
    rw [k39] at hx
    have hlr : len ≤ reachBytes := by
      have kb : Try.prog.bytesOf 39 = 32 := by kernel_rfl
      have := hF ((len + (m - len)) * Try.prog.bytesOf 39) (by rw [hxx]; simp [DataW.weights, Try.underlying22])
      rw [kb] at this
      omega
    by_cases h0 : len = 0
    · subst h0
      exact ⟨[], ⟨some a, m, rfl, ⟨(fun e => by cases e), by simp⟩, .inl rfl⟩, (fun p hp => by cases hp), (fun p hp => by cases hp), by simp⟩
    · obtain ⟨b, o, spot⟩ := a
      obtain ⟨cs0, hc0, _⟩ := hx 0 (by omega)
      obtain ⟨_, hlen0, hcell0⟩ := World.cells?_some hc0
      have hc00 := hcell0 0 (by omega)
      rw [List.getElem?_eq_getElem (by omega)] at hc00
      have hspot : spot = none := by simpa [Addr.add] using World.cell?_spot hc00
      subst hspot
      have hv : ∀ i, i < len → ∃ q : Pt, PtAt W b (o + i * 3) q ∧ I64 q.num ∧ q.text.size ≤ reachBytes := fun i hi => by
        obtain ⟨cs, h1, h2⟩ := hx i (by omega)
        rw [add_at] at h1
        refine part_of_trod h1 h2 (fun q hq => hF q ?_)
        rw [hxx]
        simp only [DataW.weights, Try.underlying22, List.mem_cons, List.mem_append]
        exact .inr (.inl (weightsAll_in (List.mem_map.2 ⟨i, List.mem_range.2 hi, rfl⟩) q hq))
      obtain ⟨q, hq⟩ : ∃ q : Nat → Pt, ∀ i, i < len → PtAt W b (o + i * 3) (q i) ∧ I64 (q i).num ∧ (q i).text.size ≤ reachBytes := by
        refine ⟨fun i => if hi : i < len then Classical.choose (hv i hi) else pt0, fun i hi => ?_⟩
        simp only [hi, dif_pos]
        exact Classical.choose_spec (hv i hi)
      have hmem : ∀ y ∈ (List.range len).map q, ∃ i, i < len ∧ y = q i := by
        intro y hy
        obtain ⟨i, hi, rfl⟩ := List.mem_map.1 hy
        exact ⟨i, List.mem_range.1 hi, rfl⟩
      refine ⟨(List.range len).map q, ⟨some ⟨b, o, none⟩, m, by simp, ⟨(fun e => by cases e), by simpa using hl⟩, .inr ⟨b, o, rfl, fun t ht => ?_⟩⟩, ?_, ?_, by simpa using hlr⟩
      · have ht' : t < len := by simpa using ht
        have eg : ((List.range len).map q).getD t pt0 = q t := by simp [ht']
        rw [eg]
        exact (hq t ht').1
      · intro y hy
        obtain ⟨i, hi, rfl⟩ := hmem y hy
        exact (hq i hi).2.1
      · intro y hy
        obtain ⟨i, hi, rfl⟩ := hmem y hy
        exact (hq i hi).2.2
end
end Go.Proofs.Ytkhnhnaefmcngaa
