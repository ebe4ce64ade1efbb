/- Lists of acts that came in, with the bounds of their lengths. -/
import Derived.Test.YtcjmfibehofepaaActs
import Derived.SizedLaws
namespace Go.Proofs.Ytcjmfibehofepaa
open Go.RowKit Go.Maps Go.ChangeMaps Go.MapKept Go.ChangeShapes Go.WideShapes Go.ChangeAt Go.Deep
/-- No slice of an act is longer than what may come in. -/
def DeedIn (a : Deed) : Prop := a.p.length ≤ reachBytes ∧ a.keep.length ≤ reachBytes ∧ a.torn.length ≤ reachBytes
/-- What is read is within the reach. -/
def Fits {H : Type} (d : DataW H) (t : TypeId) : Prop := ∀ q ∈ d.weights Try.prog t, q ≤ reachBytes
theorem weightsAll_in {H : Type} {P : Program} {e : TypeId} {d : DataW H} : ∀ {l : List (DataW H)}, d ∈ l → ∀ n ∈ d.weights P e, n ∈ DataW.weightsAll P e l
  | [], h, _, _ => by cases h
  | x :: r, h, n, hn => by
    simp only [DataW.weightsAll, List.mem_append]
    rcases List.mem_cons.1 h with rfl | h
    · exact .inl hn
    · exact .inr (weightsAll_in h n hn)
section
variable {H : Type} {enc : TypeId × Value → H} {W : World} {n : Nat}
theorem lits_length (k : IntKind) (zs : List Int) : (lits (H := H) k zs).length = zs.length := by simp [lits]
theorem bytes_of_trod2 {v : Value} {y : DataW H × List MemPlace} (h : DataW.trod enc Try.prog W 0 (fun _ => true) true n 33 [v] = some y) (hF : Fits y.1 33) : ∃ a len cap zs, v = .slice a len cap ∧ IsRow .u8 W a len cap zs ∧ (zs.take len).length ≤ reachBytes := by
  rcases open_ints Try.underlying33 Try.underlying5 (by kernel_rfl) h with ⟨hcs, _⟩ | ⟨x, l, c, zs, hcs, _, hl, hm, hz, hy, hcell, hwz⟩
  · simp at hcs
    subst hcs
    exact ⟨none, 0, 0, [], rfl, .inl ⟨rfl, rfl, rfl, rfl⟩, by simp⟩
  · simp at hcs
    subst hcs
    refine ⟨_, _, _, zs, rfl, .inr ⟨_, rfl, hl, hm, by simpa using hz, hcell, hwz⟩, ?_⟩
    have k5 : Try.prog.bytesOf 5 = 1 := by kernel_rfl
    have := hF (((zs.take l).length + (zs.drop l).length) * Try.prog.bytesOf 5) (by rw [hy]; simp [DataW.weights, Try.underlying33, lits_length])
    rw [k5] at this
    omega
theorem ints_of_trod2 {v : Value} {y : DataW H × List MemPlace} (h : DataW.trod enc Try.prog W 0 (fun _ => true) true n 34 [v] = some y) (hF : Fits y.1 34) : ∃ a len cap zs, v = .slice a len cap ∧ IsRow .i64 W a len cap zs ∧ (zs.take len).length ≤ reachBytes := by
  rcases open_ints Try.underlying34 Try.underlying3 (by kernel_rfl) h with ⟨hcs, _⟩ | ⟨x, l, c, zs, hcs, _, hl, hm, hz, hy, hcell, hwz⟩
  · simp at hcs
    subst hcs
    exact ⟨none, 0, 0, [], rfl, .inl ⟨rfl, rfl, rfl, rfl⟩, by simp⟩
  · simp at hcs
    subst hcs
    refine ⟨_, _, _, zs, rfl, .inr ⟨_, rfl, hl, hm, by simpa using hz, hcell, hwz⟩, ?_⟩
    have k3 : Try.prog.bytesOf 3 = 8 := by kernel_rfl
    have := hF (((zs.take l).length + (zs.drop l).length) * Try.prog.bytesOf 3) (by rw [hy]; simp [DataW.weights, Try.underlying34, lits_length])
    rw [k3] at this
    omega
theorem torns_of_trod2 {v : Value} {y : DataW H × List MemPlace} (h : DataW.trod enc Try.prog W 0 (fun _ => true) true n 35 [v] = some y) (hF : Fits y.1 35) : ∃ ts, Torns W v ts ∧ (∀ t ∈ ts, In64 t.1 ∧ In64 t.2) ∧ ts.length ≤ reachBytes := by
  rcases open_slice_pairs Try.underlying35 Try.underlying58 (by kernel_rfl) rfl rfl (by kernel_rfl) (by kernel_rfl) h with ⟨hcs, _⟩ | ⟨a, len, cap, m, k, V0, V1, D0, D1, P0, P1, hcs, _, hl, hm, hmm, hy, hx⟩
  · simp at hcs
    subst hcs
    exact ⟨[], ⟨none, 0, rfl, .inl rfl⟩, by simp, by simp⟩
  · simp at hcs hmm
    subst hcs hmm
    have hlr : len ≤ reachBytes := by
      have k58 : Try.prog.bytesOf 58 = 16 := by kernel_rfl
      have := hF ((len + (m - len)) * Try.prog.bytesOf 58) (by rw [hy]; simp [DataW.weights, Try.underlying35])
      rw [k58] at this
      omega
    have hv : ∀ i, i < m → ∃ q : Int × Int, V0 i = .int .i64 q.1 ∧ V1 i = .int .i64 q.2 ∧ In64 q.1 ∧ In64 q.2 := fun i hi => by
      obtain ⟨_, _, h1, h2⟩ := hx i hi
      obtain ⟨x, h3, h4⟩ := int_of_trod h1
      obtain ⟨y, h5, h6⟩ := int_of_trod h2
      exact ⟨(x, y), h3, h5, h4, h6⟩
    obtain ⟨q, hq⟩ := choose_lt hv
    refine ⟨(List.range len).map q, ⟨some a, m, by simp, ?_⟩, ?_, by rw [List.length_map, List.length_range]; exact hlr⟩
    · by_cases h0 : len = 0
      · exact .inl (by simp [h0])
      · obtain ⟨b, o, spot⟩ := a
        have hc := (hx 0 (by omega)).1
        have hspot : spot = none := by simpa [Addr.add] using World.cell?_spot hc
        subst hspot
        refine .inr ⟨b, o, rfl, fun t ht => ?_⟩
        have ht' : t < len := by simpa using ht
        obtain ⟨c1, c2, _⟩ := hx t (by omega)
        obtain ⟨e1, e2, _⟩ := hq t (by omega)
        rw [add_at] at c1 c2
        rw [e1] at c1
        rw [e2] at c2
        have eg : ((List.range len).map q).getD t (0, 0) = q t := by simp [ht']
        rw [eg]
        exact ⟨c1, c2⟩
    · intro t ht
      obtain ⟨i, hi, rfl⟩ := List.mem_map.1 ht
      have := List.mem_range.1 hi
      exact (hq i (by omega)).2.2
theorem act_of_trod2 {b o : Nat} {cs : List Value} {x : DataW H × List MemPlace} (hc : W.cells? 0 ⟨b, o, none⟩ 5 = some cs) (h : DataW.trod enc Try.prog W 0 (fun _ => true) true n 37 cs = some x) (hF : Fits x.1 37) : ∃ a, ActAt W b o a ∧ ActIn a ∧ DeedIn a := by
  obtain ⟨v0, v1, v2, v3, v4, rfl, c0, c1, c2, c3, c4⟩ := cells5 hc
  obtain ⟨xs, k, _, hxx, _, hxl, hf⟩ := DataW.trod_struct Try.underlying37 h
  have g0 : DataW.trod enc Try.prog W 0 (fun _ => true) true k 3 (([v0, v1, v2, v3, v4].drop 0).take (Try.prog.cellsOf 3)) = xs[0]? := hf 0 _ rfl
  have g1 : DataW.trod enc Try.prog W 0 (fun _ => true) true k 3 (([v0, v1, v2, v3, v4].drop 1).take (Try.prog.cellsOf 3)) = xs[1]? := hf 1 _ rfl
  have g2 : DataW.trod enc Try.prog W 0 (fun _ => true) true k 33 (([v0, v1, v2, v3, v4].drop 2).take (Try.prog.cellsOf 33)) = xs[2]? := hf 2 _ rfl
  have g3 : DataW.trod enc Try.prog W 0 (fun _ => true) true k 34 (([v0, v1, v2, v3, v4].drop 3).take (Try.prog.cellsOf 34)) = xs[3]? := hf 3 _ rfl
  have g4 : DataW.trod enc Try.prog W 0 (fun _ => true) true k 35 (([v0, v1, v2, v3, v4].drop 4).take (Try.prog.cellsOf 35)) = xs[4]? := hf 4 _ rfl
  have k3 : Try.prog.cellsOf 3 = 1 := by kernel_rfl
  have k33 : Try.prog.cellsOf 33 = 1 := by kernel_rfl
  have k34 : Try.prog.cellsOf 34 = 1 := by kernel_rfl
  have k35 : Try.prog.cellsOf 35 = 1 := by kernel_rfl
  simp only [k3, k33, k34, k35, List.drop_zero, List.drop_succ_cons, List.take_succ_cons, List.take_zero] at g0 g1 g2 g3 g4
  match xs, hxl with
  | [y0, y1, y2, y3, y4], _ =>
    simp at g0 g1 g2 g3 g4
    have hW : ∀ (j : Nat) (t : TypeId) (d : DataW H), [(3 : TypeId), 3, 33, 34, 35][j]? = some t → [y0.1, y1.1, y2.1, y3.1, y4.1][j]? = some d → Fits d t := by
      intro j t d ht hd q hq
      refine hF q ?_
      rw [hxx]
      have hh := DataW.weights_mem_each (P := Try.prog) ht hd q hq
      simp only [DataW.weights, Try.underlying37]
      exact hh
    have F2 : Fits y2.1 33 := hW 2 33 _ rfl rfl
    have F3 : Fits y3.1 34 := hW 3 34 _ rfl rfl
    have F4 : Fits y4.1 35 := hW 4 35 _ rfl rfl
    obtain ⟨a0, rfl, i0⟩ := int_of_trod g0
    obtain ⟨a1, rfl, i1⟩ := int_of_trod g1
    obtain ⟨p2, l2, q2, z2, rfl, r2, m2⟩ := bytes_of_trod2 g2 F2
    obtain ⟨p3, l3, q3, z3, rfl, r3, m3⟩ := ints_of_trod2 g3 F3
    obtain ⟨ts, t4, i4, l4⟩ := torns_of_trod2 g4 F4
    exact ⟨⟨a0, a1, z2.take l2, z3.take l3, ts⟩, ⟨_, _, _, c0, c1, c2, c3, c4, r2.bts, r3.ints, t4⟩, ⟨i0, i1, r2.isBytes, fun x hx => in64_of (r3.wf x hx), i4⟩, m2, m3, l4⟩
theorem acts_of_trod2 {v : Value} {x : DataW H × List MemPlace} (h : DataW.trod enc Try.prog W 0 (fun _ => true) true n 22 [v] = some x) (hF : Fits x.1 22) : ∃ l, Acts W v l ∧ ∀ x ∈ l, DeedIn x := by
  rcases open_slice Try.underlying22 h with ⟨hcs, _⟩ | ⟨a, len, cap, m, k, D, Pl, hcs, _, hl, hm, hmm, hxx, hx⟩
  · simp at hcs
    subst hcs
    exact ⟨[], ⟨none, 0, rfl, by simp, .inl rfl⟩, by simp⟩
  · simp at hcs hmm
    subst hcs hmm
    have k37 : Try.prog.cellsOf 37 = 5 := by kernel_rfl
    rw [k37] at hx
    by_cases h0 : len = 0
    · subst h0
      exact ⟨[], ⟨some a, m, rfl, by simp, .inl rfl⟩, by simp⟩
    · obtain ⟨b, o, spot⟩ := a
      obtain ⟨cs0, hc0, _⟩ := hx 0 (by omega)
      obtain ⟨_, hlen0, hcell0⟩ := World.cells?_some hc0
      have hc00 := hcell0 0 (by omega)
      rw [List.getElem?_eq_getElem (by omega)] at hc00
      have hspot : spot = none := by simpa [Addr.add] using World.cell?_spot hc00
      subst hspot
      have hv : ∀ i, i < len → ∃ q : Deed, ActAt W b (o + i * 5) q ∧ ActIn q ∧ DeedIn q := fun i hi => by
        obtain ⟨cs, h1, h2⟩ := hx i (by omega)
        rw [add_at] at h1
        refine act_of_trod2 h1 h2 (fun q hq => hF q ?_)
        rw [hxx]
        simp only [DataW.weights, Try.underlying22, List.mem_cons, List.mem_append]
        exact .inr (.inl (weightsAll_in (List.mem_map.2 ⟨i, List.mem_range.2 hi, rfl⟩) q hq))
      have hne : Nonempty Deed := ⟨act0⟩
      obtain ⟨q, hq⟩ : ∃ q : Nat → Deed, ∀ i, i < len → ActAt W b (o + i * 5) (q i) ∧ ActIn (q i) ∧ DeedIn (q i) := by
        refine ⟨fun i => if hi : i < len then Classical.choose (hv i hi) else act0, fun i hi => ?_⟩
        simp only [hi, dif_pos]
        exact Classical.choose_spec (hv i hi)
      refine ⟨(List.range len).map q, ⟨some ⟨b, o, none⟩, m, by simp, ?_, .inr ⟨b, o, rfl, fun t ht => ?_⟩⟩, ?_⟩
      · intro y hy
        obtain ⟨i, hi, rfl⟩ := List.mem_map.1 hy
        have := List.mem_range.1 hi
        exact (hq i (by omega)).2.1
      · have ht' : t < len := by simpa using ht
        have eg : ((List.range len).map q).getD t act0 = q t := by simp [ht']
        rw [eg]
        exact (hq t (by omega)).1
      · intro y hy
        obtain ⟨i, hi, rfl⟩ := List.mem_map.1 hy
        have := List.mem_range.1 hi
        exact (hq i (by omega)).2.2
end
end Go.Proofs.Ytcjmfibehofepaa
