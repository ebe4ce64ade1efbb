/- Slices that came in, with the bounds of their lengths. -/
import Derived.Test.YtcgjolonapndgaaArgs
import Derived.Deep.SlicePairs
import Derived.SizedLaws
namespace Go.Proofs.Ytcgjolonapndgaa
set_option linter.unusedVariables false
open Go.RowKit Go.Maps Go.ChangeMaps Go.MapKept Go.ChangeShapes Go.WideShapes Go.ChangeAt Go.Deep
theorem in64_of {a : Int} (h : (Lit.int .i64 a).wf = true) : In64 a := by
  simp only [Lit.wf, Bool.and_eq_true, decide_eq_true_eq] at h
  exact h
theorem IsRow.ints {w : World} {a : Option Addr} {len cap : Nat} {zs : List Int} (h : IsRow .i64 w a len cap zs) : Ints w (.slice a len cap) (zs.take len) := by
  have hl := h.len
  refine ⟨a, cap, by rw [hl], ?_⟩
  rcases h.rest with h | ⟨b, o, e, hr, _⟩
  · exact .inl h
  · exact .inr ⟨b, o, e, fun t ht => hr t (Nat.zero_le _) ht⟩

/-- What is read is within the reach. -/
def Fits {H : Type} (d : DataW H) (t : TypeId) : Prop := ∀ q ∈ d.weights Try.prog t, q ≤ reachBytes
theorem weightsAll_in {H : Type} {P : Program} {e : TypeId} {d : DataW H} : ∀ {l : List (DataW H)}, d ∈ l → ∀ n ∈ d.weights P e, n ∈ DataW.weightsAll P e l
  | [], h, _, _ => by cases h
  | x :: r, h, n, hn => by
    simp only [DataW.weightsAll, List.mem_append]
    rcases List.mem_cons.1 h with rfl | h
    · exact .inl hn
    · exact .inr (weightsAll_in h n hn)
section
variable {H : Type} {enc : TypeId × Value → H} {W : World} {n : Nat}
theorem int_of_trod {v : Value} {y : DataW H × List MemPlace} (h : DataW.trod enc Try.prog W 0 (fun _ => true) true n 3 [v] = some y) : ∃ a, v = .int .i64 a ∧ In64 a := by
  obtain ⟨a, h1, h2, h3⟩ := DataW.trod_int Try.underlying3 h
  simp at h1
  exact ⟨a, h1, in64_of h3⟩
theorem lits_length (k : IntKind) (zs : List Int) : (lits (H := H) k zs).length = zs.length := by simp [lits]
theorem bytes_of_trod2 {v : Value} {y : DataW H × List MemPlace} (h : DataW.trod enc Try.prog W 0 (fun _ => true) true n 23 [v] = some y) (hF : Fits y.1 23) : ∃ a len cap zs, v = .slice a len cap ∧ IsRow .u8 W a len cap zs ∧ (zs.take len).length ≤ reachBytes := by
  rcases open_ints Try.underlying23 Try.underlying5 (by kernel_rfl) h with ⟨hcs, _⟩ | ⟨x, l, c, zs, hcs, _, hl, hm, hz, hy, hcell, hwz⟩
  · simp at hcs
    subst hcs
    exact ⟨none, 0, 0, [], rfl, .inl ⟨rfl, rfl, rfl, rfl⟩, by simp⟩
  · simp at hcs
    subst hcs
    refine ⟨_, _, _, zs, rfl, .inr ⟨_, rfl, hl, hm, by simpa using hz, hcell, hwz⟩, ?_⟩
    have k5 : Try.prog.bytesOf 5 = 1 := by kernel_rfl
    have := hF (((zs.take l).length + (zs.drop l).length) * Try.prog.bytesOf 5) (by rw [hy]; simp [DataW.weights, Try.underlying23, lits_length])
    rw [k5] at this
    omega
theorem ints_of_trod2 {v : Value} {y : DataW H × List MemPlace} (h : DataW.trod enc Try.prog W 0 (fun _ => true) true n 50 [v] = some y) (hF : Fits y.1 50) : ∃ a len cap zs, v = .slice a len cap ∧ IsRow .i64 W a len cap zs ∧ (zs.take len).length ≤ reachBytes := by
  rcases open_ints Try.underlying50 Try.underlying3 (by kernel_rfl) h with ⟨hcs, _⟩ | ⟨x, l, c, zs, hcs, _, hl, hm, hz, hy, hcell, hwz⟩
  · simp at hcs
    subst hcs
    exact ⟨none, 0, 0, [], rfl, .inl ⟨rfl, rfl, rfl, rfl⟩, by simp⟩
  · simp at hcs
    subst hcs
    refine ⟨_, _, _, zs, rfl, .inr ⟨_, rfl, hl, hm, by simpa using hz, hcell, hwz⟩, ?_⟩
    have k3 : Try.prog.bytesOf 3 = 8 := by kernel_rfl
    have := hF (((zs.take l).length + (zs.drop l).length) * Try.prog.bytesOf 3) (by rw [hy]; simp [DataW.weights, Try.underlying50, lits_length])
    rw [k3] at this
    omega
theorem torns_of_trod2 {v : Value} {y : DataW H × List MemPlace} (h : DataW.trod enc Try.prog W 0 (fun _ => true) true n 51 [v] = some y) (hF : Fits y.1 51) : ∃ ts, Torns W v ts ∧ (∀ t ∈ ts, In64 t.1 ∧ In64 t.2) ∧ ts.length ≤ reachBytes := by
  rcases open_slice_pairs Try.underlying51 Try.underlying93 (by kernel_rfl) rfl rfl (by kernel_rfl) (by kernel_rfl) h with ⟨hcs, _⟩ | ⟨a, len, cap, m, k, V0, V1, D0, D1, P0, P1, hcs, _, hl, hm, hmm, hy, hx⟩
  · simp at hcs
    subst hcs
    exact ⟨[], ⟨none, 0, rfl, .inl rfl⟩, by simp, by simp⟩
  · simp at hcs hmm
    subst hcs hmm
    have hlr : len ≤ reachBytes := by
      have k93 : Try.prog.bytesOf 93 = 16 := by kernel_rfl
      have := hF ((len + (m - len)) * Try.prog.bytesOf 93) (by rw [hy]; simp [DataW.weights, Try.underlying51])
      rw [k93] at this
      omega
    have hv : ∀ i, i < m → ∃ q : Int × Int, V0 i = .int .i64 q.1 ∧ V1 i = .int .i64 q.2 ∧ In64 q.1 ∧ In64 q.2 := fun i hi => by
      obtain ⟨_, _, h1, h2⟩ := hx i hi
      obtain ⟨x, h3, h4⟩ := int_of_trod h1
      obtain ⟨y, h5, h6⟩ := int_of_trod h2
      exact ⟨(x, y), h3, h5, h4, h6⟩
    obtain ⟨q, hq⟩ := choose_lt hv
    refine ⟨(List.range len).map q, ⟨some a, m, by simp, ?_⟩, ?_, by rw [List.length_map, List.length_range]; exact hlr⟩
    · by_cases h0 : len = 0
      · exact .inl (by simp [h0])
      · obtain ⟨b, o, spot⟩ := a
        have hc := (hx 0 (by omega)).1
        have hspot : spot = none := by simpa [Addr.add] using World.cell?_spot hc
        subst hspot
        refine .inr ⟨b, o, rfl, fun t ht => ?_⟩
        have ht' : t < len := by simpa using ht
        obtain ⟨c1, c2, _⟩ := hx t (by omega)
        obtain ⟨e1, e2, _⟩ := hq t (by omega)
        rw [add_at] at c1 c2
        rw [e1] at c1
        rw [e2] at c2
        have eg : ((List.range len).map q).getD t (0, 0) = q t := by simp [ht']
        rw [eg]
        exact ⟨c1, c2⟩
    · intro t ht
      obtain ⟨i, hi, rfl⟩ := List.mem_map.1 ht
      have := List.mem_range.1 hi
      exact (hq i (by omega)).2.2
end
end Go.Proofs.Ytcgjolonapndgaa
