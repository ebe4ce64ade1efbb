/- Nodes that came in. -/
import Derived.Test.YtaffplmfnincfaaGreatDoorOy
import Derived.Test.YtaffplmfnincfaaGreatDoorXz
namespace Go.Proofs.YtaffplmfnincfaaGreatDoor
set_option linter.unusedVariables false
open Go.RowKit Go.ChangeShapes Go.WideShapes Go.ChangeAt Go.Deep
def Fits {H : Type} (d : DataW H) (t : TypeId) : Prop := ∀ q ∈ d.weights Tryz.prog t, q ≤ reachBytes
theorem weightsAll_in {H : Type} {P : Program} {e : TypeId} {d : DataW H} : ∀ {l : List (DataW H)}, d ∈ l → ∀ n ∈ d.weights P e, n ∈ DataW.weightsAll P e l
  | [], h, _, _ => by cases h
  | x :: r, h, n, hn => by
    simp only [DataW.weightsAll, List.mem_append]
    rcases List.mem_cons.1 h with rfl | h
    · exact .inl hn
    · exact .inr (weightsAll_in h n hn)
section
variable {H : Type} {enc : TypeId × Value → H} {W : World} {n : Nat}
theorem cells_at {b o k : Nat} {cs : List Value} (h : W.cells? 0 ⟨b, o, none⟩ k = some cs) : cs.length = k ∧ ∀ i u, cs[i]? = some u → W.cell? ⟨b, o + i, none⟩ = some u := by
  obtain ⟨_, hlen, hcell⟩ := World.cells?_some h
  refine ⟨hlen, fun i u hu => ?_⟩
  have hi : i < k := by
    rw [← hlen]
    rcases Nat.lt_or_ge i cs.length with h | h
    · exact h
    · rw [List.getElem?_eq_none h] at hu; cases hu
  have e := hcell i hi
  rw [ladd_at] at e
  rw [e]; exact hu
/-- A text. -/
theorem str_of_trod {v : Value} {x : DataW H × List MemPlace} (h : DataW.trod enc Tryz.prog W 0 (fun _ => true) true n 9 [v] = some x) (hF : Fits x.1 9) : ∃ s, v = .string s ∧ s.size ≤ reachBytes := by
  obtain ⟨s, e, hx, _⟩ := DataW.trod_string Tryz.underlying9 h
  simp at e
  refine ⟨s, e, ?_⟩
  exact hF s.size (by rw [hx]; simp [DataW.weights])
theorem fits_field {ts : List TypeId} {ds : List (DataW H)} {t : TypeId} {d : DataW H} {j st : Nat} {x : DataW H} (hF : Fits x st) (hx : ∀ q ∈ DataW.weightsEach Tryz.prog ts ds, q ∈ x.weights Tryz.prog st) (h1 : ts[j]? = some t) (h2 : ds[j]? = some d) : Fits d t := fun q hq => hF q (hx q (DataW.weights_mem_each h1 h2 q hq))

/-- A slice that came in, with its length's bound in bytes. -/
theorem rows_of_trodb {α : Type} {E : Enc α} (T : RowTy E) (good : α → Prop) (hk : Tryz.prog.cellsOf T.et = E.k) (hbt : Tryz.prog.bytesOf T.et = T.bytes) (hb0 : 0 < T.bytes)
    (elem : ∀ (m : Nat) (cs : List Value) (x : DataW H × List MemPlace), cs.length = E.k → DataW.trod enc Tryz.prog W 0 (fun _ => true) true m T.et cs = some x → Fits x.1 T.et → ∃ p, cs = E.arr p ∧ good p)
    {v : Value} {x : DataW H × List MemPlace} (h : DataW.trod enc Tryz.prog W 0 (fun _ => true) true n T.st [v] = some x) (hF : Fits x.1 T.st) : ∃ l, Sls E W v l ∧ (∀ p ∈ l, good p) ∧ l.length * T.bytes ≤ reachBytes := by
  rcases open_slice T.hu h with ⟨hcs, _⟩ | ⟨a, len, cap, m, k, D, Pl, hcs, _, hl, hm, hmm, hxx, hx⟩
  · simp at hcs
    subst hcs
    exact ⟨[], sls_nil _, (fun p hp => by cases hp), by simp⟩
  · simp at hcs hmm
    subst hcs hmm
    rw [hk] at hx
    have hlr : len * T.bytes ≤ reachBytes := by
      have := hF ((len + (m - len)) * Tryz.prog.bytesOf T.et) (by rw [hxx]; simp [DataW.weights, T.hu])
      rw [hbt] at this
      have h2 : len * T.bytes ≤ (len + (m - len)) * T.bytes := Nat.mul_le_mul_right _ (by omega)
      omega
    by_cases h0 : len = 0
    · subst h0
      exact ⟨[], ⟨some a, m, rfl, ⟨(fun e => by cases e), by simp⟩, .inl rfl⟩, (fun p hp => by cases hp), by simp⟩
    · obtain ⟨b, o, spot⟩ := a
      obtain ⟨cs0, hc0, _⟩ := hx 0 (by omega)
      obtain ⟨_, hlen0, hcell0⟩ := World.cells?_some hc0
      have hc00 := hcell0 0 E.pos
      rw [List.getElem?_eq_getElem (by rw [hlen0]; exact E.pos)] at hc00
      have hspot : spot = none := by simpa [Addr.add] using World.cell?_spot hc00
      subst hspot
      have hv : ∀ i, i < len → ∃ q : α, At E W b (o + i * E.k) q ∧ good q := fun i hi => by
        obtain ⟨cs, h1, h2⟩ := hx i (by omega)
        rw [ladd_at] at h1
        obtain ⟨hcl, hcc⟩ := cells_at h1
        obtain ⟨p, rfl, hg⟩ := elem _ _ _ hcl h2 (fun q hq => hF q (by
          rw [hxx]
          simp only [DataW.weights, T.hu, List.mem_cons, List.mem_append]
          exact .inr (.inl (weightsAll_in (List.mem_map.2 ⟨i, List.mem_range.2 hi, rfl⟩) q hq))))
        exact ⟨p, fun j u hu => hcc j u hu, hg⟩
      obtain ⟨q, hq⟩ : ∃ q : Nat → α, ∀ i, i < len → At E W b (o + i * E.k) (q i) ∧ good (q i) := by
        refine ⟨fun i => if hi : i < len then Classical.choose (hv i hi) else E.d, fun i hi => ?_⟩
        simp only [hi, dif_pos]
        exact Classical.choose_spec (hv i hi)
      refine ⟨(List.range len).map q, ⟨some ⟨b, o, none⟩, m, by simp, ⟨(fun e => by cases e), by simpa using hl⟩, .inr ⟨b, o, rfl, fun t ht => ?_⟩⟩, ?_, by simpa using hlr⟩
      · have ht' : t < len := by simpa using ht
        have eg : ((List.range len).map q).getD t E.d = q t := by simp [ht']
        rw [eg]
        exact (hq t ht').1
      · intro y hy
        obtain ⟨i, hi, rfl⟩ := List.mem_map.1 hy
        exact (hq i (List.mem_range.1 hi)).2

set_option maxRecDepth 100000 in
/-- A value's cells, read. -/
theorem vl_cells {cs : List Value} {x : DataW H × List MemPlace} (hl : cs.length = 2) (h : DataW.trod enc Tryz.prog W 0 (fun _ => true) true n 34 cs = some x) : ∃ v : Vl, cs = [.int .i64 v.kind, .int .i64 v.n] := by
  match cs, hl with
  | [v0, v1], _ =>
    obtain ⟨xs, k, _, _, _, hxl, hf⟩ := DataW.trod_struct Tryz.underlying34 h
    have g0 : DataW.trod enc Tryz.prog W 0 (fun _ => true) true k 3 (([v0, v1].drop 0).take (Tryz.prog.cellsOf 3)) = xs[0]? := hf 0 _ rfl
    have g1 : DataW.trod enc Tryz.prog W 0 (fun _ => true) true k 2 (([v0, v1].drop 1).take (Tryz.prog.cellsOf 2)) = xs[1]? := hf 1 _ rfl
    have k3 : Tryz.prog.cellsOf 3 = 1 := by kernel_rfl
    have k2 : Tryz.prog.cellsOf 2 = 1 := by kernel_rfl
    simp only [k3, k2, List.drop_zero, List.drop_succ_cons, List.take_succ_cons, List.take_zero] at g0 g1
    match xs, hxl with
    | [y0, y1], _ =>
      simp at g0 g1
      obtain ⟨a0, h01, _, h03⟩ := DataW.trod_int Tryz.underlying3 g0
      obtain ⟨a1, h11, _, h13⟩ := DataW.trod_int Tryz.underlying2 g1
      simp at h01 h11
      subst h01 h11
      exact ⟨⟨a0, a1⟩, rfl⟩

set_option maxRecDepth 100000 in
/-- What is told of a node that came in. -/
theorem nd_of_trod {cs : List Value} {x : DataW H × List MemPlace} (hl : cs.length = 11) (h : DataW.trod enc Tryz.prog W 0 (fun _ => true) true n 36 cs = some x) (hF : Fits x.1 36) : ∃ p : Nd, cs = encN.arr p ∧ NdR p := by
  match cs, hl with
  | [v0, v1, v2, v3, v4, v5, v6, v7, v8, v9, v10], _ =>
    obtain ⟨xs, k, _, hxx, _, hxl, hf⟩ := DataW.trod_struct Tryz.underlying36 h
    have g0 : DataW.trod enc Tryz.prog W 0 (fun _ => true) true k 9 (([v0, v1, v2, v3, v4, v5, v6, v7, v8, v9, v10].drop 0).take (Tryz.prog.cellsOf 9)) = xs[0]? := hf 0 _ rfl
    have g1 : DataW.trod enc Tryz.prog W 0 (fun _ => true) true k 3 (([v0, v1, v2, v3, v4, v5, v6, v7, v8, v9, v10].drop 1).take (Tryz.prog.cellsOf 3)) = xs[1]? := hf 1 _ rfl
    have g2 : DataW.trod enc Tryz.prog W 0 (fun _ => true) true k 9 (([v0, v1, v2, v3, v4, v5, v6, v7, v8, v9, v10].drop 2).take (Tryz.prog.cellsOf 9)) = xs[2]? := hf 2 _ rfl
    have g3 : DataW.trod enc Tryz.prog W 0 (fun _ => true) true k 9 (([v0, v1, v2, v3, v4, v5, v6, v7, v8, v9, v10].drop 3).take (Tryz.prog.cellsOf 9)) = xs[3]? := hf 3 _ rfl
    have g4 : DataW.trod enc Tryz.prog W 0 (fun _ => true) true k 9 (([v0, v1, v2, v3, v4, v5, v6, v7, v8, v9, v10].drop 4).take (Tryz.prog.cellsOf 9)) = xs[4]? := hf 4 _ rfl
    have g5 : DataW.trod enc Tryz.prog W 0 (fun _ => true) true k 4 (([v0, v1, v2, v3, v4, v5, v6, v7, v8, v9, v10].drop 5).take (Tryz.prog.cellsOf 4)) = xs[5]? := hf 5 _ rfl
    have g6 : DataW.trod enc Tryz.prog W 0 (fun _ => true) true k 34 (([v0, v1, v2, v3, v4, v5, v6, v7, v8, v9, v10].drop 6).take (Tryz.prog.cellsOf 34)) = xs[6]? := hf 6 _ rfl
    have g7 : DataW.trod enc Tryz.prog W 0 (fun _ => true) true k 34 (([v0, v1, v2, v3, v4, v5, v6, v7, v8, v9, v10].drop 8).take (Tryz.prog.cellsOf 34)) = xs[7]? := hf 7 _ rfl
    have g8 : DataW.trod enc Tryz.prog W 0 (fun _ => true) true k 9 (([v0, v1, v2, v3, v4, v5, v6, v7, v8, v9, v10].drop 10).take (Tryz.prog.cellsOf 9)) = xs[8]? := hf 8 _ rfl
    have k9 : Tryz.prog.cellsOf 9 = 1 := by kernel_rfl
    have k3 : Tryz.prog.cellsOf 3 = 1 := by kernel_rfl
    have k4 : Tryz.prog.cellsOf 4 = 1 := by kernel_rfl
    have k34 : Tryz.prog.cellsOf 34 = 2 := by kernel_rfl
    simp only [k9, k3, k4, k34, List.drop_zero, List.drop_succ_cons, List.take_succ_cons, List.take_zero] at g0 g1 g2 g3 g4 g5 g6 g7 g8
    match xs, hxl with
    | [y0, y1, y2, y3, y4, y5, y6, y7, y8], _ =>
      simp at g0 g1 g2 g3 g4 g5 g6 g7 g8
      have hw : ∀ q ∈ DataW.weightsEach Tryz.prog [9, 3, 9, 9, 9, 4, 34, 34, 9] [y0.1, y1.1, y2.1, y3.1, y4.1, y5.1, y6.1, y7.1, y8.1], q ∈ x.1.weights Tryz.prog 36 := fun q hq => by
        rw [hxx]; simp only [DataW.weights, Tryz.underlying36]; exact hq
      obtain ⟨s0, rfl, b0⟩ := str_of_trod g0 (fits_field (j := 0) hF hw rfl rfl)
      obtain ⟨z1, h11, _⟩ := DataW.trod_int Tryz.underlying3 g1
      obtain ⟨s2, rfl, b2⟩ := str_of_trod g2 (fits_field (j := 2) hF hw rfl rfl)
      obtain ⟨s3, rfl, b3⟩ := str_of_trod g3 (fits_field (j := 3) hF hw rfl rfl)
      obtain ⟨s4, rfl, b4⟩ := str_of_trod g4 (fits_field (j := 4) hF hw rfl rfl)
      obtain ⟨t5, h51, _⟩ := DataW.trod_bool Tryz.underlying4 g5
      obtain ⟨u6, hu6⟩ := vl_cells (by simp) g6
      obtain ⟨u7, hu7⟩ := vl_cells (by simp) g7
      obtain ⟨s8, rfl, b8⟩ := str_of_trod g8 (fits_field (j := 8) hF hw rfl rfl)
      simp only [List.cons.injEq, and_true] at h11 h51 hu6 hu7
      obtain ⟨rfl, rfl⟩ := hu6
      obtain ⟨rfl, rfl⟩ := hu7
      subst h11 h51
      exact ⟨⟨s0, z1, s2, s3, s4, t5, u6, u7, s8⟩, rfl, b0, b2, b3, b4, b8⟩
theorem nds_of_trod {v : Value} {x : DataW H × List MemPlace} (h : DataW.trod enc Tryz.prog W 0 (fun _ => true) true n 22 [v] = some x) (hF : Fits x.1 22) : ∃ l, Sls encN W v l ∧ (∀ p ∈ l, NdR p) ∧ l.length ≤ 4398046511104 := by
  obtain ⟨l, h1, h2, h3⟩ := rows_of_trodb TN NdR (by kernel_rfl) (by kernel_rfl) (by decide) (fun _ _ _ hl h hF => nd_of_trod hl h hF) h hF
  refine ⟨l, h1, h2, ?_⟩
  replace h3 : l.length * 128 ≤ 140737488351232 := h3
  omega
end
end Go.Proofs.YtaffplmfnincfaaGreatDoor
