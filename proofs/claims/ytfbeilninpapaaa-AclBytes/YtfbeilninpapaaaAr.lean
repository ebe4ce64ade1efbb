/- Users, grants, folders, bytes that came in, with the bounds of their lengths. -/
import Derived.Test.YtfbeilninpapaaaLw
import Derived.Deep.Slices
import Derived.Deep.Fields
import Derived.ChangeArms
import Derived.ProofKit
import Derived.SizedLaws
namespace Go.Proofs.Ytfbeilninpapaaa
set_option linter.unusedVariables false
open Go.RowKit Go.ChangeShapes Go.WideShapes Go.ChangeAt Go.Deep
theorem in64_of {a : Int} (h : (Lit.int .i64 a).wf = true) : -9223372036854775808 ≤ a ∧ a ≤ 9223372036854775807 := by
  simp only [Lit.wf, Bool.and_eq_true, decide_eq_true_eq] at h
  exact h
/-- What is read is within the reach. -/
def Fits {H : Type} (d : DataW H) (t : TypeId) : Prop := ∀ q ∈ d.weights Try.prog t, q ≤ reachBytes
theorem weightsAll_in {H : Type} {P : Program} {e : TypeId} {d : DataW H} : ∀ {l : List (DataW H)}, d ∈ l → ∀ n ∈ d.weights P e, n ∈ DataW.weightsAll P e l
  | [], h, _, _ => by cases h
  | x :: r, h, n, hn => by
    simp only [DataW.weightsAll, List.mem_append]
    rcases List.mem_cons.1 h with rfl | h
    · exact .inl hn
    · exact .inr (weightsAll_in h n hn)
section
variable {H : Type} {enc : TypeId × Value → H} {W : World} {n : Nat}
theorem cells_at {b o k : Nat} {cs : List Value} (h : W.cells? 0 ⟨b, o, none⟩ k = some cs) : cs.length = k ∧ ∀ i u, cs[i]? = some u → W.cell? ⟨b, o + i, none⟩ = some u := by
  obtain ⟨_, hlen, hcell⟩ := World.cells?_some h
  refine ⟨hlen, fun i u hu => ?_⟩
  have hi : i < k := by
    rw [← hlen]
    rcases Nat.lt_or_ge i cs.length with h | h
    · exact h
    · rw [List.getElem?_eq_none h] at hu; cases hu
  have e := hcell i hi
  rw [add_at] at e
  rw [e]; exact hu
/-- A text. -/
theorem str_of_trod {v : Value} {x : DataW H × List MemPlace} (h : DataW.trod enc Try.prog W 0 (fun _ => true) true n 9 [v] = some x) (hF : Fits x.1 9) : ∃ s, v = .string s ∧ s.size ≤ reachBytes := by
  obtain ⟨s, e, hx, _⟩ := DataW.trod_string Try.underlying9 h
  simp at e
  refine ⟨s, e, ?_⟩
  exact hF s.size (by rw [hx]; simp [DataW.weights])
theorem fits_field {ts : List TypeId} {ds : List (DataW H)} {t : TypeId} {d : DataW H} {j st : Nat} {x : DataW H} (hF : Fits x st) (hx : ∀ q ∈ DataW.weightsEach Try.prog ts ds, q ∈ x.weights Try.prog st) (h1 : ts[j]? = some t) (h2 : ds[j]? = some d) : Fits d t := fun q hq => hF q (hx q (DataW.weights_mem_each h1 h2 q hq))

/-- A slice that came in, with its length's bound in bytes. -/
theorem rows_of_trodb {α : Type} {E : Enc α} (T : RowTy E) (good : α → Prop) (hk : Try.prog.cellsOf T.et = E.k) (hbt : Try.prog.bytesOf T.et = T.bytes) (hb0 : 0 < T.bytes)
    (elem : ∀ (m : Nat) (cs : List Value) (x : DataW H × List MemPlace), cs.length = E.k → DataW.trod enc Try.prog W 0 (fun _ => true) true m T.et cs = some x → Fits x.1 T.et → ∃ p, cs = E.arr p ∧ good p)
    {v : Value} {x : DataW H × List MemPlace} (h : DataW.trod enc Try.prog W 0 (fun _ => true) true n T.st [v] = some x) (hF : Fits x.1 T.st) : ∃ l, Sls E W v l ∧ (∀ p ∈ l, good p) ∧ l.length * T.bytes ≤ reachBytes := by
  rcases open_slice T.hu h with ⟨hcs, _⟩ | ⟨a, len, cap, m, k, D, Pl, hcs, _, hl, hm, hmm, hxx, hx⟩
  · simp at hcs
    subst hcs
    exact ⟨[], sls_nil _, (fun p hp => by cases hp), by simp⟩
  · simp at hcs hmm
    subst hcs hmm
    rw [hk] at hx
    have hlr : len * T.bytes ≤ reachBytes := by
      have := hF ((len + (m - len)) * Try.prog.bytesOf T.et) (by rw [hxx]; simp [DataW.weights, T.hu])
      rw [hbt] at this
      have h2 : len * T.bytes ≤ (len + (m - len)) * T.bytes := Nat.mul_le_mul_right _ (by omega)
      omega
    by_cases h0 : len = 0
    · subst h0
      exact ⟨[], ⟨some a, m, rfl, ⟨(fun e => by cases e), by simp⟩, .inl rfl⟩, (fun p hp => by cases hp), by simp⟩
    · obtain ⟨b, o, spot⟩ := a
      obtain ⟨cs0, hc0, _⟩ := hx 0 (by omega)
      obtain ⟨_, hlen0, hcell0⟩ := World.cells?_some hc0
      have hc00 := hcell0 0 E.pos
      rw [List.getElem?_eq_getElem (by rw [hlen0]; exact E.pos)] at hc00
      have hspot : spot = none := by simpa [Addr.add] using World.cell?_spot hc00
      subst hspot
      have hv : ∀ i, i < len → ∃ q : α, At E W b (o + i * E.k) q ∧ good q := fun i hi => by
        obtain ⟨cs, h1, h2⟩ := hx i (by omega)
        rw [add_at] at h1
        obtain ⟨hcl, hcc⟩ := cells_at h1
        obtain ⟨p, rfl, hg⟩ := elem _ _ _ hcl h2 (fun q hq => hF q (by
          rw [hxx]
          simp only [DataW.weights, T.hu, List.mem_cons, List.mem_append]
          exact .inr (.inl (weightsAll_in (List.mem_map.2 ⟨i, List.mem_range.2 hi, rfl⟩) q hq))))
        exact ⟨p, fun j u hu => hcc j u hu, hg⟩
      obtain ⟨q, hq⟩ : ∃ q : Nat → α, ∀ i, i < len → At E W b (o + i * E.k) (q i) ∧ good (q i) := by
        refine ⟨fun i => if hi : i < len then Classical.choose (hv i hi) else E.d, fun i hi => ?_⟩
        simp only [hi, dif_pos]
        exact Classical.choose_spec (hv i hi)
      refine ⟨(List.range len).map q, ⟨some ⟨b, o, none⟩, m, by simp, ⟨(fun e => by cases e), by simpa using hl⟩, .inr ⟨b, o, rfl, fun t ht => ?_⟩⟩, ?_, by simpa using hlr⟩
      · have ht' : t < len := by simpa using ht
        have eg : ((List.range len).map q).getD t E.d = q t := by simp [ht']
        rw [eg]
        exact (hq t ht').1
      · intro y hy
        obtain ⟨i, hi, rfl⟩ := List.mem_map.1 hy
        exact (hq i (List.mem_range.1 hi)).2
theorem int_of_trod {v : Value} {x : DataW H × List MemPlace} (h : DataW.trod enc Try.prog W 0 (fun _ => true) true n 3 [v] = some x) : ∃ a, v = .int .i64 a ∧ -9223372036854775808 ≤ a ∧ a ≤ 9223372036854775807 := by
  obtain ⟨a0, h01, _, h03⟩ := DataW.trod_int Try.underlying3 h
  simp at h01
  exact ⟨a0, h01, in64_of h03⟩
theorem int2_of_trod {v : Value} {x : DataW H × List MemPlace} (h : DataW.trod enc Try.prog W 0 (fun _ => true) true n 2 [v] = some x) : ∃ a, v = .int .i64 a ∧ -9223372036854775808 ≤ a ∧ a ≤ 9223372036854775807 := by
  obtain ⟨a0, h01, _, h03⟩ := DataW.trod_int Try.underlying2 h
  simp at h01
  exact ⟨a0, h01, in64_of h03⟩
/-- A grant that came in. -/
def GrIn (g : Gr) : Prop := GrI g ∧ g.name.size ≤ 140737488351232
set_option maxRecDepth 100000 in
theorem gr_of_trod {cs : List Value} {x : DataW H × List MemPlace} (hl : cs.length = 3) (h : DataW.trod enc Try.prog W 0 (fun _ => true) true n 52 cs = some x) (hF : Fits x.1 52) : ∃ p : Gr, cs = eGr.arr p ∧ GrIn p := by
  match cs, hl with
  | [v0, v1, v2], _ =>
    obtain ⟨xs, k, _, hxx, _, hxl, hf⟩ := DataW.trod_struct Try.underlying52 h
    have g0 : DataW.trod enc Try.prog W 0 (fun _ => true) true k 3 (([v0, v1, v2].drop 0).take (Try.prog.cellsOf 3)) = xs[0]? := hf 0 _ rfl
    have g1 : DataW.trod enc Try.prog W 0 (fun _ => true) true k 9 (([v0, v1, v2].drop 1).take (Try.prog.cellsOf 9)) = xs[1]? := hf 1 _ rfl
    have g2 : DataW.trod enc Try.prog W 0 (fun _ => true) true k 3 (([v0, v1, v2].drop 2).take (Try.prog.cellsOf 3)) = xs[2]? := hf 2 _ rfl
    have k9 : Try.prog.cellsOf 9 = 1 := by kernel_rfl
    have k3 : Try.prog.cellsOf 3 = 1 := by kernel_rfl
    simp only [k9, k3, List.drop_zero, List.drop_succ_cons, List.take_succ_cons, List.take_zero] at g0 g1 g2
    match xs, hxl with
    | [y0, y1, y2], _ =>
      simp at g0 g1 g2
      have hw : ∀ q ∈ DataW.weightsEach Try.prog [3, 9, 3] [y0.1, y1.1, y2.1], q ∈ x.1.weights Try.prog 52 := fun q hq => by
        rw [hxx]; simp only [DataW.weights, Try.underlying52]; exact hq
      obtain ⟨z0, rfl, b0⟩ := int_of_trod g0
      obtain ⟨s1, rfl, b1⟩ := str_of_trod g1 (fits_field (j := 1) hF hw rfl rfl)
      obtain ⟨z2, rfl, b2⟩ := int_of_trod g2
      exact ⟨⟨z0, s1, z2⟩, rfl, ⟨b0, b2⟩, b1⟩
theorem tx_of_trod {cs : List Value} {x : DataW H × List MemPlace} (hl : cs.length = 1) (h : DataW.trod enc Try.prog W 0 (fun _ => true) true n 9 cs = some x) (hF : Fits x.1 9) : ∃ p : ByteArray, cs = eTx.arr p ∧ p.size ≤ 140737488351232 := by
  match cs, hl with
  | [v0], _ =>
    obtain ⟨s0, rfl, r0⟩ := str_of_trod h hF
    exact ⟨s0, rfl, r0⟩
theorem grs_of_trod {v : Value} {x : DataW H × List MemPlace} (h : DataW.trod enc Try.prog W 0 (fun _ => true) true n 25 [v] = some x) (hF : Fits x.1 25) : ∃ l, Grs W v l ∧ (∀ p ∈ l, GrIn p) ∧ l.length ≤ 4398046510976 := by
  obtain ⟨l, h1, h2, h3⟩ := rows_of_trodb TG GrIn (by kernel_rfl) (by kernel_rfl) (by decide) (fun _ _ _ hl h hF => gr_of_trod hl h hF) h hF
  refine ⟨l, h1, h2, ?_⟩
  replace h3 : l.length * 32 ≤ 140737488351232 := h3
  omega
theorem txs_of_trod {v : Value} {x : DataW H × List MemPlace} (h : DataW.trod enc Try.prog W 0 (fun _ => true) true n 22 [v] = some x) (hF : Fits x.1 22) : ∃ l, Txs W v l ∧ (∀ p ∈ l, ByteArray.size p ≤ 140737488351232) ∧ l.length ≤ 140737488351232 := by
  obtain ⟨l, h1, h2, h3⟩ := rows_of_trodb TS (fun p : ByteArray => p.size ≤ 140737488351232) (by kernel_rfl) (by kernel_rfl) (by decide) (fun _ _ _ hl h hF => tx_of_trod hl h hF) h hF
  refine ⟨l, h1, h2, ?_⟩
  replace h3 : l.length * 16 ≤ 140737488351232 := h3
  omega
/-- A user that came in. -/
def UsIn (W : World) (n r : ByteArray) (tv : Value) (ts : List ByteArray) : Prop := (n.size ≤ 140737488351232 ∧ r.size ≤ 140737488351232) ∧ Txs W tv ts ∧ (∀ p ∈ ts, ByteArray.size p ≤ 140737488351232) ∧ ts.length ≤ 140737488351232
set_option maxRecDepth 100000 in
theorem us_of_trod {cs : List Value} {x : DataW H × List MemPlace} (hl : cs.length = 3) (h : DataW.trod enc Try.prog W 0 (fun _ => true) true n 24 cs = some x) (hF : Fits x.1 24) : ∃ m r tv ts, cs = [.string m, .string r, tv] ∧ UsIn W m r tv ts := by
  match cs, hl with
  | [v0, v1, v2], _ =>
    obtain ⟨xs, k, _, hxx, _, hxl, hf⟩ := DataW.trod_struct Try.underlying24 h
    have g0 : DataW.trod enc Try.prog W 0 (fun _ => true) true k 9 (([v0, v1, v2].drop 0).take (Try.prog.cellsOf 9)) = xs[0]? := hf 0 _ rfl
    have g1 : DataW.trod enc Try.prog W 0 (fun _ => true) true k 9 (([v0, v1, v2].drop 1).take (Try.prog.cellsOf 9)) = xs[1]? := hf 1 _ rfl
    have g2 : DataW.trod enc Try.prog W 0 (fun _ => true) true k 22 (([v0, v1, v2].drop 2).take (Try.prog.cellsOf 22)) = xs[2]? := hf 2 _ rfl
    have k9 : Try.prog.cellsOf 9 = 1 := by kernel_rfl
    have k22 : Try.prog.cellsOf 22 = 1 := by kernel_rfl
    simp only [k9, k22, List.drop_zero, List.drop_succ_cons, List.take_succ_cons, List.take_zero] at g0 g1 g2
    match xs, hxl with
    | [y0, y1, y2], _ =>
      simp at g0 g1 g2
      have hw : ∀ q ∈ DataW.weightsEach Try.prog [9, 9, 22] [y0.1, y1.1, y2.1], q ∈ x.1.weights Try.prog 24 := fun q hq => by
        rw [hxx]; simp only [DataW.weights, Try.underlying24]; exact hq
      obtain ⟨s0, rfl, b0⟩ := str_of_trod g0 (fits_field (j := 0) hF hw rfl rfl)
      obtain ⟨s1, rfl, b1⟩ := str_of_trod g1 (fits_field (j := 1) hF hw rfl rfl)
      obtain ⟨l, h1, h2, h3⟩ := txs_of_trod g2 (fits_field (j := 2) hF hw rfl rfl)
      exact ⟨s0, s1, v2, l, rfl, ⟨b0, b1⟩, h1, h2, h3⟩
set_option maxRecDepth 100000 in
theorem us_arg {v : Value} {b0 : Nat} {x : DataW H × List MemPlace} (hval : Value.okWide Try.prog W .any b0 24 v) (h : DataW.trod enc Try.prog W 0 (fun _ => true) true n 24 v.cells.toList = some x) (hF : Fits x.1 24) :
    ∃ m r tv ts, v = .agg #[.string m, .string r, tv] ∧ UsIn W m r tv ts := by
  obtain ⟨cs, rfl, hs⟩ := okWide_struct Try.underlying24 hval
  have k24 : Try.prog.cellsOf 24 = 3 := by kernel_rfl
  rw [k24] at hs
  obtain ⟨m, r, tv, ts, hcs, hp⟩ := us_of_trod (by simpa [Value.cells] using hs) h hF
  refine ⟨m, r, tv, ts, ?_, hp⟩
  simp only [Value.cells] at hcs
  congr 1
  apply Array.toList_inj.1
  rw [hcs]
set_option maxRecDepth 100000 in
theorem gr_arg {v : Value} {b0 : Nat} {x : DataW H × List MemPlace} (hval : Value.okWide Try.prog W .any b0 52 v) (h : DataW.trod enc Try.prog W 0 (fun _ => true) true n 52 v.cells.toList = some x) (hF : Fits x.1 52) :
    ∃ g : Gr, v = .agg #[.int .i64 g.kind, .string g.name, .int .i64 g.level] ∧ GrIn g := by
  obtain ⟨cs, rfl, hs⟩ := okWide_struct Try.underlying52 hval
  have k52 : Try.prog.cellsOf 52 = 3 := by kernel_rfl
  rw [k52] at hs
  obtain ⟨g, hcs, hp⟩ := gr_of_trod (by simpa [Value.cells] using hs) h hF
  refine ⟨g, ?_, hp⟩
  simp only [Value.cells] at hcs
  congr 1
  apply Array.toList_inj.1
  rw [hcs]
  rfl
/-- A folder that came in. -/
def FoIn (W : World) (m : ByteArray) (gv : Value) (l : List Gr) (x : Int) : Prop := m.size ≤ 140737488351232 ∧ (Grs W gv l ∧ (∀ p ∈ l, GrIn p) ∧ l.length ≤ 4398046510976) ∧ -9223372036854775808 ≤ x ∧ x ≤ 9223372036854775807
set_option maxRecDepth 100000 in
theorem fo_of_trod {cs : List Value} {x : DataW H × List MemPlace} (hl : cs.length = 3) (h : DataW.trod enc Try.prog W 0 (fun _ => true) true n 39 cs = some x) (hF : Fits x.1 39) : ∃ m gv l z, cs = [.string m, gv, .int .i64 z] ∧ FoIn W m gv l z := by
  match cs, hl with
  | [v0, v1, v2], _ =>
    obtain ⟨xs, k, _, hxx, _, hxl, hf⟩ := DataW.trod_struct Try.underlying39 h
    have g0 : DataW.trod enc Try.prog W 0 (fun _ => true) true k 9 (([v0, v1, v2].drop 0).take (Try.prog.cellsOf 9)) = xs[0]? := hf 0 _ rfl
    have g1 : DataW.trod enc Try.prog W 0 (fun _ => true) true k 25 (([v0, v1, v2].drop 1).take (Try.prog.cellsOf 25)) = xs[1]? := hf 1 _ rfl
    have g2 : DataW.trod enc Try.prog W 0 (fun _ => true) true k 2 (([v0, v1, v2].drop 2).take (Try.prog.cellsOf 2)) = xs[2]? := hf 2 _ rfl
    have k9 : Try.prog.cellsOf 9 = 1 := by kernel_rfl
    have k25 : Try.prog.cellsOf 25 = 1 := by kernel_rfl
    have k2 : Try.prog.cellsOf 2 = 1 := by kernel_rfl
    simp only [k9, k25, k2, List.drop_zero, List.drop_succ_cons, List.take_succ_cons, List.take_zero] at g0 g1 g2
    match xs, hxl with
    | [y0, y1, y2], _ =>
      simp at g0 g1 g2
      have hw : ∀ q ∈ DataW.weightsEach Try.prog [9, 25, 2] [y0.1, y1.1, y2.1], q ∈ x.1.weights Try.prog 39 := fun q hq => by
        rw [hxx]; simp only [DataW.weights, Try.underlying39]; exact hq
      obtain ⟨s0, rfl, b0⟩ := str_of_trod g0 (fits_field (j := 0) hF hw rfl rfl)
      obtain ⟨l, h1, h2, h3⟩ := grs_of_trod g1 (fits_field (j := 1) hF hw rfl rfl)
      obtain ⟨z2, rfl, b2⟩ := int2_of_trod g2
      exact ⟨s0, v1, l, z2, rfl, b0, ⟨h1, h2, h3⟩, b2⟩
set_option maxRecDepth 100000 in
theorem fo_arg {v : Value} {b0 : Nat} {x : DataW H × List MemPlace} (hval : Value.okWide Try.prog W .any b0 39 v) (h : DataW.trod enc Try.prog W 0 (fun _ => true) true n 39 v.cells.toList = some x) (hF : Fits x.1 39) :
    ∃ m gv l z, v = .agg #[.string m, gv, .int .i64 z] ∧ FoIn W m gv l z := by
  obtain ⟨cs, rfl, hs⟩ := okWide_struct Try.underlying39 hval
  have k39 : Try.prog.cellsOf 39 = 3 := by kernel_rfl
  rw [k39] at hs
  obtain ⟨m, gv, l, z, hcs, hp⟩ := fo_of_trod (by simpa [Value.cells] using hs) h hF
  refine ⟨m, gv, l, z, ?_, hp⟩
  simp only [Value.cells] at hcs
  congr 1
  apply Array.toList_inj.1
  rw [hcs]
end
end Go.Proofs.Ytfbeilninpapaaa
