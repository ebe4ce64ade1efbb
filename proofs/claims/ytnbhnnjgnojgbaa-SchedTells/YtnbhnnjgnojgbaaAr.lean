/- Jobs, lists of jobs, times that came in. -/
import Derived.Test.YtnbhnnjgnojgbaaLv
import Derived.Deep.Slices
import Derived.ChangeArms
import Derived.ProofKit
import Derived.SizedLaws
namespace Go.Proofs.Ytnbhnnjgnojgbaa
set_option linter.unusedVariables false
open Go.RowKit Go.ChangeShapes Go.WideShapes Go.ChangeAt Go.Deep
def eIn : Enc Int where
  arr a := [.int .i64 a]
  d := 0
  k := 1
  len _ := rfl
  one _ u hu := by simp at hu; subst hu; rfl
  pos := by decide
def TI : RowTy eIn where
  st := 35
  et := 2
  z := .int .i64 0
  bytes := 8
  hu := Try.underlying35
  hi := by kernel_rfl
  hz := rfl
  hb := by decide
abbrev Ins := Sls eIn
theorem in_at {w : World} {a : Option Addr} {n c : Nat} {l : List Int} (h : Ins w (.slice a n c) l) (t : Nat) (ht : t < l.length) : ∃ b o, a = some ⟨b, o, none⟩ ∧ w.cell? ⟨b, o + t, none⟩ = some (.int .i64 (l.getD t 0)) := by
  obtain ⟨b, o, e, h⟩ := h.at t ht
  have := h 0 _ rfl
  rw [show t * eIn.k = t from Nat.mul_one t] at this
  exact ⟨b, o, e, this⟩
theorem in64_of {a : Int} (h : (Lit.int .i64 a).wf = true) : -9223372036854775808 ≤ a ∧ a ≤ 9223372036854775807 := by
  simp only [Lit.wf, Bool.and_eq_true, decide_eq_true_eq] at h
  exact h
/-- What is read is within the reach. -/
def Fits {H : Type} (d : DataW H) (t : TypeId) : Prop := ∀ q ∈ d.weights Try.prog t, q ≤ reachBytes
theorem weightsAll_in {H : Type} {P : Program} {e : TypeId} {d : DataW H} : ∀ {l : List (DataW H)}, d ∈ l → ∀ n ∈ d.weights P e, n ∈ DataW.weightsAll P e l
  | [], h, _, _ => by cases h
  | x :: r, h, n, hn => by
    simp only [DataW.weightsAll, List.mem_append]
    rcases List.mem_cons.1 h with rfl | h
    · exact .inl hn
    · exact .inr (weightsAll_in h n hn)
section
variable {H : Type} {enc : TypeId × Value → H} {W : World} {n : Nat}
theorem cells_at {b o k : Nat} {cs : List Value} (h : W.cells? 0 ⟨b, o, none⟩ k = some cs) : cs.length = k ∧ ∀ i u, cs[i]? = some u → W.cell? ⟨b, o + i, none⟩ = some u := by
  obtain ⟨_, hlen, hcell⟩ := World.cells?_some h
  refine ⟨hlen, fun i u hu => ?_⟩
  have hi : i < k := by
    rw [← hlen]
    rcases Nat.lt_or_ge i cs.length with h | h
    · exact h
    · rw [List.getElem?_eq_none h] at hu; cases hu
  have e := hcell i hi
  rw [add_at] at e
  rw [e]; exact hu
/-- A text. -/
theorem str_of_trod {v : Value} {x : DataW H × List MemPlace} (h : DataW.trod enc Try.prog W 0 (fun _ => true) true n 9 [v] = some x) (hF : Fits x.1 9) : ∃ s, v = .string s ∧ s.size ≤ reachBytes := by
  obtain ⟨s, e, hx, _⟩ := DataW.trod_string Try.underlying9 h
  simp at e
  refine ⟨s, e, ?_⟩
  exact hF s.size (by rw [hx]; simp [DataW.weights])
theorem fits_field {ts : List TypeId} {ds : List (DataW H)} {t : TypeId} {d : DataW H} {j st : Nat} {x : DataW H} (hF : Fits x st) (hx : ∀ q ∈ DataW.weightsEach Try.prog ts ds, q ∈ x.weights Try.prog st) (h1 : ts[j]? = some t) (h2 : ds[j]? = some d) : Fits d t := fun q hq => hF q (hx q (DataW.weights_mem_each h1 h2 q hq))

/-- A slice that came in, with its length's bound in bytes. -/
theorem rows_of_trodb {α : Type} {E : Enc α} (T : RowTy E) (good : α → Prop) (hk : Try.prog.cellsOf T.et = E.k) (hbt : Try.prog.bytesOf T.et = T.bytes) (hb0 : 0 < T.bytes)
    (elem : ∀ (m : Nat) (cs : List Value) (x : DataW H × List MemPlace), cs.length = E.k → DataW.trod enc Try.prog W 0 (fun _ => true) true m T.et cs = some x → Fits x.1 T.et → ∃ p, cs = E.arr p ∧ good p)
    {v : Value} {x : DataW H × List MemPlace} (h : DataW.trod enc Try.prog W 0 (fun _ => true) true n T.st [v] = some x) (hF : Fits x.1 T.st) : ∃ l, Sls E W v l ∧ (∀ p ∈ l, good p) ∧ l.length * T.bytes ≤ reachBytes := by
  rcases open_slice T.hu h with ⟨hcs, _⟩ | ⟨a, len, cap, m, k, D, Pl, hcs, _, hl, hm, hmm, hxx, hx⟩
  · simp at hcs
    subst hcs
    exact ⟨[], sls_nil _, (fun p hp => by cases hp), by simp⟩
  · simp at hcs hmm
    subst hcs hmm
    rw [hk] at hx
    have hlr : len * T.bytes ≤ reachBytes := by
      have := hF ((len + (m - len)) * Try.prog.bytesOf T.et) (by rw [hxx]; simp [DataW.weights, T.hu])
      rw [hbt] at this
      have h2 : len * T.bytes ≤ (len + (m - len)) * T.bytes := Nat.mul_le_mul_right _ (by omega)
      omega
    by_cases h0 : len = 0
    · subst h0
      exact ⟨[], ⟨some a, m, rfl, ⟨(fun e => by cases e), by simp⟩, .inl rfl⟩, (fun p hp => by cases hp), by simp⟩
    · obtain ⟨b, o, spot⟩ := a
      obtain ⟨cs0, hc0, _⟩ := hx 0 (by omega)
      obtain ⟨_, hlen0, hcell0⟩ := World.cells?_some hc0
      have hc00 := hcell0 0 E.pos
      rw [List.getElem?_eq_getElem (by rw [hlen0]; exact E.pos)] at hc00
      have hspot : spot = none := by simpa [Addr.add] using World.cell?_spot hc00
      subst hspot
      have hv : ∀ i, i < len → ∃ q : α, At E W b (o + i * E.k) q ∧ good q := fun i hi => by
        obtain ⟨cs, h1, h2⟩ := hx i (by omega)
        rw [add_at] at h1
        obtain ⟨hcl, hcc⟩ := cells_at h1
        obtain ⟨p, rfl, hg⟩ := elem _ _ _ hcl h2 (fun q hq => hF q (by
          rw [hxx]
          simp only [DataW.weights, T.hu, List.mem_cons, List.mem_append]
          exact .inr (.inl (weightsAll_in (List.mem_map.2 ⟨i, List.mem_range.2 hi, rfl⟩) q hq))))
        exact ⟨p, fun j u hu => hcc j u hu, hg⟩
      obtain ⟨q, hq⟩ : ∃ q : Nat → α, ∀ i, i < len → At E W b (o + i * E.k) (q i) ∧ good (q i) := by
        refine ⟨fun i => if hi : i < len then Classical.choose (hv i hi) else E.d, fun i hi => ?_⟩
        simp only [hi, dif_pos]
        exact Classical.choose_spec (hv i hi)
      refine ⟨(List.range len).map q, ⟨some ⟨b, o, none⟩, m, by simp, ⟨(fun e => by cases e), by simpa using hl⟩, .inr ⟨b, o, rfl, fun t ht => ?_⟩⟩, ?_, by simpa using hlr⟩
      · have ht' : t < len := by simpa using ht
        have eg : ((List.range len).map q).getD t E.d = q t := by simp [ht']
        rw [eg]
        exact (hq t ht').1
      · intro y hy
        obtain ⟨i, hi, rfl⟩ := List.mem_map.1 hy
        exact (hq i (List.mem_range.1 hi)).2
theorem int_of_trod {v : Value} {x : DataW H × List MemPlace} (h : DataW.trod enc Try.prog W 0 (fun _ => true) true n 3 [v] = some x) : ∃ a, v = .int .i64 a ∧ -9223372036854775808 ≤ a ∧ a ≤ 9223372036854775807 := by
  obtain ⟨a0, h01, _, h03⟩ := DataW.trod_int Try.underlying3 h
  simp at h01
  exact ⟨a0, h01, in64_of h03⟩
theorem int2_of_trod {v : Value} {x : DataW H × List MemPlace} (h : DataW.trod enc Try.prog W 0 (fun _ => true) true n 2 [v] = some x) : ∃ a, v = .int .i64 a ∧ -9223372036854775808 ≤ a ∧ a ≤ 9223372036854775807 := by
  obtain ⟨a0, h01, _, h03⟩ := DataW.trod_int Try.underlying2 h
  simp at h01
  exact ⟨a0, h01, in64_of h03⟩
/-- A number of 64 bits. -/
def I64 (n : Int) : Prop := -9223372036854775808 ≤ n ∧ n ≤ 9223372036854775807
/-- A job that came in. -/
def JobIn (j : Jb) : Prop := (j.fo.size ≤ 140737488351232 ∧ j.gr.size ≤ 140737488351232) ∧ I64 j.id ∧ I64 j.iv ∧ I64 j.off ∧ I64 j.la
theorem JobIn.sz {l : List Jb} (h : ∀ j ∈ l, JobIn j) : Szs l := fun j hj => by have := (h j hj).1; omega
set_option maxRecDepth 100000 in
theorem job_of_trod {cs : List Value} {x : DataW H × List MemPlace} (hl : cs.length = 7) (h : DataW.trod enc Try.prog W 0 (fun _ => true) true n 27 cs = some x) (hF : Fits x.1 27) : ∃ p : Jb, cs = eJb.arr p ∧ JobIn p := by
  match cs, hl with
  | [v0, v1, v2, v3, v4, v5, v6], _ =>
    obtain ⟨xs, k, _, hxx, _, hxl, hf⟩ := DataW.trod_struct Try.underlying27 h
    have g0 : DataW.trod enc Try.prog W 0 (fun _ => true) true k 9 (([v0, v1, v2, v3, v4, v5, v6].drop 0).take (Try.prog.cellsOf 9)) = xs[0]? := hf 0 _ rfl
    have g1 : DataW.trod enc Try.prog W 0 (fun _ => true) true k 9 (([v0, v1, v2, v3, v4, v5, v6].drop 1).take (Try.prog.cellsOf 9)) = xs[1]? := hf 1 _ rfl
    have g2 : DataW.trod enc Try.prog W 0 (fun _ => true) true k 2 (([v0, v1, v2, v3, v4, v5, v6].drop 2).take (Try.prog.cellsOf 2)) = xs[2]? := hf 2 _ rfl
    have g3 : DataW.trod enc Try.prog W 0 (fun _ => true) true k 2 (([v0, v1, v2, v3, v4, v5, v6].drop 3).take (Try.prog.cellsOf 2)) = xs[3]? := hf 3 _ rfl
    have g4 : DataW.trod enc Try.prog W 0 (fun _ => true) true k 2 (([v0, v1, v2, v3, v4, v5, v6].drop 4).take (Try.prog.cellsOf 2)) = xs[4]? := hf 4 _ rfl
    have g5 : DataW.trod enc Try.prog W 0 (fun _ => true) true k 4 (([v0, v1, v2, v3, v4, v5, v6].drop 5).take (Try.prog.cellsOf 4)) = xs[5]? := hf 5 _ rfl
    have g6 : DataW.trod enc Try.prog W 0 (fun _ => true) true k 2 (([v0, v1, v2, v3, v4, v5, v6].drop 6).take (Try.prog.cellsOf 2)) = xs[6]? := hf 6 _ rfl
    have k9 : Try.prog.cellsOf 9 = 1 := by kernel_rfl
    have k2 : Try.prog.cellsOf 2 = 1 := by kernel_rfl
    have k4 : Try.prog.cellsOf 4 = 1 := by kernel_rfl
    simp only [k9, k2, k4, List.drop_zero, List.drop_succ_cons, List.take_succ_cons, List.take_zero] at g0 g1 g2 g3 g4 g5 g6
    match xs, hxl with
    | [y0, y1, y2, y3, y4, y5, y6], _ =>
      simp at g0 g1 g2 g3 g4 g5 g6
      have hw : ∀ q ∈ DataW.weightsEach Try.prog [9, 9, 2, 2, 2, 4, 2] [y0.1, y1.1, y2.1, y3.1, y4.1, y5.1, y6.1], q ∈ x.1.weights Try.prog 27 := fun q hq => by
        rw [hxx]; simp only [DataW.weights, Try.underlying27]; exact hq
      obtain ⟨s0, rfl, b0⟩ := str_of_trod g0 (fits_field (j := 0) hF hw rfl rfl)
      obtain ⟨s1, rfl, b1⟩ := str_of_trod g1 (fits_field (j := 1) hF hw rfl rfl)
      obtain ⟨z2, rfl, b2⟩ := int2_of_trod g2
      obtain ⟨z3, rfl, b3⟩ := int2_of_trod g3
      obtain ⟨z4, rfl, b4⟩ := int2_of_trod g4
      obtain ⟨z5, e5, _⟩ := DataW.trod_bool Try.underlying4 g5
      obtain ⟨z6, rfl, b6⟩ := int2_of_trod g6
      obtain rfl : v5 = .bool z5 := by simpa using e5
      exact ⟨⟨s0, s1, z2, z3, z4, z5, z6⟩, rfl, ⟨b0, b1⟩, b2, b3, b4, b6⟩
set_option maxRecDepth 100000 in
theorem job_arg {v : Value} {b0 : Nat} {x : DataW H × List MemPlace} (hval : Value.okWide Try.prog W .any b0 27 v) (h : DataW.trod enc Try.prog W 0 (fun _ => true) true n 27 v.cells.toList = some x) (hF : Fits x.1 27) : ∃ j : Jb, v = encJ j ∧ JobIn j := by
  obtain ⟨cs, rfl, hs⟩ := okWide_struct Try.underlying27 hval
  have kk : Try.prog.cellsOf 27 = 7 := by kernel_rfl
  rw [kk] at hs
  obtain ⟨g, hcs, hp⟩ := job_of_trod (by simpa [Value.cells] using hs) h hF
  refine ⟨g, ?_, hp⟩
  simp only [Value.cells] at hcs
  unfold encJ
  congr 1
  apply Array.toList_inj.1
  rw [hcs]
  rfl
theorem jobs_of_trod {v : Value} {x : DataW H × List MemPlace} (h : DataW.trod enc Try.prog W 0 (fun _ => true) true n 22 [v] = some x) (hF : Fits x.1 22) : ∃ l, Jbs W v l ∧ (∀ p ∈ l, JobIn p) ∧ l.length ≤ 1954687338211 := by
  obtain ⟨l, h1, h2, h3⟩ := rows_of_trodb TJ JobIn (by kernel_rfl) (by kernel_rfl) (by decide) (fun _ _ _ hl h hF => job_of_trod hl h hF) h hF
  refine ⟨l, h1, h2, ?_⟩
  replace h3 : l.length * 72 ≤ 140737488351232 := h3
  omega
theorem in_of_trod {cs : List Value} {x : DataW H × List MemPlace} (hl : cs.length = 1) (h : DataW.trod enc Try.prog W 0 (fun _ => true) true n 2 cs = some x) : ∃ p : Int, cs = eIn.arr p ∧ I64 p := by
  match cs, hl with
  | [v0], _ =>
    obtain ⟨a, rfl, b⟩ := int2_of_trod h
    exact ⟨a, rfl, b⟩
theorem ints_of_trod {v : Value} {x : DataW H × List MemPlace} (h : DataW.trod enc Try.prog W 0 (fun _ => true) true n 35 [v] = some x) (hF : Fits x.1 35) : ∃ l, Ins W v l ∧ (∀ p ∈ l, I64 p) ∧ l.length ≤ 17592186043904 := by
  obtain ⟨l, h1, h2, h3⟩ := rows_of_trodb TI I64 (by kernel_rfl) (by kernel_rfl) (by decide) (fun _ _ _ hl h _ => in_of_trod hl h) h hF
  refine ⟨l, h1, h2, ?_⟩
  replace h3 : l.length * 8 ≤ 140737488351232 := h3
  omega
end
end Go.Proofs.Ytnbhnnjgnojgbaa
