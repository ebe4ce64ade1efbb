/- BTh; BSl; BAr; BSu; BFm; BFu. -/
import Derived.Test.YtiajafljgfpdcaaGreatBLv
import Derived.Deep.Slices
import Derived.Deep.Fields
import Derived.ChangeArms
import Derived.ProofKit
import Derived.SizedLaws
/- there, state. -/
namespace Go.Proofs.YtiajafljgfpdcaaGreat
set_option linter.unusedVariables false
open Go.RowKit
/-- The state of labels on a board. -/
def stF (l : List En) (ls : List Lb) : Int := match l.find? (fun e => decide (e.ls = ls)) with | some e => e.x.st | none => 1
def thF (l : List En) (ls : List Lb) : Prop := ∃ e ∈ l, e.ls = ls
def ThQ (l : List En) (ls : List Lb) (w : World) (e : Ending) (w' : World) : Prop := ∃ b, e = .returned (.bool b) ∧ (b = true ↔ thF l ls) ∧ Below w.heap.size w w'
theorem found_at {l : List En} {ls : List Lb} {k : Nat} (hk : k < l.length) (h : ∀ e ∈ l.take k, e.ls ≠ ls) (he : (l.getD k en0).ls = ls) : stF l ls = (l.getD k en0).x.st ∧ thF l ls := by
  refine ⟨?_, _, getD_mem l en0 k hk, he⟩
  have hs : l = l.take k ++ (l.getD k en0 :: l.drop (k + 1)) := by
    have h1 : l.getD k en0 = l[k] := by simp [hk]
    rw [h1, ← List.drop_eq_getElem_cons hk, List.take_append_drop]
  have hn : (l.take k).find? (fun e => decide (e.ls = ls)) = none := by
    rw [List.find?_eq_none]
    intro e he2; simpa using h e he2
  have hf : l.find? (fun e => decide (e.ls = ls)) = some (l.getD k en0) := by
    conv => lhs; rw [hs]
    rw [List.find?_append, hn, List.find?_cons_of_pos (by simpa using he)]
    rfl
  unfold stF
  rw [hf]
theorem found_no {l : List En} {ls : List Lb} (h : ∀ e ∈ l, e.ls ≠ ls) : stF l ls = 1 ∧ ¬ thF l ls := by
  refine ⟨?_, fun ⟨e, he, h2⟩ => h e he h2⟩
  have hf : l.find? (fun e => decide (e.ls = ls)) = none := by
    rw [List.find?_eq_none]
    intro e he2; simpa using h e he2
  unfold stF
  rw [hf]
set_option maxRecDepth 100000 in
set_option maxHeartbeats 4000000 in
theorem there28 (u v : Value) (l : List En) (ls : List Lb) (w : World) (hu : Ens w u l) (hv : Lbs w v ls) (hl : l.length ≤ 1000000) (hll : ∀ e ∈ l, e.ls.length ≤ 100000) (hvl : ls.length ≤ 100000) :
    Calls Tryz.prog 28 #[u, v] w fun e w' => ThQ l ls w e w' := by
  obtain ⟨a, c, rfl⟩ := hu.1.shape
  obtain ⟨a2, c2, rfl⟩ := hv.shape
  obtain ⟨n2, hn2⟩ : ∃ n2, n2 = ls.length := ⟨_, rfl⟩
  rw [← hn2] at hv ⊢
  replace hn2 : Hid _ := hn2
  replace hv : Hid (Lbs w (.slice a2 n2 c2) ls) := hv
  go_enter Tryz.func28, Tryz.ntmps28
  go_wp2
  go_loopw [5] (fun i wr => ∃ k : Nat, k ≤ l.length ∧ i = .int .i64 k ∧ Hid (∀ e ∈ l.take k, e.ls ≠ ls) ∧ Hid (Below w.heap.size w wr)) (fun i _ => l.length - (intOf i).toNat)
  case atStart => exact ⟨0, Nat.zero_le _, rfl, (show ∀ e ∈ l.take 0, e.ls ≠ ls by simp), Below.refl _ _⟩
  case round =>
    obtain ⟨k, hk, rfl, hG, hB⟩ := hrel
    by_cases hlt : k < l.length
    · have hki : (k : Int) < (l.length : Int) := by omega
      obtain ⟨b1, o1, rfl, hat1⟩ := en_at (Sls.grow hu.1 hB.out) k hlt
      obtain ⟨x0, x1, x2, x3, x4, x5, x6, x7⟩ := at_en hat1
      have hm1 := getD_mem l en0 k hlt
      have hs := same_any (l.getD k en0).sv.v (.slice a2 n2 c2) _ _ wr (Sls.grow (hu.2 _ hm1) hB.out) (Sls.grow hv.out hB.out) (by have := hll _ hm1; omega) (by omega)
      have hstep : Hid ((l.getD k en0).ls ≠ ls → ∀ e ∈ l.take (k + 1), e.ls ≠ ls) := fun h e he => by
        rw [take_getD l en0 k hlt] at he
        rcases List.mem_append.1 he with he | he
        · exact hG.out e he
        · rw [List.mem_singleton.1 he]; exact h
      have hyes : Hid ((l.getD k en0).ls = ls → _) := fun h => found_at hlt hG.out h
      have y1 : ∀ W, Below wr.heap.size wr W → W.cell? ⟨b1, o1 + k * 8 + 1, none⟩ = some (.int .i64 (l.getD k en0).x.st) := fun W hW => (hW.cell (p := ⟨b1, o1 + k * 8 + 1, none⟩) (World.block_lt_of_cell? wr _ x1)).trans x1
      clear hat1 hm1
      generalize l.getD k en0 = e at *
      obtain ⟨⟨ea, en, ec⟩, els, ⟨st, since, fr, quiet, seen, vk, vn⟩⟩ := e
      unfold Sv.v at hs
      simp only at *
      by_cases hls : els = ls
      · have hR := hyes.out hls
        replace hR : Hid _ := hR
        have hs3 : Calls Tryz.prog 45 #[.slice ea en ec, .slice a2 n2 c2] wr fun e' w' => e' = .returned (.bool true) ∧ Below wr.heap.size wr w' := hs.mono (by rintro e w' ⟨B, rfl, hB, hb⟩; exact ⟨by rw [hB.2 hls], hb⟩)
        clear hs hyes hstep hls
        go_wp2_with (first | (go_at_call 45; refine hs3.mono ?_; rintro e w5 ⟨rfl, hb5⟩; have y15 := y1 w5 hb5; have hB5 : Hid (Below w.heap.size w w5) := hB.out.trans (hb5.mono hB.out.size)))
        go_ret
        exact ⟨true, rfl, ⟨fun _ => hR.out.2, fun _ => rfl⟩, hB5.out⟩
      · have hs3 : Calls Tryz.prog 45 #[.slice ea en ec, .slice a2 n2 c2] wr fun e' w' => e' = .returned (.bool false) ∧ Below wr.heap.size wr w' := hs.mono (by rintro e w' ⟨B, rfl, hB, hb⟩; exact ⟨by rw [show B = false from (by cases B with | false => rfl | true => exact absurd (hB.1 rfl) hls)], hb⟩)
        have hG2 := hstep.out hls
        replace hG2 : Hid _ := hG2
        clear hs hyes hstep hls
        go_wp2_with (first | (go_at_call 45; refine hs3.mono ?_; rintro e w5 ⟨rfl, hb5⟩; have hB5 : Hid (Below w.heap.size w w5) := hB.out.trans (hb5.mono hB.out.size)))
        refine ⟨⟨k + 1, by omega, by go_num, hG2.out, hB5.out⟩, ?_⟩
        simp [intOf]; omega
    · obtain rfl : k = l.length := by omega
      have hki : ¬ (l.length : Int) < (l.length : Int) := by omega
      have hE : Hid (∀ e ∈ l, e.ls ≠ ls) := by
        have := hG.out
        rwa [List.take_length] at this
      go_wp2
      go_ret
      exact ⟨false, rfl, ⟨(fun h => by cases h), fun h => absurd h (found_no hE.out).2⟩, hB.out⟩
set_option maxRecDepth 100000 in
set_option maxHeartbeats 4000000 in
theorem state26 (u v : Value) (l : List En) (ls : List Lb) (w : World) (hu : Ens w u l) (hv : Lbs w v ls) (hl : l.length ≤ 1000000) (hll : ∀ e ∈ l, e.ls.length ≤ 100000) (hvl : ls.length ≤ 100000) :
    Calls Tryz.prog 26 #[u, v] w fun e w' => e = .returned (.int .i64 (stF l ls)) ∧ Below w.heap.size w w' := by
  obtain ⟨a, c, rfl⟩ := hu.1.shape
  obtain ⟨a2, c2, rfl⟩ := hv.shape
  obtain ⟨n2, hn2⟩ : ∃ n2, n2 = ls.length := ⟨_, rfl⟩
  rw [← hn2] at hv ⊢
  replace hn2 : Hid _ := hn2
  replace hv : Hid (Lbs w (.slice a2 n2 c2) ls) := hv
  go_enter Tryz.func26, Tryz.ntmps26
  go_wp2
  go_loopw [5] (fun i wr => ∃ k : Nat, k ≤ l.length ∧ i = .int .i64 k ∧ Hid (∀ e ∈ l.take k, e.ls ≠ ls) ∧ Hid (Below w.heap.size w wr)) (fun i _ => l.length - (intOf i).toNat)
  case atStart => exact ⟨0, Nat.zero_le _, rfl, (show ∀ e ∈ l.take 0, e.ls ≠ ls by simp), Below.refl _ _⟩
  case round =>
    obtain ⟨k, hk, rfl, hG, hB⟩ := hrel
    by_cases hlt : k < l.length
    · have hki : (k : Int) < (l.length : Int) := by omega
      obtain ⟨b1, o1, rfl, hat1⟩ := en_at (Sls.grow hu.1 hB.out) k hlt
      obtain ⟨x0, x1, x2, x3, x4, x5, x6, x7⟩ := at_en hat1
      have hm1 := getD_mem l en0 k hlt
      have hs := same_any (l.getD k en0).sv.v (.slice a2 n2 c2) _ _ wr (Sls.grow (hu.2 _ hm1) hB.out) (Sls.grow hv.out hB.out) (by have := hll _ hm1; omega) (by omega)
      have hstep : Hid ((l.getD k en0).ls ≠ ls → ∀ e ∈ l.take (k + 1), e.ls ≠ ls) := fun h e he => by
        rw [take_getD l en0 k hlt] at he
        rcases List.mem_append.1 he with he | he
        · exact hG.out e he
        · rw [List.mem_singleton.1 he]; exact h
      have hyes : Hid ((l.getD k en0).ls = ls → _) := fun h => found_at hlt hG.out h
      have y1 : ∀ W, Below wr.heap.size wr W → W.cell? ⟨b1, o1 + k * 8 + 1, none⟩ = some (.int .i64 (l.getD k en0).x.st) := fun W hW => (hW.cell (p := ⟨b1, o1 + k * 8 + 1, none⟩) (World.block_lt_of_cell? wr _ x1)).trans x1
      clear hat1 hm1
      generalize l.getD k en0 = e at *
      obtain ⟨⟨ea, en, ec⟩, els, ⟨st, since, fr, quiet, seen, vk, vn⟩⟩ := e
      unfold Sv.v at hs
      simp only at *
      by_cases hls : els = ls
      · have hR := hyes.out hls
        replace hR : Hid _ := hR
        have hs3 : Calls Tryz.prog 45 #[.slice ea en ec, .slice a2 n2 c2] wr fun e' w' => e' = .returned (.bool true) ∧ Below wr.heap.size wr w' := hs.mono (by rintro e w' ⟨B, rfl, hB, hb⟩; exact ⟨by rw [hB.2 hls], hb⟩)
        clear hs hyes hstep hls
        go_wp2_with (first | (go_at_call 45; refine hs3.mono ?_; rintro e w5 ⟨rfl, hb5⟩; have y15 := y1 w5 hb5; have hB5 : Hid (Below w.heap.size w w5) := hB.out.trans (hb5.mono hB.out.size)))
        go_ret
        exact ⟨by rw [hR.out.1]; rfl, hB5.out⟩
      · have hs3 : Calls Tryz.prog 45 #[.slice ea en ec, .slice a2 n2 c2] wr fun e' w' => e' = .returned (.bool false) ∧ Below wr.heap.size wr w' := hs.mono (by rintro e w' ⟨B, rfl, hB, hb⟩; exact ⟨by rw [show B = false from (by cases B with | false => rfl | true => exact absurd (hB.1 rfl) hls)], hb⟩)
        have hG2 := hstep.out hls
        replace hG2 : Hid _ := hG2
        clear hs hyes hstep hls
        go_wp2_with (first | (go_at_call 45; refine hs3.mono ?_; rintro e w5 ⟨rfl, hb5⟩; have hB5 : Hid (Below w.heap.size w w5) := hB.out.trans (hb5.mono hB.out.size)))
        refine ⟨⟨k + 1, by omega, by go_num, hG2.out, hB5.out⟩, ?_⟩
        simp [intOf]; omega
    · obtain rfl : k = l.length := by omega
      have hki : ¬ (l.length : Int) < (l.length : Int) := by omega
      have hE : Hid (∀ e ∈ l, e.ls ≠ ls) := by
        have := hG.out
        rwa [List.take_length] at this
      go_wp2
      go_ret
      exact ⟨by rw [(found_no hE.out).1]; rfl, hB.out⟩
end Go.Proofs.YtiajafljgfpdcaaGreat
/- BoardStale: the mathematics. -/
namespace Go.Proofs.YtiajafljgfpdcaaGreat
set_option linter.unusedVariables false
open Go.RowKit
def hY : List Lb := [⟨⟨#[104]⟩, ⟨#[50]⟩⟩]
theorem hY_set : IsSet hY := by
  refine ⟨?_, ?_, by decide⟩
  · intro a ha
    have : a = ⟨⟨#[104]⟩, ⟨#[50]⟩⟩ := by simpa [hY] using ha
    subst this
    refine ⟨⟨by decide, ?_⟩, by decide⟩
    intro k hk
    have : k = 0 := by simp [numsS] at hk; omega
    subst this
    rfl
  · exact List.pairwise_singleton _ _
theorem cmp_YX : cmpS hY hX = 1 := by decide
theorem cmp_XY : cmpS hX hY = -1 := by decide
theorem cmp_YY : cmpS hY hY = 0 := by decide
theorem ne_XY : hX ≠ hY := by decide
theorem mk_X : mkF (withL hX []) = (hX, 0) := by rw [withL_nil]; exact mkF_of hX_set.make
theorem mk_Y : mkF (withL hY []) = (hY, 0) := by rw [withL_nil]; exact mkF_of hY_set.make
/-- x's instance by its kind; y's at a moment. -/
def xK (kind : Int) : S.Inst := if kind = 2 then xA else ⟨1, 0, -1, -1, 0, 1, 1⟩
def yN (now : Int) : S.Inst := ⟨1, 0, -1, -1, now, 1, 0⟩
theorem step_xK (kind : Int) (h : kind = 1 ∨ kind = 2) : S.stepI (S.newI 0) hH kind 1 1 0 = xK kind := by
  rcases h with rfl | rfl <;> decide
theorem step_y0 : S.stepI (S.newI 0) hH 1 1 0 0 = yN 0 := by decide
theorem step_y (a b : Int) : S.stepI (yN a) hH 1 1 0 b = yN b := by
  unfold S.stepI yN
  simp [S.meansI, S.moveI, S.calmI, S.comeI]
def rX (kind : Int) : Rt := ⟨hX, kind, 1, 1⟩
def rY : Rt := ⟨hY, 1, 1, 0⟩
theorem stale0 (kind : Int) (h : kind = 1 ∨ kind = 2) : heardL hH [] 0 [rX kind, rY] [] = [⟨hX, xK kind, 1, true⟩, ⟨hY, yN 0, 1, true⟩] := by
  unfold heardL
  simp [allB, hearL, rX, rY, mk_X, mk_Y, getG, putG, stpA, newA, step_xK kind h, step_y0, cmp_YX, ne_XY]
theorem stale1 (kind a b : Int) : heardL hH [] b [rY] [(hX, xK kind), (hY, yN a)] = [⟨hX, xK kind, (xK kind).st, false⟩, ⟨hY, yN b, 1, true⟩] := by
  unfold heardL
  simp [allB, hearL, rY, mk_Y, getG, putG, stpA, beginA, step_y, cmp_YX, ne_XY, show hY ≠ [] by decide, show (yN a).st = 1 from rfl]
  exact fun h => absurd cmp_YY h
theorem stale2 (a b : Int) : heardL hH [] b [rY] [(hY, yN a)] = [⟨hY, yN b, 1, true⟩] := by
  unfold heardL
  simp [allB, hearL, rY, mk_Y, getG, putG, stpA, beginA, step_y, cmp_YY, show hY ≠ [] by decide, show (yN a).st = 1 from rfl]
end Go.Proofs.YtiajafljgfpdcaaGreat
/- What came in. -/
namespace Go.Proofs.YtiajafljgfpdcaaGreat
set_option linter.unusedVariables false
open Go.RowKit Go.ChangeShapes Go.WideShapes Go.ChangeAt Go.Deep
theorem in64_of {a : Int} (h : (Lit.int .i64 a).wf = true) : -9223372036854775808 ≤ a ∧ a ≤ 9223372036854775807 := by
  simp only [Lit.wf, Bool.and_eq_true, decide_eq_true_eq] at h
  exact h
/-- What is read is within the reach. -/
def Fits {H : Type} (d : DataW H) (t : TypeId) : Prop := ∀ q ∈ d.weights Tryz.prog t, q ≤ reachBytes
theorem weightsAll_in {H : Type} {P : Program} {e : TypeId} {d : DataW H} : ∀ {l : List (DataW H)}, d ∈ l → ∀ n ∈ d.weights P e, n ∈ DataW.weightsAll P e l
  | [], h, _, _ => by cases h
  | x :: r, h, n, hn => by
    simp only [DataW.weightsAll, List.mem_append]
    rcases List.mem_cons.1 h with rfl | h
    · exact .inl hn
    · exact .inr (weightsAll_in h n hn)
section
variable {H : Type} {enc : TypeId × Value → H} {W : World} {n : Nat}
theorem cells_at {b o k : Nat} {cs : List Value} (h : W.cells? 0 ⟨b, o, none⟩ k = some cs) : cs.length = k ∧ ∀ i u, cs[i]? = some u → W.cell? ⟨b, o + i, none⟩ = some u := by
  obtain ⟨_, hlen, hcell⟩ := World.cells?_some h
  refine ⟨hlen, fun i u hu => ?_⟩
  have hi : i < k := by
    rw [← hlen]
    rcases Nat.lt_or_ge i cs.length with h | h
    · exact h
    · rw [List.getElem?_eq_none h] at hu; cases hu
  have e := hcell i hi
  rw [add_at] at e
  rw [e]; exact hu
theorem fits_field {ts : List TypeId} {ds : List (DataW H)} {t : TypeId} {d : DataW H} {j st : Nat} {x : DataW H} (hF : Fits x st) (hx : ∀ q ∈ DataW.weightsEach Tryz.prog ts ds, q ∈ x.weights Tryz.prog st) (h1 : ts[j]? = some t) (h2 : ds[j]? = some d) : Fits d t := fun q hq => hF q (hx q (DataW.weights_mem_each h1 h2 q hq))

/-- A slice that came in, with its length's bound in bytes. -/
theorem rows_of_trodb {α : Type} {E : Enc α} (T : RowTy E) (good : α → Prop) (hk : Tryz.prog.cellsOf T.et = E.k) (hbt : Tryz.prog.bytesOf T.et = T.bytes) (hb0 : 0 < T.bytes)
    (elem : ∀ (m : Nat) (cs : List Value) (x : DataW H × List MemPlace), cs.length = E.k → DataW.trod enc Tryz.prog W 0 (fun _ => true) true m T.et cs = some x → Fits x.1 T.et → ∃ p, cs = E.arr p ∧ good p)
    {v : Value} {x : DataW H × List MemPlace} (h : DataW.trod enc Tryz.prog W 0 (fun _ => true) true n T.st [v] = some x) (hF : Fits x.1 T.st) : ∃ l, Sls E W v l ∧ (∀ p ∈ l, good p) ∧ l.length * T.bytes ≤ reachBytes := by
  rcases open_slice T.hu h with ⟨hcs, _⟩ | ⟨a, len, cap, m, k, D, Pl, hcs, _, hl, hm, hmm, hxx, hx⟩
  · simp at hcs
    subst hcs
    exact ⟨[], sls_nil _, (fun p hp => by cases hp), by simp⟩
  · simp at hcs hmm
    subst hcs hmm
    rw [hk] at hx
    have hlr : len * T.bytes ≤ reachBytes := by
      have := hF ((len + (m - len)) * Tryz.prog.bytesOf T.et) (by rw [hxx]; simp [DataW.weights, T.hu])
      rw [hbt] at this
      have h2 : len * T.bytes ≤ (len + (m - len)) * T.bytes := Nat.mul_le_mul_right _ (by omega)
      omega
    by_cases h0 : len = 0
    · subst h0
      exact ⟨[], ⟨some a, m, rfl, ⟨(fun e => by cases e), by simp⟩, .inl rfl⟩, (fun p hp => by cases hp), by simp⟩
    · obtain ⟨b, o, spot⟩ := a
      obtain ⟨cs0, hc0, _⟩ := hx 0 (by omega)
      obtain ⟨_, hlen0, hcell0⟩ := World.cells?_some hc0
      have hc00 := hcell0 0 E.pos
      rw [List.getElem?_eq_getElem (by rw [hlen0]; exact E.pos)] at hc00
      have hspot : spot = none := by simpa [Addr.add] using World.cell?_spot hc00
      subst hspot
      have hv : ∀ i, i < len → ∃ q : α, At E W b (o + i * E.k) q ∧ good q := fun i hi => by
        obtain ⟨cs, h1, h2⟩ := hx i (by omega)
        rw [add_at] at h1
        obtain ⟨hcl, hcc⟩ := cells_at h1
        obtain ⟨p, rfl, hg⟩ := elem _ _ _ hcl h2 (fun q hq => hF q (by
          rw [hxx]
          simp only [DataW.weights, T.hu, List.mem_cons, List.mem_append]
          exact .inr (.inl (weightsAll_in (List.mem_map.2 ⟨i, List.mem_range.2 hi, rfl⟩) q hq))))
        exact ⟨p, fun j u hu => hcc j u hu, hg⟩
      obtain ⟨q, hq⟩ : ∃ q : Nat → α, ∀ i, i < len → At E W b (o + i * E.k) (q i) ∧ good (q i) := by
        refine ⟨fun i => if hi : i < len then Classical.choose (hv i hi) else E.d, fun i hi => ?_⟩
        simp only [hi, dif_pos]
        exact Classical.choose_spec (hv i hi)
      refine ⟨(List.range len).map q, ⟨some ⟨b, o, none⟩, m, by simp, ⟨(fun e => by cases e), by simpa using hl⟩, .inr ⟨b, o, rfl, fun t ht => ?_⟩⟩, ?_, by simpa using hlr⟩
      · have ht' : t < len := by simpa using ht
        have eg : ((List.range len).map q).getD t E.d = q t := by simp [ht']
        rw [eg]
        exact (hq t ht').1
      · intro y hy
        obtain ⟨i, hi, rfl⟩ := List.mem_map.1 hy
        exact (hq i (List.mem_range.1 hi)).2
namespace S
/-- A slice that came in, with its length's bound in bytes. -/
theorem rows_of_trodb {α : Type} {E : Enc α} (T : RowTy E) (good : α → Prop) (hk : Tryz.prog.cellsOf T.et = E.k) (hbt : Tryz.prog.bytesOf T.et = T.bytes) (hb0 : 0 < T.bytes)
    (elem : ∀ (m : Nat) (cs : List Value) (x : DataW H × List MemPlace), cs.length = E.k → DataW.trod enc Tryz.prog W 0 (fun _ => true) true m T.et cs = some x → Fits x.1 T.et → ∃ p, cs = E.arr p ∧ good p)
    {v : Value} {x : DataW H × List MemPlace} (h : DataW.trod enc Tryz.prog W 0 (fun _ => true) true n T.st [v] = some x) (hF : Fits x.1 T.st) : ∃ l, Sls E W v l ∧ (∀ p ∈ l, good p) ∧ l.length * T.bytes ≤ reachBytes := by
  rcases open_slice T.hu h with ⟨hcs, _⟩ | ⟨a, len, cap, m, k, D, Pl, hcs, _, hl, hm, hmm, hxx, hx⟩
  · simp at hcs
    subst hcs
    exact ⟨[], sls_nil _, (fun p hp => by cases hp), by simp⟩
  · simp at hcs hmm
    subst hcs hmm
    rw [hk] at hx
    have hlr : len * T.bytes ≤ reachBytes := by
      have := hF ((len + (m - len)) * Tryz.prog.bytesOf T.et) (by rw [hxx]; simp [DataW.weights, T.hu])
      rw [hbt] at this
      have h2 : len * T.bytes ≤ (len + (m - len)) * T.bytes := Nat.mul_le_mul_right _ (by omega)
      omega
    by_cases h0 : len = 0
    · subst h0
      exact ⟨[], ⟨some a, m, rfl, ⟨(fun e => by cases e), by simp⟩, .inl rfl⟩, (fun p hp => by cases hp), by simp⟩
    · obtain ⟨b, o, spot⟩ := a
      obtain ⟨cs0, hc0, _⟩ := hx 0 (by omega)
      obtain ⟨_, hlen0, hcell0⟩ := World.cells?_some hc0
      have hc00 := hcell0 0 E.pos
      rw [List.getElem?_eq_getElem (by rw [hlen0]; exact E.pos)] at hc00
      have hspot : spot = none := by simpa [Addr.add] using World.cell?_spot hc00
      subst hspot
      have hv : ∀ i, i < len → ∃ q : α, At E W b (o + i * E.k) q ∧ good q := fun i hi => by
        obtain ⟨cs, h1, h2⟩ := hx i (by omega)
        rw [add_at] at h1
        obtain ⟨hcl, hcc⟩ := cells_at h1
        obtain ⟨p, rfl, hg⟩ := elem _ _ _ hcl h2 (fun q hq => hF q (by
          rw [hxx]
          simp only [DataW.weights, T.hu, List.mem_cons, List.mem_append]
          exact .inr (.inl (weightsAll_in (List.mem_map.2 ⟨i, List.mem_range.2 hi, rfl⟩) q hq))))
        exact ⟨p, fun j u hu => hcc j u hu, hg⟩
      obtain ⟨q, hq⟩ : ∃ q : Nat → α, ∀ i, i < len → At E W b (o + i * E.k) (q i) ∧ good (q i) := by
        refine ⟨fun i => if hi : i < len then Classical.choose (hv i hi) else E.d, fun i hi => ?_⟩
        simp only [hi, dif_pos]
        exact Classical.choose_spec (hv i hi)
      refine ⟨(List.range len).map q, ⟨some ⟨b, o, none⟩, m, by simp, ⟨(fun e => by cases e), by simpa using hl⟩, .inr ⟨b, o, rfl, fun t ht => ?_⟩⟩, ?_, by simpa using hlr⟩
      · have ht' : t < len := by simpa using ht
        have eg : ((List.range len).map q).getD t E.d = q t := by simp [ht']
        rw [eg]
        exact (hq t ht').1
      · intro y hy
        obtain ⟨i, hi, rfl⟩ := List.mem_map.1 hy
        exact (hq i (List.mem_range.1 hi)).2
end S
theorem int_of_trod {v : Value} {x : DataW H × List MemPlace} (h : DataW.trod enc Tryz.prog W 0 (fun _ => true) true n 3 [v] = some x) : ∃ a, v = .int .i64 a ∧ -9223372036854775808 ≤ a ∧ a ≤ 9223372036854775807 := by
  obtain ⟨a0, h01, _, h03⟩ := DataW.trod_int Tryz.underlying3 h
  simp at h01
  exact ⟨a0, h01, in64_of h03⟩
theorem int2_of_trod {v : Value} {x : DataW H × List MemPlace} (h : DataW.trod enc Tryz.prog W 0 (fun _ => true) true n 2 [v] = some x) : ∃ a, v = .int .i64 a ∧ -9223372036854775808 ≤ a ∧ a ≤ 9223372036854775807 := by
  obtain ⟨a0, h01, _, h03⟩ := DataW.trod_int Tryz.underlying2 h
  simp at h01
  exact ⟨a0, h01, in64_of h03⟩
/-- A number of 64 bits. -/
def I64 (n : Int) : Prop := -9223372036854775808 ≤ n ∧ n ≤ 9223372036854775807
set_option maxRecDepth 100000 in
theorem val_of_trod {cs : List Value} {x : DataW H × List MemPlace} (hl : cs.length = 2) (h : DataW.trod enc Tryz.prog W 0 (fun _ => true) true n 57 cs = some x) : ∃ k m, cs = [.int .i64 k, .int .i64 m] ∧ I64 k ∧ I64 m := by
  match cs, hl with
  | [v0, v1], _ =>
    obtain ⟨xs, k, _, hxx, _, hxl, hf⟩ := DataW.trod_struct Tryz.underlying57 h
    have g0 : DataW.trod enc Tryz.prog W 0 (fun _ => true) true k 3 (([v0, v1].drop 0).take (Tryz.prog.cellsOf 3)) = xs[0]? := hf 0 _ rfl
    have g1 : DataW.trod enc Tryz.prog W 0 (fun _ => true) true k 2 (([v0, v1].drop 1).take (Tryz.prog.cellsOf 2)) = xs[1]? := hf 1 _ rfl
    have k2 : Tryz.prog.cellsOf 2 = 1 := by kernel_rfl
    have k3 : Tryz.prog.cellsOf 3 = 1 := by kernel_rfl
    simp only [k2, k3, List.drop_zero, List.drop_succ_cons, List.take_succ_cons, List.take_zero] at g0 g1
    match xs, hxl with
    | [y0, y1], _ =>
      simp at g0 g1
      obtain ⟨z0, rfl, b0⟩ := int_of_trod g0
      obtain ⟨z1, rfl, b1⟩ := int2_of_trod g1
      exact ⟨z0, z1, rfl, b0, b1⟩
def HolIn (h   : S.Hd) : Prop := I64 h.fo ∧ I64 h.keep ∧ I64 h.nd ∧ I64 h.oe
set_option maxRecDepth 100000 in
theorem hol_of_trod {cs : List Value} {x : DataW H × List MemPlace} (hl : cs.length = 4) (h : DataW.trod enc Tryz.prog W 0 (fun _ => true) true n 23 cs = some x) : ∃ x   : S.Hd, cs = [.int .i64 x.fo, .int .i64 x.keep, .int .i64 x.nd, .int .i64 x.oe] ∧ HolIn x := by
  match cs, hl with
  | [v0, v1, v2, v3], _ =>
    obtain ⟨xs, k, _, hxx, _, hxl, hf⟩ := DataW.trod_struct Tryz.underlying23 h
    have g0 : DataW.trod enc Tryz.prog W 0 (fun _ => true) true k 2 (([v0, v1, v2, v3].drop 0).take (Tryz.prog.cellsOf 2)) = xs[0]? := hf 0 _ rfl
    have g1 : DataW.trod enc Tryz.prog W 0 (fun _ => true) true k 2 (([v0, v1, v2, v3].drop 1).take (Tryz.prog.cellsOf 2)) = xs[1]? := hf 1 _ rfl
    have g2 : DataW.trod enc Tryz.prog W 0 (fun _ => true) true k 3 (([v0, v1, v2, v3].drop 2).take (Tryz.prog.cellsOf 3)) = xs[2]? := hf 2 _ rfl
    have g3 : DataW.trod enc Tryz.prog W 0 (fun _ => true) true k 3 (([v0, v1, v2, v3].drop 3).take (Tryz.prog.cellsOf 3)) = xs[3]? := hf 3 _ rfl
    have k2 : Tryz.prog.cellsOf 2 = 1 := by kernel_rfl
    have k3 : Tryz.prog.cellsOf 3 = 1 := by kernel_rfl
    simp only [k2, k3, List.drop_zero, List.drop_succ_cons, List.take_succ_cons, List.take_zero] at g0 g1 g2 g3
    match xs, hxl with
    | [y0, y1, y2, y3], _ =>
      simp at g0 g1 g2 g3
      obtain ⟨z0, rfl, b0⟩ := int2_of_trod g0
      obtain ⟨z1, rfl, b1⟩ := int2_of_trod g1
      obtain ⟨z2, rfl, b2⟩ := int_of_trod g2
      obtain ⟨z3, rfl, b3⟩ := int_of_trod g3
      exact ⟨⟨z0, z1, z2, z3⟩, rfl, b0, b1, b2, b3⟩
theorem in_of_trod {cs : List Value} {x : DataW H × List MemPlace} (hl : cs.length = 1) (h : DataW.trod enc Tryz.prog W 0 (fun _ => true) true n 2 cs = some x) : ∃ p : Int, cs = S.eIn.arr p ∧ I64 p := by
  match cs, hl with
  | [v0], _ =>
    obtain ⟨a, rfl, b⟩ := int2_of_trod h
    exact ⟨a, rfl, b⟩
theorem ints_of_trod {v : Value} {x : DataW H × List MemPlace} (h : DataW.trod enc Tryz.prog W 0 (fun _ => true) true n 76 [v] = some x) (hF : Fits x.1 76) : ∃ l, S.Ins W v l ∧ (∀ p ∈ l, I64 p) ∧ l.length ≤ 17592186043904 := by
  obtain ⟨l, h1, h2, h3⟩ := S.rows_of_trodb S.TI I64 (by kernel_rfl) (by kernel_rfl) (by decide) (fun _ _ _ hl h _ => in_of_trod hl h) h hF
  refine ⟨l, h1, h2, ?_⟩
  replace h3 : l.length * 8 ≤ 140737488351232 := h3
  omega
set_option maxRecDepth 100000 in
theorem hol_arg {v : Value} {b0 : Nat} {x : DataW H × List MemPlace} (hval : Value.okWide Tryz.prog W .any b0 23 v) (h : DataW.trod enc Tryz.prog W 0 (fun _ => true) true n 23 v.cells.toList = some x) : ∃ x   : S.Hd, v = S.encH x ∧ HolIn x := by
  obtain ⟨cs, rfl, hs⟩ := okWide_struct Tryz.underlying23 hval
  have kk : Tryz.prog.cellsOf 23 = 4 := by kernel_rfl
  rw [kk] at hs
  obtain ⟨g, hcs, hp⟩ := hol_of_trod (by simpa [Value.cells] using hs) h
  refine ⟨g, ?_, hp⟩
  simp only [Value.cells] at hcs
  unfold S.encH
  congr 1
  apply Array.toList_inj.1
  rw [hcs]
end
end Go.Proofs.YtiajafljgfpdcaaGreat
/- BoardStale: its Updates. -/
namespace Go.Proofs.YtiajafljgfpdcaaGreat
set_option linter.unusedVariables false
open Go.RowKit
theorem sls_two {α : Type} {E : Enc α} (w : World) (x y : α) (cs : Array Value) (ty : TypeId) (hcs : cs.toList = E.arr x ++ E.arr y) : Sls E (w.alloc (.cells cs ty)) (.slice (some ⟨w.heap.size, 0, none⟩) 2 2) [x, y] := by
  refine ⟨_, 2, rfl, ⟨(fun e => by cases e), Nat.le_refl _⟩, .inr ⟨w.heap.size, 0, rfl, fun t ht i u hu => ?_⟩⟩
  have hk : i < E.k := by
    rcases Nat.lt_or_ge i E.k with h | h
    · exact h
    · rw [List.getElem?_eq_none (by rw [E.len]; exact h)] at hu; cases hu
  have hc : ∀ j, (w.alloc (.cells cs ty)).cell? ⟨w.heap.size, j, none⟩ = cs.toList[j]? := fun j => by simp only [World.cell?, heap_new]; simp
  have ht2 : t = 0 ∨ t = 1 := by
    have : t < 2 := ht
    omega
  rcases ht2 with rfl | rfl
  · rw [show 0 + 0 * E.k + i = i by omega, hc, hcs, List.getElem?_append_left (by rw [E.len]; exact hk)]
    exact hu
  · rw [show 0 + 1 * E.k + i = E.k + i by omega, hc, hcs, List.getElem?_append_right (by rw [E.len]; omega), E.len, Nat.add_sub_cancel_left]
    exact hu
/-- The board: is x gone? -/
def bdS (kind now : Int) (gone : Bool) : List (List Lb × S.Inst) := if gone then [(hY, yN now)] else [(hX, xK kind), (hY, yN now)]
def tlS (kind : Int) (gone over : Bool) : List Cg := if (over && !gone) && decide (kind = 2) then [⟨hX, 3, 1, 2, 0⟩] else []
theorem xK_seen (kind : Int) : (xK kind).seen = 0 := by unfold xK; split <;> rfl
theorem stale_round (iv kind a b : Int) (gone : Bool) (hk : kind = 1 ∨ kind = 2) (hg : gone = true → 2 * iv ≤ b) : leftL iv b (heardL hH [] b [rY] (bdS kind a gone)) = bdS kind b (decide (2 * iv ≤ b)) ∧ toldL iv b (heardL hH [] b [rY] (bdS kind a gone)) = tlS kind gone (decide (2 * iv ≤ b)) := by
  cases gone with
  | true =>
    have h1 := hg rfl
    unfold bdS
    rw [if_pos rfl, stale2]
    simp [leftL, toldL, tellA, overB, tlS, h1, yN]
  | false =>
    unfold bdS
    rw [if_neg (by decide), stale1]
    by_cases h1 : 2 * iv ≤ b
    · rcases hk with rfl | rfl
      · simp [leftL, toldL, tellA, overB, tlS, h1, yN, xK_seen, show (xK 1).st = 1 from rfl]
      · simp [leftL, toldL, tellA, overB, tlS, h1, yN, xK_seen, show (xK 2).st = 3 from rfl]
    · simp [leftL, toldL, tellA, overB, tlS, h1, yN, xK_seen]
theorem lbsR_hY : LbsR hY := hY_set.short.reach
theorem fine_xK (kind now : Int) (h : 0 ≤ now ∧ now ≤ 1000000) : Fine now (xK kind) := by unfold xK; split <;> (unfold Fine; simp [xA])
theorem fine_yN (a now : Int) : Fine now (yN a) := by unfold Fine; simp [yN]
theorem up_s0 (iv kind : Int) (hiv : 1 ≤ iv ∧ iv ≤ 1000) (hk : kind = 1 ∨ kind = 2) (sx sy : Sv) (w : World) (hx : Lbs w sx.v hX) (hy : Lbs w sy.v hY) : Calls Tryz.prog 11 #[.slice none 0 0, .agg #[.int .i64 0, .int .i64 0, .int .i64 1, .int .i64 1], .slice none 0 0, .int .i64 iv, .int .i64 0, .slice (some ⟨w.heap.size, 0, none⟩) 2 2] (w.alloc (.cells #[sx.v, .int .i64 kind, .int .i64 1, .int .i64 1, sy.v, .int .i64 1, .int .i64 1, .int .i64 0] 59)) fun e w' => ∃ G, UpA w (bdS kind 0 false) G e w' := by
  have hin : ∀ e ∈ ([⟨sx, rX kind⟩, ⟨sy, rY⟩] : List Rn), e.r.ls = hX ∨ e.r.ls = hY := by
    intro e he
    rcases List.mem_cons.1 he with rfl | he
    · exact .inl rfl
    · rw [List.mem_singleton.1 he]; exact .inr rfl
  have h := update_any (.slice none 0 0) (.slice none 0 0) (.slice (some ⟨w.heap.size, 0, none⟩) 2 2) [] [] [⟨sx, rX kind⟩, ⟨sy, rY⟩] hH iv 0 (w.alloc (.cells #[sx.v, .int .i64 kind, .int .i64 1, .int .i64 1, sy.v, .int .i64 1, .int .i64 1, .int .i64 0] 59))
    { ens := ⟨sls_nil _, by simp⟩, rise := riseE0, len := by simp, ownv := sls_nil _, ownl := by simp, ownr := (fun a ha => by cases ha),
      rns := ⟨sls_two w _ _ _ _ rfl, fun e he => by
        rcases List.mem_cons.1 he with rfl | he
        · exact Sls.alloc hx _
        · rw [List.mem_singleton.1 he]; exact Sls.alloc hy _⟩,
      rlen := by simp,
      rl := fun r hr => by rcases hin r hr with h | h <;> rw [h] <;> decide,
      rr := fun r hr => by
        rcases hin r hr with h | h <;> rw [h]
        · exact lbsR_hX
        · exact lbsR_hY,
      fine := by simp, seen := by simp, iv := by omega }
  unfold heardF at h
  have e0 : heardL hH [] 0 (([⟨sx, rX kind⟩, ⟨sy, rY⟩] : List Rn).map (·.r)) (([] : List En).map enF) = _ := stale0 kind hk
  rw [e0] at h
  refine h.mono ?_
  rintro e w' ⟨y, z, E, C, he, h1, h2, h3, h4, h5⟩
  have hl : leftL iv 0 [⟨hX, xK kind, 1, true⟩, ⟨hY, yN 0, 1, true⟩] = bdS kind 0 false := by simp [leftL, overB, bdS]
  exact ⟨_, y, z, E, C, he, h1, h2, h3.trans hl, h4, ((Below.refl _ w).alloc (Nat.le_refl _) _).trans (h5.mono (by simp))⟩
theorem bdS_mem {kind a : Int} {gone : Bool} {E : List En} (hE : E.map enF = bdS kind a gone) : ∀ e ∈ E, (e.ls = hX ∧ e.x = xK kind) ∨ (e.ls = hY ∧ e.x = yN a) := fun e he => by
  have h : enF e ∈ E.map enF := List.mem_map_of_mem he
  rw [hE] at h
  have h2 : enF e = (hX, xK kind) ∨ enF e = (hY, yN a) := by
    unfold bdS at h
    split at h
    · exact .inr (List.mem_singleton.1 h)
    · rcases List.mem_cons.1 h with h | h
      · exact .inl h
      · exact .inr (List.mem_singleton.1 h)
  rcases h2 with h2 | h2
  · exact .inl ⟨congrArg Prod.fst h2, congrArg Prod.snd h2⟩
  · exact .inr ⟨congrArg Prod.fst h2, congrArg Prod.snd h2⟩
theorem bdS_rise {kind a : Int} {gone : Bool} {E : List En} (hE : E.map enF = bdS kind a gone) : RiseE E := by
  refine ⟨?_, fun e he => by rcases bdS_mem hE e he with ⟨h, _⟩ | ⟨h, _⟩ <;> rw [h]; exact hX_set; exact hY_set⟩
  have h1 : (E.map enF).Pairwise fun p q => cmpS p.1 q.1 = -1 := by
    rw [hE]; unfold bdS
    split
    · exact List.pairwise_singleton _ _
    · simp [cmp_XY]
  exact List.pairwise_map.1 h1
theorem bdS_len {kind a : Int} {gone : Bool} {E : List En} (hE : E.map enF = bdS kind a gone) : E.length ≤ 2 := by
  have h : E.length = (bdS kind a gone).length := by rw [← hE]; simp
  rw [h]; unfold bdS; split <;> simp
theorem up_s1 (iv kind a b : Int) (gone : Bool) (hiv : 1 ≤ iv ∧ iv ≤ 1000) (hk : kind = 1 ∨ kind = 2) (ha : 0 ≤ a ∧ a ≤ b) (hb : b ≤ 1000000) (hg : gone = true → 2 * iv ≤ b) (sy : Sv) (v : Value) (E : List En) (w : World) (hy : Lbs w sy.v hY) (hv : Ens w v E) (hE : E.map enF = bdS kind a gone) : Calls Tryz.prog 11 #[v, .agg #[.int .i64 0, .int .i64 0, .int .i64 1, .int .i64 1], .slice none 0 0, .int .i64 iv, .int .i64 b, .slice (some ⟨w.heap.size, 0, none⟩) 1 1] (w.alloc (.cells #[sy.v, .int .i64 1, .int .i64 1, .int .i64 0] 59)) fun e w' => UpA w (bdS kind b (decide (2 * iv ≤ b))) (tlS kind gone (decide (2 * iv ≤ b))) e w' := by
  have hm := bdS_mem hE
  have hin : ∀ e ∈ ([⟨sy, rY⟩] : List Rn), e.r.ls = hY := by
    intro e he
    rw [List.mem_singleton.1 he]; rfl
  have h := update_any v (.slice none 0 0) (.slice (some ⟨w.heap.size, 0, none⟩) 1 1) E [] [⟨sy, rY⟩] hH iv b (w.alloc (.cells #[sy.v, .int .i64 1, .int .i64 1, .int .i64 0] 59))
    { ens := hv.grow ((Below.refl _ w).alloc (Nat.le_refl _) _), rise := bdS_rise hE, len := by have := bdS_len hE; omega, ownv := sls_nil _, ownl := by simp, ownr := (fun a ha => by cases ha),
      rns := ⟨sls_one w _ _ _ rfl, fun e he => by
        rw [List.mem_singleton.1 he]; exact Sls.alloc hy _⟩,
      rlen := by simp,
      rl := fun r hr => by rw [hin r hr]; decide,
      rr := fun r hr => by rw [hin r hr]; exact lbsR_hY,
      fine := fun e he => by
        rcases hm e he with ⟨_, h⟩ | ⟨_, h⟩ <;> rw [h]
        · exact fine_xK kind b (by omega)
        · exact fine_yN a b,
      seen := fun e he => by
        rcases hm e he with ⟨_, h⟩ | ⟨_, h⟩ <;> rw [h]
        · rw [xK_seen]; omega
        · simp only [yN]; omega,
      iv := by omega }
  unfold heardF at h
  have e0 : heardL hH [] b (([⟨sy, rY⟩] : List Rn).map (·.r)) (E.map enF) = heardL hH [] b [rY] (bdS kind a gone) := by rw [hE]; rfl
  obtain ⟨s1, s2⟩ := stale_round iv kind a b gone hk hg
  rw [e0, s1, s2] at h
  refine h.mono ?_
  rintro e w' ⟨y, z, E', C, he, h1, h2, h3, h4, h5⟩
  exact ⟨y, z, E', C, he, h1, h2, h3, h4, ((Below.refl _ w).alloc (Nat.le_refl _) _).trans (h5.mono (by simp))⟩
end Go.Proofs.YtiajafljgfpdcaaGreat
/- BoardFull: the mathematics. -/
namespace Go.Proofs.YtiajafljgfpdcaaGreat
set_option linter.unusedVariables false
open Go.RowKit
/-- The i-th value, the i-th labels. -/
def vF (i : Nat) : ByteArray := ⟨#[UInt8.ofNat (97 + i / 26), UInt8.ofNat (97 + i % 26)]⟩
def lF (i : Nat) : List Lb := [⟨⟨#[105]⟩, vF i⟩]
theorem numsF (i : Nat) (h : i < 1000) : numsS (vF i) = [((97 + i / 26 : Nat) : Int), ((97 + i % 26 : Nat) : Int)] := by
  have h1 : i / 26 < 39 := by omega
  have h2 : i % 26 < 26 := Nat.mod_lt _ (by decide)
  simp only [numsS, vF, List.map_cons, List.map_nil, UInt8.toNat_ofNat']
  rw [Nat.mod_eq_of_lt (show 97 + i / 26 < 2 ^ 8 by omega), Nat.mod_eq_of_lt (show 97 + i % 26 < 2 ^ 8 by omega)]
theorem lF_set (i : Nat) : IsSet (lF i) := by
  refine ⟨?_, ?_, by simp [lF]⟩
  · intro a ha
    have : a = ⟨⟨#[105]⟩, vF i⟩ := by simpa [lF] using ha
    subst this
    refine ⟨⟨(by decide : 1 ≤ (⟨#[105]⟩ : ByteArray).size ∧ (⟨#[105]⟩ : ByteArray).size ≤ 64), ?_⟩, by simp [vF, ByteArray.size]⟩
    intro k hk
    have : k = 0 := by simp [numsS] at hk; omega
    subst this
    rfl
  · exact List.pairwise_singleton _ _
theorem lF_lt {i j : Nat} (h : i < j) (hj : j < 1000) : cmpS (lF i) (lF j) = -1 := by
  have h1 : cmpB ⟨⟨#[105]⟩, vF i⟩ ⟨⟨#[105]⟩, vF j⟩ = -1 := by
    unfold cmpB
    rw [if_pos (by rfl)]
    show cmpL (numsS (vF i)) (numsS (vF j)) = -1
    rw [numsF i (by omega), numsF j hj]
    have hd : i / 26 < j / 26 ∨ (i / 26 = j / 26 ∧ i % 26 < j % 26) := by omega
    simp only [cmpL]
    rcases hd with hd | ⟨hd, hm⟩
    · rw [if_pos (by omega)]
    · rw [if_neg (by omega), if_neg (by omega), if_pos (by omega)]
  unfold lF cmpS
  rw [if_neg (by rw [h1]; decide), h1]
theorem lF_ne {i j : Nat} (h : i ≠ j) (hi : i < 1000) (hj : j < 1000) : lF i ≠ lF j := by
  rcases Nat.lt_or_ge i j with h2 | h2
  · intro e
    have := lF_lt h2 hj
    rw [e, cmpS_self] at this
    exact absurd this (by decide)
  · intro e
    have := lF_lt (show j < i by omega) hi
    rw [e, cmpS_self] at this
    exact absurd this (by decide)
theorem mk_F (i : Nat) : mkF (withL (lF i) []) = (lF i, 0) := by rw [withL_nil]; exact mkF_of (lF_set i).make
def xOld (now : Int) : S.Inst := ⟨3, 0, 0, -1, now, 1, 1⟩
def xNew (now : Int) : S.Inst := ⟨3, now, now, -1, now, 1, 1⟩
theorem step_old (now : Int) : S.stepI xA hH 2 1 1 now = xOld now := by
  unfold S.stepI xA xOld hH
  simp [S.meansI, S.moveI, S.alertI]
theorem step_new (now : Int) : S.stepI (S.newI now) hH 2 1 1 now = xNew now := by
  unfold S.stepI S.newI xNew hH
  simp [S.meansI, S.moveI, S.comeI, S.alertI, S.begI]
def rF (i : Nat) : Rt := ⟨lF i, 2, 1, 1⟩
/-- The i-th entry behind k results, m of which were there. -/
def gF (now : Int) (m k i : Nat) : Ae := if i < k then (if i < m then ⟨lF i, xOld now, 3, true⟩ else ⟨lF i, xNew now, 1, true⟩) else ⟨lF i, xA, 3, false⟩
theorem gF_ls (now : Int) (m k i : Nat) : (gF now m k i).ls = lF i := by unfold gF; split <;> (try split) <;> rfl
def hF (now : Int) (m k : Nat) : List Ae := (List.range (max m (min k 100))).map (gF now m k)
theorem riseF (now : Int) (m k n : Nat) (h : n ≤ 1000) : RiseG Ae.ls ((List.range n).map (gF now m k)) := by
  unfold RiseG
  rw [List.pairwise_map]
  refine List.pairwise_lt_range.imp_of_mem ?_
  intro a b ha hb hab
  rw [gF_ls, gF_ls]
  exact lF_lt hab (by have := List.mem_range.1 hb; omega)
theorem memF {now : Int} {m k n : Nat} {x : Ae} : x ∈ (List.range n).map (gF now m k) ↔ ∃ i, i < n ∧ gF now m k i = x := by
  simp
theorem hF_succ (now : Int) (m k : Nat) (hm : m ≤ 100) (hk : k < 200) : hearL hH [] now (rF k) (hF now m k) = hF now m (k + 1) := by
  have hr : RiseG Ae.ls (hF now m k) := riseF now m k _ (by omega)
  unfold hearL
  rw [show (rF k).ls = lF k from rfl, mk_F k]
  rw [if_pos rfl]
  by_cases h1 : k < m
  · have hg : getG Ae.ls (hF now m k) (lF k) = some ⟨lF k, xA, 3, false⟩ := by
      have : (⟨lF k, xA, 3, false⟩ : Ae) ∈ hF now m k := memF.2 ⟨k, by omega, by unfold gF; rw [if_neg (by omega)]⟩
      exact getG_of hr this
    simp only [hg]
    rw [if_neg (by decide)]
    have hs : stpA hH now (rF k) ⟨lF k, xA, 3, false⟩ = ⟨lF k, xOld now, 3, true⟩ := by unfold stpA rF; simp [step_old]
    rw [hs]
    refine rise_ext (rise_putG hr) (riseF now m (k + 1) _ (by omega)) (fun x => ?_)
    rw [mem_putG hr]
    unfold hF
    rw [memF, memF]
    constructor
    · rintro (rfl | ⟨⟨i, hi, rfl⟩, hne⟩)
      · exact ⟨k, by omega, by unfold gF; rw [if_pos (by omega), if_pos h1]⟩
      · have hik : i ≠ k := fun e => hne (by rw [gF_ls, e])
        refine ⟨i, by omega, ?_⟩
        unfold gF
        by_cases hi2 : i < k
        · rw [if_pos hi2, if_pos (show i < k + 1 by omega)]
        · rw [if_neg hi2, if_neg (show ¬ i < k + 1 by omega)]
    · rintro ⟨i, hi, rfl⟩
      by_cases hik : i = k
      · subst hik
        left
        unfold gF; rw [if_pos (by omega), if_pos h1]
      · right
        refine ⟨⟨i, by omega, ?_⟩, ?_⟩
        · unfold gF
          by_cases hi2 : i < k
          · rw [if_pos hi2, if_pos (show i < k + 1 by omega)]
          · rw [if_neg hi2, if_neg (show ¬ i < k + 1 by omega)]
        · rw [gF_ls]; exact lF_ne hik (by omega) (by omega)
  · have hg : getG Ae.ls (hF now m k) (lF k) = none := by
      rw [getG_none]
      intro x hx
      obtain ⟨i, hi, rfl⟩ := memF.1 hx
      rw [gF_ls]; exact lF_ne (by omega) (by omega) (by omega)
    simp only [hg]
    have hl : (hF now m k).length = max m (min k 100) := by unfold hF; simp
    rw [hl]
    by_cases h2 : k < 100
    · rw [if_pos (by omega)]
      have hs : stpA hH now (rF k) (newA now (lF k)) = ⟨lF k, xNew now, 1, true⟩ := by unfold stpA rF newA; simp [step_new]
      rw [hs]
      refine rise_ext (rise_putG hr) (riseF now m (k + 1) _ (by omega)) (fun x => ?_)
      rw [mem_putG hr]
      unfold hF
      rw [memF, memF]
      constructor
      · rintro (rfl | ⟨⟨i, hi, rfl⟩, hne⟩)
        · exact ⟨k, by omega, by unfold gF; rw [if_pos (by omega), if_neg h1]⟩
        · refine ⟨i, by omega, ?_⟩
          unfold gF
          rw [if_pos (show i < k by omega), if_pos (show i < k + 1 by omega)]
      · rintro ⟨i, hi, rfl⟩
        by_cases hik : i = k
        · subst hik
          left
          unfold gF; rw [if_pos (by omega), if_neg h1]
        · right
          refine ⟨⟨i, by omega, ?_⟩, ?_⟩
          · unfold gF
            rw [if_pos (show i < k by omega), if_pos (show i < k + 1 by omega)]
          · rw [gF_ls]; exact lF_ne hik (by omega) (by omega)
    · rw [if_neg (by omega)]
      unfold hF
      rw [show max m (min (k + 1) 100) = max m (min k 100) by omega]
      refine List.map_congr_left fun i hi => ?_
      have := List.mem_range.1 hi
      unfold gF
      rw [if_pos (show i < k by omega), if_pos (show i < k + 1 by omega)]
theorem foldF (now : Int) (m : Nat) (hm : m ≤ 100) : ∀ k, k ≤ 200 → ((List.range k).map rF).foldl (fun L r => hearL hH [] now r L) (hF now m 0) = hF now m k
  | 0, _ => rfl
  | k + 1, hk => by
    rw [List.range_succ, List.map_append, List.foldl_append, foldF now m hm k (by omega)]
    exact hF_succ now m k hm (by omega)
/-- The board: m entries that were there behind an evaluation at now, the others new. -/
def bF (now : Int) (m n : Nat) : List (List Lb × S.Inst) := (List.range n).map fun i => (lF i, if i < m then xOld now else xNew now)
theorem xNew0 : xNew 0 = xA := rfl
theorem allB_F (n k : Nat) : allB n ((List.range k).map rF) = false := by
  unfold allB
  match k with
  | 0 => simp
  | 1 => simp [rF, lF]
  | k + 2 =>
    have : ∃ a b t, (List.range (k + 2)).map rF = a :: b :: t := by
      cases h : (List.range (k + 2)).map rF with
      | nil => have := congrArg List.length h; simp at this
      | cons a t =>
        cases t with
        | nil => have := congrArg List.length h; simp at this
        | cons b t => exact ⟨a, b, t, rfl⟩
    obtain ⟨a, b, t, e⟩ := this
    rw [e]; simp
theorem heard_F (now : Int) (m k : Nat) (hm : m ≤ 100) (hk : k ≤ 200) : heardL hH [] now ((List.range k).map rF) (bF 0 0 m) = hF now m k := by
  unfold heardL
  rw [allB_F]
  rw [if_neg (by decide)]
  rw [← foldF now m hm k hk]
  congr 1
  unfold hF bF
  rw [List.map_map, show max m (min 0 100) = m by omega]
  refine List.map_congr_left fun i hi => ?_
  simp [gF, beginA, xNew0, xA]
theorem over_F (now iv : Int) (m k i : Nat) (h : i < k) : overB iv now (gF now m k i) = false := by
  unfold gF overB
  rw [if_pos h]
  split <;> simp
theorem left_F (now iv : Int) (m k : Nat) (h : m ≤ k) : leftL iv now (hF now m k) = bF now m (max m (min k 100)) := by
  unfold leftL hF bF
  rw [List.filter_eq_self.2]
  · rw [List.map_map]
    refine List.map_congr_left fun i hi => ?_
    have := List.mem_range.1 hi
    show ((gF now m k i).ls, (gF now m k i).x) = _
    rw [gF_ls]
    unfold gF
    rw [if_pos (show i < k by omega)]
    split <;> rfl
  · intro x hx
    obtain ⟨i, hi, rfl⟩ := memF.1 hx
    rw [over_F _ _ _ _ _ (show i < k by omega)]
    rfl
theorem told_len (now iv : Int) (m k : Nat) : ∀ n, n ≤ k → (toldL iv now ((List.range n).map (gF now m k))).length = n - m
  | 0, _ => by simp [toldL]
  | n + 1, h => by
    have ih := told_len now iv m k n (by omega)
    unfold toldL at ih ⊢
    rw [List.range_succ, List.map_append, List.map_append, List.flatten_append, List.length_append, ih]
    have : (tellA iv now (gF now m k n)).length = if n < m then 0 else 1 := by
      unfold tellA
      rw [over_F _ _ _ _ _ (show n < k by omega), if_neg (by decide)]
      unfold gF
      rw [if_pos (show n < k by omega)]
      split <;> simp [xOld, xNew]
    simp only [List.map_cons, List.map_nil, List.flatten_cons, List.flatten_nil, List.append_nil, this]
    split <;> omega
theorem toldF (now iv : Int) (m k : Nat) (h : m ≤ k) : (toldL iv now (hF now m k)).length = max m (min k 100) - m := by
  unfold hF
  rw [told_len _ _ _ _ _ (by omega)]
end Go.Proofs.YtiajafljgfpdcaaGreat
/- BoardFull: its Updates. -/
namespace Go.Proofs.YtiajafljgfpdcaaGreat
set_option linter.unusedVariables false
open Go.RowKit
theorem elem29 : Tryz.prog.underlying 29 = some (.slice (Tryz.prog.elem 29)) := by kernel_rfl
theorem size29 (W : World) : (sizeOf (Tryz.prog.elem 29)).run Tryz.prog W = .ok 4 W := by kernel_rfl
/-- l[:k]. -/
theorem rns_to {w : World} {v : Value} {R : List Rn} (h : Sls eRn w v R) (k : Nat) (hk : k ≤ R.length) : ∃ v2, (∀ W, (Instr.slice 29 v none (some (.int .i64 (k : Int))) none).run Tryz.prog W = .ok v2 W) ∧ Sls eRn w v2 (R.take k) := by
  obtain ⟨a, c, rfl, ⟨hn, hc⟩, h1⟩ := h
  refine ⟨sliced a 0 k c 4, fun W => ?_, ⟨if c = 0 then a else a.map (·.add (0 * 4)), c - 0, by simp only [sliced, List.length_take, Nat.min_eq_left hk, Nat.sub_zero], ⟨fun e => ?_, by simp; omega⟩, ?_⟩⟩
  · rw [run_slice_h W 29 a R.length c elem29 .i64 k (by omega) (by omega), size29]; simp [Result.andThen]
  · by_cases h : c = 0
    · omega
    · rw [if_neg h] at e
      simp at e; have := hn e; omega
  · rcases h1 with rfl | ⟨b, o, rfl, hr⟩
    · exact .inl (by simp)
    · by_cases h : k = 0
      · exact .inl (by simp [h])
      · refine .inr ⟨b, o, ?_, fun t ht => ?_⟩
        · rw [if_neg (by omega)]; simp [add_at]
        · rw [List.length_take] at ht
          have := hr t (by omega)
          have e : (R.take k).getD t eRn.d = R.getD t eRn.d := by simp [show t < k by omega]
          rw [e]; exact this
theorem rF_mem {R : List Rn} {N : Nat} (hm : R.map (·.r) = (List.range N).map rF) : ∀ e ∈ R, ∃ i, i < N ∧ e.r = rF i := fun e he => by
  have : e.r ∈ R.map (·.r) := List.mem_map_of_mem he
  rw [hm] at this
  obtain ⟨i, hi, h⟩ := List.mem_map.1 this
  exact ⟨i, List.mem_range.1 hi, h.symm⟩
theorem lbsR_F (i : Nat) : LbsR (lF i) := (lF_set i).short.reach
theorem upF1 (v : Value) (R : List Rn) (N : Nat) (w : World) (hv : Rns w v R) (hm : R.map (·.r) = (List.range N).map rF) (hN : N ≤ 200) :
    Calls Tryz.prog 11 #[.slice none 0 0, .agg #[.int .i64 0, .int .i64 0, .int .i64 1, .int .i64 1], .slice none 0 0, .int .i64 5, .int .i64 0, v] w fun e w' => ∃ G, UpA w (bF 0 0 (min N 100)) G e w' := by
  have hl : R.length = N := by have := congrArg List.length hm; simpa using this
  have h := update_any (.slice none 0 0) (.slice none 0 0) v [] [] R hH 5 0 w
    { ens := ⟨sls_nil _, by simp⟩, rise := riseE0, len := by simp, ownv := sls_nil _, ownl := by simp, ownr := (fun a ha => by cases ha), rns := hv, rlen := by omega,
      rl := fun r hr => by obtain ⟨i, _, h⟩ := rF_mem hm r hr; rw [h]; simp [rF, lF],
      rr := fun r hr => by obtain ⟨i, _, h⟩ := rF_mem hm r hr; rw [h]; exact lbsR_F i,
      fine := by simp, seen := by simp, iv := by decide }
  have e0 : heardF hH [] 0 R [] = hF 0 0 N := by
    unfold heardF
    rw [hm]
    exact heard_F 0 0 N (by omega) hN
  rw [e0, left_F 0 5 0 N (Nat.zero_le _)] at h
  refine h.mono ?_
  rintro e w' ⟨y, z, E, C, he, h1, h2, h3, h4, h5⟩
  exact ⟨_, y, z, E, C, he, h1, h2, by rw [h3, show max 0 (min N 100) = min N 100 by omega], h4, h5⟩
theorem bF_mem {now : Int} {m n : Nat} {E : List En} (hE : E.map enF = bF now m n) : ∀ e ∈ E, ∃ i, i < n ∧ e.ls = lF i ∧ e.x = if i < m then xOld now else xNew now := fun e he => by
  have h : enF e ∈ E.map enF := List.mem_map_of_mem he
  rw [hE] at h
  obtain ⟨i, hi, h⟩ := List.mem_map.1 h
  exact ⟨i, List.mem_range.1 hi, (congrArg Prod.fst h).symm, (congrArg Prod.snd h).symm⟩
theorem bF_rise {now : Int} {m n : Nat} {E : List En} (hE : E.map enF = bF now m n) (hn : n ≤ 1000) : RiseE E := by
  refine ⟨?_, fun e he => by obtain ⟨i, _, h, _⟩ := bF_mem hE e he; rw [h]; exact lF_set i⟩
  have h1 : (E.map enF).Pairwise fun p q => cmpS p.1 q.1 = -1 := by
    rw [hE]; unfold bF
    rw [List.pairwise_map]
    refine List.pairwise_lt_range.imp_of_mem ?_
    intro a b ha hb hab
    exact lF_lt hab (by have := List.mem_range.1 hb; omega)
  exact List.pairwise_map.1 h1
theorem bF_len {now : Int} {m n : Nat} {E : List En} (hE : E.map enF = bF now m n) : E.length = n := by
  have := congrArg List.length hE
  simpa [bF] using this
theorem upF2 (v vl : Value) (E : List En) (R : List Rn) (m K : Nat) (w : World) (hv : Ens w v E) (hE : E.map enF = bF 0 0 m) (hl : Rns w vl R) (hm : R.map (·.r) = (List.range K).map rF) (hm1 : m ≤ 100) (hmK : m ≤ K) (hK : K ≤ 200) :
    Calls Tryz.prog 11 #[v, .agg #[.int .i64 0, .int .i64 0, .int .i64 1, .int .i64 1], .slice none 0 0, .int .i64 5, .int .i64 5, vl] w fun e w' => ∃ G, UpA w (bF 5 m (max m (min K 100))) G e w' ∧ G.length = max m (min K 100) - m := by
  have hll : R.length = K := by have := congrArg List.length hm; simpa using this
  have hx : ∀ e ∈ E, e.x = xA := fun e he => by obtain ⟨i, _, _, h⟩ := bF_mem hE e he; rw [h, if_neg (by omega)]; rfl
  have h := update_any v (.slice none 0 0) vl E [] R hH 5 5 w
    { ens := hv, rise := bF_rise hE (by omega), len := by rw [bF_len hE]; omega, ownv := sls_nil _, ownl := by simp, ownr := (fun a ha => by cases ha), rns := hl, rlen := by omega,
      rl := fun r hr => by obtain ⟨i, _, h⟩ := rF_mem hm r hr; rw [h]; simp [rF, lF],
      rr := fun r hr => by obtain ⟨i, _, h⟩ := rF_mem hm r hr; rw [h]; exact lbsR_F i,
      fine := fun e he => by rw [hx e he]; exact fine_xA 5 (by decide),
      seen := fun e he => by rw [hx e he]; decide,
      iv := by decide }
  have e0 : heardF hH [] 5 R E = hF 5 m K := by
    unfold heardF
    rw [hm, hE]
    exact heard_F 5 m K hm1 hK
  rw [e0, left_F 5 5 m K hmK] at h
  refine h.mono ?_
  rintro e w' ⟨y, z, E2, C, he, h1, h2, h3, h4, h5⟩
  exact ⟨_, ⟨y, z, E2, C, he, h1, h2, h3, h4, h5⟩, toldF 5 5 m K hmK⟩
theorem chE_F (m i : Nat) : S.chE (if i < m then xOld 5 else xNew 5) = 0 := by split <;> decide
theorem seen_F (m i : Nat) : (if i < m then xOld 5 else xNew 5).seen = 5 := by split <;> rfl
end Go.Proofs.YtiajafljgfpdcaaGreat
