/- Sb; Sc; Sd. -/
import Derived.Test.YtejdmielhaldaaaGreatSa
import Derived.Test.YtejdmielhaldaaaGreatRm
import Derived.Laws.OwnMore
import Derived.Laws.MakeOwn
import Derived.Deep.OwnRows
/- Slices of points; series.sum. -/
namespace Go.Proofs.YtejdmielhaldaaaGreat
set_option linter.unusedVariables false
open Go.RowKit
theorem elemP : Tryz.prog.underlying 22 = some (.slice (Tryz.prog.elem 22)) := by kernel_rfl
theorem sizeP (W : World) : (sizeOf (Tryz.prog.elem 22)).run Tryz.prog W = .ok 3 W := by kernel_rfl
/-- v[k:], k within the length. -/
theorem pns_from {w : World} {v : Value} {l : List Pn} (hv : Pns w v l) (k : Nat) (hk : k ≤ l.length) :
    ∃ v2, (∀ W, (Instr.slice 22 v (some (.int .i64 (k : Int))) none none).run Tryz.prog W = .ok v2 W) ∧ Pns w v2 (l.drop k) := by
  obtain ⟨a, c, rfl, ⟨hn, hc⟩, h1⟩ := hv
  refine ⟨sliced a k l.length c 3, fun W => ?_, ⟨if c = k then a else a.map (·.add (k * 3)), c - k, by simp only [sliced, List.length_drop], ⟨fun e => ?_, by simp; omega⟩, ?_⟩⟩
  · rw [run_slice_l W 22 a l.length c elemP .i64 k (by omega) (by omega), sizeP]; simp [Result.andThen]
  · by_cases h : c = k
    · omega
    · rw [if_neg h] at e
      simp at e; have := hn e; omega
  · rcases h1 with rfl | ⟨b, o, rfl, hr⟩
    · exact .inl (by simp)
    · by_cases h : k = l.length
      · exact .inl (by simp [h])
      · refine .inr ⟨b, o + k * 3, ?_, fun t ht => ?_⟩
        · rw [if_neg (by omega)]; simp [ladd_at]
        · rw [List.length_drop] at ht
          have := hr (k + t) (by omega)
          rw [show (l.drop k).getD t encP.d = l.getD (k + t) encP.d by rw [List.getD_eq_getElem?_getD, List.getD_eq_getElem?_getD, List.getElem?_drop]]
          intro i u hu
          have h3 := this i u hu
          rw [← h3]
          congr 2
          show o + k * 3 + t * 3 + i = o + (k + t) * 3 + i
          omega
theorem row2V (w : World) (a b : Vl) : Vls (w.alloc (.cells #[.int .i64 a.kind, .int .i64 a.n, .int .i64 b.kind, .int .i64 b.n] 25)) (.slice (some ⟨w.heap.size, 0, none⟩) 2 2) [a, b] := by
  refine ⟨_, _, rfl, .inr ⟨_, _, rfl, fun t ht => ?_⟩⟩
  have h : (w.alloc (.cells #[.int .i64 a.kind, .int .i64 a.n, .int .i64 b.kind, .int .i64 b.n] 25)).heap[w.heap.size]? = some (.cells #[.int .i64 a.kind, .int .i64 a.n, .int .i64 b.kind, .int .i64 b.n] 25) := by
    show (w.heap.push _)[w.heap.size]? = _; simp
  have ht2 : t = 0 ∨ t = 1 := by simp at ht; omega
  unfold VAt World.cell?
  rw [h]
  rcases ht2 with rfl | rfl <;> simp
/-- series.do of two values in a fresh row, a block more behind the world at hand. -/
theorem sdo2 (op : ByteArray) (a b : Vl) (w : World) (o : Obj) : Calls Tryz.prog 45 #[.string op, .slice (some ⟨w.heap.size + 1, 0, none⟩) 2 2] ((w.alloc o).alloc (.cells #[.int .i64 a.kind, .int .i64 a.n, .int .i64 b.kind, .int .i64 b.n] 25)) fun e w' => e = .returned (.agg #[.int .i64 (doV op [a, b]).kind, .int .i64 (doV op [a, b]).n]) ∧ Below w.heap.size w w' := by
  have h := sdo_any op _ [a, b] _ (row2V (w.alloc o) a b) (by simp)
  rw [World.size_alloc] at h
  exact h.mono fun e w' ⟨h, hb⟩ => ⟨h, ((bW0 w o).alloc (by simp) _).trans (hb.mono (by simp; omega))⟩
def plusV (t : Vl) (p : Pn) : Vl := doV ⟨#[43]⟩ [t, p.v]
/-- The sum of points. -/
def sumV : List Pn → Vl
  | [] => zer
  | p :: r => r.foldl plusV p.v
theorem fold_take (m : List Pn) (t : Vl) (k : Nat) (h : k < m.length) : (m.take (k + 1)).foldl plusV t = plusV ((m.take k).foldl plusV t) (m.getD k pn0) := by
  rw [List.take_succ_eq_append_getElem h, List.foldl_append, List.getD_eq_getElem?_getD, List.getElem?_eq_getElem h]
  rfl
set_option maxRecDepth 100000 in
set_option maxHeartbeats 4000000 in
/-- series.sum. -/
theorem ssum_any (v : Value) (l : List Pn) (w : World) (hv : Pns w v l) (hl : l.length ≤ 1000000000) (h1 : 0 < l.length) : Calls Tryz.prog 64 #[v] w fun e w' => e = .returned (vlV (sumV l)) ∧ Below w.heap.size w w' := by
  obtain ⟨v2, hs, hp2⟩ := pns_from hv 1 h1
  have hs' : ∀ W, (Instr.slice 22 v (some (.int .i64 1)) none none).run Tryz.prog W = .ok v2 W := hs
  obtain ⟨a, c, rfl⟩ := hv.shape
  obtain ⟨b, o, rfl, x0, x1, x2⟩ := pn_at hv 0 h1
  obtain ⟨a2, c2, rfl⟩ := hp2.shape
  have hlt : b < w.heap.size := World.block_lt_of_cell? w _ x0
  have hsum : Hid (sumV l = (l.drop 1).foldl plusV (l.getD 0 pn0).v) := by
    cases l with
    | nil => simp at h1
    | cons p r => rfl
  generalize (l.getD 0 pn0) = p0 at *
  replace hsum : Hid _ := hsum
  rw [hsum.out]
  clear hsum hs
  generalize hm : l.drop 1 = m at *
  have hml : m.length ≤ 1000000000 := by rw [← hm]; simp; omega
  clear hm
  have hlen : (0 : Int) < (l.length : Int) := by omega
  replace hp2 : Hid (Pns w (.slice a2 m.length c2) m) := hp2
  unfold vlV
  go_enter Tryz.func64, Tryz.ntmps64
  go_wp2
  have hA : VlAt (w.alloc (vlO zer)) w.heap.size zer := vlNew w zer
  have hT : VlAt ((w.alloc (vlO zer)).alloc (vlO p0.v)) (w.heap.size + 1) p0.v := by
    have := vlNew (w.alloc (vlO zer)) p0.v
    rw [World.size_alloc] at this
    exact this
  have hBB : Below w.heap.size w ((w.alloc (vlO zer)).alloc (vlO p0.v)) := (bW0 w _).alloc (by simp) _
  go_loopw [13] (fun i wr => ∃ k : Nat, k ≤ m.length ∧ i = .int .i64 k ∧ Hid (VlAt wr w.heap.size zer) ∧ Hid (VlAt wr (w.heap.size + 1) ((m.take k).foldl plusV p0.v)) ∧ Hid (Below w.heap.size w wr)) (fun i _ => m.length - (intOf i).toNat)
  case atStart => exact ⟨0, Nat.zero_le _, rfl, hA.alloc _, hT, hBB⟩
  case round =>
    obtain ⟨k, hk, rfl, kA, kT, kB⟩ := hrel
    by_cases hlt2 : k < m.length
    · have hki : (k : Int) < (m.length : Int) := by omega
      obtain ⟨b2, o2, rfl, y0, y1, y2⟩ := pn_at (hp2.out.grow kB.out) k hlt2
      have hf : Hid (((m.take (k + 1)).foldl plusV p0.v) = plusV ((m.take k).foldl plusV p0.v) (m.getD k pn0)) := fold_take m p0.v k hlt2
      have hb2 : b2 < wr.heap.size := World.block_lt_of_cell? wr _ y0
      generalize m.getD k pn0 = q at *
      generalize (m.take k).foldl plusV p0.v = T at *
      obtain ⟨t0, t1⟩ := kT.out.cells
      have hzz : w.heap.size + 1 < wr.heap.size := kT.out.lt
      have hd := sdo2 ⟨#[43]⟩ T q.v wr (.cells #[.int .i64 q.at', .int .i64 q.v.kind, .int .i64 q.v.n] 51)
      have hpl : Hid (doV ⟨#[43]⟩ [T, q.v] = plusV T q) := rfl
      generalize doV ⟨#[43]⟩ [T, q.v] = R at *
      go_wp2_with (first
        | (go_at_call 45; refine hd.mono ?_; rintro e w1 ⟨rfl, hb1⟩; have k1 := kT.out.grow hb1; have k0 := kA.out.grow hb1; have kB1 := kB.out.trans (hb1.mono kB.out.size); obtain ⟨u0, u1⟩ := k1.cells; obtain ⟨f0, f1⟩ := k1.frozen))
      refine ⟨⟨k + 1, by omega, by go_num, ?_, ?_, belTwo _ _ kB1 (Nat.le_succ _)⟩, ?_⟩
      · exact k0.keep ((Below.heap_setCell _ _ _ _ (by show w.heap.size ≠ w.heap.size + 1; omega)).trans (Below.heap_setCell _ _ _ _ (by show w.heap.size ≠ w.heap.size + 1; omega)))
      · rw [hf.out, ← hpl.out]
        exact vlSet k1
      · simp [intOf]; omega
    · obtain rfl : k = m.length := by omega
      rw [List.take_of_length_le (Nat.le_refl _)] at kT
      have hki : ¬ (m.length : Int) < (m.length : Int) := by omega
      obtain ⟨T, hTT⟩ : ∃ T, Hid (T = m.foldl plusV p0.v) := ⟨_, rfl⟩
      rw [← hTT.out] at kT
      obtain ⟨t0, t1⟩ := kT.out.cells
      obtain ⟨u0, u1⟩ := kA.out.cells
      obtain ⟨f0, f1⟩ := kA.out.frozen
      have kA' := kA.out
      have kB' := kB.out
      go_wp2
      exact ret_cell (v := T) Tryz.results64 rfl (vlSet kA') ⟨by rw [hTT.out]; rfl, belTwo _ _ kB' (Nat.le_refl _)⟩
/-! ### A point in a box -/
abbrev pnO (p : Pn) : Obj := .cells #[.int .i64 p.at', .int .i64 p.v.kind, .int .i64 p.v.n] 51
def PnAt (w : World) (x : Nat) (p : Pn) : Prop := w.heap[x]? = some (.cells #[.int .i64 p.at', .int .i64 p.v.kind, .int .i64 p.v.n] 51 (0, 0))
section
variable {w w' : World} {x : Nat} {p q : Pn}
theorem PnAt.cells (h : PnAt w x p) : w.cell? ⟨x, 0, none⟩ = some (.int .i64 p.at') ∧ w.cell? ⟨x, 1, none⟩ = some (.int .i64 p.v.kind) ∧ w.cell? ⟨x, 2, none⟩ = some (.int .i64 p.v.n) := by
  unfold PnAt at h
  unfold World.cell?
  rw [h]; simp
theorem PnAt.frozen (h : PnAt w x p) : w.frozen? ⟨x, 0, none⟩ = false ∧ w.frozen? ⟨x, 1, none⟩ = false ∧ w.frozen? ⟨x, 2, none⟩ = false := by
  unfold PnAt at h
  unfold World.frozen?
  rw [h]; simp
theorem PnAt.lt (h : PnAt w x p) : x < w.heap.size := (Array.getElem?_eq_some_iff.1 h).1
theorem PnAt.keep (h : PnAt w x p) (e : w'.heap[x]? = w.heap[x]?) : PnAt w' x p := e.trans h
theorem PnAt.grow (h : PnAt w x p) (hb : Below w.heap.size w w') : PnAt w' x p := h.keep (hb.block x h.lt)
theorem PnAt.alloc (h : PnAt w x p) (o : Obj) : PnAt (w.alloc o) x p := h.grow ((Below.refl _ w).alloc (Nat.le_refl _) o)
theorem pnNew (w : World) (p : Pn) : PnAt (w.alloc (pnO p)) w.heap.size p := by
  show (w.heap.push _)[w.heap.size]? = _
  simp
theorem pnSet (h : PnAt w x p) : PnAt (((w.setCell ⟨x, 0, none⟩ (.int .i64 q.at')).setCell ⟨x, 1, none⟩ (.int .i64 q.v.kind)).setCell ⟨x, 2, none⟩ (.int .i64 q.v.n)) x q := by
  have h1 := block_setCell (i := 0) (u := .int .i64 q.at') h
  have h2 := block_setCell (i := 1) (u := .int .i64 q.v.kind) h1
  have h3 := block_setCell (i := 2) (u := .int .i64 q.v.n) h2
  exact h3
theorem belThree {W : World} {n : Nat} (a b c : Value) (h : Below n w W) (hx : n ≤ x) : Below n w (((W.setCell ⟨x, 0, none⟩ a).setCell ⟨x, 1, none⟩ b).setCell ⟨x, 2, none⟩ c) :=
  ((h.setCell (p := ⟨x, 0, none⟩) hx a).setCell (p := ⟨x, 1, none⟩) hx b).setCell (p := ⟨x, 2, none⟩) hx c
theorem keep3 {y : Nat} (a b c : Value) (h : y ≠ x) : (((w.setCell ⟨x, 0, none⟩ a).setCell ⟨x, 1, none⟩ b).setCell ⟨x, 2, none⟩ c).heap[y]? = w.heap[y]? :=
  (Below.heap_setCell _ _ _ _ h).trans ((Below.heap_setCell _ _ _ _ h).trans (Below.heap_setCell _ _ _ _ h))
end
/-- The one that counts, of two. -/
def later (f p : Pn) : Pn := if f.at' ≤ p.at' then p else f
def lastP (l : List Pn) : Pn := l.foldl later (l.getD 0 pn0)
theorem fold_take2 (g : Pn → Pn → Pn) (m : List Pn) (t : Pn) (k : Nat) (h : k < m.length) : (m.take (k + 1)).foldl g t = g ((m.take k).foldl g t) (m.getD k pn0) := by
  rw [List.take_succ_eq_append_getElem h, List.foldl_append, List.getD_eq_getElem?_getD, List.getElem?_eq_getElem h]
  rfl
set_option maxRecDepth 100000 in
set_option maxHeartbeats 4000000 in
/-- series.last. -/
theorem slast_any (v : Value) (l : List Pn) (w : World) (hv : Pns w v l) (hl : l.length ≤ 1000000000) (h1 : 0 < l.length) : Calls Tryz.prog 60 #[v] w fun e w' => e = .returned (vlV (lastP l).v) ∧ Below w.heap.size w w' := by
  obtain ⟨a, c, rfl⟩ := hv.shape
  obtain ⟨b, o, rfl, x0, x1, x2⟩ := pn_at hv 0 h1
  have hlt : b < w.heap.size := World.block_lt_of_cell? w _ x0
  have hlen : (0 : Int) < (l.length : Int) := by omega
  obtain ⟨p0, hp0⟩ : ∃ p, Hid (p = l.getD 0 pn0) := ⟨_, rfl⟩
  rw [← hp0.out] at x0 x1 x2
  simp only [Nat.zero_mul, Nat.add_zero] at x0 x1 x2
  replace hv : Hid (Pns w (.slice (some ⟨b, o, none⟩) l.length c) l) := hv
  unfold vlV
  go_enter Tryz.func60, Tryz.ntmps60
  go_wp2
  have hA : VlAt (w.alloc (vlO zer)) w.heap.size zer := vlNew w zer
  have hT : PnAt ((w.alloc (vlO zer)).alloc (pnO p0)) (w.heap.size + 1) p0 := by
    have := pnNew (w.alloc (vlO zer)) p0
    rw [World.size_alloc] at this
    exact this
  have hBB : Below w.heap.size w ((w.alloc (vlO zer)).alloc (pnO p0)) := (bW0 w _).alloc (by simp) _
  go_loopw [11] (fun i wr => ∃ k : Nat, k ≤ l.length ∧ i = .int .i64 k ∧ Hid (VlAt wr w.heap.size zer) ∧ Hid (PnAt wr (w.heap.size + 1) ((l.take k).foldl later p0)) ∧ Hid (Below w.heap.size w wr)) (fun i _ => l.length - (intOf i).toNat)
  case atStart => exact ⟨0, Nat.zero_le _, rfl, hA.alloc _, hT, hBB⟩
  case round =>
    obtain ⟨k, hk, rfl, kA, kT, kB⟩ := hrel
    by_cases hlt2 : k < l.length
    · have hki : (k : Int) < (l.length : Int) := by omega
      obtain ⟨b2, o2, e2, y0, y1, y2⟩ := pn_at (hv.out.grow kB.out) k hlt2
      cases e2
      have hf : Hid (((l.take (k + 1)).foldl later p0) = later ((l.take k).foldl later p0) (l.getD k pn0)) := fold_take2 later l p0 k hlt2
      have hb2 : b < wr.heap.size := World.block_lt_of_cell? wr _ y0
      generalize l.getD k pn0 = q at *
      generalize (l.take k).foldl later p0 = T at *
      obtain ⟨t0, t1, t2⟩ := kT.out.cells
      obtain ⟨f0, f1, f2⟩ := kT.out.frozen
      have hzz : w.heap.size + 1 < wr.heap.size := kT.out.lt
      have hbw := kB.out.size
      by_cases hc : T.at' ≤ q.at'
      · have hl2 : later T q = q := if_pos hc
        go_wp2
        refine ⟨⟨k + 1, by omega, by go_num, VlAt.alloc (kA.out.keep (keep3 _ _ _ (by omega))) _, ?_, (belThree _ _ _ kB.out (Nat.le_succ _)).alloc (belThree _ _ _ kB.out (Nat.le_succ _)).size _⟩, ?_⟩
        · rw [hf.out, hl2]; exact (pnSet kT.out).alloc _
        · simp [intOf]; omega
      · have hl2 : later T q = T := if_neg hc
        go_wp2
        refine ⟨⟨k + 1, by omega, by go_num, kA.out.alloc _, ?_, kB.out.alloc hbw _⟩, ?_⟩
        · rw [hf.out, hl2]; exact kT.out.alloc _
        · simp [intOf]; omega
    · obtain rfl : k = l.length := by omega
      rw [List.take_of_length_le (Nat.le_refl _)] at kT
      have hki : ¬ (l.length : Int) < (l.length : Int) := by omega
      obtain ⟨T, hTT⟩ : ∃ T, Hid (T = l.foldl later p0) := ⟨_, rfl⟩
      rw [← hTT.out] at kT
      obtain ⟨t0, t1, t2⟩ := kT.out.cells
      obtain ⟨u0, u1⟩ := kA.out.cells
      obtain ⟨f0, f1⟩ := kA.out.frozen
      have kA' := kA.out
      have kB' := kB.out
      go_wp2
      exact ret_cell (v := T.v) Tryz.results60 rfl (vlSet kA') ⟨by rw [hTT.out, hp0.out]; rfl, belTwo _ _ kB' (Nat.le_refl _)⟩
end Go.Proofs.YtejdmielhaldaaaGreat
/- series.utmost. -/
namespace Go.Proofs.YtejdmielhaldaaaGreat
set_option linter.unusedVariables false
open Go.RowKit
/-- The same, and the box ahead of the row is kept. -/
theorem sdo2b (op : ByteArray) (a b : Vl) (w : World) (o : Obj) : Calls Tryz.prog 45 #[.string op, .slice (some ⟨w.heap.size + 1, 0, none⟩) 2 2] ((w.alloc o).alloc (.cells #[.int .i64 a.kind, .int .i64 a.n, .int .i64 b.kind, .int .i64 b.n] 25)) fun e w' => e = .returned (.agg #[.int .i64 (doV op [a, b]).kind, .int .i64 (doV op [a, b]).n]) ∧ Below (w.alloc o).heap.size (w.alloc o) w' := by
  have h := sdo_any op _ [a, b] _ (row2V (w.alloc o) a b) (by simp)
  rw [World.size_alloc] at h
  exact h.mono fun e w' ⟨h, hb⟩ => ⟨h, (bW0 (w.alloc o) _).trans (hb.mono (by simp))⟩
/-- The one that op holds of, of two. -/
def utP (op : ByteArray) (f : Vl) (p : Pn) : Vl := if truB (doV op [p.v, f]) = true then p.v else f
def utV (op : ByteArray) (l : List Pn) : Vl := l.foldl (utP op) (l.getD 0 pn0).v
theorem fold_take3 (g : Vl → Pn → Vl) (m : List Pn) (t : Vl) (k : Nat) (h : k < m.length) : (m.take (k + 1)).foldl g t = g ((m.take k).foldl g t) (m.getD k pn0) := by
  rw [List.take_succ_eq_append_getElem h, List.foldl_append, List.getD_eq_getElem?_getD, List.getElem?_eq_getElem h]
  rfl
set_option maxRecDepth 100000 in
set_option maxHeartbeats 4000000 in
theorem sut_any (op : ByteArray) (v : Value) (l : List Pn) (w : World) (hv : Pns w v l) (hl : l.length ≤ 1000000000) (h1 : 0 < l.length) (hva : ∀ p ∈ l, IsV p.v) (hop : ∀ a b, IsV a → IsV b → IsV (doV op [a, b])) :
    Calls Tryz.prog 63 #[.string op, v] w fun e w' => e = .returned (vlV (utV op l)) ∧ Below w.heap.size w w' := by
  obtain ⟨a, c, rfl⟩ := hv.shape
  obtain ⟨b, o, rfl, x0, x1, x2⟩ := pn_at hv 0 h1
  have hlt : b < w.heap.size := World.block_lt_of_cell? w _ x0
  have hlen : (0 : Int) < (l.length : Int) := by omega
  have hmem : ∀ k, k < l.length → IsV (l.getD k pn0).v := fun k hk => hva _ (by rw [List.getD_eq_getElem?_getD, List.getElem?_eq_getElem hk]; exact List.getElem_mem hk)
  obtain ⟨p0, hp0⟩ : ∃ p, Hid (p = l.getD 0 pn0) := ⟨_, rfl⟩
  have hv0 : Hid (IsV p0.v) := by rw [hp0.out]; exact hmem 0 h1
  rw [← hp0.out] at x0 x1 x2
  simp only [Nat.zero_mul, Nat.add_zero] at x0 x1 x2
  replace hv : Hid (Pns w (.slice (some ⟨b, o, none⟩) l.length c) l) := hv
  replace hmem : Hid (∀ k, k < l.length → IsV (l.getD k pn0).v) := hmem
  replace hop : Hid (∀ a b, IsV a → IsV b → IsV (doV op [a, b])) := hop
  clear hva
  unfold vlV
  go_enter Tryz.func63, Tryz.ntmps63
  go_wp2
  have hA : VlAt (w.alloc (vlO zer)) w.heap.size zer := vlNew w zer
  have hT : VlAt ((w.alloc (vlO zer)).alloc (vlO p0.v)) (w.heap.size + 1) p0.v := by
    have := vlNew (w.alloc (vlO zer)) p0.v
    rw [World.size_alloc] at this
    exact this
  have hBB : Below w.heap.size w ((w.alloc (vlO zer)).alloc (vlO p0.v)) := (bW0 w _).alloc (by simp) _
  go_loopw [14] (fun i wr => ∃ k : Nat, k ≤ l.length ∧ i = .int .i64 k ∧ Hid (VlAt wr w.heap.size zer) ∧ Hid (VlAt wr (w.heap.size + 1) ((l.take k).foldl (utP op) p0.v)) ∧ Hid (IsV ((l.take k).foldl (utP op) p0.v)) ∧ Hid (Below w.heap.size w wr)) (fun i _ => l.length - (intOf i).toNat)
  case atStart => exact ⟨0, Nat.zero_le _, rfl, hA.alloc _, hT, hv0, hBB⟩
  case round =>
    obtain ⟨k, hk, rfl, kA, kT, kV, kB⟩ := hrel
    by_cases hlt2 : k < l.length
    · have hki : (k : Int) < (l.length : Int) := by omega
      obtain ⟨b2, o2, e2, y0, y1, y2⟩ := pn_at (hv.out.grow kB.out) k hlt2
      cases e2
      have hf : Hid (((l.take (k + 1)).foldl (utP op) p0.v) = utP op ((l.take k).foldl (utP op) p0.v) (l.getD k pn0)) := fold_take3 (utP op) l p0.v k hlt2
      have hq : Hid (IsV (l.getD k pn0).v) := hmem.out k hlt2
      have hb2 : b < wr.heap.size := World.block_lt_of_cell? wr _ y0
      generalize l.getD k pn0 = q at *
      generalize (l.take k).foldl (utP op) p0.v = T at *
      obtain ⟨t0, t1⟩ := kT.out.cells
      have hzz : w.heap.size + 1 < wr.heap.size := kT.out.lt
      have hd := sdo2b op q.v T wr (pnO q)
      have hR : Hid (IsV (doV op [q.v, T])) := hop.out _ _ hq.out kV.out
      have hut : Hid (utP op T q = if truB (doV op [q.v, T]) = true then q.v else T) := rfl
      generalize doV op [q.v, T] = R at *
      have ht := fun W => true_any R hR.out W
      unfold vlV at ht
      have kP := pnNew wr q
      unfold pnO at kP hd
      cases hb : truB R with
      | true =>
        rw [hb] at ht hut
        go_wp2_with (first
          | (go_at_call 45; refine hd.mono ?_; rintro e w1 ⟨rfl, hb1⟩; have kB1 := (kB.out.alloc kB.out.size _).trans (hb1.mono (kB.out.alloc kB.out.size _).size))
          | (go_at_call 87; refine (ht _).mono ?_; rintro e w2 ⟨rfl, hb2⟩; have kB2 := kB1.trans (hb2.mono kB1.size); have k1 := ((kT.out.alloc _).grow hb1).grow hb2; have k0 := ((kA.out.alloc _).grow hb1).grow hb2; have kP2 := (kP.grow hb1).grow hb2; obtain ⟨u0, u1⟩ := k1.cells; obtain ⟨f0, f1⟩ := k1.frozen; obtain ⟨z0, z1, z2⟩ := kP2.cells))
        refine ⟨⟨k + 1, by omega, by go_num, ?_, ?_, ?_, belTwo _ _ kB2 (Nat.le_succ _)⟩, ?_⟩
        · exact k0.keep ((Below.heap_setCell _ _ _ _ (by show w.heap.size ≠ w.heap.size + 1; omega)).trans (Below.heap_setCell _ _ _ _ (by show w.heap.size ≠ w.heap.size + 1; omega)))
        · rw [hf.out, hut.out, if_pos trivial]
          exact vlSet k1
        · rw [hf.out, hut.out, if_pos trivial]; exact hq
        · simp [intOf]; omega
      | false =>
        rw [hb] at ht hut
        go_wp2_with (first
          | (go_at_call 45; refine hd.mono ?_; rintro e w1 ⟨rfl, hb1⟩; have kB1 := (kB.out.alloc kB.out.size _).trans (hb1.mono (kB.out.alloc kB.out.size _).size))
          | (go_at_call 87; refine (ht _).mono ?_; rintro e w2 ⟨rfl, hb2⟩; have kB2 := kB1.trans (hb2.mono kB1.size); have k1 := ((kT.out.alloc _).grow hb1).grow hb2; have k0 := ((kA.out.alloc _).grow hb1).grow hb2))
        refine ⟨⟨k + 1, by omega, by go_num, k0, ?_, ?_, kB2⟩, ?_⟩
        · rw [hf.out, hut.out, if_neg (by decide)]
          exact k1
        · rw [hf.out, hut.out, if_neg (by decide)]; exact kV
        · simp [intOf]; omega
    · obtain rfl : k = l.length := by omega
      rw [List.take_of_length_le (Nat.le_refl _)] at kT
      have hki : ¬ (l.length : Int) < (l.length : Int) := by omega
      obtain ⟨T, hTT⟩ : ∃ T, Hid (T = l.foldl (utP op) p0.v) := ⟨_, rfl⟩
      rw [← hTT.out] at kT
      obtain ⟨t0, t1⟩ := kT.out.cells
      obtain ⟨u0, u1⟩ := kA.out.cells
      obtain ⟨f0, f1⟩ := kA.out.frozen
      have kA' := kA.out
      have kB' := kB.out
      go_wp2
      exact ret_cell (v := T) Tryz.results63 rfl (vlSet kA') ⟨by rw [hTT.out, hp0.out]; rfl, belTwo _ _ kB' (Nat.le_refl _)⟩
end Go.Proofs.YtejdmielhaldaaaGreat
/- Rows that are made and stored into, of elements of some cells; series.valuesOf. -/
namespace Go.Proofs.YtejdmielhaldaaaGreat
set_option linter.unusedVariables false
open Go.RowKit
section
variable {α : Type} {E : Enc α}
theorem flat_getAt (l : List α) (j : Nat) (hj : j < l.length * E.k) : (flat E l)[j]? = (E.arr (l.getD (j / E.k) E.d))[j % E.k]? := by
  have h1 : j / E.k < l.length := (Nat.div_lt_iff_lt_mul E.pos).2 hj
  have h2 := flat_get (E := E) l (j / E.k) (j % E.k) h1 (Nat.mod_lt _ E.pos)
  rw [Nat.div_add_mod' j E.k] at h2
  exact h2
theorem made_flat (z : Value) (n : Nat) (hz : E.arr E.d = z.cells.toList) : (madeCells z.cells (n * E.k)).toList = flat E (List.replicate n E.d) := by
  have hk : z.cells.size = E.k := by rw [← Array.length_toList, ← hz, E.len]
  apply List.ext_getElem?
  intro j
  by_cases hj : j < n * E.k
  · rw [flat_getAt _ j (by rw [List.length_replicate]; exact hj)]
    have hm : j % E.k < z.cells.size := by rw [hk]; exact Nat.mod_lt _ E.pos
    have hd : (List.replicate n E.d).getD (j / E.k) E.d = E.d := by
      rw [List.getD_eq_getElem?_getD, List.getElem?_replicate]
      split <;> rfl
    rw [hd, hz]
    simp [madeCells, hj, hk]
    rw [Array.getElem?_eq_getElem hm]
    congr 1
    exact getElem!_pos z.cells (j % E.k) hm
  · rw [List.getElem?_eq_none (by simp [madeCells]; omega), List.getElem?_eq_none (by rw [flat_len, List.length_replicate]; omega)]
/-- make([]T, n). -/
theorem run_makeR (T : RowTy E) (n : Nat) (hn : n ≤ 1000000000) (w : World) : (Instr.makeSlice T.st (.int .i64 (n : Int)) (.int .i64 (n : Int))).run Tryz.prog w = .ok (.slice (some ⟨w.heap.size, 0, none⟩) n n) (w.alloc (.cells (madeCells T.z.cells (n * E.k)) T.et)) := by
  obtain ⟨i0, hi, hz0, hz1, hz2⟩ := info_parts T.hi
  have hb : T.bytes * n ≤ 64 * 1000000000 := Nat.mul_le_mul T.hb hn
  have := run_make (P := Tryz.prog) w T.st T.et i0 T.z T.hu hi hz0 .i64 .i64 (n : Int) (n : Int) (by omega) (Int.le_refl _) (by rw [hz2, ← Int.natCast_mul]; omega) (by omega)
  rw [hz1] at this
  simpa using this
theorem own_madeR (T : RowTy E) (hz : E.arr E.d = T.z.cells.toList) (w : World) (n : Nat) (hn : n ≤ 1000000000) : OwnS T (w.alloc (.cells (madeCells T.z.cells (n * E.k)) T.et)) w.heap.size (.slice (some ⟨w.heap.size, 0, none⟩) n n) (List.replicate n E.d) := by
  have h := World.ownsRow_lit w (base := w.heap.size) (e := T.et) (size := E.k) (madeCells T.z.cells (n * E.k)) n (Nat.le_refl _) (by unfold maxLen; omega) (size_madeCells _ _)
  unfold OwnS
  rw [List.length_replicate, ← made_flat T.z n hz]
  exact h
/-- A cell of the row. -/
theorem OwnS.cellR {T : RowTy E} {w : World} {base g n cap : Nat} {xs : List α} (h : OwnS T w base (.slice (some ⟨g, 0, none⟩) n cap) xs) (hn : n = xs.length) (t i : Nat) (ht : t < n) (hi : i < E.k) : w.cell? ⟨g, t * E.k + i, none⟩ = (E.arr (xs.getD t E.d))[i]? ∧ w.frozen? ⟨g, t * E.k + i, none⟩ = false := by
  subst hn
  refine ⟨?_, World.ownsRow.frozenAt h _⟩
  have h2 : t * E.k + i < xs.length * E.k := by
    have := Nat.mul_le_mul_right E.k (Nat.succ_le_of_lt ht)
    rw [Nat.succ_mul] at this
    omega
  rw [World.ownsRow.cellAt h _ h2]
  exact flat_get xs t i ht hi
end
/-! ### Rows of values -/
def encV : Enc Vl where
  arr v := [.int .i64 v.kind, .int .i64 v.n]
  d := zer
  k := 2
  len _ := rfl
  one _ u hu := by simp at hu; rcases hu with rfl | rfl <;> rfl
  pos := by decide
def TV : RowTy encV where
  st := 56
  et := 25
  z := .agg #[.int .i64 0, .int .i64 0]
  bytes := 16
  hu := Tryz.underlying56
  hi := by kernel_rfl
  hz := rfl
  hb := by decide
theorem vls_of {w : World} {v : Value} {l : List Vl} (h : Sls encV w v l) : Vls w v l := by
  obtain ⟨a, c, rfl, _, h⟩ := h
  refine ⟨a, c, rfl, ?_⟩
  rcases h with h | ⟨b, o, rfl, h⟩
  · exact .inl h
  · exact .inr ⟨b, o, rfl, fun t ht => ⟨h t ht 0 _ rfl, h t ht 1 _ rfl⟩⟩
theorem flatV_set (xs : List Vl) (j : Nat) (x : Vl) : flat encV (xs.set j x) = ((flat encV xs).set (j * 2) (.int .i64 x.kind)).set (j * 2 + 1) (.int .i64 x.n) := by
  induction xs generalizing j with
  | nil => simp [flat]
  | cons a r ih =>
    cases j with
    | zero => rfl
    | succ j =>
      show encV.arr a ++ flat encV (r.set j x) = (((encV.arr a ++ flat encV r)).set ((j + 1) * 2) _).set ((j + 1) * 2 + 1) _
      rw [ih, show (j + 1) * 2 = j * 2 + 1 + 1 by omega]
      rfl
theorem own_storeV {w : World} {base g n cap : Nat} {xs : List Vl} (h : OwnS TV w base (.slice (some ⟨g, 0, none⟩) n cap) xs) (hn : n = xs.length) (j : Nat) (x : Vl) : OwnS TV ((w.setCell ⟨g, j * 2, none⟩ (.int .i64 x.kind)).setCell ⟨g, j * 2 + 1, none⟩ (.int .i64 x.n)) base (.slice (some ⟨g, 0, none⟩) n cap) (xs.set j x) := by
  subst hn
  have h1 := (World.ownsRow.stored h (j * 2) (.int .i64 x.kind)).1
  have h2 := (World.ownsRow.stored h1 (j * 2 + 1) (.int .i64 x.n)).1
  unfold OwnS
  rw [List.length_set, flatV_set]
  exact h2
def valsP (l : List Pn) : List Vl := l.map (·.v)
def padP (m : List Pn) (k : Nat) : List Vl := valsP (m.take k) ++ List.replicate (m.length - k) zer
theorem padP_len (m : List Pn) (k : Nat) (hk : k ≤ m.length) : (padP m k).length = m.length := by
  unfold padP valsP; rw [List.length_append, List.length_map, List.length_take, List.length_replicate]; omega
theorem padP_zero (m : List Pn) : padP m 0 = List.replicate m.length zer := by simp [padP, valsP]
theorem padP_full (m : List Pn) : padP m m.length = valsP m := by simp [padP]
theorem padP_set (m : List Pn) (k : Nat) (hk : k < m.length) : (padP m k).set k (m.getD k pn0).v = padP m (k + 1) := by
  unfold padP valsP
  have hl : ((m.take k).map (·.v)).length = k := by rw [List.length_map, List.length_take]; omega
  rw [List.set_append_right _ _ (by omega), hl, Nat.sub_self, List.take_succ_eq_append_getElem hk, List.map_append, List.append_assoc, show m.length - k = (m.length - (k + 1)) + 1 by omega, List.replicate_succ, List.getD_eq_getElem?_getD, List.getElem?_eq_getElem hk]
  rfl
set_option maxRecDepth 100000 in
set_option maxHeartbeats 4000000 in
/-- series.valuesOf. -/
theorem svals_any (v : Value) (m : List Pn) (w : World) (hu : Pns w v m) (hm : m.length ≤ 1000000) :
    Calls Tryz.prog 32 #[v] w fun e w' => ∃ u, e = .returned u ∧ Vls w' u (valsP m) ∧ Below w.heap.size w w' := by
  obtain ⟨a2, c2, rfl⟩ := hu.shape
  replace hu : Hid (Pns w (.slice a2 m.length c2) m) := hu
  have hmk := run_makeR TV m.length (by omega)
  have hb0 : Hid (Below w.heap.size w (w.alloc (.cells (madeCells TV.z.cells (m.length * encV.k)) 25))) := (Below.refl _ w).alloc (Nat.le_refl _) _
  have ho0 : Hid (OwnS TV (w.alloc (.cells (madeCells TV.z.cells (m.length * encV.k)) 25)) w.heap.size (.slice (some ⟨w.heap.size, 0, none⟩) m.length m.length) (padP m 0)) := by
    rw [padP_zero]; exact own_madeR TV rfl w m.length (by omega)
  have hmk' : ∀ W : World, (Instr.makeSlice 56 (.int .i64 (m.length : Int)) (.int .i64 (m.length : Int))).run Tryz.prog W = .ok (.slice (some ⟨W.heap.size, 0, none⟩) m.length m.length) (W.alloc (.cells (madeCells TV.z.cells (m.length * encV.k)) 25)) := hmk
  clear hmk
  generalize madeCells TV.z.cells (m.length * encV.k) = cs at *
  go_enter Tryz.func32, Tryz.ntmps32
  go_wp2
  go_loopw [11] (fun i wr => ∃ k : Nat, k ≤ m.length ∧ i = .int .i64 k ∧ Hid (OwnS TV wr w.heap.size (.slice (some ⟨w.heap.size, 0, none⟩) m.length m.length) (padP m k)) ∧ Hid (Below w.heap.size w wr)) (fun i _ => m.length - (intOf i).toNat)
  case atStart => exact ⟨0, Nat.zero_le _, rfl, ho0, hb0⟩
  case round =>
    obtain ⟨k, hk, rfl, ho, hB⟩ := hrel
    have hbz := hB.out.size
    by_cases hlt : k < m.length
    · have hki : (k : Int) < (m.length : Int) := by omega
      obtain ⟨b1, o1, rfl, x0, x1, x2⟩ := pn_at (hu.out.grow hB.out) k hlt
      have hps : Hid _ := padP_set m k hlt
      have hpl : Hid _ := padP_len m k (by omega)
      generalize m.getD k pn0 = x at *
      have hlt0 := (ho.out.lt w.heap.size rfl).2
      obtain ⟨c0, f0⟩ := ho.out.cellR hpl.out.symm k 0 hlt (by decide)
      obtain ⟨c1, f1⟩ := ho.out.cellR hpl.out.symm k 1 hlt (by decide)
      have ho3 := (own_storeV ho.out hpl.out.symm k x.v).alloc (pnO x)
      rw [hps.out] at ho3
      generalize (padP m k).getD k encV.d = old at c0 c1
      replace c0 : wr.cell? ⟨w.heap.size, k * 2, none⟩ = some (.int .i64 old.kind) := c0
      replace c1 : wr.cell? ⟨w.heap.size, k * 2 + 1, none⟩ = some (.int .i64 old.n) := c1
      replace f0 : wr.frozen? ⟨w.heap.size, k * 2, none⟩ = false := f0
      replace f1 : wr.frozen? ⟨w.heap.size, k * 2 + 1, none⟩ = false := f1
      have hB3 : Hid (Below w.heap.size w (((wr.setCell ⟨w.heap.size, k * 2, none⟩ (.int .i64 x.v.kind)).setCell ⟨w.heap.size, k * 2 + 1, none⟩ (.int .i64 x.v.n)).alloc (pnO x))) := ((hB.out.setCell (p := ⟨w.heap.size, k * 2, none⟩) (Nat.le_refl _) _).setCell (p := ⟨w.heap.size, k * 2 + 1, none⟩) (Nat.le_refl _) _).alloc (by simpa using hbz) _
      replace ho3 : Hid _ := ho3
      clear ho
      go_wp2
      refine ⟨⟨k + 1, by omega, by go_num, ho3, hB3⟩, ?_⟩
      simp [intOf]; omega
    · obtain rfl : k = m.length := by omega
      have hki : ¬ (m.length : Int) < (m.length : Int) := by omega
      rw [padP_full] at ho
      go_wp2
      go_ret
      exact ⟨_, rfl, vls_of ho.out.sls, hB.out⟩
end Go.Proofs.YtejdmielhaldaaaGreat
