/- (*evaluation).told. -/
import Derived.Test.YtiajafljgfpdcaaGreatBTo
namespace Go.Proofs.YtiajafljgfpdcaaGreat
set_option linter.unusedVariables false
open Go.RowKit
theorem own_blockT {α : Type} {E : Enc α} {T : RowTy E} {w : World} {base : Nat} {v : Value} {l : List α} (h : OwnS T w base v l) {k : Nat} (hk : v.ownBlock = some k) : ∃ cur, w.heap[k]? = some (Obj.cells cur T.et (0, 0)) := by
  rcases h.2 with ⟨rfl, _⟩ | ⟨g, cap, cur, rfl, _, hgb, _⟩
  · cases hk
  · have : g = k := by simpa [Value.ownBlock] using hk
    subst this
    exact ⟨cur, hgb⟩
/-- A row of another type stays where a row grows. -/
theorem own_by {α β : Type} {E : Enc α} {E2 : Enc β} {T : RowTy E} {T2 : RowTy E2} {w w' : World} {base base2 : Nat} {v y : Value} {l : List α} {m : List β} (h : OwnS T w base v l) (hne : T.et ≠ T2.et) (hy : OwnS T2 w base2 y m) (hg : w.grownBy w' y.ownBlock) : OwnS T w' base v l :=
  own_apart h fun b cur hc => hg.block b (Array.getElem?_eq_some_iff.1 hc).1 fun e => by
    obtain ⟨cur2, h2⟩ := own_blockT hy e.symm
    rw [hc] at h2
    injection h2 with h2
    injection h2 with _ h3
    exact hne h3
theorem sat_by {α : Type} {E : Enc α} {T : RowTy E} {w w' : World} {base x : Nat} {y : Value} {m : List α} {s : Sd} (h : SAt w x s) (hne : T.et ≠ 120) (hy : OwnS T w base y m) (hg : w.grownBy w' y.ownBlock) : SAt w' x s :=
  h.keep (hg.block x h.lt fun e => by
    obtain ⟨cur2, h2⟩ := own_blockT hy e.symm
    unfold SAt at h
    rw [h] at h2
    injection h2 with h2
    injection h2 with _ h3
    exact hne h3.symm)
def enF (e : En) : List Lb × S.Inst := (e.ls, e.x)
/-- What stands between two rounds. -/
structure TI (w0 : World) (iv now : Int) (M : List Sd) (vr : Value) (ke kc : Nat) (y z : Value) (wr : World) : Prop where
  row : OwnS TD wr w0.heap.size vr M
  ens : ∃ E : List En, OwnS TE wr w0.heap.size y E ∧ (∀ e ∈ E, OwnL wr w0.heap.size e.sv.v e.ls) ∧ E.map enF = leftL iv now ((M.take ke).map (·.s))
  cgs : ∃ C : List Cn, OwnS TC wr w0.heap.size z C ∧ (∀ c ∈ C, OwnL wr w0.heap.size c.sv.v c.c.ls) ∧ C.map (·.c) = toldL iv now ((M.take kc).map (·.s))
  bel : Below w0.heap.size w0 wr
theorem leftL_app (iv now : Int) (A B : List Ae) : leftL iv now (A ++ B) = leftL iv now A ++ leftL iv now B := by simp [leftL]
theorem toldL_app (iv now : Int) (A B : List Ae) : toldL iv now (A ++ B) = toldL iv now A ++ toldL iv now B := by simp [toldL]
theorem take_snocM {M : List Sd} {k : Nat} (hk : k < M.length) : (M.take (k + 1)).map (·.s) = (M.take k).map (·.s) ++ [(M.getD k sd0).s] := by
  rw [take_getD M sd0 k hk, List.map_append]; rfl
theorem leftL_len (iv now : Int) (L : List Ae) : (leftL iv now L).length ≤ L.length := by
  unfold leftL
  rw [List.length_map]
  exact List.length_filter_le _ _
theorem tellA_len (iv now : Int) (s : Ae) : (tellA iv now s).length ≤ 1 := by
  unfold tellA
  split <;> split <;> simp
theorem toldL_len (iv now : Int) : ∀ L : List Ae, (toldL iv now L).length ≤ L.length
  | [] => by simp [toldL]
  | s :: L => by
    have h1 := toldL_len iv now L
    have h2 := tellA_len iv now s
    unfold toldL at *
    rw [List.map_cons, List.flatten_cons, List.length_append, List.length_cons]
    omega
theorem ens_len {w0 wr : World} {iv now : Int} {M : List Sd} {k : Nat} {E : List En} (h : E.map enF = leftL iv now ((M.take k).map (·.s))) (hM : M.length ≤ 10000) : E.length ≤ 10000 := by
  have h1 := congrArg List.length h
  rw [List.length_map] at h1
  have h2 := leftL_len iv now ((M.take k).map (·.s))
  rw [List.length_map, List.length_take] at h2
  omega
theorem cgs_len {w0 wr : World} {iv now : Int} {M : List Sd} {k : Nat} {C : List Cn} (h : C.map (·.c) = toldL iv now ((M.take k).map (·.s))) (hM : M.length ≤ 10000) : C.length ≤ 10000 := by
  have h1 := congrArg List.length h
  rw [List.length_map] at h1
  have h2 := toldL_len iv now ((M.take k).map (·.s))
  rw [List.length_map, List.length_take] at h2
  omega
theorem left_over {iv now : Int} {s : Ae} (h : overB iv now s = true) : leftL iv now [s] = [] := by simp [leftL, h]
theorem left_one {iv now : Int} {s : Ae} (h : overB iv now s = false) : leftL iv now [s] = [(s.ls, s.x)] := by simp [leftL, h]
theorem told_one (iv now : Int) (s : Ae) : toldL iv now [s] = tellA iv now s := by simp [toldL]
section
variable {w0 wr w' : World} {iv now : Int} {M : List Sd} {vr : Value} {k ke kc : Nat} {y z : Value}
theorem TI.stay (h : TI w0 iv now M vr ke kc y z wr) (hb : Below wr.heap.size wr w') : TI w0 iv now M vr ke kc y z w' := by
  obtain ⟨E, e1, e2, e3⟩ := h.ens
  obtain ⟨C, c1, c2, c3⟩ := h.cgs
  exact ⟨OwnS.stay h.row hb, ⟨E, OwnS.stay e1 hb, fun e he => OwnS.stay (e2 e he) hb, e3⟩, ⟨C, OwnS.stay c1 hb, fun c hc => OwnS.stay (c2 c hc) hb, c3⟩, h.bel.trans (hb.mono h.bel.size)⟩
theorem TI.skipE (h : TI w0 iv now M vr k kc y z wr) (hk : k < M.length) (ho : overB iv now (M.getD k sd0).s = true) : TI w0 iv now M vr (k + 1) kc y z wr := by
  obtain ⟨E, e1, e2, e3⟩ := h.ens
  refine ⟨h.row, ⟨E, e1, e2, ?_⟩, h.cgs, h.bel⟩
  rw [take_snocM hk, leftL_app, e3, left_over ho, List.append_nil]
theorem TI.skipC (h : TI w0 iv now M vr ke k y z wr) (hk : k < M.length) (ho : tellA iv now (M.getD k sd0).s = []) : TI w0 iv now M vr ke (k + 1) y z wr := by
  obtain ⟨C, c1, c2, c3⟩ := h.cgs
  refine ⟨h.row, h.ens, ⟨C, c1, c2, ?_⟩, h.bel⟩
  rw [take_snocM hk, toldL_app, c3, told_one, ho, List.append_nil]
theorem TI.addE (h : TI w0 iv now M vr k kc y z wr) {E : List En} (e1 : OwnS TE wr w0.heap.size y E) (e2 : ∀ e ∈ E, OwnL wr w0.heap.size e.sv.v e.ls) (e3 : E.map enF = leftL iv now ((M.take k).map (·.s))) (hk : k < M.length)
    (ho : overB iv now (M.getD k sd0).s = false) {e : En} (hl : OwnL wr w0.heap.size e.sv.v e.ls) (he : enF e = ((M.getD k sd0).s.ls, (M.getD k sd0).s.x)) {y' : Value} (hy : OwnS TE w' w0.heap.size y' (E ++ [e])) (hg : wr.grownBy w' y.ownBlock) :
    TI w0 iv now M vr (k + 1) kc y' z w' := by
  obtain ⟨C, c1, c2, c3⟩ := h.cgs
  refine ⟨own_by h.row (by decide) e1 hg, ⟨_, hy, fun x hx => ?_, ?_⟩, ⟨C, own_by c1 (by decide) e1 hg, fun c hc => own_by (c2 c hc) (by decide) e1 hg, c3⟩, h.bel.grown hg h.bel.size (fun k e => (OwnS.lt e1 k e).1)⟩
  · rcases List.mem_append.1 hx with hx | hx
    · exact own_by (e2 x hx) (by decide) e1 hg
    · obtain rfl : x = e := by simpa using hx
      exact own_by hl (by decide) e1 hg
  · rw [take_snocM hk, leftL_app, List.map_append, e3, left_one ho, ← he]
    rfl
theorem TI.addC (h : TI w0 iv now M vr ke k y z wr) {C : List Cn} (c1 : OwnS TC wr w0.heap.size z C) (c2 : ∀ c ∈ C, OwnL wr w0.heap.size c.sv.v c.c.ls) (c3 : C.map (·.c) = toldL iv now ((M.take k).map (·.s))) (hk : k < M.length)
    {c : Cn} (hl : OwnL wr w0.heap.size c.sv.v c.c.ls) (ho : tellA iv now (M.getD k sd0).s = [c.c]) {z' : Value} (hz : OwnS TC w' w0.heap.size z' (C ++ [c])) (hg : wr.grownBy w' z.ownBlock) :
    TI w0 iv now M vr ke (k + 1) y z' w' := by
  obtain ⟨E, e1, e2, e3⟩ := h.ens
  refine ⟨own_by h.row (by decide) c1 hg, ⟨E, own_by e1 (by decide) c1 hg, fun e he => own_by (e2 e he) (by decide) c1 hg, e3⟩, ⟨_, hz, fun x hx => ?_, ?_⟩, h.bel.grown hg h.bel.size (fun k e => (OwnS.lt c1 k e).1)⟩
  · rcases List.mem_append.1 hx with hx | hx
    · exact own_by (c2 x hx) (by decide) c1 hg
    · obtain rfl : x = c := by simpa using hx
      exact own_by hl (by decide) c1 hg
  · rw [take_snocM hk, toldL_app, List.map_append, c3, told_one, ho]
    rfl
end
set_option maxRecDepth 100000 in
set_option maxHeartbeats 4000000 in
theorem told_any (p b : Nat) (h : S.Hd) (iv now : Int) (L : List Ae) (M : List Sd) (w : World) (ha : HeardAt w p b h iv now L M) (hl : M.length ≤ 10000) (hi : -4611686018427387904 ≤ iv ∧ iv ≤ 4611686018427387903)
    (hd : ∀ s ∈ M, -9223372036854775808 ≤ now - s.s.x.seen ∧ now - s.s.x.seen ≤ 9223372036854775807) :
    Calls Tryz.prog 38 #[.pointer (some ⟨p, 0, none⟩)] w fun e w' => ∃ y z E C, e = .returned (.tuple #[y, z]) ∧ Ens w' y E ∧ Cns w' z C ∧ E.map enF = leftL iv now L ∧ C.map (·.c) = toldL iv now L ∧ Below w.heap.size w w' := by
  obtain ⟨c0, c1, c2, c3, c4, c5, c6⟩ := ha.ev.cells
  have hval : Calls Tryz.prog 72 #[.map (some b)] w fun e w' => e = .returned (.func (.func 103) #[] #[.pointer (some ⟨w.heap.size, 0, none⟩)]) ∧ w' = w.alloc (.cells #[.map (some b)] 79) := callsIn_wide.1 (values_in 6 b w)
  have hbW : Below w.heap.size w (w.alloc (.cells #[.map (some b)] 79)) := (Below.refl _ w).alloc (Nat.le_refl _) _
  have hsrt := sorted71 w.heap.size b M (w.alloc (.cells #[.map (some b)] 79)) (by simp) (by unfold World.cell?; rw [heap_new]; rfl) (ha.map.grow hbW) (ha.sds.grow hbW) (by omega)
  go_enter Tryz.func38, Tryz.ntmps38
  go_wp2_with (first
    | (go_at_call 72; refine hval.mono ?_; rintro e w1 ⟨rfl, hw1⟩; subst w1)
    | (go_at_call 71; refine hsrt.mono ?_; rintro e w2 ⟨vr, rfl, hrow, hb2⟩; obtain ⟨va, vc, rfl⟩ := hrow.shape))
  have hB2 : Below w.heap.size w w2 := hbW.trans (hb2.mono hbW.size)
  have hT0 : Hid (TI w iv now M (.slice va M.length vc) 0 0 (.slice none 0 0) (.slice none 0 0) w2) := ⟨OwnS.wide hrow hbW.size, ⟨[], OwnS.nil _ _, by simp, by simp [leftL]⟩, ⟨[], OwnS.nil _ _, by simp, by simp [toldL]⟩, hB2⟩
  clear hval hsrt hrow hb2 c0 c1 c2 c3 c4 c5 c6
  go_loopw [4, 5, 15] (fun y z i wr => ∃ k : Nat, k ≤ M.length ∧ i = .int .i64 k ∧ Hid (TI w iv now M (.slice va M.length vc) k k y z wr)) (fun _ _ i _ => M.length - (intOf i).toNat)
  case atStart => exact ⟨0, Nat.zero_le _, rfl, hT0⟩
  case round =>
    obtain ⟨k, hk, rfl, hT⟩ := hrel
    have hbz := hT.out.bel.size
    by_cases hlt : k < M.length
    · have hki : (k : Int) < (M.length : Int) := by omega
      obtain ⟨bb, o, rfl, hat⟩ := sd_at hT.out.row.sls k hlt
      obtain ⟨x0, x1, x2, x3, x4, x5, x6, x7, x8, x9⟩ := at_sd hat
      have hmem := getD_mem M sd0 k hlt
      have htk := take_snocM hlt
      have hds := hd _ hmem
      have hsd := ha.sds _ hmem
      have hset := ha.map.sets _ hmem
      have hskE := fun (W : World) (y z : Value) (g : TI w iv now M (.slice (some ⟨bb, o, none⟩) M.length vc) k k y z W) => TI.skipE g hlt
      have hskC := fun (W : World) (ke : Nat) (y z : Value) (g : TI w iv now M (.slice (some ⟨bb, o, none⟩) M.length vc) ke k y z W) => TI.skipC g hlt
      have haE := fun (W w' : World) (y z : Value) (g : TI w iv now M (.slice (some ⟨bb, o, none⟩) M.length vc) k k y z W) E e1 e2 e3 ho e hl he y' hy hg => TI.addE (w' := w') g (E := E) e1 e2 e3 hlt ho (e := e) hl he (y' := y') hy hg
      have haC := fun (W w' : World) (ke : Nat) (y z : Value) (g : TI w iv now M (.slice (some ⟨bb, o, none⟩) M.length vc) ke k y z W) C c1 c2 c3 c hl ho z' hz hg => TI.addC (w' := w') g (C := C) c1 c2 c3 hlt (c := c) hl ho (z' := z') hz hg
      generalize M.getD k sd0 = s at *
      have hBa : Hid (Below wr.heap.size wr (wr.alloc (sO s))) := (Below.refl _ wr).alloc (Nat.le_refl _) _
      have hB1 : Hid (Below w.heap.size w (wr.alloc (sO s))) := hT.out.bel.alloc hbz _
      have hov := isOver74 p b h iv now s (wr.alloc (sO s)) (ha.ev.grow hB1.out) hds hi
      have hS1 : Hid (SAt (wr.alloc (sO s)) wr.heap.size s) := sNew wr s
      obtain ⟨g0, g1, g2, g3, g4, g5, g6, g7, g8, g9⟩ := hS1.out.cells
      have hchg : Hid (∀ (st vk vn : Int) W, Below w.heap.size w W → Calls Tryz.prog 77 #[encD ⟨s.sv, { s.s with x := { s.s.x with st := st, vk := vk, vn := vn } }⟩] W fun e w' => ∃ a c, e = .returned (encC ⟨⟨a, s.s.ls.length, c⟩, ⟨s.s.ls, s.s.ah, st, vk, vn⟩⟩) ∧ OwnL w' W.heap.size (.slice a s.s.ls.length c) s.s.ls ∧ Below W.heap.size W w') :=
        fun st vk vn W hW => change77 ⟨s.sv, { s.s with x := { s.s.x with st := st, vk := vk, vn := vn } }⟩ W (Sls.grow hsd hW) (by have := hset.2.2; show s.s.ls.length ≤ 1000; omega)
      cases hover : overB iv now s.s with
      | true =>
        rw [hover] at hov
        have htell : tellA iv now s.s = if s.s.ah = 1 then [] else [⟨s.s.ls, s.s.ah, 1, 2, 0⟩] := by unfold tellA; rw [if_pos hover]
        have hnull := fun W => S.null26 W
        obtain ⟨⟨sa, sn, sc⟩, ls, ⟨a1, a2, a3, a4, a5, a6, a7⟩, a8, a9⟩ := s
        unfold encD at hov hchg
        unfold encC at hchg
        unfold S.encV at hnull
        simp only at *
        by_cases h8 : a8 = 1
        · subst h8
          rw [if_pos rfl] at htell
          go_wp2_with (first
            | (go_at_call 74; refine hov.mono ?_; rintro e w3 ⟨rfl, hb3⟩)
            | (go_at_call 75; refine (hnull _).mono ?_; rintro e w4 ⟨rfl, hb4⟩; have hS4 := (hS1.out.grow hb3).grow hb4; have f4 := hS4.frozen; obtain ⟨p0, p1, p2, p3, p4, p5, p6, p7, p8, p9⟩ := hS4.cells; simp only at p0 p1 p2 p3 p4 p5 p6 p7 p8 p9; go_frame))
          have hB4 : Below wr.heap.size wr w4 := (hBa.out.trans (hb3.mono hBa.out.size)).trans (hb4.mono (hBa.out.trans (hb3.mono hBa.out.size)).size)
          have hB5 : Below wr.heap.size wr (((w4.setCell ⟨wr.heap.size, 1, none⟩ (.int .i64 1)).setCell ⟨wr.heap.size, 6, none⟩ (.int .i64 2)).setCell ⟨wr.heap.size, 7, none⟩ (.int .i64 0)) :=
            ((hB4.setCell (p := ⟨wr.heap.size, 1, none⟩) (Nat.le_refl _) _).setCell (p := ⟨wr.heap.size, 6, none⟩) (Nat.le_refl _) _).setCell (p := ⟨wr.heap.size, 7, none⟩) (Nat.le_refl _) _
          refine ⟨⟨k + 1, by omega, by go_num, hskC _ _ _ _ (hskE _ _ _ (hT.out.stay hB5) hover) htell⟩, ?_⟩
          simp [intOf]; omega
        · rw [if_neg h8] at htell
          have h81 : ¬ (1 : Int) = a8 := fun e => h8 e.symm
          have h82 : ((1 : Int) != a8) = true := by simp [h81]
          go_upto_region 10 with (first
            | (go_at_call 74; refine hov.mono ?_; rintro e w3 ⟨rfl, hb3⟩)
            | (go_at_call 75; refine (hnull _).mono ?_; rintro e w4 ⟨rfl, hb4⟩; have hS4 := (hS1.out.grow hb3).grow hb4; have f4 := hS4.frozen; obtain ⟨p0, p1, p2, p3, p4, p5, p6, p7, p8, p9⟩ := hS4.cells; simp only at p0 p1 p2 p3 p4 p5 p6 p7 p8 p9; go_frame))
          have hB4 : Below wr.heap.size wr w4 := (hBa.out.trans (hb3.mono hBa.out.size)).trans (hb4.mono (hBa.out.trans (hb3.mono hBa.out.size)).size)
          have hB5 : Hid (Below wr.heap.size wr (((w4.setCell ⟨wr.heap.size, 1, none⟩ (.int .i64 1)).setCell ⟨wr.heap.size, 6, none⟩ (.int .i64 2)).setCell ⟨wr.heap.size, 7, none⟩ (.int .i64 0))) :=
            ((hB4.setCell (p := ⟨wr.heap.size, 1, none⟩) (Nat.le_refl _) _).setCell (p := ⟨wr.heap.size, 6, none⟩) (Nat.le_refl _) _).setCell (p := ⟨wr.heap.size, 7, none⟩) (Nat.le_refl _) _
          have hS5 : Hid (SAt (((w4.setCell ⟨wr.heap.size, 1, none⟩ (.int .i64 1)).setCell ⟨wr.heap.size, 6, none⟩ (.int .i64 2)).setCell ⟨wr.heap.size, 7, none⟩ (.int .i64 0)) wr.heap.size ⟨⟨sa, sn, sc⟩, ⟨ls, ⟨1, a2, a3, a4, a5, 2, 0⟩, a8, a9⟩⟩) := by
            have h0 := S.block_setCell (i := 1) (u := .int .i64 1) hS4
            have h1 := S.block_setCell (i := 6) (u := .int .i64 2) h0
            have h2 := S.block_setCell (i := 7) (u := .int .i64 0) h1
            show SAt _ _ _
            unfold SAt
            rw [h2]
            simp
          clear p0 p1 p2 p3 p4 p5 p6 p7 p8 p9 f4 hS4 hB4 hb4 hb3
          generalize (((w4.setCell ⟨wr.heap.size, 1, none⟩ (.int .i64 1)).setCell ⟨wr.heap.size, 6, none⟩ (.int .i64 2)).setCell ⟨wr.heap.size, 7, none⟩ (.int .i64 0)) = W5 at *
          obtain ⟨p0, p1, p2, p3, p4, p5, p6, p7, p8, p9⟩ := hS5.out.cells
          simp only at p0 p1 p2 p3 p4 p5 p6 p7 p8 p9
          have hBw : Below w.heap.size w W5 := hT.out.bel.trans (hB5.out.mono hbz)
          have hc77 := hchg.out 1 2 0 W5 hBw
          obtain ⟨C, d1, d2, d3⟩ := hT.out.cgs
          have hCl := cgs_len (w0 := w) (wr := w) d3 hl
          replace d1 : Hid (OwnS TC wr w.heap.size u5 C) := d1
          replace d2 : Hid (∀ c ∈ C, OwnL wr w.heap.size c.sv.v c.c.ls) := d2
          replace d3 : Hid (C.map (·.c) = toldL iv now ((M.take k).map (·.s))) := d3
          go_wp2_with (first
            | (go_at_call 77; refine hc77.mono ?_; rintro e w6 ⟨ca, cc, rfl, hol, hb6⟩)
            | (at_builtin; refine appR TC rfl _ _ rfl w.heap.size _ _ C [⟨⟨ca, ls.length, cc⟩, ⟨ls, a8, 1, 2, 0⟩⟩] rfl rfl (OwnS.stay d1.out (((hB5.out.trans (hb6.mono hB5.out.size))).alloc ((hB5.out.trans (hb6.mono hB5.out.size))).size _)) (sls_one w6 _ _ 62 rfl) (Nat.le_trans hbz (((hB5.out.trans (hb6.mono hB5.out.size))).alloc ((hB5.out.trans (hb6.mono hB5.out.size))).size (.cells #[.slice ca ls.length cc, .int .i64 a8, .int .i64 1, .int .i64 2, .int .i64 0] 62)).size) (by simp; omega) ?_; intro z' w7 ho7 hg7; go_frame))
          have hB6 := hB5.out.trans (hb6.mono hB5.out.size)
          have hBc := hB6.alloc hB6.size (.cells #[.slice ca ls.length cc, .int .i64 a8, .int .i64 1, .int .i64 2, .int .i64 0] 62)
          refine ⟨⟨k + 1, by omega, by go_num, haC _ w7 (k + 1) _ _ (hskE _ _ _ (hT.out.stay hBc) hover) C (OwnS.stay d1.out hBc) (fun c hc => OwnS.stay (d2.out c hc) hBc) d3.out ⟨⟨ca, ls.length, cc⟩, ⟨ls, a8, 1, 2, 0⟩⟩ (OwnS.wide (OwnS.alloc hol _) hBw.size) htell z' ho7 hg7⟩, ?_⟩
          simp [intOf]; omega
      | false =>
        rw [hover] at hov
        have htell : tellA iv now s.s = if s.s.x.st = s.s.ah then [] else [⟨s.s.ls, s.s.ah, s.s.x.st, s.s.x.vk, s.s.x.vn⟩] := by unfold tellA; rw [if_neg (by rw [hover]; decide)]
        have hn := lbs_n hsd
        have hcl : Hid (∀ W, Below w.heap.size w W → Calls Tryz.prog 76 #[s.sv.v] W fun e w' => ∃ a c, e = .returned (.slice a s.s.ls.length c) ∧ OwnL w' W.heap.size (.slice a s.s.ls.length c) s.s.ls ∧ Below W.heap.size W w') := fun W hW => clone76 _ _ W (Sls.grow hsd hW) (by have := hset.2.2; omega)
        obtain ⟨⟨sa, sn, sc⟩, ls, ⟨a1, a2, a3, a4, a5, a6, a7⟩, a8, a9⟩ := s
        unfold encD at hov hchg
        unfold encC at hchg
        unfold Sv.v at hcl
        simp only at *
        subst hn
        obtain ⟨E, e1, e2, e3⟩ := hT.out.ens
        have hEl := ens_len (w0 := w) (wr := w) e3 hl
        replace e1 : Hid (OwnS TE wr w.heap.size u4 E) := e1
        replace e2 : Hid (∀ e ∈ E, OwnL wr w.heap.size e.sv.v e.ls) := e2
        replace e3 : Hid (E.map enF = leftL iv now ((M.take k).map (·.s))) := e3
        go_upto_region 8 with (first
          | (go_at_call 74; refine hov.mono ?_; rintro e w3 ⟨rfl, hb3⟩))
        have hB3 : Hid (Below wr.heap.size wr w3) := hBa.out.trans (hb3.mono hBa.out.size)
        have hS3 : Hid (SAt w3 wr.heap.size ⟨⟨sa, ls.length, sc⟩, ⟨ls, ⟨a1, a2, a3, a4, a5, a6, a7⟩, a8, a9⟩⟩) := hS1.out.grow hb3
        have hB3d : Below wr.heap.size wr w3.drew := hB3.out.drew
        have hBw3 : Below w.heap.size w w3.drew := hT.out.bel.trans (hB3d.mono hbz)
        have hcl3 := hcl.out w3.drew hBw3
        obtain ⟨p0, p1, p2, p3, p4, p5, p6, p7, p8, p9⟩ := hS3.out.cells
        simp only at p0 p1 p2 p3 p4 p5 p6 p7 p8 p9
        have keep : ∀ X {b o : Nat} {u : Value}, Below w3.heap.size w3 X → w3.cell? ⟨b, o, none⟩ = some u → X.cell? ⟨b, o, none⟩ = some u := fun X b o u hX h => (hX.cell (p := ⟨b, o, none⟩) (World.block_lt_of_cell? w3 _ h)).trans h
        clear hov hcl g0 g1 g2 g3 g4 g5 g6 g7 g8 g9
        go_region_law (first
          | (go_simp; go_at_call 76; refine hcl3.mono ?_; rintro e w4 ⟨va2, vc2, rfl, hol, hb4⟩; have hX4 : Below w3.heap.size w3 w4 := ((Below.refl _ w3).drew).trans (hb4.mono (Nat.le_refl _)); have y1 := keep _ hX4 p1; have y2 := keep _ hX4 p2; have y3 := keep _ hX4 p3; have y4 := keep _ hX4 p4; have y5 := keep _ hX4 p5; have y6 := keep _ hX4 p6; have y7 := keep _ hX4 p7; have hB4 : Below wr.heap.size wr w4 := hB3.out.trans (hX4.mono hB3.out.size))
          | (refine stepR TE rfl (.tmp 29) (.tmp 38) rfl w.heap.size u4 ⟨w4.heap.size, 0, none⟩ 1 1 E [⟨⟨va2, ls.length, vc2⟩, ls, ⟨a1, a2, a3, a4, a5, a6, a7⟩⟩] (by first | rfl | simp [Act.eval] | simp [Act.eval, Act.put]) (by first | rfl | simp [Act.eval] | simp [Act.eval, Act.put]) (OwnS.alloc (OwnS.stay e1.out hB4) _) (sls_one w4 _ _ 67 rfl) (Nat.le_trans (Nat.le_trans hbz hB4.size) (by simp)) (by simp; omega) ?_; intro y' w5 ho5 hg5))
        all_goals
          have hBa4 : Below wr.heap.size wr (w4.alloc (.cells #[.slice va2 ls.length vc2, .int .i64 a1, .int .i64 a2, .int .i64 a3, .int .i64 a4, .int .i64 a5, .int .i64 a6, .int .i64 a7] 67)) := hB4.alloc hB4.size _
          have hT5 : Hid (TI w iv now M (.slice (some ⟨bb, o, none⟩) M.length vc) (k + 1) k y' u5 w5) :=
            haE _ w5 _ _ (hT.out.stay hBa4) E (OwnS.stay e1.out hBa4) (fun e he => OwnS.stay (e2.out e he) hBa4) e3.out hover ⟨⟨va2, ls.length, vc2⟩, ls, ⟨a1, a2, a3, a4, a5, a6, a7⟩⟩ (OwnS.wide (OwnS.alloc hol _) hBw3.size) rfl y' ho5 hg5
          have hS5 : Hid (SAt w5 wr.heap.size ⟨⟨sa, ls.length, sc⟩, ⟨ls, ⟨a1, a2, a3, a4, a5, a6, a7⟩, a8, a9⟩⟩) :=
            sat_by ((hS3.out.grow hX4).grow ((Below.refl _ w4).alloc (Nat.le_refl _) _)) (T := TE) (by decide) (OwnS.alloc (OwnS.stay e1.out hB4) _) hg5
          clear y1 y2 y3 y4 y5 y6 y7 p0 p1 p2 p3 p4 p5 p6 p7 p8 p9 keep hcl3 hskE haE
          obtain ⟨p0, p1, p2, p3, p4, p5, p6, p7, p8, p9⟩ := hS5.out.cells
          simp only at p0 p1 p2 p3 p4 p5 p6 p7 p8 p9
          by_cases h8 : a1 = a8
          · subst h8
            rw [if_pos rfl] at htell
            go_wp2
            refine ⟨⟨k + 1, by omega, by go_num, hskC _ _ _ _ hT5.out htell⟩, ?_⟩
            simp [intOf]; omega
          · rw [if_neg h8] at htell
            have h81 : (a1 != a8) = true := by simp [h8]
            have hBw : Below w.heap.size w w5 := hT5.out.bel
            have hc77 := hchg.out a1 a6 a7 w5 hBw
            obtain ⟨C, d1, d2, d3⟩ := hT5.out.cgs
            have hCl := cgs_len (w0 := w) (wr := w) d3 hl
            replace d1 : Hid (OwnS TC w5 w.heap.size u5 C) := d1
            replace d2 : Hid (∀ c ∈ C, OwnL w5 w.heap.size c.sv.v c.c.ls) := d2
            replace d3 : Hid (C.map (·.c) = toldL iv now ((M.take k).map (·.s))) := d3
            go_wp2_with (first
              | (go_at_call 77; refine hc77.mono ?_; rintro e w6 ⟨ca, cc, rfl, hol6, hb6⟩)
              | (at_builtin; refine appR TC rfl _ _ rfl w.heap.size _ _ C [⟨⟨ca, ls.length, cc⟩, ⟨ls, a8, a1, a6, a7⟩⟩] rfl rfl (OwnS.alloc (OwnS.stay d1.out hb6) _) (sls_one w6 _ _ 62 rfl) (Nat.le_trans (Nat.le_trans hBw.size hb6.size) (by simp)) (by simp; omega) ?_; intro z' w7 ho7 hg7; go_frame))
            have hBc := hb6.alloc hb6.size (.cells #[.slice ca ls.length cc, .int .i64 a8, .int .i64 a1, .int .i64 a6, .int .i64 a7] 62)
            refine ⟨⟨k + 1, by omega, by go_num, haC _ w7 (k + 1) _ _ (hT5.out.stay hBc) C (OwnS.stay d1.out hBc) (fun c hc => OwnS.stay (d2.out c hc) hBc) d3.out ⟨⟨ca, ls.length, cc⟩, ⟨ls, a8, a1, a6, a7⟩⟩ (OwnS.wide (OwnS.alloc hol6 _) hBw.size) htell z' ho7 hg7⟩, ?_⟩
            simp [intOf]; omega
    · obtain rfl : k = M.length := by omega
      have hki : ¬ (M.length : Int) < (M.length : Int) := by omega
      obtain ⟨E, e1, e2, e3⟩ := hT.out.ens
      obtain ⟨C, d1, d2, d3⟩ := hT.out.cgs
      rw [List.take_of_length_le (Nat.le_refl _), ha.eq] at e3 d3
      have hbf := hT.out.bel
      go_wp2
      go_ret2
      exact ⟨_, _, rfl, E, ⟨e1.sls, fun e he => (e2 e he).sls⟩, C, ⟨d1.sls, fun c hc => (d2 c hc).sls⟩, e3, d3, hbf⟩
end Go.Proofs.YtiajafljgfpdcaaGreat
