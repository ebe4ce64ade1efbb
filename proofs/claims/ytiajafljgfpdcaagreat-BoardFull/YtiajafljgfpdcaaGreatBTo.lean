/- slices.Clone of labels, isOver, change. -/
import Derived.Test.YtiajafljgfpdcaaGreatBVd
import Derived.Test.YtiajafljgfpdcaaGreatBBy
import Derived.Deep.RegionHeldLaw
namespace Go.Proofs.YtiajafljgfpdcaaGreat
set_option linter.unusedVariables false
open Go.RowKit
theorem lbs_apart {w w' : World} {v : Value} {l : List Lb} {g : Nat} {C : Array Value} {t : TypeId} (h : Lbs w v l) (hg : w.heap[g]? = some (.cells C t (0, 0))) (hno : ∀ u ∈ C, ∀ s, u ≠ .string s) (hk : ∀ b, b ≠ g → w'.heap[b]? = w.heap[b]?) : Lbs w' v l := by
  obtain ⟨a, c, rfl, hn, h⟩ := h
  refine ⟨a, c, rfl, hn, ?_⟩
  rcases h with h | ⟨b, o, rfl, h⟩
  · exact .inl h
  · refine .inr ⟨b, o, rfl, fun t ht i u hu => ?_⟩
    have h1 := h t ht i u hu
    have hb : b ≠ g := fun e => by
      subst e
      simp only [World.cell?, hg] at h1
      have h2 : C[o + t * encL.k + i]? = some u := by simpa using h1
      have hs : ∃ s, u = .string s := by
        have hm : u ∈ encL.arr (l.getD t encL.d) := List.mem_of_getElem? hu
        have hm2 : u = .string (l.getD t encL.d).name ∨ u = .string (l.getD t encL.d).value := by simpa [encL] using hm
        rcases hm2 with e | e
        · exact ⟨_, e⟩
        · exact ⟨_, e⟩
      obtain ⟨s, rfl⟩ := hs
      exact hno _ (Array.mem_of_getElem? h2) s rfl
    rw [← h1]
    unfold World.cell?
    rw [hk b hb]
theorem own_apart {α : Type} {E : Enc α} {T : RowTy E} {w w' : World} {base : Nat} {v : Value} {l : List α} (h : OwnS T w base v l) (hk : ∀ (b : Nat) cur, w.heap[b]? = some (Obj.cells cur T.et (0, 0)) → w'.heap[b]? = w.heap[b]?) : OwnS T w' base v l := by
  refine ⟨h.1, ?_⟩
  rcases h.2 with h0 | ⟨g, cap, cur, e, hb, hg, rest⟩
  · exact .inl h0
  · exact .inr ⟨g, cap, cur, e, hb, (hk g cur hg).trans hg, rest⟩
set_option maxRecDepth 100000 in
set_option maxHeartbeats 2000000 in
theorem clone76 (v : Value) (l : List Lb) (w : World) (hv : Lbs w v l) (hl : l.length ≤ 100000) : Calls Tryz.prog 76 #[v] w fun e w' => ∃ a c, e = .returned (.slice a l.length c) ∧ OwnL w' w.heap.size (.slice a l.length c) l ∧ Below w.heap.size w w' := by
  have hv0 := hv
  obtain ⟨a, c, rfl, hn, h⟩ := hv
  cases a with
  | none =>
    have hl0 : l = [] := by
      rcases h with h | ⟨_, _, e, _⟩
      · exact h
      · cases e
    subst hl0
    obtain rfl := hn.1 rfl
    have hq : (binOp .eql 24 (.slice none 0 0) (.slice none 0 0)).run Tryz.prog w = .ok (.bool true) w := Lib.run_eql_slice_nil w 24 70 none 0 0 0 0 Tryz.underlying24
    go_enter Tryz.func76, Tryz.ntmps76
    go_wp2
    go_ret
    exact ⟨_, _, rfl, OwnS.nil _ _, Below.refl _ _⟩
  | some a =>
    have ho := own_empty (T := TL) w w.heap.size (Nat.le_refl _)
    have hb : Below w.heap.size w (w.alloc (.cells #[] 70)) := (Below.refl _ w).alloc (Nat.le_refl _) _
    have hq : (binOp .eql 24 (.slice (some a) l.length c) (.slice none 0 0)).run Tryz.prog w = .ok (.bool false) w := Lib.run_eql_slice_nil w 24 70 (some a) l.length c 0 0 Tryz.underlying24
    go_enter Tryz.func76, Tryz.ntmps76
    go_wp2_with (at_builtin; refine appR TL rfl _ _ rfl w.heap.size _ _ [] l rfl rfl ho (Sls.grow hv0 hb) hb.size (by simp; omega) ?_; intro v' w3 hown' hg3; obtain ⟨va, vc, rfl⟩ := hown'.shape)
    go_ret
    exact ⟨_, _, rfl, hown', hb.grown hg3 hb.size (fun k e => (World.ownsRow.lt ho k e).1)⟩
set_option maxRecDepth 100000 in
set_option maxHeartbeats 2000000 in
theorem isOver74 (p b : Nat) (h : S.Hd) (iv now : Int) (s : Sd) (w : World) (he : EvAt w p b h iv now) (hd : -9223372036854775808 ≤ now - s.s.x.seen ∧ now - s.s.x.seen ≤ 9223372036854775807) (hi : -4611686018427387904 ≤ iv ∧ iv ≤ 4611686018427387903) :
    Calls Tryz.prog 74 #[.pointer (some ⟨p, 0, none⟩), encD s] w fun e w' => e = .returned (.bool (overB iv now s.s)) ∧ Below w.heap.size w w' := by
  have hb0 : Below w.heap.size w (w.alloc (sO s)) := (Below.refl _ w).alloc (Nat.le_refl _) _
  have hE := he.grow hb0
  have hS := sNew w s
  obtain ⟨⟨sa, sn, sc⟩, ls, ⟨a1, a2, a3, a4, a5, a6, a7⟩, a8, a9⟩ := s
  unfold encD overB
  simp only at *
  have hw1 : IntKind.i64.wrap (now - a5) = now - a5 := Go.IntWalk.i64_in _ (by omega)
  have hw2 : IntKind.i64.wrap (2 * iv) = 2 * iv := Go.IntWalk.i64_in _ (by omega)
  obtain ⟨x0, x1, x2, x3, x4, x5, x6, x7, x8, x9⟩ := hS.cells
  obtain ⟨e0, e1, e2, e3, e4, e5, e6⟩ := hE.cells
  simp only at x0 x1 x2 x3 x4 x5 x6 x7 x8 x9
  go_enter Tryz.func74, Tryz.ntmps74
  go_wp2
  generalize (w.alloc (sO ⟨⟨sa, sn, sc⟩, ⟨ls, ⟨a1, a2, a3, a4, a5, a6, a7⟩, a8, a9⟩⟩)) = W1 at *
  have q5 : ∀ q : Bel W1, q.W.cell? ⟨w.heap.size, 5, none⟩ = some (.int .i64 a5) := fun q => q.cell x5
  have q9 : ∀ q : Bel W1, q.W.cell? ⟨w.heap.size, 9, none⟩ = some (.bool a9) := fun q => q.cell x9
  have r5 : ∀ q : Bel W1, q.W.cell? ⟨p, 5, none⟩ = some (.int .i64 iv) := fun q => q.cell e5
  have r6 : ∀ q : Bel W1, q.W.cell? ⟨p, 6, none⟩ = some (.int .i64 now) := fun q => q.cell e6
  cases a9
  all_goals
    refine wp_region_bel (by kernel_rfl) (by kernel_rfl) ?_
    repeat (go_big_quiet_step (fail))
    refine wpQuiet_nil ?_
    rintro w5 ⟨⟨_, h5⟩, rfl⟩
    go_wp2
    go_ret
    exact ⟨by simp, hb0.trans (h5.mono hb0.size)⟩
set_option maxRecDepth 100000 in
set_option maxHeartbeats 4000000 in
theorem change77 (s : Sd) (w : World) (hs : Lbs w s.sv.v s.s.ls) (hl : s.s.ls.length ≤ 1000) :
    Calls Tryz.prog 77 #[encD s] w fun e w' => ∃ a c, e = .returned (encC ⟨⟨a, s.s.ls.length, c⟩, ⟨s.s.ls, s.s.ah, s.s.x.st, s.s.x.vk, s.s.x.vn⟩⟩) ∧ OwnL w' w.heap.size (.slice a s.s.ls.length c) s.s.ls ∧ Below w.heap.size w w' := by
  have hn := lbs_n hs
  have hb0 : Hid (Below w.heap.size w ((w.alloc (sO s)).alloc (.cells #[.slice none 0 0, .int .i64 0, .int .i64 0, .int .i64 0, .int .i64 0] 62))) := ((Below.refl _ w).alloc (Nat.le_refl _) _).alloc (by simp) _
  have hS0 : Hid (SAt ((w.alloc (sO s)).alloc (.cells #[.slice none 0 0, .int .i64 0, .int .i64 0, .int .i64 0, .int .i64 0] 62)) w.heap.size s) := (sNew w s).grow ((Below.refl _ _).alloc (Nat.le_refl _) _)
  have hX0 : ((w.alloc (sO s)).alloc (.cells #[.slice none 0 0, .int .i64 0, .int .i64 0, .int .i64 0, .int .i64 0] 62)).heap[w.heap.size + 1]? = some (.cells #[.slice none 0 0, .int .i64 0, .int .i64 0, .int .i64 0, .int .i64 0] 62 (0, 0)) := by
    have := heap_new (w.alloc (sO s)) (.cells #[.slice none 0 0, .int .i64 0, .int .i64 0, .int .i64 0, .int .i64 0] 62)
    rwa [World.size_alloc] at this
  have hcl : ∀ W, Below w.heap.size w W → Calls Tryz.prog 76 #[s.sv.v] W fun e w' => ∃ a c, e = .returned (.slice a s.s.ls.length c) ∧ OwnL w' W.heap.size (.slice a s.s.ls.length c) s.s.ls ∧ Below W.heap.size W w' := fun W hW => clone76 _ _ W (Sls.grow hs hW) (by omega)
  obtain ⟨⟨sa, sn, sc⟩, ls, ⟨a1, a2, a3, a4, a5, a6, a7⟩, a8, a9⟩ := s
  unfold encD encC Sv.v at *
  simp only at *
  subst hn
  go_enter Tryz.func77, Tryz.ntmps77
  go_wp2
  generalize hW1 : ((w.alloc (sO ⟨⟨sa, ls.length, sc⟩, ⟨ls, ⟨a1, a2, a3, a4, a5, a6, a7⟩, a8, a9⟩⟩)).alloc (.cells #[.slice none 0 0, .int .i64 0, .int .i64 0, .int .i64 0, .int .i64 0] 62)) = W1 at *
  clear hW1
  obtain ⟨x0, x1, x2, x3, x4, x5, x6, x7, x8, x9⟩ := hS0.out.cells
  simp only at x0 x1 x2 x3 x4 x5 x6 x7 x8 x9
  have hxz := (Array.getElem?_eq_some_iff.1 hX0).1
  have hBd : Below w.heap.size w W1.drew := hb0.out.drew
  have keep : ∀ X {b o : Nat} {u : Value}, Below W1.heap.size W1 X → W1.cell? ⟨b, o, none⟩ = some u → X.cell? ⟨b, o, none⟩ = some u := fun X b o u hX h => (hX.cell (p := ⟨b, o, none⟩) (World.block_lt_of_cell? W1 _ h)).trans h
  go_region_held3 (fun X => X.cell? ⟨w.heap.size, 0, none⟩ = some (.slice sa ls.length sc) ∧ X.cell? ⟨w.heap.size, 1, none⟩ = some (.int .i64 a1) ∧ X.cell? ⟨w.heap.size, 6, none⟩ = some (.int .i64 a6) ∧ X.cell? ⟨w.heap.size, 7, none⟩ = some (.int .i64 a7) ∧ X.cell? ⟨w.heap.size, 8, none⟩ = some (.int .i64 a8)) (go_keep) (first
    | (go_at_call 76; refine (hcl _ hBd).mono ?_; rintro e w2 ⟨va, vc, rfl, hl2, hb2⟩; have hB2 : Below W1.heap.size W1 w2 := ((Below.refl _ W1).drew).trans (hb2.mono (Nat.le_refl _)); have y0 := keep _ hB2 x0; have y1 := keep _ hB2 x1; have y6 := keep _ hB2 x6; have y7 := keep _ hB2 x7; have y8 := keep _ hB2 x8; have hX2 := (hB2.block _ hxz).trans hX0; have z0 : w2.cell? ⟨w.heap.size + 1, 0, none⟩ = some (.slice none 0 0) := (by simp [World.cell?, hX2]); have z1 : w2.cell? ⟨w.heap.size + 1, 1, none⟩ = some (.int .i64 0) := (by simp [World.cell?, hX2]); have z2 : w2.cell? ⟨w.heap.size + 1, 2, none⟩ = some (.int .i64 0) := (by simp [World.cell?, hX2]); have z3 : w2.cell? ⟨w.heap.size + 1, 3, none⟩ = some (.int .i64 0) := (by simp [World.cell?, hX2]); have z4 : w2.cell? ⟨w.heap.size + 1, 4, none⟩ = some (.int .i64 0) := (by simp [World.cell?, hX2]); have zf : ∀ i, w2.frozen? ⟨w.heap.size + 1, i, none⟩ = false := (fun i => by simp [World.frozen?, hX2])))
  have k0 := S.block_setCell (i := 0) (u := .slice va ls.length vc) hX2
  have k1 := S.block_setCell (i := 1) (u := .int .i64 a8) k0
  have k2 := S.block_setCell (i := 2) (u := .int .i64 a1) k1
  have k3 := S.block_setCell (i := 3) (u := .int .i64 a6) k2
  have k4 := S.block_setCell (i := 4) (u := .int .i64 a7) k3
  have hBf : Hid (Below w.heap.size w (((((w2.setCell ⟨w.heap.size + 1, 0, none⟩ (.slice va ls.length vc)).setCell ⟨w.heap.size + 1, 1, none⟩ (.int .i64 a8)).setCell ⟨w.heap.size + 1, 2, none⟩ (.int .i64 a1)).setCell ⟨w.heap.size + 1, 3, none⟩ (.int .i64 a6)).setCell ⟨w.heap.size + 1, 4, none⟩ (.int .i64 a7))) := by
    have h0 : Below w.heap.size w w2 := hb0.out.trans (hB2.mono hb0.out.size)
    have hx : w.heap.size ≤ w.heap.size + 1 := Nat.le_succ _
    exact ((((h0.setCell (p := ⟨w.heap.size + 1, 0, none⟩) hx _).setCell (p := ⟨w.heap.size + 1, 1, none⟩) hx _).setCell (p := ⟨w.heap.size + 1, 2, none⟩) hx _).setCell (p := ⟨w.heap.size + 1, 3, none⟩) hx _).setCell (p := ⟨w.heap.size + 1, 4, none⟩) hx _
  have hLf : Hid (OwnL (((((w2.setCell ⟨w.heap.size + 1, 0, none⟩ (.slice va ls.length vc)).setCell ⟨w.heap.size + 1, 1, none⟩ (.int .i64 a8)).setCell ⟨w.heap.size + 1, 2, none⟩ (.int .i64 a1)).setCell ⟨w.heap.size + 1, 3, none⟩ (.int .i64 a6)).setCell ⟨w.heap.size + 1, 4, none⟩ (.int .i64 a7)) w.heap.size (.slice va ls.length vc) ls) :=
    own_apart (OwnS.wide hl2 hBd.size) fun b cur hc => by
      have hb : w.heap.size + 1 ≠ b := fun e => by
        subst e
        rw [hX2] at hc
        cases hc
      rw [S.heap_setCell hb, S.heap_setCell hb, S.heap_setCell hb, S.heap_setCell hb, S.heap_setCell hb]
  go_wp2
  refine bodyPost_ret (v := .agg #[.slice va ls.length vc, .int .i64 a8, .int .i64 a1, .int .i64 a6, .int .i64 a7]) ?_ rfl ⟨va, vc, rfl, hLf.out, hBf.out⟩
  simp [results, Tryz.results77, go_sem, World.cell?, k4]
end Go.Proofs.YtiajafljgfpdcaaGreat
