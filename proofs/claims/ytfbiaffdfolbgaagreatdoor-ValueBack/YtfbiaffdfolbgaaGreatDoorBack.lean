/- ValueBack: what is printed is parsed to the same value; what is parsed is printed so, and is a value. Conditions: none beyond the row's. -/
import Derived.Test.YtfbiaffdfolbgaaGreatDoorVa4
import Derived.Test.YtfbiaffdfolbgaaGreatDoorTie
import Derived.Test.YtfbiaffdfolbgaaGreatDoorCards
import Derived.SevenTiedAt
import Derived.OpenShut
namespace Go.Proofs.YtfbiaffdfolbgaaGreatDoor.valueBack
open Go.ChangeShapes Go.WideShapes Go.ChangeAt Go.RowKit Go.Maps Go.ChangeMaps Go.MapKept
set_option linter.unusedVariables false
attribute [local go_sem ↓] Go.wp_at_zero Go.wp_at_succ
theorem ck1 (v : Vl) (W : World) : Calls Tryz.prog 16 #[.slice (some ⟨W.heap.size, 0, none⟩) 1 1] (W.alloc (.cells #[.int .i64 v.kind, .int .i64 v.n] 25)) fun e w' => e = .returned (.int .i64 (chkE [v])) ∧ Below W.heap.size W w' :=
  (check_any _ [v] _ (row1V W v) (by simp)).mono fun e w' ⟨h, hb⟩ => ⟨h, (bW0 W _).trans (hb.mono (bW0 W _).size)⟩
theorem ck1' (v : Vl) (w : World) (o : Obj) : Calls Tryz.prog 16 #[.slice (some ⟨w.heap.size + 1, 0, none⟩) 1 1] ((w.alloc o).alloc (.cells #[.int .i64 v.kind, .int .i64 v.n] 25)) fun e w' => e = .returned (.int .i64 (chkE [v])) ∧ Below (w.alloc o).heap.size (w.alloc o) w' := by
  have hsz : (w.alloc o).heap.size = w.heap.size + 1 := World.size_alloc w o
  have h := ck1 v (w.alloc o)
  rw [hsz] at h ⊢
  exact h
theorem chk1 {v : Vl} (h : chkE [v] = 0) : IsV v := by
  by_cases h2 : ∀ u ∈ [v], IsV u
  · exact h2 v (by simp)
  · rw [chkE, if_neg h2] at h; omega
theorem par_in (s : ByteArray) : (parE s = 0 ∧ IsV (parV s) ∧ txtS (parV s) = s) ∨ parE s = 80 := by
  by_cases h : ∃ v, IsV v ∧ txtS v = s
  · obtain ⟨v, h1, h2⟩ := h
    obtain ⟨e1, e2⟩ := par_yes h1 h2
    exact .inl ⟨e2, by rw [e1]; exact h1, by rw [e1]; exact h2⟩
  · exact .inr (par_no fun v h1 h2 => h ⟨v, h1, h2⟩).2
set_option maxRecDepth 100000 in
set_option maxHeartbeats 4000000 in
theorem walk (v : Vl) (s : ByteArray) (w : World) (hG : G w) (hs : s.size ≤ maxLen) : Calls Tryz.prog 5 #[vlV v, .string s] w fun e w' => e = .returned (.bool true) ∧ Below w.heap.size w w' := by
  have hlv : ∀ W, Below w.heap.size w W → Calls Tryz.prog 9 #[] W fun e w' => e = .returned (.bool true) ∧ Below W.heap.size W w' := fun W h => live_any W (hG.grow h)
  have hv : VlAt (w.alloc (.cells #[.int .i64 v.kind, .int .i64 v.n] 25)) w.heap.size v := vlNew w v
  have hO : Below w.heap.size w (w.alloc (.cells #[.int .i64 v.kind, .int .i64 v.n] 25)) := bW0 w _
  have hB : Below (w.alloc (.cells #[.int .i64 v.kind, .int .i64 v.n] 25)).heap.size (w.alloc (.cells #[.int .i64 v.kind, .int .i64 v.n] 25)) (w.alloc (.cells #[.int .i64 v.kind, .int .i64 v.n] 25)) := Below.refl _ _
  have hck := ck1' v w (.cells #[.int .i64 v.kind, .int .i64 v.n] 25)
  have hen := fun n W => enum_any n W
  unfold maxLen at hs
  by_cases hl : 20000 < s.size
  · have hli : (20000 : Int) < (s.size : Int) := by omega
    clear hl hG hck
    unfold vlV
    go_enter Tryz.func5, Tryz.ntmps5
    go_wp2_with (first | (go_at_call 9; with_reducible refine (hlv _ (hO.trans (hB.mono hO.size))).mono ?_; rintro e wz ⟨rfl, hbz⟩; replace hB := hB.trans (hbz.mono hB.size); obtain ⟨v0, v1⟩ := (hv.grow hB).cells))
    go_ret
    exact ⟨rfl, hO.trans (hB.mono hO.size)⟩
  · have hli : ¬ (20000 : Int) < (s.size : Int) := by omega
    have hp2 : ∀ W, Below w.heap.size w W → Calls Tryz.prog 30 #[.string s] W fun e w' => e = .returned (.tuple #[vlV (parV s), .int .i64 (parE s)]) ∧ Below W.heap.size W w' := fun W h => parse_any s W (hG.grow h) (by omega)
    have hpin := par_in s
    have hpr2 : ∀ W, Below w.heap.size w W → IsV (parV s) → Calls Tryz.prog 32 #[vlV (parV s)] W fun e w' => e = .returned (.string (txtS (parV s))) ∧ Below W.heap.size W w' := fun W h hy => by
      have := print_any (parV s) W (hG.grow h)
      rwa [prS, if_pos hy] at this
    have hck2 := fun W => ck1 (parV s) W
    obtain ⟨Y, eY⟩ : ∃ Y, Hid (Y = parV s) := ⟨_, rfl⟩
    obtain ⟨F, eF⟩ : ∃ F, Hid (F = parE s) := ⟨_, rfl⟩
    rw [← eY.out, ← eF.out] at hp2 hpin
    rw [← eY.out] at hpr2 hck2
    clear eY eF
    rcases hpin with ⟨rfl, hYv, hYt⟩ | rfl
    · have hchk2 : chkE [Y] = 0 := chk_one hYv
      have hpr3 := fun W h => hpr2 W h hYv
      rw [hYt] at hpr3
      rw [hchk2] at hck2
      clear hpr2 hYv hYt hchk2
      rcases chk_in [v] with hz | hz
      · rw [hz] at hck
        have hvv := chk1 hz
        have hpr : ∀ W, Below w.heap.size w W → Calls Tryz.prog 32 #[vlV v] W fun e w' => e = .returned (.string (txtS v)) ∧ Below W.heap.size W w' := fun W h => by
          have := print_any v W (hG.grow h)
          rwa [prS, if_pos hvv] at this
        have hpa : ∀ W, Below w.heap.size w W → Calls Tryz.prog 30 #[.string (txtS v)] W fun e w' => e = .returned (.tuple #[vlV v, .int .i64 0]) ∧ Below W.heap.size W w' := fun W h => by
          have := parse_any (txtS v) W (hG.grow h) (by rw [txtS, bOf_size]; have := txt_len hvv; omega)
          obtain ⟨e1, e2⟩ := par_yes hvv rfl
          rwa [e1, e2] at this
        generalize txtS v = TV at *
        clear hG hz hvv
        unfold vlV at *
        go_enter Tryz.func5, Tryz.ntmps5
        go_wp2_with (first | (go_at_call 16; refine hck.mono ?_; rintro e wz ⟨rfl, hbz⟩; replace hB := hB.trans (hbz.mono hB.size); obtain ⟨v0, v1⟩ := (hv.grow hB).cells))
        go_wp2_with (first | (go_at_call 15; with_reducible refine (hen _ _).mono ?_; rintro e wz ⟨rfl, hbz⟩; replace hB := hB.trans (hbz.mono hB.size); obtain ⟨v0, v1⟩ := (hv.grow hB).cells))
        go_wp2_with (first | (go_at_call 32; with_reducible refine (hpr _ (hO.trans (hB.mono hO.size))).mono ?_; rintro e wz ⟨rfl, hbz⟩; replace hB := hB.trans (hbz.mono hB.size); obtain ⟨v0, v1⟩ := (hv.grow hB).cells))
        go_wp2_with (first | (go_at_call 30; with_reducible refine (hpa _ (hO.trans (hB.mono hO.size))).mono ?_; rintro e wx ⟨rfl, hbx⟩; replace hB := hB.trans (hbx.mono hB.size); have hx := vlNew wx v))
        go_wp2_with (first | (go_at_call 15; with_reducible refine (hen _ _).mono ?_; rintro e wz ⟨rfl, hbz⟩; replace hB := (hB.alloc hB.size _).trans (hbz.mono (hB.alloc hB.size _).size); obtain ⟨v0, v1⟩ := (hv.grow hB).cells; obtain ⟨x0, x1⟩ := (hx.grow hbz).cells))
        go_wp2_with (first | (go_at_call 30; with_reducible refine (hp2 _ (hO.trans (hB.mono hO.size))).mono ?_; rintro e wy ⟨rfl, hby⟩; replace hB := hB.trans (hby.mono hB.size); have hy := vlNew wy Y))
        go_wp2_with (first | (go_at_call 15; with_reducible refine (hen _ _).mono ?_; rintro e wz ⟨rfl, hbz⟩; replace hB := (hB.alloc hB.size _).trans (hbz.mono (hB.alloc hB.size _).size); replace hy := hy.grow hbz; obtain ⟨y0, y1⟩ := hy.cells))
        go_wp2_with (first | (go_at_call 32; with_reducible refine (hpr3 _ (hO.trans (hB.mono hO.size))).mono ?_; rintro e wz ⟨rfl, hbz⟩; replace hB := hB.trans (hbz.mono hB.size); replace hy := hy.grow hbz; obtain ⟨y0, y1⟩ := hy.cells))
        go_wp2_with (first | (go_at_call 16; refine (hck2 _).mono ?_; rintro e wz ⟨rfl, hbz⟩; replace hB := hB.trans (hbz.mono hB.size)))
        go_wp2_with (first | (go_at_call 15; with_reducible refine (hen _ _).mono ?_; rintro e wz ⟨rfl, hbz⟩; replace hB := hB.trans (hbz.mono hB.size)))
        go_wp2_with (first | (go_at_call 9; with_reducible refine (hlv _ (hO.trans (hB.mono hO.size))).mono ?_; rintro e wz ⟨rfl, hbz⟩; replace hB := hB.trans (hbz.mono hB.size)))
        go_ret
        exact ⟨rfl, hO.trans (hB.mono hO.size)⟩
      · rw [hz] at hck
        clear hG hz
        unfold vlV at *
        go_enter Tryz.func5, Tryz.ntmps5
        go_wp2_with (first | (go_at_call 16; refine hck.mono ?_; rintro e wz ⟨rfl, hbz⟩; replace hB := hB.trans (hbz.mono hB.size); obtain ⟨v0, v1⟩ := (hv.grow hB).cells))
        go_wp2_with (first | (go_at_call 15; with_reducible refine (hen _ _).mono ?_; rintro e wz ⟨rfl, hbz⟩; replace hB := hB.trans (hbz.mono hB.size); obtain ⟨v0, v1⟩ := (hv.grow hB).cells))
        go_wp2_with (first | (go_at_call 30; with_reducible refine (hp2 _ (hO.trans (hB.mono hO.size))).mono ?_; rintro e wy ⟨rfl, hby⟩; replace hB := hB.trans (hby.mono hB.size); have hy := vlNew wy Y))
        go_wp2_with (first | (go_at_call 15; with_reducible refine (hen _ _).mono ?_; rintro e wz ⟨rfl, hbz⟩; replace hB := (hB.alloc hB.size _).trans (hbz.mono (hB.alloc hB.size _).size); replace hy := hy.grow hbz; obtain ⟨y0, y1⟩ := hy.cells))
        go_wp2_with (first | (go_at_call 32; with_reducible refine (hpr3 _ (hO.trans (hB.mono hO.size))).mono ?_; rintro e wz ⟨rfl, hbz⟩; replace hB := hB.trans (hbz.mono hB.size); replace hy := hy.grow hbz; obtain ⟨y0, y1⟩ := hy.cells))
        go_wp2_with (first | (go_at_call 16; refine (hck2 _).mono ?_; rintro e wz ⟨rfl, hbz⟩; replace hB := hB.trans (hbz.mono hB.size)))
        go_wp2_with (first | (go_at_call 15; with_reducible refine (hen _ _).mono ?_; rintro e wz ⟨rfl, hbz⟩; replace hB := hB.trans (hbz.mono hB.size)))
        go_wp2_with (first | (go_at_call 9; with_reducible refine (hlv _ (hO.trans (hB.mono hO.size))).mono ?_; rintro e wz ⟨rfl, hbz⟩; replace hB := hB.trans (hbz.mono hB.size)))
        go_ret
        exact ⟨rfl, hO.trans (hB.mono hO.size)⟩
    · clear hpr2 hck2
      rcases chk_in [v] with hz | hz
      · rw [hz] at hck
        have hvv := chk1 hz
        have hpr : ∀ W, Below w.heap.size w W → Calls Tryz.prog 32 #[vlV v] W fun e w' => e = .returned (.string (txtS v)) ∧ Below W.heap.size W w' := fun W h => by
          have := print_any v W (hG.grow h)
          rwa [prS, if_pos hvv] at this
        have hpa : ∀ W, Below w.heap.size w W → Calls Tryz.prog 30 #[.string (txtS v)] W fun e w' => e = .returned (.tuple #[vlV v, .int .i64 0]) ∧ Below W.heap.size W w' := fun W h => by
          have := parse_any (txtS v) W (hG.grow h) (by rw [txtS, bOf_size]; have := txt_len hvv; omega)
          obtain ⟨e1, e2⟩ := par_yes hvv rfl
          rwa [e1, e2] at this
        generalize txtS v = TV at *
        clear hG hz hvv
        unfold vlV at *
        go_enter Tryz.func5, Tryz.ntmps5
        go_wp2_with (first | (go_at_call 16; refine hck.mono ?_; rintro e wz ⟨rfl, hbz⟩; replace hB := hB.trans (hbz.mono hB.size); obtain ⟨v0, v1⟩ := (hv.grow hB).cells))
        go_wp2_with (first | (go_at_call 15; with_reducible refine (hen _ _).mono ?_; rintro e wz ⟨rfl, hbz⟩; replace hB := hB.trans (hbz.mono hB.size); obtain ⟨v0, v1⟩ := (hv.grow hB).cells))
        go_wp2_with (first | (go_at_call 32; with_reducible refine (hpr _ (hO.trans (hB.mono hO.size))).mono ?_; rintro e wz ⟨rfl, hbz⟩; replace hB := hB.trans (hbz.mono hB.size); obtain ⟨v0, v1⟩ := (hv.grow hB).cells))
        go_wp2_with (first | (go_at_call 30; with_reducible refine (hpa _ (hO.trans (hB.mono hO.size))).mono ?_; rintro e wx ⟨rfl, hbx⟩; replace hB := hB.trans (hbx.mono hB.size); have hx := vlNew wx v))
        go_wp2_with (first | (go_at_call 15; with_reducible refine (hen _ _).mono ?_; rintro e wz ⟨rfl, hbz⟩; replace hB := (hB.alloc hB.size _).trans (hbz.mono (hB.alloc hB.size _).size); obtain ⟨v0, v1⟩ := (hv.grow hB).cells; obtain ⟨x0, x1⟩ := (hx.grow hbz).cells))
        go_wp2_with (first | (go_at_call 30; with_reducible refine (hp2 _ (hO.trans (hB.mono hO.size))).mono ?_; rintro e wy ⟨rfl, hby⟩; replace hB := hB.trans (hby.mono hB.size); have hy := vlNew wy Y))
        go_wp2_with (first | (go_at_call 15; with_reducible refine (hen _ _).mono ?_; rintro e wz ⟨rfl, hbz⟩; replace hB := (hB.alloc hB.size _).trans (hbz.mono (hB.alloc hB.size _).size); replace hy := hy.grow hbz; obtain ⟨y0, y1⟩ := hy.cells))
        go_wp2_with (first | (go_at_call 9; with_reducible refine (hlv _ (hO.trans (hB.mono hO.size))).mono ?_; rintro e wz ⟨rfl, hbz⟩; replace hB := hB.trans (hbz.mono hB.size)))
        go_ret
        exact ⟨rfl, hO.trans (hB.mono hO.size)⟩
      · rw [hz] at hck
        clear hG hz
        unfold vlV at *
        go_enter Tryz.func5, Tryz.ntmps5
        go_wp2_with (first | (go_at_call 16; refine hck.mono ?_; rintro e wz ⟨rfl, hbz⟩; replace hB := hB.trans (hbz.mono hB.size); obtain ⟨v0, v1⟩ := (hv.grow hB).cells))
        go_wp2_with (first | (go_at_call 15; with_reducible refine (hen _ _).mono ?_; rintro e wz ⟨rfl, hbz⟩; replace hB := hB.trans (hbz.mono hB.size); obtain ⟨v0, v1⟩ := (hv.grow hB).cells))
        go_wp2_with (first | (go_at_call 30; with_reducible refine (hp2 _ (hO.trans (hB.mono hO.size))).mono ?_; rintro e wy ⟨rfl, hby⟩; replace hB := hB.trans (hby.mono hB.size); have hy := vlNew wy Y))
        go_wp2_with (first | (go_at_call 15; with_reducible refine (hen _ _).mono ?_; rintro e wz ⟨rfl, hbz⟩; replace hB := (hB.alloc hB.size _).trans (hbz.mono (hB.alloc hB.size _).size); replace hy := hy.grow hbz; obtain ⟨y0, y1⟩ := hy.cells))
        go_wp2_with (first | (go_at_call 9; with_reducible refine (hlv _ (hO.trans (hB.mono hO.size))).mono ?_; rintro e wz ⟨rfl, hbz⟩; replace hB := hB.trans (hbz.mono hB.size)))
        go_ret
        exact ⟨rfl, hO.trans (hB.mono hO.size)⟩
/-! ### THE ROW's STEP -/
set_option maxRecDepth 100000 in
theorem lifted (os : Os) (started : os.Started) (H : Type) (enc : TypeId × Value → H) :
    ReturnsInHanded {} Tryz.checked os 5 .any (fun w args => (Rows.valueBackSpec.pre enc Tryz.prog Tryz.f5 [] false w args ∧ laidMetH Tryz.prog laidV w) ∧ sizedMet enc Tryz.prog Tryz.f5 (OpenSpec.ofChange Rows.valueBackSpec) false w args)
      (Rows.valueBackSpec.post enc Tryz.prog Tryz.f5 false true false false) := by
  refine wrap (C := Tryz.checked) (X := fun w _ => laidMetH Tryz.prog laidV w) (fun _ _ _ hh h => h.of_heap hh) own started (by kernel_rfl) Tryz.func5
    (ChangeSpec.witness_shaped (enc := enc) (C := Tryz.checked) (os := os) (X := fun w _ => laidMetH Tryz.prog laidV w) false (World.laidAll Tryz.prog os laidV) #[.agg #[.int .i64 0, .int .i64 0], .string ⟨#[]⟩] 8 (World.laidAll_os _ _ _)
      (World.shaped_of_ZipB (by kernel_rfl) (by kernel_rfl)) (by kernel_rfl) (by kernel_rfl) (by kernel_rfl) (laidV_ok os _)) ?_
  intro W base args ds gs before hval0 hW _ hsz0 hL hsh
  have hG := G_of hL hsh
  have hval : ∀ (j : Nat) t v, Tryz.f5.params[j]? = some t → args[j]? = some v → Value.okWide Tryz.prog W .any base t v := hval0
  have hW' := hW
  obtain ⟨p, q, hA0, hV, rfl, _, _⟩ := hW
  have hA : DataW.TrodAll enc Tryz.prog W 0 (fun _ => true) true Tryz.f5.params.toList args.toList ds p := hA0
  rw [Tryz.params5] at hA hval
  obtain ⟨v0, vs0, d0, ds0, p0, q0, hargs, rfl, rfl, h0, r0⟩ := trodAll_cons hA
  obtain ⟨v1, vs1, d1, ds1, p1, q1, rfl, rfl, rfl, h1, r1⟩ := trodAll_cons r0
  obtain ⟨rfl, rfl, rfl⟩ := trodAll_nil r1
  obtain rfl : args = #[v0, v1] := by cases args; simp_all
  obtain ⟨rfl, rfl⟩ := trodVars_none hV
  have k0 := h0
  have lt0 : ∀ x ∈ p0, x.block < W.heap.size := by obtain ⟨m, hm⟩ := k0; exact DataW.trod_lt m _ _ _ hm
  obtain ⟨u0, rfl⟩ := vl_arg (hval 0 25 v0 rfl rfl) h0
  obtain ⟨a1, rfl, rfl, rfl, w1⟩ := open_string Tryz.underlying9 (hval 1 9 v1 rfl rfl) h1
  clear hA0 hval0 hL hsz0 hsh
  refine (walk u0 a1 W hG w1).mono fun e W' ⟨he, bel⟩ => ?_
  subst he
  exact ⟨_, rfl, _, _, _, [], _, [], hW', trodAll_mk1 (shut_bool Tryz.underlying4 _), (trodAll_cons_mk (Below.trod laidOut (by kernel_rfl) (of_decide_eq_true (by kernel_rfl)) k0 bel lt0) (trodAll_cons_mk (shut_string Tryz.underlying9 w1) trodAll_mk0)), rfl, bel.frame _, fun h => by cases h⟩

theorem over : Rows.ValueBackSaid :=
  OpenClaim.holds_of_wide 5 Tryz.f5 rfl rfl rfl rfl rfl rfl rfl ⟨rfl, rfl, rfl, rfl, rfl⟩ rfl rfl rfl rfl rfl (by kernel_rfl) Tryz.func5 (by kernel_rfl)
    (of_decide_eq_true (by kernel_rfl)) (by unfold Func.isWrapper; first | (rw [if_pos (by decide +kernel)]; kernel_rfl) | (rw [if_neg (by decide +kernel)]; exact ⟨rfl, rfl⟩))
    (fun os started H enc _ => lifted os started H enc)
end Go.Proofs.YtfbiaffdfolbgaaGreatDoor.valueBack
namespace Go.Proofs.YtfbiaffdfolbgaaGreatDoor
open Go
/-- The card. -/
theorem valueBack_card : Rows.ValueBackCardSaid :=
  Claim7.holds_tied_plain_at .later [] [.data, .data, .data, .data, .sentinel, .sentinel, .pinned] true (true, "fa61cd251fadc37448c3489831ed32965a94f864c56d0be9077b6351e5f678b1") true valueBack.over (fun _ h => by cases h) (by kernel_rfl) (fun _ h => by cases h) valueBack_row_tie rfl ⟨rfl, rfl⟩ (by kernel_rfl) rfl
    (fun f fn hf hfn => by
      obtain rfl : f = 5 := Option.some.inj ((show Tryz.prog.funcNamed "klaxon/klaxonlaw08.ValueBack" = some 5 by kernel_rfl).symm.trans hf) |>.symm
      obtain rfl : fn = Tryz.f5 := (Option.some.inj (Tryz.func5.symm.trans hfn)).symm
      exact ⟨by kernel_rfl, fun j t ht => by
        rw [Tryz.params5] at ht
        have hm : t ∈ [25, 9] := by simpa using Array.mem_of_getElem? ht
        have hall : ([25, 9].all fun u => !Tryz.prog.wantsStandIn u) = true := by kernel_rfl
        exact (show Tryz.prog.wantsStandIn t = false by simpa using List.all_eq_true.1 hall t hm)⟩)
    (by kernel_rfl)
#print axioms valueBack_card
end Go.Proofs.YtfbiaffdfolbgaaGreatDoor
