/- ValueTexts: of every value the program prints what the document prints, of every text it reads what the document reads. Conditions: none beyond the row's. -/
import Derived.Test.YtfbiaffdfolbgaaGreatDoorVa4
import Derived.Test.YtfbiaffdfolbgaaGreatDoorWd
import Derived.Test.YtfbiaffdfolbgaaGreatDoorTie
import Derived.Test.YtfbiaffdfolbgaaGreatDoorCards
import Derived.SevenTiedAt
import Derived.OpenShut
namespace Go.Proofs.YtfbiaffdfolbgaaGreatDoor.valueTexts
open Go.ChangeShapes Go.WideShapes Go.ChangeAt Go.RowKit Go.Maps Go.ChangeMaps Go.MapKept
set_option linter.unusedVariables false
attribute [local go_sem ↓] Go.wp_at_zero Go.wp_at_succ
set_option maxRecDepth 100000 in
set_option maxHeartbeats 4000000 in
theorem walk (v : Vl) (s : ByteArray) (w : World) (hG : G w) (hs : s.size ≤ maxLen) : Calls Tryz.prog 4 #[vlV v, .string s] w fun e w' => e = .returned (.bool true) ∧ Below w.heap.size w w' := by
  have hlv : ∀ W, Below w.heap.size w W → Calls Tryz.prog 9 #[] W fun e w' => e = .returned (.bool true) ∧ Below W.heap.size W w' := fun W h => live_any W (hG.grow h)
  have hv : VlAt (w.alloc (.cells #[.int .i64 v.kind, .int .i64 v.n] 25)) w.heap.size v := vlNew w v
  have hO : Below w.heap.size w (w.alloc (.cells #[.int .i64 v.kind, .int .i64 v.n] 25)) := bW0 w _
  have hB : Below (w.alloc (.cells #[.int .i64 v.kind, .int .i64 v.n] 25)).heap.size (w.alloc (.cells #[.int .i64 v.kind, .int .i64 v.n] 25)) (w.alloc (.cells #[.int .i64 v.kind, .int .i64 v.n] 25)) := Below.refl _ _
  have hen := fun n W => enum_any n W
  unfold maxLen at hs
  by_cases hl : 20000 < s.size
  · have hli : (20000 : Int) < (s.size : Int) := by omega
    clear hl hG
    unfold vlV
    go_enter Tryz.func4, Tryz.ntmps4
    go_wp2_with (first | (go_at_call 9; with_reducible refine (hlv _ (hO.trans (hB.mono hO.size))).mono ?_; rintro e wz ⟨rfl, hbz⟩; replace hB := hB.trans (hbz.mono hB.size)))
    go_ret
    exact ⟨rfl, hO.trans (hB.mono hO.size)⟩
  · have hli : ¬ (20000 : Int) < (s.size : Int) := by omega
    have hp1 : ∀ W, Below w.heap.size w W → Calls Tryz.prog 30 #[.string s] W fun e w' => e = .returned (.tuple #[vlV (parV s), .int .i64 (parE s)]) ∧ Below W.heap.size W w' := fun W h => parse_any s W (hG.grow h) (by omega)
    have hp2 : ∀ W, Calls Tryz.prog 31 #[.string s] W fun e w' => e = .returned (.tuple #[vlV (parV s), .int .i64 (parE s)]) ∧ Below W.heap.size W w' := fun W => rparse_any s W (by omega)
    have hq1 : ∀ W, Below w.heap.size w W → Calls Tryz.prog 32 #[vlV v] W fun e w' => e = .returned (.string (prS v)) ∧ Below W.heap.size W w' := fun W h => print_any v W (hG.grow h)
    have hq2 : ∀ W, Calls Tryz.prog 33 #[vlV v] W fun e w' => e = .returned (.string (prS v)) ∧ Below W.heap.size W w' := fun W => rprint_any v W
    generalize parV s = Y at *
    generalize parE s = F at *
    generalize prS v = T at *
    clear hG
    unfold vlV at *
    go_enter Tryz.func4, Tryz.ntmps4
    go_wp2_with (first | (go_at_call 30; with_reducible refine (hp1 _ (hO.trans (hB.mono hO.size))).mono ?_; rintro e wx ⟨rfl, hbx⟩; replace hB := hB.trans (hbx.mono hB.size); have ha := vlNew wx Y))
    go_wp2_with (first | (go_at_call 31; with_reducible refine (hp2 _).mono ?_; rintro e wy ⟨rfl, hby⟩; replace hB := (hB.alloc hB.size (vlO Y)).trans (hby.mono (hB.alloc hB.size (vlO Y)).size); replace ha := ha.grow hby; have hb := vlNew wy Y))
    have kv := (hv.grow hB).alloc (.cells #[.int .i64 Y.kind, .int .i64 Y.n] 25)
    have ka := ha.alloc (.cells #[.int .i64 Y.kind, .int .i64 Y.n] 25)
    have kb : VlAt (wy.alloc (.cells #[.int .i64 Y.kind, .int .i64 Y.n] 25)) wy.heap.size Y := hb
    have hO2 := hO.trans ((hB.alloc hB.size (.cells #[.int .i64 Y.kind, .int .i64 Y.n] 25)).mono hO.size)
    clear hB hv ha hb hp1 hp2 hO hbx hby
    generalize wx.heap.size = bx at ka ⊢
    generalize wy.heap.size = bz at kb ⊢
    generalize wy.alloc (.cells #[.int .i64 Y.kind, .int .i64 Y.n] 25) = U at kv ka kb hO2 ⊢
    have hB : Below U.heap.size U U.drew := (Below.refl _ _).drew
    obtain ⟨v0, v1⟩ := (kv.grow hB).cells
    obtain ⟨a0, a1⟩ := (ka.grow hB).cells
    obtain ⟨b0, b1⟩ := (kb.grow hB).cells
    go_region_held3 (fun W => W.cell? ⟨w.heap.size, 0, none⟩ = some (.int .i64 v.kind) ∧ W.cell? ⟨w.heap.size, 1, none⟩ = some (.int .i64 v.n) ∧ W.cell? ⟨bx, 0, none⟩ = some (.int .i64 Y.kind) ∧ W.cell? ⟨bx, 1, none⟩ = some (.int .i64 Y.n) ∧ W.cell? ⟨bz, 0, none⟩ = some (.int .i64 Y.kind) ∧ W.cell? ⟨bz, 1, none⟩ = some (.int .i64 Y.n)) (first | exact ⟨v0, v1, a0, a1, b0, b1⟩) (first | (go_at_call 32; with_reducible refine (hq1 _ (hO2.trans (hB.mono hO2.size))).mono ?_; rintro e wz ⟨rfl, hbz⟩; replace hB := hB.trans (hbz.mono hB.size); obtain ⟨v0, v1⟩ := (kv.grow hB).cells; obtain ⟨a0, a1⟩ := (ka.grow hB).cells; obtain ⟨b0, b1⟩ := (kb.grow hB).cells) | (go_at_call 33; with_reducible refine (hq2 _).mono ?_; rintro e wz ⟨rfl, hbz⟩; replace hB := hB.trans (hbz.mono hB.size); obtain ⟨v0, v1⟩ := (kv.grow hB).cells; obtain ⟨a0, a1⟩ := (ka.grow hB).cells; obtain ⟨b0, b1⟩ := (kb.grow hB).cells) | (go_at_call 15; with_reducible refine (hen _ _).mono ?_; rintro e wz ⟨rfl, hbz⟩; replace hB := hB.trans (hbz.mono hB.size); obtain ⟨v0, v1⟩ := (kv.grow hB).cells; obtain ⟨a0, a1⟩ := (ka.grow hB).cells; obtain ⟨b0, b1⟩ := (kb.grow hB).cells) | (go_at_call 9; with_reducible refine (hlv _ (hO2.trans (hB.mono hO2.size))).mono ?_; rintro e wz ⟨rfl, hbz⟩; replace hB := hB.trans (hbz.mono hB.size); obtain ⟨v0, v1⟩ := (kv.grow hB).cells; obtain ⟨a0, a1⟩ := (ka.grow hB).cells; obtain ⟨b0, b1⟩ := (kb.grow hB).cells))
    all_goals
      go_wp2
      go_ret
      exact ⟨rfl, hO2.trans (hB.mono hO2.size)⟩
/-! ### THE ROW's STEP -/
set_option maxRecDepth 100000 in
theorem lifted (os : Os) (started : os.Started) (H : Type) (enc : TypeId × Value → H) :
    ReturnsInHanded {} Tryz.checked os 4 .any (fun w args => (Rows.valueTextsSpec.pre enc Tryz.prog Tryz.f4 [] false w args ∧ laidMetH Tryz.prog laidV w) ∧ sizedMet enc Tryz.prog Tryz.f4 (OpenSpec.ofChange Rows.valueTextsSpec) false w args)
      (Rows.valueTextsSpec.post enc Tryz.prog Tryz.f4 false true false false) := by
  refine wrap (C := Tryz.checked) (X := fun w _ => laidMetH Tryz.prog laidV w) (fun _ _ _ hh h => h.of_heap hh) own started (by kernel_rfl) Tryz.func4
    (ChangeSpec.witness_shaped (enc := enc) (C := Tryz.checked) (os := os) (X := fun w _ => laidMetH Tryz.prog laidV w) false (World.laidAll Tryz.prog os laidV) #[.agg #[.int .i64 0, .int .i64 0], .string ⟨#[]⟩] 8 (World.laidAll_os _ _ _)
      (World.shaped_of_ZipB (by kernel_rfl) (by kernel_rfl)) (by kernel_rfl) (by kernel_rfl) (by kernel_rfl) (laidV_ok os _)) ?_
  intro W base args ds gs before hval0 hW _ hsz0 hL hsh
  have hG := G_of hL hsh
  have hval : ∀ (j : Nat) t v, Tryz.f4.params[j]? = some t → args[j]? = some v → Value.okWide Tryz.prog W .any base t v := hval0
  have hW' := hW
  obtain ⟨p, q, hA0, hV, rfl, _, _⟩ := hW
  have hA : DataW.TrodAll enc Tryz.prog W 0 (fun _ => true) true Tryz.f4.params.toList args.toList ds p := hA0
  rw [Tryz.params4] at hA hval
  obtain ⟨v0, vs0, d0, ds0, p0, q0, hargs, rfl, rfl, h0, r0⟩ := trodAll_cons hA
  obtain ⟨v1, vs1, d1, ds1, p1, q1, rfl, rfl, rfl, h1, r1⟩ := trodAll_cons r0
  obtain ⟨rfl, rfl, rfl⟩ := trodAll_nil r1
  obtain rfl : args = #[v0, v1] := by cases args; simp_all
  obtain ⟨rfl, rfl⟩ := trodVars_none hV
  have k0 := h0
  have lt0 : ∀ x ∈ p0, x.block < W.heap.size := by obtain ⟨m, hm⟩ := k0; exact DataW.trod_lt m _ _ _ hm
  obtain ⟨u0, rfl⟩ := vl_arg (hval 0 25 v0 rfl rfl) h0
  obtain ⟨a1, rfl, rfl, rfl, w1⟩ := open_string Tryz.underlying9 (hval 1 9 v1 rfl rfl) h1
  clear hA0 hval0 hL hsz0 hsh
  refine (walk u0 a1 W hG w1).mono fun e W' ⟨he, bel⟩ => ?_
  subst he
  exact ⟨_, rfl, _, _, _, [], _, [], hW', trodAll_mk1 (shut_bool Tryz.underlying4 _), (trodAll_cons_mk (Below.trod laidOut (by kernel_rfl) (of_decide_eq_true (by kernel_rfl)) k0 bel lt0) (trodAll_cons_mk (shut_string Tryz.underlying9 w1) trodAll_mk0)), rfl, bel.frame _, fun h => by cases h⟩

theorem over : Rows.ValueTextsSaid :=
  OpenClaim.holds_of_wide 4 Tryz.f4 rfl rfl rfl rfl rfl rfl rfl ⟨rfl, rfl, rfl, rfl, rfl⟩ rfl rfl rfl rfl rfl (by kernel_rfl) Tryz.func4 (by kernel_rfl)
    (of_decide_eq_true (by kernel_rfl)) (by unfold Func.isWrapper; first | (rw [if_pos (by decide +kernel)]; kernel_rfl) | (rw [if_neg (by decide +kernel)]; exact ⟨rfl, rfl⟩))
    (fun os started H enc _ => lifted os started H enc)
end Go.Proofs.YtfbiaffdfolbgaaGreatDoor.valueTexts
namespace Go.Proofs.YtfbiaffdfolbgaaGreatDoor
open Go
/-- The card. -/
theorem valueTexts_card : Rows.ValueTextsCardSaid :=
  Claim7.holds_tied_plain_at .later [] [.data, .data, .data, .data, .sentinel, .sentinel, .pinned] true (true, "fa61cd251fadc37448c3489831ed32965a94f864c56d0be9077b6351e5f678b1") true valueTexts.over (fun _ h => by cases h) (by kernel_rfl) (fun _ h => by cases h) valueTexts_row_tie rfl ⟨rfl, rfl⟩ (by kernel_rfl) rfl
    (fun f fn hf hfn => by
      obtain rfl : f = 4 := Option.some.inj ((show Tryz.prog.funcNamed "klaxon/klaxonlaw08.ValueTexts" = some 4 by kernel_rfl).symm.trans hf) |>.symm
      obtain rfl : fn = Tryz.f4 := (Option.some.inj (Tryz.func4.symm.trans hfn)).symm
      exact ⟨by kernel_rfl, fun j t ht => by
        rw [Tryz.params4] at ht
        have hm : t ∈ [25, 9] := by simpa using Array.mem_of_getElem? ht
        have hall : ([25, 9].all fun u => !Tryz.prog.wantsStandIn u) = true := by kernel_rfl
        exact (show Tryz.prog.wantsStandIn t = false by simpa using List.all_eq_true.1 hall t hm)⟩)
    (by kernel_rfl)
#print axioms valueTexts_card
end Go.Proofs.YtfbiaffdfolbgaaGreatDoor
