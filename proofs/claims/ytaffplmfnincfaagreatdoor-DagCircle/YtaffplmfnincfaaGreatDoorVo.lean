/- Values: the contracts of ofKind, twos, ones. -/
import Derived.Test.YtaffplmfnincfaaGreatDoorVkVn
namespace Go.Proofs.YtaffplmfnincfaaGreatDoor
set_option linter.unusedVariables false
open Go.RowKit Go.MapKept
theorem contains_b (b n c : Nat) (zs : List Int) (x : Int) (w : World) (hz : n = zs.length) (hbig : n ≤ 100) (hc : ∀ j, j < zs.length → w.cell? ⟨b, j, none⟩ = some (.int .i64 (zs.getD j 0))) :
    Calls Tryz.prog 253 #[.slice (some ⟨b, 0, none⟩) n c, .int .i64 x] w fun e w' => e = .returned (.bool (zs.contains x)) ∧ Below w.heap.size w w' := by
  subst hz
  refine (Tryz.slices_Contains_int b 0 zs.length c zs x w (Nat.le_refl _) (by omega) (fun j hj => by rw [Nat.zero_add]; exact hc j hj)).mono ?_
  rintro e w' ⟨rfl, rfl⟩
  rw [List.take_length]
  exact ⟨rfl, Below.refl _ _⟩
set_option maxRecDepth 100000 in
theorem okd (a : Vl) (p q n c : Nat) (zs : List Int) (w : World) (hn : n = zs.length) (hbig : n ≤ 100) (hp : w.cell? ⟨p, 0, none⟩ = some (.slice (some ⟨q, 0, none⟩) n c)) (hq : ∀ j, j < zs.length → w.cell? ⟨q, j, none⟩ = some (.int .i64 (zs.getD j 0))) :
    Calls Tryz.prog 252 #[vlV a, .pointer (some ⟨p, 0, none⟩)] w fun e w' => e = .returned (vlV (tru (zs.contains a.kind))) ∧ Below w.heap.size w w' := by
  obtain ⟨ha, hr⟩ := pW1 w a
  have hB : Below (W1 w a).heap.size (W1 w a) (W1 w a) := Below.refl _ _
  have hp3 : ((w.alloc (.cells #[.int .i64 a.kind, .int .i64 a.n] 34)).alloc (.cells #[.int .i64 0, .int .i64 0] 34)).cell? ⟨p, 0, none⟩ = some (.slice (some ⟨q, 0, none⟩) n c) := keepC hp (bW1 w a)
  have hc := contains_b q n c zs a.kind (W1 w a) hn hbig (fun j hj => keepC (hq j hj) (bW1 w a))
  have ht := fun W => truth_any (zs.contains a.kind) W
  generalize zs.contains a.kind = T at *
  clear hq hn hbig
  unfold vlV at *
  go_enter Tryz.func252, Tryz.ntmps252
  go_wp2_with (first | (go_at_call 253; refine (hc).mono ?_; rintro e w2 ⟨rfl, hb2⟩; replace hB := hB.trans (hb2.mono hB.size); obtain ⟨a0, a1⟩ := (ha.grow hB).cells; obtain ⟨r0, r1⟩ := (hr.grow hB).cells; obtain ⟨rf0, rf1⟩ := (hr.grow hB).frozen) | (go_at_call 235; with_reducible refine (ht _).mono ?_; rintro e w2 ⟨rfl, hb2⟩; replace hB := hB.trans (hb2.mono hB.size); obtain ⟨a0, a1⟩ := (ha.grow hB).cells; obtain ⟨r0, r1⟩ := (hr.grow hB).cells; obtain ⟨rf0, rf1⟩ := (hr.grow hB).frozen))
  exact end_set (v := tru T) Tryz.results252 rfl (by omega) (bW1 w _) hB hr
/-- A function of one operand. -/
def IsOne (w : World) (f : Value) (φ : Vl → Vl) : Prop :=
  (f = .func (.func 216) #[] #[] ∧ φ = negV) ∨ (f = .func (.func 217) #[] #[] ∧ φ = absV) ∨ (f = .func (.func 218) #[] #[] ∧ φ = floorV) ∨ (f = .func (.func 219) #[] #[] ∧ φ = notV) ∨
  ∃ p, f = .func (.func 252) #[] #[.pointer (some ⟨p, 0, none⟩)] ∧ ∀ W, CellsKept w W → ∀ a, Calls Tryz.prog 252 #[vlV a, .pointer (some ⟨p, 0, none⟩)] W fun e w' => e = .returned (vlV (φ a)) ∧ Below W.heap.size W w'
theorem IsOne.keep (w w' : World) (f : Value) (φ : Vl → Vl) (hk : CellsKept w w') (h : IsOne w f φ) : IsOne w' f φ := by
  rcases h with h | h | h | h | ⟨p, h1, h2⟩
  · exact .inl h
  · exact .inr (.inl h)
  · exact .inr (.inr (.inl h))
  · exact .inr (.inr (.inr (.inl h)))
  · exact .inr (.inr (.inr (.inr ⟨p, h1, fun W hW => h2 W (hk.trans hW)⟩)))
set_option maxRecDepth 100000 in
theorem mkKind (q n c : Nat) (zs : List Int) (w : World) (hn : n = zs.length) (hbig : n ≤ 100) (hq : ∀ j, j < zs.length → w.cell? ⟨q, j, none⟩ = some (.int .i64 (zs.getD j 0))) :
    Calls Tryz.prog 220 #[.slice (some ⟨q, 0, none⟩) n c] w fun e w' => ∃ f, e = .returned f ∧ IsOne w' f (fun a => tru (zs.contains a.kind)) ∧ Below w.heap.size w w' := by
  have hk : ∀ W, CellsKept (w.alloc (.cells #[.slice (some ⟨q, 0, none⟩) n c] 242)) W → ∀ a, Calls Tryz.prog 252 #[vlV a, .pointer (some ⟨w.heap.size, 0, none⟩)] W fun e w' => e = .returned (vlV (tru (zs.contains a.kind))) ∧ Below W.heap.size W w' := fun W hW a =>
    okd a w.heap.size q n c zs W hn hbig (hW.cell (cell1 w _ 242)) (fun j hj => hW.cell (keepC (hq j hj) (bW0 w _)))
  clear hn hbig hq
  go_enter Tryz.func220, Tryz.ntmps220
  go_wp2
  go_ret
  exact ⟨_, rfl, .inr (.inr (.inr (.inr ⟨w.heap.size, rfl, hk⟩))), bW0 w _⟩
/-- twos' entries. -/
def twosL : List (ByteArray × (Vl → Vl → Vl)) := [(⟨#[43]⟩, addV), (⟨#[45]⟩, subV), (⟨#[42]⟩, mulV), (⟨#[47]⟩, divV), (⟨#[61, 61]⟩, eqV), (⟨#[33, 61]⟩, neV), (⟨#[60]⟩, ltV), (⟨#[60, 61]⟩, leV), (⟨#[62]⟩, gtV), (⟨#[62, 61]⟩, geV), (⟨#[38, 38]⟩, andV), (⟨#[124, 124]⟩, orV)]
theorem map54 : Tryz.prog.underlying 217 = some (.map 9 215) := Tryz.underlying217
theorem map49 : Tryz.prog.underlying 213 = some (.map 9 211) := Tryz.underlying213
set_option maxRecDepth 100000 in
set_option maxHeartbeats 4000000 in
theorem twos_any (w : World) : Calls Tryz.prog 200 #[] w fun e w' => ∃ b, e = .returned (.map (some b)) ∧ Tab IsTwo w' b twosL ∧ Below w.heap.size w w' := by
  have htab : Tab IsTwo (w.alloc (.map #[] 0)) w.heap.size [] := tabNew w
  have hBw : Below w.heap.size w (w.alloc (.map #[] 0)) := bW0 w _
  have hmk : ∀ W, (Instr.makeMap 217 none).run Tryz.prog W = .ok (.map (some W.heap.size)) (W.alloc (.map #[] 0)) := fun W => run_makeMap 217 W
  go_enter Tryz.func200, Tryz.ntmps200
  go_wp2_with (first
    | (go_at_call 221; first | with_reducible refine (mk_51 _).mono ?_ | with_reducible refine (mk_52 _).mono ?_ | with_reducible refine (mk_53 _).mono ?_ | with_reducible refine (mk_54 _).mono ?_
       rintro e w2 ⟨f, rfl, hf, hb2⟩; replace htab := htab.keep IsTwo.keep hb2; replace hBw := hBw.trans (hb2.mono hBw.size))
    | (go_at_call 226; first | with_reducible refine (mk_56 _).mono ?_ | with_reducible refine (mk_57 _).mono ?_ | with_reducible refine (mk_58 _).mono ?_ | with_reducible refine (mk_59 _).mono ?_ | with_reducible refine (mk_60 _).mono ?_ | with_reducible refine (mk_61 _).mono ?_
       rintro e w2 ⟨f, rfl, hf, hb2⟩; replace htab := htab.keep IsTwo.keep hb2; replace hBw := hBw.trans (hb2.mono hBw.size))
    | (go_at_call 233; first | with_reducible refine (mk_63 _).mono ?_ | with_reducible refine (mk_64 _).mono ?_
       rintro e w2 ⟨f, rfl, hf, hb2⟩; replace htab := htab.keep IsTwo.keep hb2; replace hBw := hBw.trans (hb2.mono hBw.size))
    | (refine wpIns IsTwo.keep map54 rfl _ _ _ rfl htab hf (by rfl) rfl rfl rfl ?_; intro w3 htab3 hb3 hk3; replace htab := htab3; replace hBw := hBw.trans hb3; clear hf))
  go_ret
  exact ⟨_, rfl, htab, hBw⟩
theorem row1 (w : World) (k : Int) (t : TypeId) : ∀ j, j < [k].length → (w.alloc (.cells #[.int .i64 k] t)).cell? ⟨w.heap.size, j, none⟩ = some (.int .i64 ([k].getD j 0)) := by
  intro j hj
  obtain rfl : j = 0 := by simpa using hj
  exact cell1 w _ t
theorem row2 (w : World) (k m : Int) (t : TypeId) : ∀ j, j < [k, m].length → (w.alloc (.cells #[.int .i64 k, .int .i64 m] t)).cell? ⟨w.heap.size, j, none⟩ = some (.int .i64 ([k, m].getD j 0)) := by
  intro j hj
  have h : (w.alloc (.cells #[.int .i64 k, .int .i64 m] t)).heap[w.heap.size]? = some (.cells #[.int .i64 k, .int .i64 m] t) := by show (w.heap.push _)[w.heap.size]? = _; simp
  unfold World.cell?
  rw [h]
  have : j = 0 ∨ j = 1 := by simp at hj; omega
  rcases this with rfl | rfl <;> simp
/-- ones' entries. -/
def onesL : List (ByteArray × (Vl → Vl)) := [(⟨#[45]⟩, negV), (⟨#[97, 98, 115]⟩, absV), (⟨#[102, 108, 111, 111, 114]⟩, floorV), (⟨#[33]⟩, notV), (⟨#[105, 115, 95, 110, 117, 108, 108]⟩, fun a => tru ([2].contains a.kind)), (⟨#[105, 115, 95, 110, 97, 110]⟩, fun a => tru ([3].contains a.kind)), (⟨#[105, 115, 95, 105, 110, 102]⟩, fun a => tru ([4, 5].contains a.kind)), (⟨#[105, 115, 95, 110, 117, 109, 98, 101, 114]⟩, fun a => tru ([1].contains a.kind))]
set_option maxRecDepth 100000 in
set_option maxHeartbeats 4000000 in
theorem ones_any (w : World) : Calls Tryz.prog 199 #[] w fun e w' => ∃ b, e = .returned (.map (some b)) ∧ Tab IsOne w' b onesL ∧ Below w.heap.size w w' := by
  have htab : Tab IsOne (w.alloc (.map #[] 0)) w.heap.size [] := tabNew w
  have hBw : Below w.heap.size w (w.alloc (.map #[] 0)) := bW0 w _
  have hmk : ∀ W, (Instr.makeMap 213 none).run Tryz.prog W = .ok (.map (some W.heap.size)) (W.alloc (.map #[] 0)) := fun W => run_makeMap 213 W
  go_enter Tryz.func199, Tryz.ntmps199
  go_wp2_with (first
    | (go_at_call 220; first | refine (mkKind _ _ _ [2] _ rfl (by decide) (row1 _ 2 3)).mono ?_ | refine (mkKind _ _ _ [3] _ rfl (by decide) (row1 _ 3 3)).mono ?_ | refine (mkKind _ _ _ [4, 5] _ rfl (by decide) (row2 _ 4 5 3)).mono ?_ | refine (mkKind _ _ _ [1] _ rfl (by decide) (row1 _ 1 3)).mono ?_
       rintro e w2 ⟨f, rfl, hf, hb2⟩; replace htab := (htab.keep IsOne.keep (bW0 _ _)).keep IsOne.keep hb2; replace hBw := (hBw.alloc hBw.size _).trans (hb2.mono (hBw.alloc hBw.size _).size))
    | (refine wpIns IsOne.keep map49 rfl _ _ _ rfl htab hf (by rfl) rfl rfl rfl ?_; intro w3 htab3 hb3 hk3; replace htab := htab3; replace hBw := hBw.trans hb3; clear hf)
    | (refine wpIns IsOne.keep map49 rfl _ _ _ rfl htab (show IsOne _ (.func (.func 216) #[] #[]) negV from .inl ⟨rfl, rfl⟩) (by rfl) rfl rfl rfl ?_; intro w3 htab3 hb3 hk3; replace htab := htab3; replace hBw := hBw.trans hb3)
    | (refine wpIns IsOne.keep map49 rfl _ _ _ rfl htab (show IsOne _ (.func (.func 217) #[] #[]) absV from .inr (.inl ⟨rfl, rfl⟩)) (by rfl) rfl rfl rfl ?_; intro w3 htab3 hb3 hk3; replace htab := htab3; replace hBw := hBw.trans hb3)
    | (refine wpIns IsOne.keep map49 rfl _ _ _ rfl htab (show IsOne _ (.func (.func 218) #[] #[]) floorV from .inr (.inr (.inl ⟨rfl, rfl⟩))) (by rfl) rfl rfl rfl ?_; intro w3 htab3 hb3 hk3; replace htab := htab3; replace hBw := hBw.trans hb3)
    | (refine wpIns IsOne.keep map49 rfl _ _ _ rfl htab (show IsOne _ (.func (.func 219) #[] #[]) notV from .inr (.inr (.inr (.inl ⟨rfl, rfl⟩)))) (by rfl) rfl rfl rfl ?_; intro w3 htab3 hb3 hk3; replace htab := htab3; replace hBw := hBw.trans hb3))
  go_ret
  exact ⟨_, rfl, htab, hBw⟩
end Go.Proofs.YtaffplmfnincfaaGreatDoor
