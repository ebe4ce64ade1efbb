/-
  Proved here: 'klaxonlaw15.AclMore' (P15.4), called with any user, any list of grants, any further grant and any number to turn the list by, in any memory, returns true, and its arguments read afterwards as they read before: with more grants nobody's level is less, and their order has no part. No condition beyond the row's own (each slice and string within the reach that every row states).
-/
import Derived.Test.YtfbeilninpapaaaRows
import Derived.WalkKit
import Derived.ProofKit
import Derived.OpenShut
import Derived.ShutString
import Derived.ChangeOld
import Derived.Below
import Derived.SizedLaws
import Derived.Deep.RegionHeldLaw
import Derived.Deep.DeepCutAuto
import Derived.Test.YtfbeilninpapaaaMo
namespace Go.Proofs.Ytfbeilninpapaaa.aclMore
open Go.ChangeShapes Go.WideShapes Go.ChangeAt Go.RowKit
open Go.ChangeMaps (open_string shut_string)
set_option linter.unusedVariables false
theorem own : ownKnob Try.prog.godebug = none := by kernel_rfl
theorem laidOut : laidOutB Try.prog = true := by kernel_rfl
set_option maxRecDepth 100000 in
set_option maxHeartbeats 8000000 in
theorem walk (n r : ByteArray) (tv : Value) (ts : List ByteArray) (v : Value) (l : List Gr) (g : Gr) (x : Int) (w : World) (hU : UsIn w n r tv ts) (hP : Grs w v l) (hG : ∀ p ∈ l, GrIn p) (hL : l.length ≤ 4398046510976) (hg : GrIn g) (hx : -9223372036854775808 ≤ x ∧ x ≤ 9223372036854775807) :
    Calls Try.prog 5 #[.agg #[.string n, .string r, tv], v, .agg #[.int .i64 g.kind, .string g.name, .int .i64 g.level], .int .i64 x] w fun e w' => e = .returned (.bool true) ∧ Below w.heap.size w w' := by
  obtain ⟨⟨hn, hr⟩, hT, hTb, hTl⟩ := hU
  obtain ⟨a, c, rfl⟩ := hT.shape
  obtain ⟨a2, c2, rfl⟩ := hP.shape
  have htr : Hid (TxR ts) := fun s hs => by have := hTb s hs; omega
  have hgr : Hid (GrR (l ++ [g])) := fun q hq => by
    rcases List.mem_append.1 hq with h | h
    · have := (hG q h).2; omega
    · have e : q = g := by simpa using h
      rw [e]; have := hg.2; omega
  have hgi : Hid (∀ q ∈ l ++ [g], GrI q) := fun q hq => by
    rcases List.mem_append.1 hq with h | h
    · exact (hG q h).1
    · have e : q = g := by simpa using h
      rw [e]; exact hg.1
  have hgl : Hid (∀ q ∈ l, GrI q) := fun q hq => (hG q hq).1
  clear hG hTb
  obtain ⟨mk, mm, ml⟩ := g
  simp only
  have hb2 : Hid (Below w.heap.size w ((w.alloc (.cells #[.string n, .string r, .slice a ts.length c] 24)).alloc (.cells #[.int .i64 mk, .string mm, .int .i64 ml] 52))) := ((Below.refl _ _).alloc (Nat.le_refl _) _).alloc (by simp) _
  have hsz : ((w.alloc (.cells #[.string n, .string r, .slice a ts.length c] 24)).alloc (.cells #[.int .i64 mk, .string mm, .int .i64 ml] 52)).heap.size = w.heap.size + 2 := by simp
  have htk : Hid (∀ W, Below (w.heap.size + 2) ((w.alloc (.cells #[.string n, .string r, .slice a ts.length c] 24)).alloc (.cells #[.int .i64 mk, .string mm, .int .i64 ml] 52)) W → Txs W (.slice a ts.length c) ts) := fun W h => ((hT.alloc _).alloc _).grow (by rw [hsz]; exact h)
  have hvk : Hid (∀ W, Below (w.heap.size + 2) ((w.alloc (.cells #[.string n, .string r, .slice a ts.length c] 24)).alloc (.cells #[.int .i64 mk, .string mm, .int .i64 ml] 52)) W → Grs W (.slice a2 l.length c2) l) := fun W h => ((hP.alloc _).alloc _).grow (by rw [hsz]; exact h)
  have hu0 : Hid (∀ W, Below (w.heap.size + 2) ((w.alloc (.cells #[.string n, .string r, .slice a ts.length c] 24)).alloc (.cells #[.int .i64 mk, .string mm, .int .i64 ml] 52)) W → W.cell? ⟨w.heap.size, 0, none⟩ = some (.string n)) := fun W h => (h.cell (p := ⟨w.heap.size, 0, none⟩) (by show w.heap.size < _; omega)).trans (by simp)
  have hu1 : Hid (∀ W, Below (w.heap.size + 2) ((w.alloc (.cells #[.string n, .string r, .slice a ts.length c] 24)).alloc (.cells #[.int .i64 mk, .string mm, .int .i64 ml] 52)) W → W.cell? ⟨w.heap.size, 1, none⟩ = some (.string r)) := fun W h => (h.cell (p := ⟨w.heap.size, 1, none⟩) (by show w.heap.size < _; omega)).trans (by simp)
  have hu2 : Hid (∀ W, Below (w.heap.size + 2) ((w.alloc (.cells #[.string n, .string r, .slice a ts.length c] 24)).alloc (.cells #[.int .i64 mk, .string mm, .int .i64 ml] 52)) W → W.cell? ⟨w.heap.size, 2, none⟩ = some (.slice a ts.length c)) := fun W h => (h.cell (p := ⟨w.heap.size, 2, none⟩) (by show w.heap.size < _; omega)).trans (by simp)
  have hm0 : Hid (∀ W, Below (w.heap.size + 2) ((w.alloc (.cells #[.string n, .string r, .slice a ts.length c] 24)).alloc (.cells #[.int .i64 mk, .string mm, .int .i64 ml] 52)) W → W.cell? ⟨w.heap.size + 1, 0, none⟩ = some (.int .i64 mk)) := fun W h => (h.cell (p := ⟨w.heap.size + 1, 0, none⟩) (by show w.heap.size + 1 < _; omega)).trans (by simp)
  have hm1 : Hid (∀ W, Below (w.heap.size + 2) ((w.alloc (.cells #[.string n, .string r, .slice a ts.length c] 24)).alloc (.cells #[.int .i64 mk, .string mm, .int .i64 ml] 52)) W → W.cell? ⟨w.heap.size + 1, 1, none⟩ = some (.string mm)) := fun W h => (h.cell (p := ⟨w.heap.size + 1, 1, none⟩) (by show w.heap.size + 1 < _; omega)).trans (by simp)
  have hm2 : Hid (∀ W, Below (w.heap.size + 2) ((w.alloc (.cells #[.string n, .string r, .slice a ts.length c] 24)).alloc (.cells #[.int .i64 mk, .string mm, .int .i64 ml] 52)) W → W.cell? ⟨w.heap.size + 1, 2, none⟩ = some (.int .i64 ml)) := fun W h => (h.cell (p := ⟨w.heap.size + 1, 2, none⟩) (by show w.heap.size + 1 < _; omega)).trans (by simp)
  have hlive := fun W => live_ok W
  clear hT hP
  have hSm : Hid (∀ y W, Below (w.heap.size + 2) ((w.alloc (.cells #[.string n, .string r, .slice a ts.length c] 24)).alloc (.cells #[.int .i64 mk, .string mm, .int .i64 ml] 52)) W → Grs W y (l ++ [⟨mk, mm, ml⟩]) → Calls Try.prog 7 #[.agg #[.string n, .string r, .slice a ts.length c], y] W fun e w' => e = .returned (.bool (smB n r ts (l ++ [⟨mk, mm, ml⟩]))) ∧ Below W.heap.size W w') := fun y W h1 h2 => small_any n r _ ts y _ W (htk.out W h1) (by omega) h2 (by simp; omega) (by omega) (by omega) htr.out hgr.out
  have hLv : Hid (∀ y l' W, Below (w.heap.size + 2) ((w.alloc (.cells #[.string n, .string r, .slice a ts.length c] 24)).alloc (.cells #[.int .i64 mk, .string mm, .int .i64 ml] 52)) W → Grs W y l' → l'.length ≤ 1000 → (∀ q ∈ l', GrI q) → Calls Try.prog 14 #[.agg #[.string n, .string r, .slice a ts.length c], y] W fun e w' => e = .returned (.int .i64 (lvL n r ts l')) ∧ Below W.heap.size W w') := fun y l' W h1 h2 h3 h4 => level_any n r _ ts y l' W (htk.out W h1) (by omega) h2 (by omega) h4
  have hW2 : Hid (∀ W, Below ((w.alloc (.cells #[.string n, .string r, .slice a ts.length c] 24)).alloc (.cells #[.int .i64 mk, .string mm, .int .i64 ml] 52)).heap.size ((w.alloc (.cells #[.string n, .string r, .slice a ts.length c] 24)).alloc (.cells #[.int .i64 mk, .string mm, .int .i64 ml] 52)) W → Below (w.heap.size + 2) ((w.alloc (.cells #[.string n, .string r, .slice a ts.length c] 24)).alloc (.cells #[.int .i64 mk, .string mm, .int .i64 ml] 52)) W) := fun W h => by rw [hsz] at h; exact h
  have hWz : Hid (∀ W, Below (w.heap.size + 2) ((w.alloc (.cells #[.string n, .string r, .slice a ts.length c] 24)).alloc (.cells #[.int .i64 mk, .string mm, .int .i64 ml] 52)) W → w.heap.size + 2 ≤ W.heap.size) := fun W h => by have := h.size; simp at this; omega
  clear hsz
  replace hx : Hid (-9223372036854775808 ≤ x ∧ x ≤ 9223372036854775807) := hx
  go_enter Try.func5, Try.ntmps5
  go_wp2
  have hBB : Hid (!smB n r ts (l ++ [⟨mk, mm, ml⟩]) || decide (x < 0)) ∨ True := .inr trivial
  go_cut [26] from 14 to 26 (fun b wc => b = .bool (!smB n r ts (l ++ [⟨mk, mm, ml⟩]) || decide (x < 0)) ∧ Hid (Below (w.heap.size + 2) ((w.alloc (.cells #[.string n, .string r, .slice a ts.length c] 24)).alloc (.cells #[.int .i64 mk, .string mm, .int .i64 ml] 52)) wc))
  case first =>
    have hWW := hW2
    clear hlive hLv hBB
    generalize hW : ((w.alloc (.cells #[.string n, .string r, .slice a ts.length c] 24)).alloc (.cells #[.int .i64 mk, .string mm, .int .i64 ml] 52)) = W0 at *
    have hu10 := hvk.out _ (hWW.out W0 (Below.refl _ _))
    have hS : ∀ X, Below W0.heap.size W0 X → X.cell? ⟨w.heap.size, 0, none⟩ = some (.string n) ∧ X.cell? ⟨w.heap.size, 1, none⟩ = some (.string r) ∧ X.cell? ⟨w.heap.size, 2, none⟩ = some (.slice a ts.length c) ∧ X.cell? ⟨w.heap.size + 1, 0, none⟩ = some (.int .i64 mk) ∧ X.cell? ⟨w.heap.size + 1, 1, none⟩ = some (.string mm) ∧ X.cell? ⟨w.heap.size + 1, 2, none⟩ = some (.int .i64 ml) := fun X h => ⟨hu0.out _ (hWW.out _ h), hu1.out _ (hWW.out _ h), hu2.out _ (hWW.out _ h), hm0.out _ (hWW.out _ h), hm1.out _ (hWW.out _ h), hm2.out _ (hWW.out _ h)⟩
    have hS0 := hS W0 (Below.refl _ _)
    replace hW : Hid _ := hW
    have bA : Below W0.heap.size W0 (W0.alloc (.cells #[] 52)).drew := ((Below.refl _ _).alloc (Nat.le_refl _) _).drew
    have bB : Below W0.heap.size W0 ((W0.alloc (.cells #[] 52)).alloc (.cells #[.int .i64 mk, .string mm, .int .i64 ml] 52)).drew := (((Below.refl _ _).alloc (Nat.le_refl _) _).alloc (by simp) _).drew
    have bC : Below W0.heap.size W0 ((W0.alloc (.cells #[.int .i64 mk, .string mm, .int .i64 ml] 52)).alloc (.cells #[] 52)).drew := (((Below.refl _ _).alloc (Nat.le_refl _) _).alloc (by simp) _).drew
    have oA : OwnG (W0.alloc (.cells #[] 52)).drew W0.heap.size (.slice (some ⟨W0.heap.size, 0, none⟩) 0 0) [] := own_empty (T := TG) W0 W0.heap.size (Nat.le_refl _)
    have oB : OwnG ((W0.alloc (.cells #[] 52)).alloc (.cells #[.int .i64 mk, .string mm, .int .i64 ml] 52)).drew W0.heap.size (.slice (some ⟨W0.heap.size, 0, none⟩) 0 0) [] := OwnS.alloc (own_empty (T := TG) W0 W0.heap.size (Nat.le_refl _)) _
    have oC : OwnG ((W0.alloc (.cells #[.int .i64 mk, .string mm, .int .i64 ml] 52)).alloc (.cells #[] 52)).drew W0.heap.size (.slice (some ⟨W0.heap.size + 1, 0, none⟩) 0 0) [] := by
      have := own_empty (T := TG) (W0.alloc (.cells #[.int .i64 mk, .string mm, .int .i64 ml] 52)) W0.heap.size (by simp)
      rw [World.size_alloc] at this
      exact this
    have hone : ∀ W : World, Grs (W.alloc (.cells #[.int .i64 mk, .string mm, .int .i64 ml] 52)) (.slice (some ⟨W.heap.size, 0, none⟩) 1 1) [⟨mk, mm, ml⟩] := fun W => sls_one W _ _ _ rfl
    have xB : Grs ((W0.alloc (.cells #[] 52)).alloc (.cells #[.int .i64 mk, .string mm, .int .i64 ml] 52)).drew (.slice (some ⟨W0.heap.size + 1, 0, none⟩) 1 1) [⟨mk, mm, ml⟩] := by
      have := hone (W0.alloc (.cells #[] 52))
      rw [World.size_alloc] at this
      exact this
    have xC : Grs ((W0.alloc (.cells #[.int .i64 mk, .string mm, .int .i64 ml] 52)).alloc (.cells #[] 52)).drew (.slice (some ⟨W0.heap.size, 0, none⟩) 1 1) [⟨mk, mm, ml⟩] := (hone W0).alloc _
    cases hsm : smB n r ts (l ++ [⟨mk, mm, ml⟩]) with
    | false =>
      rw [hsm] at hSm
      replace hsm : Hid (smB n r ts (l ++ [⟨mk, mm, ml⟩]) = false) := hsm
      first | (go_region_held_law (fun X => X.cell? ⟨w.heap.size, 0, none⟩ = some (.string n) ∧ X.cell? ⟨w.heap.size, 1, none⟩ = some (.string r) ∧ X.cell? ⟨w.heap.size, 2, none⟩ = some (.slice a ts.length c) ∧ X.cell? ⟨w.heap.size + 1, 0, none⟩ = some (.int .i64 mk) ∧ X.cell? ⟨w.heap.size + 1, 1, none⟩ = some (.string mm) ∧ X.cell? ⟨w.heap.size + 1, 2, none⟩ = some (.int .i64 ml)) (first | go_keep | exact hS _ hC3 | exact hS _ hC4 | exact hS _ hC5 | exact hS _ (hC3.alloc hC3.size _)) (first
      | (refine stepNb TG rfl (.tmp 15) (.tmp 16) rfl W0.heap.size (.slice (some ⟨W0.heap.size, 0, none⟩) 0 0) (.slice a2 l.length c2) [] l rfl rfl oA (hu10.grow bA) bA.size (by simp; omega) (by simp [TG]; omega) ?_; intro v3 w3 ho3 hg3; rw [List.nil_append] at ho3; have hC3 : Below W0.heap.size W0 w3 := bA.grown hg3 bA.size (by intro q hq; cases hq; exact Nat.le_refl _))
      | (refine stepNb TG rfl (.tmp 15) (.tmp 16) rfl W0.heap.size (.slice (some ⟨W0.heap.size, 0, none⟩) 0 0) (.slice a2 l.length c2) [] l rfl rfl oB (hu10.grow bB) bB.size (by simp; omega) (by simp [TG]; omega) ?_; intro v3 w3 ho3 hg3; rw [List.nil_append] at ho3; have hC3 : Below W0.heap.size W0 w3 := bB.grown hg3 bB.size (by intro q hq; cases hq; exact Nat.le_refl _); have hx3 := xB.kept hg3 (by simp [Value.ownBlock]))
      | (refine stepNb TG rfl (.tmp 15) (.tmp 16) rfl W0.heap.size (.slice (some ⟨W0.heap.size + 1, 0, none⟩) 0 0) (.slice a2 l.length c2) [] l rfl rfl oC (hu10.grow bC) bC.size (by simp; omega) (by simp [TG]; omega) ?_; intro v3 w3 ho3 hg3; rw [List.nil_append] at ho3; have hC3 : Below W0.heap.size W0 w3 := bC.grown hg3 bC.size (by intro q hq; cases hq; exact Nat.le_succ _); have hx3 := xC.kept hg3 (by simp [Value.ownBlock]))
      | (refine stepNb TG rfl (.tmp 17) (.tmp 19) rfl W0.heap.size v3 (.slice (some ⟨w3.heap.size, 0, none⟩) 1 1) l [⟨mk, mm, ml⟩] rfl rfl (ho3.alloc _) (hone w3) (hC3.alloc hC3.size _).size (by simp; omega) (by simp [TG]; omega) ?_; intro v4 w4 ho4 hg4; have hC4 : Below W0.heap.size W0 w4 := (hC3.alloc hC3.size _).grown hg4 (hC3.alloc hC3.size _).size (fun q hq => (ho3.lt q hq).1))
      | (refine stepNb TG rfl (.tmp 17) (.tmp 19) rfl W0.heap.size v3 _ l [⟨mk, mm, ml⟩] rfl rfl ho3 hx3 hC3.size (by simp; omega) (by simp [TG]; omega) ?_; intro v4 w4 ho4 hg4; have hC4 : Below W0.heap.size W0 w4 := hC3.grown hg4 hC3.size (fun q hq => (ho3.lt q hq).1))
      | (go_at_call 7; refine (hSm.out v4 w4 (hWW.out _ hC4) ho4.sls).mono ?_; rintro e w5 ⟨rfl, hb5⟩; have hC5 := hC4.trans (hb5.mono hC4.size)))) | fail
      all_goals
        ( have hz : Hid (Below (w.heap.size + 2) W0 w5) := hWW.out _ hC5
          clear hS hS0 bA bB bC oA oB oC xB xC hone hb5 ho4 hg4 hC4 ho3 hg3 hC3 hC5 hu10
          try clear hx3
          go_wp2_with fail
          go_meet
          case rel => exact ⟨by rw [hsm.out]; rfl, hz⟩)
    | true =>
      rw [hsm] at hSm
      replace hsm : Hid (smB n r ts (l ++ [⟨mk, mm, ml⟩]) = true) := hsm
      by_cases hx0 : x < 0
      · have hxd : decide (x < 0) = true := by simpa using hx0
        go_region_held3 (fun X => X.cell? ⟨w.heap.size, 0, none⟩ = some (.string n) ∧ X.cell? ⟨w.heap.size, 1, none⟩ = some (.string r) ∧ X.cell? ⟨w.heap.size, 2, none⟩ = some (.slice a ts.length c) ∧ X.cell? ⟨w.heap.size + 1, 0, none⟩ = some (.int .i64 mk) ∧ X.cell? ⟨w.heap.size + 1, 1, none⟩ = some (.string mm) ∧ X.cell? ⟨w.heap.size + 1, 2, none⟩ = some (.int .i64 ml)) (first | go_keep | exact hS _ hC3 | exact hS _ hC4 | exact hS _ hC5 | exact hS _ (hC3.alloc hC3.size _)) (first
      | (refine stepNb TG rfl (.tmp 15) (.tmp 16) rfl W0.heap.size (.slice (some ⟨W0.heap.size, 0, none⟩) 0 0) (.slice a2 l.length c2) [] l rfl rfl oA (hu10.grow bA) bA.size (by simp; omega) (by simp [TG]; omega) ?_; intro v3 w3 ho3 hg3; rw [List.nil_append] at ho3; have hC3 : Below W0.heap.size W0 w3 := bA.grown hg3 bA.size (by intro q hq; cases hq; exact Nat.le_refl _))
      | (refine stepNb TG rfl (.tmp 15) (.tmp 16) rfl W0.heap.size (.slice (some ⟨W0.heap.size, 0, none⟩) 0 0) (.slice a2 l.length c2) [] l rfl rfl oB (hu10.grow bB) bB.size (by simp; omega) (by simp [TG]; omega) ?_; intro v3 w3 ho3 hg3; rw [List.nil_append] at ho3; have hC3 : Below W0.heap.size W0 w3 := bB.grown hg3 bB.size (by intro q hq; cases hq; exact Nat.le_refl _); have hx3 := xB.kept hg3 (by simp [Value.ownBlock]))
      | (refine stepNb TG rfl (.tmp 15) (.tmp 16) rfl W0.heap.size (.slice (some ⟨W0.heap.size + 1, 0, none⟩) 0 0) (.slice a2 l.length c2) [] l rfl rfl oC (hu10.grow bC) bC.size (by simp; omega) (by simp [TG]; omega) ?_; intro v3 w3 ho3 hg3; rw [List.nil_append] at ho3; have hC3 : Below W0.heap.size W0 w3 := bC.grown hg3 bC.size (by intro q hq; cases hq; exact Nat.le_succ _); have hx3 := xC.kept hg3 (by simp [Value.ownBlock]))
      | (refine stepNb TG rfl (.tmp 17) (.tmp 19) rfl W0.heap.size v3 (.slice (some ⟨w3.heap.size, 0, none⟩) 1 1) l [⟨mk, mm, ml⟩] rfl rfl (ho3.alloc _) (hone w3) (hC3.alloc hC3.size _).size (by simp; omega) (by simp [TG]; omega) ?_; intro v4 w4 ho4 hg4; have hC4 : Below W0.heap.size W0 w4 := (hC3.alloc hC3.size _).grown hg4 (hC3.alloc hC3.size _).size (fun q hq => (ho3.lt q hq).1))
      | (refine stepNb TG rfl (.tmp 17) (.tmp 19) rfl W0.heap.size v3 _ l [⟨mk, mm, ml⟩] rfl rfl ho3 hx3 hC3.size (by simp; omega) (by simp [TG]; omega) ?_; intro v4 w4 ho4 hg4; have hC4 : Below W0.heap.size W0 w4 := hC3.grown hg4 hC3.size (fun q hq => (ho3.lt q hq).1))
      | (go_at_call 7; refine (hSm.out v4 w4 (hWW.out _ hC4) ho4.sls).mono ?_; rintro e w5 ⟨rfl, hb5⟩; have hC5 := hC4.trans (hb5.mono hC4.size)))
        all_goals
          ( have hz : Hid (Below (w.heap.size + 2) W0 w5) := hWW.out _ hC5
            clear hS hS0 bA bB bC oA oB oC xB xC hone hb5 ho4 hg4 hC4 ho3 hg3 hC3 hC5 hu10
            try clear hx3
            go_wp2_with fail
            go_meet
            case rel => exact ⟨by rw [hsm.out, hxd]; rfl, hz⟩)
      · have hxd : decide (x < 0) = false := by simpa using hx0
        go_region_held3 (fun X => X.cell? ⟨w.heap.size, 0, none⟩ = some (.string n) ∧ X.cell? ⟨w.heap.size, 1, none⟩ = some (.string r) ∧ X.cell? ⟨w.heap.size, 2, none⟩ = some (.slice a ts.length c) ∧ X.cell? ⟨w.heap.size + 1, 0, none⟩ = some (.int .i64 mk) ∧ X.cell? ⟨w.heap.size + 1, 1, none⟩ = some (.string mm) ∧ X.cell? ⟨w.heap.size + 1, 2, none⟩ = some (.int .i64 ml)) (first | go_keep | exact hS _ hC3 | exact hS _ hC4 | exact hS _ hC5 | exact hS _ (hC3.alloc hC3.size _)) (first
      | (refine stepNb TG rfl (.tmp 15) (.tmp 16) rfl W0.heap.size (.slice (some ⟨W0.heap.size, 0, none⟩) 0 0) (.slice a2 l.length c2) [] l rfl rfl oA (hu10.grow bA) bA.size (by simp; omega) (by simp [TG]; omega) ?_; intro v3 w3 ho3 hg3; rw [List.nil_append] at ho3; have hC3 : Below W0.heap.size W0 w3 := bA.grown hg3 bA.size (by intro q hq; cases hq; exact Nat.le_refl _))
      | (refine stepNb TG rfl (.tmp 15) (.tmp 16) rfl W0.heap.size (.slice (some ⟨W0.heap.size, 0, none⟩) 0 0) (.slice a2 l.length c2) [] l rfl rfl oB (hu10.grow bB) bB.size (by simp; omega) (by simp [TG]; omega) ?_; intro v3 w3 ho3 hg3; rw [List.nil_append] at ho3; have hC3 : Below W0.heap.size W0 w3 := bB.grown hg3 bB.size (by intro q hq; cases hq; exact Nat.le_refl _); have hx3 := xB.kept hg3 (by simp [Value.ownBlock]))
      | (refine stepNb TG rfl (.tmp 15) (.tmp 16) rfl W0.heap.size (.slice (some ⟨W0.heap.size + 1, 0, none⟩) 0 0) (.slice a2 l.length c2) [] l rfl rfl oC (hu10.grow bC) bC.size (by simp; omega) (by simp [TG]; omega) ?_; intro v3 w3 ho3 hg3; rw [List.nil_append] at ho3; have hC3 : Below W0.heap.size W0 w3 := bC.grown hg3 bC.size (by intro q hq; cases hq; exact Nat.le_succ _); have hx3 := xC.kept hg3 (by simp [Value.ownBlock]))
      | (refine stepNb TG rfl (.tmp 17) (.tmp 19) rfl W0.heap.size v3 (.slice (some ⟨w3.heap.size, 0, none⟩) 1 1) l [⟨mk, mm, ml⟩] rfl rfl (ho3.alloc _) (hone w3) (hC3.alloc hC3.size _).size (by simp; omega) (by simp [TG]; omega) ?_; intro v4 w4 ho4 hg4; have hC4 : Below W0.heap.size W0 w4 := (hC3.alloc hC3.size _).grown hg4 (hC3.alloc hC3.size _).size (fun q hq => (ho3.lt q hq).1))
      | (refine stepNb TG rfl (.tmp 17) (.tmp 19) rfl W0.heap.size v3 _ l [⟨mk, mm, ml⟩] rfl rfl ho3 hx3 hC3.size (by simp; omega) (by simp [TG]; omega) ?_; intro v4 w4 ho4 hg4; have hC4 : Below W0.heap.size W0 w4 := hC3.grown hg4 hC3.size (fun q hq => (ho3.lt q hq).1))
      | (go_at_call 7; refine (hSm.out v4 w4 (hWW.out _ hC4) ho4.sls).mono ?_; rintro e w5 ⟨rfl, hb5⟩; have hC5 := hC4.trans (hb5.mono hC4.size)))
        all_goals
          ( have hz : Hid (Below (w.heap.size + 2) W0 w5) := hWW.out _ hC5
            clear hS hS0 bA bB bC oA oB oC xB xC hone hb5 ho4 hg4 hC4 ho3 hg3 hC3 hC5 hu10
            try clear hx3
            go_wp2_with fail
            go_meet
            case rel => exact ⟨by rw [hsm.out, hxd]; rfl, hz⟩)
  case rest =>
    obtain ⟨hb26, hz⟩ := hcut
    obtain ⟨wz, rfl⟩ : ∃ wz, wz = wc := ⟨_, rfl⟩
    clear hSm hBB
    cases hsm : (!smB n r ts (l ++ [⟨mk, mm, ml⟩]) || decide (x < 0)) with
    | true =>
      rw [hsm] at hb26
      subst hb26
      clear hsm
      go_wp2_with (first | (go_at_call 8; refine (hlive _).mono ?_; rintro e w6 ⟨rfl, hq6⟩))
      go_ret
      have hB6 := hb2.out.trans (hz.out.mono (by omega))
      exact ⟨rfl, hB6.trans (hq6.mono hB6.size)⟩
    | false =>
      rw [hsm] at hb26
      subst hb26
      have hxn : 0 ≤ x := by
        have := (Bool.or_eq_false_iff.1 hsm).2
        simpa using this
      have hlen : l.length + 1 ≤ 40 := by
        have h1 := (Bool.or_eq_false_iff.1 hsm).1
        have h2 : smB n r ts (l ++ [⟨mk, mm, ml⟩]) = true := by simpa using h1
        unfold smB at h2
        have := (Bool.and_eq_true_iff.1 h2).1
        simp at this
        omega
      clear hsm
      have hzs : w.heap.size + 2 ≤ wz.heap.size := hWz.out _ hz.out
      have hWW : Hid (∀ W, Below wz.heap.size wz W → Below (w.heap.size + 2) ((w.alloc (.cells #[.string n, .string r, .slice a ts.length c] 24)).alloc (.cells #[.int .i64 mk, .string mm, .int .i64 ml] 52)) W) := fun W h => hz.out.trans (h.mono hzs)
      obtain ⟨d, hd⟩ : ∃ d, d = x.toNat % l.length := ⟨_, rfl⟩
      replace hd : Hid (d = x.toNat % l.length) := hd
      go_wp2
      go_loopw [9, 10] (fun z i wr => ∃ k : Nat, k ≤ l.length ∧ i = .int .i64 k ∧ Hid (OwnG wr wz.heap.size z ((rotG l d).take k)) ∧ Hid (Below wz.heap.size wz wr)) (fun _ i _ => l.length - (intOf i).toNat)
      case atStart => exact ⟨0, Nat.zero_le _, rfl, OwnS.nil _ _, Below.refl _ _⟩
      case round =>
        obtain ⟨k, hk, rfl, hown, hB⟩ := hrel
        obtain ⟨mv, rfl⟩ : ∃ mv, mv = u9 := ⟨_, rfl⟩
        by_cases hlt : k < l.length
        · have hki : (k : Int) < (l.length : Int) := by omega
          have hdl : d < l.length := by rw [hd.out]; exact Nat.mod_lt _ (by omega)
          have hil : (k + d) % l.length < l.length := Nat.mod_lt _ (by omega)
          have hm1' : x.tmod (l.length : Int) = (d : Int) := by
            rw [hd.out, Int.tmod_eq_emod_of_nonneg hxn, Int.natCast_emod, Int.toNat_of_nonneg hxn]
          have hm2' : ((k : Int) + (d : Int)).tmod (l.length : Int) = (((k + d) % l.length : Nat) : Int) := by
            rw [Int.tmod_eq_emod_of_nonneg (Int.add_nonneg (Int.natCast_nonneg _) (Int.natCast_nonneg _)), Int.natCast_emod]; simp
          have hn0 : ¬ (l.length : Int) = 0 := by omega
          have hn0b : ((l.length : Int) == 0) = false := beq_eq_false_iff_ne.2 hn0
          obtain ⟨b, o, rfl, x0, x1, x2⟩ := gr_at (hvk.out wr (hWW.out _ hB.out)) ((k + d) % l.length) hil
          have htk1 : Hid ((rotG l d).take (k + 1) = (rotG l d).take k ++ [l.getD ((k + d) % l.length) gr0]) := rotG_take l d k hdl hlt
          generalize hI : (k + d) % l.length = I at *
          replace hI : Hid _ := hI
          have hIi : (0 : Int) ≤ (I : Int) := by omega
          have hIl : (I : Int) < (l.length : Int) := by omega
          generalize l.getD I gr0 = g1 at *
          obtain ⟨gk, gm, gl⟩ := g1
          simp only at x0 x1 x2
          have hTl' : Hid (((rotG l d).take k).length ≤ 40) := Nat.le_trans (List.length_take_le ..) (by omega)
          generalize (rotG l d).take k = T at *
          have ho1 : Hid (OwnG (wr.alloc (.cells #[.int .i64 gk, .string gm, .int .i64 gl] 52)) wz.heap.size mv T) := hown.out.alloc _
          have hs1 : Hid (Grs (wr.alloc (.cells #[.int .i64 gk, .string gm, .int .i64 gl] 52)) (.slice (some ⟨wr.heap.size, 0, none⟩) 1 1) [⟨gk, gm, gl⟩]) := sls_one wr _ _ _ rfl
          have hbz : Hid (wz.heap.size ≤ wr.heap.size) := hB.out.size
          have hab : Hid (wz.heap.size ≤ (wr.alloc (.cells #[.int .i64 gk, .string gm, .int .i64 gl] 52)).heap.size) := by show _ ≤ _; have := hbz.out; simp; omega
          go_wp2_with (first
            | (at_builtin; refine appR TG rfl (.tmp 34) (.tmp 47) rfl wz.heap.size mv (.slice (some ⟨wr.heap.size, 0, none⟩) 1 1) T [⟨gk, gm, gl⟩] rfl rfl ho1.out hs1.out hab.out (by have := hTl'.out; simp; omega) ?_; intro v6 w6 ho6 hg6; replace ho6 : Hid (OwnG w6 wz.heap.size v6 (T ++ [⟨gk, gm, gl⟩])) := ho6; replace hg6 : Hid (World.grownBy (wr.alloc (.cells #[.int .i64 gk, .string gm, .int .i64 gl] 52)) w6 mv.ownBlock) := hg6))
          refine ⟨⟨k + 1, by omega, by go_num, ?_, (hB.out.alloc hbz.out _).trans (OwnS.grows ho1.out hab.out hg6.out)⟩, ?_⟩
          · show OwnG _ _ _ _
            rw [htk1.out]
            exact ho6.out
          · simp [intOf]; omega
        · obtain rfl : l.length = k := by omega
          have hki : ¬ (l.length : Int) < (l.length : Int) := by omega
          rw [List.take_of_length_le (Nat.le_of_eq (rotG_len l d))] at hown
          have hLv1 := hLv.out (.slice a2 l.length c2) l wr (hWW.out _ hB.out) (hvk.out _ (hWW.out _ hB.out)) (by omega) hgl.out
          have p0 := hu0.out _ (hWW.out _ hB.out)
          have p1 := hu1.out _ (hWW.out _ hB.out)
          have p2 := hu2.out _ (hWW.out _ hB.out)
          go_wp2_with (first
            | (go_at_call 14; refine hLv1.mono ?_; rintro e w7 ⟨rfl, hq7⟩; replace hq7 : Hid (Below wr.heap.size wr w7) := hq7))
          clear p0 p1 p2 hLv1
          have hB7 : Hid (Below wz.heap.size wz w7) := hB.out.trans (hq7.out.mono hB.out.size)
          have hown7 : Hid (OwnG w7 wz.heap.size mv (rotG l d)) := OwnS.stay hown.out hq7.out
          have hz7 : Hid (Below (w.heap.size + 2) ((w.alloc (.cells #[.string n, .string r, .slice a ts.length c] 24)).alloc (.cells #[.int .i64 mk, .string mm, .int .i64 ml] 52)) w7) := hWW.out _ hB7.out
          have hz7s : w.heap.size + 2 ≤ w7.heap.size := hWz.out _ hz7.out
          clear hown hB hq7
          obtain ⟨LE, hLE⟩ : ∃ LE, LE = lvL n r ts l := ⟨_, rfl⟩
          rw [← hLE]
          replace hLE : Hid (LE = lvL n r ts l) := hLE
          obtain ⟨LM, hLM⟩ : ∃ LM, LM = lvL n r ts (l ++ [⟨mk, mm, ml⟩]) := ⟨_, rfl⟩
          go_cut [12] from 52 to 59 (fun b wd => b = .int .i64 LM ∧ Hid (Below w7.heap.size w7 wd))
          case first =>
            have hWW0 := hWW
            clear hWW
            have hWW : Hid (∀ W, Below w7.heap.size w7 W → Below (w.heap.size + 2) ((w.alloc (.cells #[.string n, .string r, .slice a ts.length c] 24)).alloc (.cells #[.int .i64 mk, .string mm, .int .i64 ml] 52)) W) := fun W h => hz7.out.trans (h.mono hz7s)
            clear hlive hown7 hB7
            have hu10 := hvk.out _ (hWW.out w7 (Below.refl _ _))
            have hS : ∀ X, Below w7.heap.size w7 X → X.cell? ⟨w.heap.size, 0, none⟩ = some (.string n) ∧ X.cell? ⟨w.heap.size, 1, none⟩ = some (.string r) ∧ X.cell? ⟨w.heap.size, 2, none⟩ = some (.slice a ts.length c) ∧ X.cell? ⟨w.heap.size + 1, 0, none⟩ = some (.int .i64 mk) ∧ X.cell? ⟨w.heap.size + 1, 1, none⟩ = some (.string mm) ∧ X.cell? ⟨w.heap.size + 1, 2, none⟩ = some (.int .i64 ml) := fun X h => ⟨hu0.out _ (hWW.out _ h), hu1.out _ (hWW.out _ h), hu2.out _ (hWW.out _ h), hm0.out _ (hWW.out _ h), hm1.out _ (hWW.out _ h), hm2.out _ (hWW.out _ h)⟩
            have hS0 := hS w7 (Below.refl _ _)
            have bA : Below w7.heap.size w7 (w7.alloc (.cells #[] 52)).drew := ((Below.refl _ _).alloc (Nat.le_refl _) _).drew
            have bB : Below w7.heap.size w7 ((w7.alloc (.cells #[] 52)).alloc (.cells #[.int .i64 mk, .string mm, .int .i64 ml] 52)).drew := (((Below.refl _ _).alloc (Nat.le_refl _) _).alloc (by simp) _).drew
            have bC : Below w7.heap.size w7 ((w7.alloc (.cells #[.int .i64 mk, .string mm, .int .i64 ml] 52)).alloc (.cells #[] 52)).drew := (((Below.refl _ _).alloc (Nat.le_refl _) _).alloc (by simp) _).drew
            have oA : OwnG (w7.alloc (.cells #[] 52)).drew w7.heap.size (.slice (some ⟨w7.heap.size, 0, none⟩) 0 0) [] := own_empty (T := TG) w7 w7.heap.size (Nat.le_refl _)
            have oB : OwnG ((w7.alloc (.cells #[] 52)).alloc (.cells #[.int .i64 mk, .string mm, .int .i64 ml] 52)).drew w7.heap.size (.slice (some ⟨w7.heap.size, 0, none⟩) 0 0) [] := OwnS.alloc (own_empty (T := TG) w7 w7.heap.size (Nat.le_refl _)) _
            have oC : OwnG ((w7.alloc (.cells #[.int .i64 mk, .string mm, .int .i64 ml] 52)).alloc (.cells #[] 52)).drew w7.heap.size (.slice (some ⟨w7.heap.size + 1, 0, none⟩) 0 0) [] := by
              have := own_empty (T := TG) (w7.alloc (.cells #[.int .i64 mk, .string mm, .int .i64 ml] 52)) w7.heap.size (by simp)
              rw [World.size_alloc] at this
              exact this
            have hone : ∀ W : World, Grs (W.alloc (.cells #[.int .i64 mk, .string mm, .int .i64 ml] 52)) (.slice (some ⟨W.heap.size, 0, none⟩) 1 1) [⟨mk, mm, ml⟩] := fun W => sls_one W _ _ _ rfl
            have xB : Grs ((w7.alloc (.cells #[] 52)).alloc (.cells #[.int .i64 mk, .string mm, .int .i64 ml] 52)).drew (.slice (some ⟨w7.heap.size + 1, 0, none⟩) 1 1) [⟨mk, mm, ml⟩] := by
              have := hone (w7.alloc (.cells #[] 52))
              rw [World.size_alloc] at this
              exact this
            have xC : Grs ((w7.alloc (.cells #[.int .i64 mk, .string mm, .int .i64 ml] 52)).alloc (.cells #[] 52)).drew (.slice (some ⟨w7.heap.size, 0, none⟩) 1 1) [⟨mk, mm, ml⟩] := (hone w7).alloc _
            go_region_held3 (fun X => X.cell? ⟨w.heap.size, 0, none⟩ = some (.string n) ∧ X.cell? ⟨w.heap.size, 1, none⟩ = some (.string r) ∧ X.cell? ⟨w.heap.size, 2, none⟩ = some (.slice a ts.length c) ∧ X.cell? ⟨w.heap.size + 1, 0, none⟩ = some (.int .i64 mk) ∧ X.cell? ⟨w.heap.size + 1, 1, none⟩ = some (.string mm) ∧ X.cell? ⟨w.heap.size + 1, 2, none⟩ = some (.int .i64 ml)) (first | go_keep | exact hS _ hC3 | exact hS _ hC4 | exact hS _ hC5 | exact hS _ (hC3.alloc hC3.size _)) (first
      | (refine stepNb TG rfl (.tmp 53) (.tmp 54) rfl w7.heap.size (.slice (some ⟨w7.heap.size, 0, none⟩) 0 0) (.slice a2 l.length c2) [] l rfl rfl oA (hu10.grow bA) bA.size (by simp; omega) (by simp [TG]; omega) ?_; intro v3 w3 ho3 hg3; rw [List.nil_append] at ho3; have hC3 : Below w7.heap.size w7 w3 := bA.grown hg3 bA.size (by intro q hq; cases hq; exact Nat.le_refl _))
      | (refine stepNb TG rfl (.tmp 53) (.tmp 54) rfl w7.heap.size (.slice (some ⟨w7.heap.size, 0, none⟩) 0 0) (.slice a2 l.length c2) [] l rfl rfl oB (hu10.grow bB) bB.size (by simp; omega) (by simp [TG]; omega) ?_; intro v3 w3 ho3 hg3; rw [List.nil_append] at ho3; have hC3 : Below w7.heap.size w7 w3 := bB.grown hg3 bB.size (by intro q hq; cases hq; exact Nat.le_refl _); have hx3 := xB.kept hg3 (by simp [Value.ownBlock]))
      | (refine stepNb TG rfl (.tmp 53) (.tmp 54) rfl w7.heap.size (.slice (some ⟨w7.heap.size + 1, 0, none⟩) 0 0) (.slice a2 l.length c2) [] l rfl rfl oC (hu10.grow bC) bC.size (by simp; omega) (by simp [TG]; omega) ?_; intro v3 w3 ho3 hg3; rw [List.nil_append] at ho3; have hC3 : Below w7.heap.size w7 w3 := bC.grown hg3 bC.size (by intro q hq; cases hq; exact Nat.le_succ _); have hx3 := xC.kept hg3 (by simp [Value.ownBlock]))
      | (refine stepNb TG rfl (.tmp 55) (.tmp 57) rfl w7.heap.size v3 (.slice (some ⟨w3.heap.size, 0, none⟩) 1 1) l [⟨mk, mm, ml⟩] rfl rfl (ho3.alloc _) (hone w3) (hC3.alloc hC3.size _).size (by simp; omega) (by simp [TG]; omega) ?_; intro v4 w4 ho4 hg4; have hC4 : Below w7.heap.size w7 w4 := (hC3.alloc hC3.size _).grown hg4 (hC3.alloc hC3.size _).size (fun q hq => (ho3.lt q hq).1))
      | (refine stepNb TG rfl (.tmp 55) (.tmp 57) rfl w7.heap.size v3 _ l [⟨mk, mm, ml⟩] rfl rfl ho3 hx3 hC3.size (by simp; omega) (by simp [TG]; omega) ?_; intro v4 w4 ho4 hg4; have hC4 : Below w7.heap.size w7 w4 := hC3.grown hg4 hC3.size (fun q hq => (ho3.lt q hq).1))
      | (go_at_call 14; refine (hLv.out v4 (l ++ [⟨mk, mm, ml⟩]) w4 (hWW.out _ hC4) ho4.sls (by simp; omega) hgi.out).mono ?_; rintro e w5 ⟨rfl, hb5⟩; have hC5 := hC4.trans (hb5.mono hC4.size)))
            all_goals
              ( have hz : Hid (Below w7.heap.size w7 w5) := hC5
                clear hS hS0 bA bB bC oA oB oC xB xC hone hb5 ho4 hg4 hC4 ho3 hg3 hC3 hC5 hu10
                try clear hx3
                go_wp2_with fail
                go_meet
                case rel => exact ⟨by rw [hLM], hz⟩)
          case rest =>
            obtain ⟨hb12, hq8⟩ := hcut
            obtain ⟨wd, rfl⟩ : ∃ wd, wd = wc := ⟨_, rfl⟩
            subst hb12
            have hzd : Hid (Below (w.heap.size + 2) ((w.alloc (.cells #[.string n, .string r, .slice a ts.length c] 24)).alloc (.cells #[.int .i64 mk, .string mm, .int .i64 ml] 52)) wd) := hz7.out.trans (hq8.out.mono hz7s)
            have hzds : w.heap.size + 2 ≤ wd.heap.size := hWz.out _ hzd.out
            have hLle : LE ≤ LM := by rw [hLE.out, hLM]; exact lvL_more n r ts l _
            have hLnl : ¬ LM < LE := by omega
            have hLnb : decide (LM < LE) = false := by simp; omega
            replace hLM : Hid _ := hLM
            have hown8 : Hid (OwnG wd wz.heap.size mv (rotG l d)) := OwnS.stay hown7.out hq8.out
            obtain ⟨am, cm, rfl⟩ := hown8.out.shape
            have hrl : Hid ((rotG l d).length = l.length) := rotG_len l d
            have hLr := hLv.out (.slice am (rotG l d).length cm) (rotG l d) wd hzd.out hown8.out.sls (by rw [hrl.out]; omega) (fun q hq => hgl.out q (rotG_mem hq))
            rw [lvL_rot, ← hLE.out] at hLr
            generalize (rotG l d).length = NR at *
            have p0 := hu0.out _ hzd.out
            have p1 := hu1.out _ hzd.out
            have p2 := hu2.out _ hzd.out
            have hLL : (LE == LE) = true := by simp
            have hLL2 : (LE != LE) = false := by simp
            clear hown7 hown8 hB7
            have hadm : Hid ((r.toList == [97, 100, 109, 105, 110]) = true → LE = 3) := fun h => by
              rw [hLE.out]; unfold lvL adB; rw [h, if_pos rfl]
            have hge : Hid ((r.toList == [97, 100, 109, 105, 110]) = false → ∀ k, k < l.length → ((l.getD k gr0).kind == 1) = true → ((l.getD k gr0).name.toList == n.toList) = true → (l.getD k gr0).level ≤ LE) := fun h k hk h1 h2 => by
              rw [hLE.out]; unfold lvL adB; rw [h]; exact lvF_ge n r ts l k hk h1 h2
            rcases Bool.eq_false_or_eq_true (r.toList == [97, 100, 109, 105, 110]) with had | had
            · have hL3 : (LE == 3) = true := by rw [hadm.out had]; rfl
              have hL3b : (LE != 3) = false := by rw [hadm.out had]; rfl
              go_wp2_with (first
                | (go_at_call 14; refine hLr.mono ?_; rintro e w9 ⟨rfl, hq9⟩; have hz9 := hzd.out.trans (hq9.mono hzds); have q0 := hu0.out _ hz9; have q1 := hu1.out _ hz9; have q2 := hu2.out _ hz9; replace hz9 : Hid (Below (w.heap.size + 2) ((w.alloc (.cells #[.string n, .string r, .slice a ts.length c] 24)).alloc (.cells #[.int .i64 mk, .string mm, .int .i64 ml] 52)) w9) := hz9; replace hq9 : Hid _ := hq9))
              go_loopw [13] (fun i wr => ∃ k : Nat, k ≤ l.length ∧ i = .int .i64 k ∧ Hid (Below (w.heap.size + 2) ((w.alloc (.cells #[.string n, .string r, .slice a ts.length c] 24)).alloc (.cells #[.int .i64 mk, .string mm, .int .i64 ml] 52)) wr)) (fun i _ => l.length - (intOf i).toNat)
              case atStart => exact ⟨0, Nat.zero_le _, rfl, hz9⟩
              case round =>
                clear q0 q1 q2 p0 p1 p2
                obtain ⟨k, hk, rfl, hz10⟩ := hrel
                have hzs10 : w.heap.size + 2 ≤ wr.heap.size := hWz.out _ hz10.out
                by_cases hlt : k < l.length
                · have hki : (k : Int) < (l.length : Int) := by omega
                  have e1 : ∀ p : Bel wr, p.W.cell? ⟨w.heap.size, 1, none⟩ = some (.string r) := fun p => hu1.out _ (hz10.out.trans (p.h.mono hzs10))
                  go_wp2
                  refine wp_region_bel (by kernel_rfl) (by kernel_rfl) ?_
                  repeat (go_big_quiet_step (fail))
                  refine wpQuiet_nil ?_
                  rintro _ ⟨⟨wq, hq⟩, rfl⟩
                  go_wp2
                  refine ⟨⟨k + 1, by omega, by go_num, hz10.out.trans (hq.mono hzs10)⟩, ?_⟩
                  simp [intOf]; omega
                · obtain rfl : l.length = k := by omega
                  have hki : ¬ (l.length : Int) < (l.length : Int) := by omega
                  go_wp2_with (first | (go_at_call 8; refine (hlive _).mono ?_; rintro e w11 ⟨rfl, hq11⟩))
                  go_ret
                  have hB6 := hb2.out.trans (hz10.out.mono (by omega))
                  exact ⟨rfl, hB6.trans (hq11.mono hB6.size)⟩
            · go_wp2_with (first
                | (go_at_call 14; refine hLr.mono ?_; rintro e w9 ⟨rfl, hq9⟩; have hz9 := hzd.out.trans (hq9.mono hzds); have q0 := hu0.out _ hz9; have q1 := hu1.out _ hz9; have q2 := hu2.out _ hz9; replace hz9 : Hid (Below (w.heap.size + 2) ((w.alloc (.cells #[.string n, .string r, .slice a ts.length c] 24)).alloc (.cells #[.int .i64 mk, .string mm, .int .i64 ml] 52)) w9) := hz9; replace hq9 : Hid _ := hq9))
              go_loopw [13] (fun i wr => ∃ k : Nat, k ≤ l.length ∧ i = .int .i64 k ∧ Hid (Below (w.heap.size + 2) ((w.alloc (.cells #[.string n, .string r, .slice a ts.length c] 24)).alloc (.cells #[.int .i64 mk, .string mm, .int .i64 ml] 52)) wr)) (fun i _ => l.length - (intOf i).toNat)
              case atStart => exact ⟨0, Nat.zero_le _, rfl, hz9⟩
              case round =>
                clear q0 q1 q2 p0 p1 p2
                obtain ⟨k, hk, rfl, hz10⟩ := hrel
                have hzs10 : w.heap.size + 2 ≤ wr.heap.size := hWz.out _ hz10.out
                by_cases hlt : k < l.length
                · have hki : (k : Int) < (l.length : Int) := by omega
                  have hge1 := hge.out had k hlt
                  obtain ⟨b, o, rfl, x0, x1, x2⟩ := gr_at (hvk.out wr hz10.out) k hlt
                  generalize l.getD k gr0 = g1 at *
                  obtain ⟨gk, gm, gl⟩ := g1
                  simp only at x0 x1 x2 hge1
                  have e0 : ∀ p : Bel wr, p.W.cell? ⟨w.heap.size, 0, none⟩ = some (.string n) := fun p => hu0.out _ (hz10.out.trans (p.h.mono hzs10))
                  have e1 : ∀ p : Bel wr, p.W.cell? ⟨w.heap.size, 1, none⟩ = some (.string r) := fun p => hu1.out _ (hz10.out.trans (p.h.mono hzs10))
                  have y0 : ∀ p : Bel wr, p.W.cell? ⟨b, o + k * 3, none⟩ = some (.int .i64 gk) := fun p => p.cell x0
                  have y1 : ∀ p : Bel wr, p.W.cell? ⟨b, o + k * 3 + 1, none⟩ = some (.string gm) := fun p => p.cell x1
                  have y2 : ∀ p : Bel wr, p.W.cell? ⟨b, o + k * 3 + 2, none⟩ = some (.int .i64 gl) := fun p => p.cell x2
                  have hcs : (decide (LE < gl) = false ∧ ¬ LE < gl) ∨ (decide (LE < gl) = true ∧ LE < gl ∧ (gk == 1) = false) ∨ (decide (LE < gl) = true ∧ LE < gl ∧ (gk == 1) = true ∧ (gm.toList == n.toList) = false) := by
                    by_cases h1 : LE < gl
                    · rcases Bool.eq_false_or_eq_true (gk == 1) with h2 | h2
                      · rcases Bool.eq_false_or_eq_true (gm.toList == n.toList) with h3 | h3
                        · exact absurd (hge1 h2 h3) (by omega)
                        · exact .inr (.inr ⟨decide_eq_true h1, h1, h2, h3⟩)
                      · exact .inr (.inl ⟨decide_eq_true h1, h1, h2⟩)
                    · exact .inl ⟨decide_eq_false h1, h1⟩
                  clear hge1 x0 x1 x2
                  rcases hcs with ⟨f1, f2⟩ | ⟨f1, f2, f3⟩ | ⟨f1, f2, f3, f4⟩
                  all_goals
                    go_wp2
                    refine wp_region_bel (by kernel_rfl) (by kernel_rfl) ?_
                    repeat (go_big_quiet_step (fail))
                    refine wpQuiet_nil ?_
                    rintro _ ⟨⟨wq, hq⟩, rfl⟩
                    go_wp2
                    refine ⟨⟨k + 1, by omega, by go_num, hz10.out.trans (hq.mono hzs10)⟩, ?_⟩
                    simp [intOf]; omega
                · obtain rfl : l.length = k := by omega
                  have hki : ¬ (l.length : Int) < (l.length : Int) := by omega
                  go_wp2_with (first | (go_at_call 8; refine (hlive _).mono ?_; rintro e w11 ⟨rfl, hq11⟩))
                  go_ret
                  have hB6 := hb2.out.trans (hz10.out.mono (by omega))
                  exact ⟨rfl, hB6.trans (hq11.mono hB6.size)⟩
/-! ### THE ROW's STEP -/
set_option maxRecDepth 100000 in
theorem lifted (os : Os) (started : os.Started) (H : Type) (enc : TypeId × Value → H) :
    ReturnsInHanded {} Try.checked os 5 .any (Rows.aclMoreSpec.pre6 enc Try.prog Try.f5 Rows.aclMoreRow.domain false) (Rows.aclMoreSpec.post enc Try.prog Try.f5 false true false false) := by
  refine returnsInHanded_of_change_sized (C := Try.checked) own started (by kernel_rfl) Try.func5
    (ChangeSpec.witness6 (enc := enc) (C := Try.checked) false ⟨#[], #[.agg #[.string ⟨#[]⟩, .string ⟨#[]⟩, .slice none 0 0], .slice none 0 0, .agg #[.int .i64 0, .string ⟨#[]⟩, .int .i64 0], .int .i64 0], []⟩ 8 (by kernel_rfl) (by kernel_rfl) (by kernel_rfl) (by kernel_rfl)) ?_
  intro W base args ds gs before hval0 hW hcnd hsz0 _
  have hsz : (DataW.weightsEach Try.prog (Try.f5.params.toList ++ Rows.aclMoreSpec.plain.varTypes Try.prog) (ds ++ gs)).all (· ≤ reachBytes) = true := hsz0
  have hval : ∀ (j : Nat) t v, Try.f5.params[j]? = some t → args[j]? = some v → Value.okWide Try.prog W .any base t v := hval0
  have hW' := hW
  obtain ⟨p, q, hA0, hV, rfl, hfz, hnd⟩ := hW
  have hA : DataW.TrodAll enc Try.prog W 0 (fun _ => true) true Try.f5.params.toList args.toList ds p := hA0
  rw [Try.params5] at hA hval hsz
  obtain ⟨v0, vs0, d0, ds0, p0, q0, hargs, rfl, rfl, h0, r0⟩ := trodAll_cons hA
  obtain ⟨v1, vs1, d1, ds1, p1, q1, rfl, rfl, rfl, h1, r1⟩ := trodAll_cons r0
  obtain ⟨v2, vs2, d2, ds2, p2, q2, rfl, rfl, rfl, h2, r2⟩ := trodAll_cons r1
  obtain ⟨v3, vs3, d3, ds3, p3, q3, rfl, rfl, rfl, h3, r3⟩ := trodAll_cons r2
  obtain ⟨rfl, rfl, rfl⟩ := trodAll_nil r3
  obtain rfl : args = #[v0, v1, v2, v3] := by cases args; simp_all
  obtain ⟨rfl, rfl⟩ := trodVars_none hV
  have k0 := h0
  have lt0 : ∀ x ∈ p0, x.block < W.heap.size := by obtain ⟨m, hm⟩ := k0; exact DataW.trod_lt m _ _ _ hm
  obtain ⟨m0, r0s, tv0, ts0, rfl, hR0⟩ : ∃ m r tv ts, v0 = .agg #[.string m, .string r, tv] ∧ UsIn W m r tv ts := by
    obtain ⟨fuel, hf⟩ := h0
    refine us_arg (hval 0 24 v0 rfl rfl) hf (fun q hq => ?_)
    have := List.all_eq_true.1 hsz _ (DataW.weights_mem_each (j := 0) (t := 24) rfl rfl q hq)
    simpa using this
  have k1 := h1
  have lt1 : ∀ x ∈ p1, x.block < W.heap.size := by obtain ⟨m, hm⟩ := k1; exact DataW.trod_lt m _ _ _ hm
  obtain ⟨a1, n1, c1, rfl⟩ := okWide_slice Try.underlying25 (hval 1 25 v1 rfl rfl)
  obtain ⟨l1, hP1, hR1, hL1⟩ : ∃ l, Grs W (.slice a1 n1 c1) l ∧ (∀ p ∈ l, GrIn p) ∧ l.length ≤ 4398046510976 := by
    obtain ⟨fuel, hf⟩ := h1
    refine grs_of_trod hf (fun q hq => ?_)
    have := List.all_eq_true.1 hsz _ (DataW.weights_mem_each (j := 1) (t := 25) rfl rfl q hq)
    simpa using this
  have k2 := h2
  have lt2 : ∀ x ∈ p2, x.block < W.heap.size := by obtain ⟨m, hm⟩ := k2; exact DataW.trod_lt m _ _ _ hm
  obtain ⟨g2, rfl, hR2⟩ : ∃ g : Gr, v2 = .agg #[.int .i64 g.kind, .string g.name, .int .i64 g.level] ∧ GrIn g := by
    obtain ⟨fuel, hf⟩ := h2
    refine gr_arg (hval 2 52 v2 rfl rfl) hf (fun q hq => ?_)
    have := List.all_eq_true.1 hsz _ (DataW.weights_mem_each (j := 2) (t := 52) rfl rfl q hq)
    simpa using this
  obtain ⟨x3, rfl, rfl, rfl, w3⟩ := open_int Try.underlying3 (hval 3 3 v3 rfl rfl) h3
  clear hA0 hval0
  refine (walk m0 r0s tv0 ts0 (.slice a1 n1 c1) l1 g2 x3 W hR0 hP1 hR1 hL1 hR2 (in64_of w3)).mono fun e W' ⟨he, bel⟩ => ?_
  subst he
  exact ⟨_, rfl, _, _, _, [], _, [], hW', trodAll_mk1 (shut_bool Try.underlying4 _), (trodAll_cons_mk (Below.trod laidOut (by kernel_rfl) (of_decide_eq_true (by kernel_rfl)) k0 bel lt0) (trodAll_cons_mk (Below.trod laidOut (by kernel_rfl) (of_decide_eq_true (by kernel_rfl)) k1 bel lt1) (trodAll_cons_mk (Below.trod laidOut (by kernel_rfl) (of_decide_eq_true (by kernel_rfl)) k2 bel lt2) (trodAll_cons_mk (shut_int Try.underlying3 w3) trodAll_mk0)))), rfl, bel.frame _, fun h => by cases h⟩
theorem over : Rows.aclMoreRow.holds Try.pinned (OpenSpec.ofChange Rows.aclMoreSpec) :=
  OpenClaim.holds_of_wide 5 Try.f5 rfl rfl rfl rfl rfl rfl rfl ⟨rfl, rfl, rfl, rfl, rfl⟩ rfl rfl rfl rfl rfl (by kernel_rfl) Try.func5 (by kernel_rfl)
    (of_decide_eq_true (by kernel_rfl)) (by unfold Func.isWrapper; first | (rw [if_pos (by decide +kernel)]; kernel_rfl) | (rw [if_neg (by decide +kernel)]; exact ⟨rfl, rfl⟩))
    (fun os started H enc _ => lifted os started H enc)
end Go.Proofs.Ytfbeilninpapaaa.aclMore
namespace Go.Proofs.Ytfbeilninpapaaa
/-- The statement. -/
theorem aclMore_holds : Rows.AclMoreSaid := aclMore.over
#print axioms aclMore_holds
end Go.Proofs.Ytfbeilninpapaaa
