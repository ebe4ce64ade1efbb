/-
  Proved here: 'klaxonlaw15.AclOwn' (P15.2), called with any user and any list of grants, in any memory, returns true, and its arguments read afterwards as they read before: a level comes of a grant of one's own, and grants of others have no part. No condition beyond the row's own (each slice and string within the reach that every row states).
-/
import Derived.Test.YtfbeilninpapaaaRows
import Derived.WalkKit
import Derived.ProofKit
import Derived.OpenShut
import Derived.ShutString
import Derived.ChangeOld
import Derived.Below
import Derived.SizedLaws
import Derived.Test.YtfbeilninpapaaaAr
import Derived.Test.YtfbeilninpapaaaGr
namespace Go.Proofs.Ytfbeilninpapaaa.aclOwn
open Go.ChangeShapes Go.WideShapes Go.ChangeAt Go.RowKit
open Go.ChangeMaps (open_string shut_string)
set_option linter.unusedVariables false
theorem own : ownKnob Try.prog.godebug = none := by kernel_rfl
theorem laidOut : laidOutB Try.prog = true := by kernel_rfl
/-- Whether a grant is one's own, as the statement reckons it. -/
def owB (n r : ByteArray) (ts : List ByteArray) (g : Gr) : Bool := ((g.kind == 1 && g.name.toList == n.toList) || (g.kind == 3 && g.name.toList == r.toList)) || (g.kind == 2 && inB ts g.name)
theorem owB_of (n r : ByteArray) (ts : List ByteArray) (g : Gr) : owB n r ts g = ofB n r ts g := by
  obtain ⟨k, m, lv⟩ := g
  unfold owB ofB
  simp only
  by_cases h1 : k = 1
  · subst h1; simp
  · by_cases h2 : k = 2
    · subst h2; simp
    · by_cases h3 : k = 3
      · subst h3; simp
      · rw [show (k == 1) = false by simpa using h1, show (k == 2) = false by simpa using h2, show (k == 3) = false by simpa using h3]; simp
theorem inB_take {ts : List ByteArray} {s : ByteArray} {j : Nat} (h : j < ts.length) : inB (ts.take (j + 1)) s = (inB (ts.take j) s || s.toList == (ts.getD j ⟨#[]⟩).toList) := by
  unfold inB
  rw [take_getD ts ⟨#[]⟩ j h, List.any_append]
  simp
theorem owB_take (n r : ByteArray) {ts : List ByteArray} (g : Gr) {j : Nat} (h : j < ts.length) : owB n r (ts.take (j + 1)) g = (owB n r (ts.take j) g || (g.kind == 2 && g.name.toList == (ts.getD j ⟨#[]⟩).toList)) := by
  unfold owB
  rw [inB_take h]
  cases (g.kind == 2) <;> simp [Bool.or_assoc]
theorem filter_take (f : Gr → Bool) (l : List Gr) (k : Nat) (h : k < l.length) : (l.take (k + 1)).filter f = (l.take k).filter f ++ (if f (l.getD k gr0) then [l.getD k gr0] else []) := by
  rw [take_getD l gr0 k h, List.filter_append]
  congr 1
  generalize l.getD k gr0 = x
  cases e : f x <;> simp [e]
theorem lvF_mine (n r : ByteArray) (ts : List ByteArray) (l : List Gr) : lvF n r ts (l.filter (ofB n r ts)) = lvF n r ts l := by
  unfold lvF
  rw [List.foldl_filter]
  congr 1
  funext a g
  unfold lvS
  cases ofB n r ts g <;> simp
theorem lvF_one (n r : ByteArray) (ts : List ByteArray) (g : Gr) : lvF n r ts [g] = if ofB n r ts g then max 0 g.level else 0 := rfl
theorem cell_kept {w w' : World} {g o : Nat} {v : Value} {row : Option Nat} (hg : w.grownBy w' row) (hne : row ≠ some g) (h : w.cell? ⟨g, o, none⟩ = some v) : w'.cell? ⟨g, o, none⟩ = some v := by
  have hlt := World.block_lt_of_cell? w _ h
  obtain ⟨_, _, _, _, hh⟩ := hg
  have hh := hh g hlt (fun e => hne e.symm)
  simp only [World.cell?] at h ⊢
  rw [hh]; exact h
set_option maxRecDepth 100000 in
set_option maxHeartbeats 8000000 in
theorem walk (n r : ByteArray) (tv : Value) (ts : List ByteArray) (v : Value) (l : List Gr) (w : World) (hU : UsIn w n r tv ts) (hP : Grs w v l) (hG : ∀ p ∈ l, GrIn p) (hL : l.length ≤ 4398046510976) :
    Calls Try.prog 6 #[.agg #[.string n, .string r, tv], v] w fun e w' => e = .returned (.bool true) ∧ Below w.heap.size w w' := by
  obtain ⟨⟨hn, hr⟩, hT, hTb, hTl⟩ := hU
  obtain ⟨a, c, rfl⟩ := hT.shape
  obtain ⟨a2, c2, rfl⟩ := hP.shape
  have htr : TxR ts := fun s hs => by have := hTb s hs; omega
  have hgr : GrR l := fun g hg => by have := (hG g hg).2; omega
  have hgi : ∀ g ∈ l, GrI g := fun g hg => (hG g hg).1
  have hb1 : Below w.heap.size w (w.alloc (.cells #[.string n, .string r, .slice a ts.length c] 24)) := (Below.refl _ _).alloc (Nat.le_refl _) _
  have hS := small_any n r (.slice a ts.length c) ts (.slice a2 l.length c2) l (w.alloc (.cells #[.string n, .string r, .slice a ts.length c] 24)) (hT.alloc _) (by omega) (hP.alloc _) (by omega) (by omega) (by omega) htr hgr
  have hlive := fun W => live_ok W
  have hsz1 : (w.alloc (.cells #[.string n, .string r, .slice a ts.length c] 24)).heap.size = w.heap.size + 1 := by simp
  have htk : Hid (∀ W, Below (w.heap.size + 1) (w.alloc (.cells #[.string n, .string r, .slice a ts.length c] 24)) W → Txs W (.slice a ts.length c) ts) := fun W h => (hT.alloc _).grow (by rw [hsz1]; exact h)
  have hvk : Hid (∀ W, Below (w.heap.size + 1) (w.alloc (.cells #[.string n, .string r, .slice a ts.length c] 24)) W → Grs W (.slice a2 l.length c2) l) := fun W h => (hP.alloc _).grow (by rw [hsz1]; exact h)
  have hu0 : Hid (∀ W, Below (w.heap.size + 1) (w.alloc (.cells #[.string n, .string r, .slice a ts.length c] 24)) W → W.cell? ⟨w.heap.size, 0, none⟩ = some (.string n)) := fun W h => (h.cell (p := ⟨w.heap.size, 0, none⟩) (Nat.lt_succ_self _)).trans (by simp)
  have hu1 : Hid (∀ W, Below (w.heap.size + 1) (w.alloc (.cells #[.string n, .string r, .slice a ts.length c] 24)) W → W.cell? ⟨w.heap.size, 1, none⟩ = some (.string r)) := fun W h => (h.cell (p := ⟨w.heap.size, 1, none⟩) (Nat.lt_succ_self _)).trans (by simp)
  have hu2 : Hid (∀ W, Below (w.heap.size + 1) (w.alloc (.cells #[.string n, .string r, .slice a ts.length c] 24)) W → W.cell? ⟨w.heap.size, 2, none⟩ = some (.slice a ts.length c)) := fun W h => (h.cell (p := ⟨w.heap.size, 2, none⟩) (Nat.lt_succ_self _)).trans (by simp)
  replace hS : Calls Try.prog 7 #[.agg #[.string n, .string r, .slice a ts.length c], .slice a2 l.length c2] (w.alloc (.cells #[.string n, .string r, .slice a ts.length c] 24)) fun e w' => e = .returned (.bool (smB n r ts l)) ∧ Below (w.heap.size + 1) (w.alloc (.cells #[.string n, .string r, .slice a ts.length c] 24)) w' := by rw [hsz1] at hS; exact hS
  clear hsz1 hP hT
  replace hb1 : Hid (Below w.heap.size w (w.alloc (.cells #[.string n, .string r, .slice a ts.length c] 24))) := hb1
  replace htr : Hid (TxR ts) := htr
  replace hgr : Hid (GrR l) := hgr
  replace hgi : Hid (∀ g ∈ l, GrI g) := hgi
  cases hsm : smB n r ts l with
  | false =>
    rw [hsm] at hS
    clear hsm
    go_enter Try.func6, Try.ntmps6
    go_wp2_with (first
      | (go_at_call 7; refine hS.mono ?_; rintro e w1 ⟨rfl, hq1⟩)
      | (go_at_call 8; refine (hlive _).mono ?_; rintro e w2 ⟨rfl, hq2⟩))
    go_ret
    have hB1 := hb1.out.trans (hq1.mono (by omega))
    exact ⟨rfl, hB1.trans (hq2.mono hB1.size)⟩
  | true =>
    rw [hsm] at hS
    have hlen : l.length ≤ 40 := by
      unfold smB at hsm
      simpa using (Bool.and_eq_true_iff.1 hsm).1
    have htlen : ts.length ≤ 40 := by
      unfold smB at hsm
      simpa using (Bool.and_eq_true_iff.1 (Bool.and_eq_true_iff.1 hsm).2).1
    clear hsm
    rcases Bool.eq_false_or_eq_true (r.toList == [97, 100, 109, 105, 110]) with had | had
    · go_enter Try.func6, Try.ntmps6
      go_wp2_with (first
        | (go_at_call 7; refine hS.mono ?_; rintro e w1 ⟨rfl, hq1⟩; have c1 := hu1.out _ hq1)
        | (go_at_call 8; refine (hlive _).mono ?_; rintro e w2 ⟨rfl, hq2⟩))
      go_ret
      have hB1 := hb1.out.trans (hq1.mono (by omega))
      exact ⟨rfl, hB1.trans (hq2.mono hB1.size)⟩
    · have hLm : Hid (∀ l', lvL n r ts l' = lvF n r ts l') := fun l' => by unfold lvL adB; rw [had]; rfl
      go_enter Try.func6, Try.ntmps6
      go_wp2_with (first
        | (go_at_call 7; refine hS.mono ?_; rintro e w1 ⟨rfl, hq1⟩; have c1 := hu1.out _ hq1; replace hq1 : Hid (Below (w.heap.size + 1) (w.alloc (.cells #[.string n, .string r, .slice a ts.length c] 24)) w1) := hq1))
      clear c1 hS
      have hs1 : w.heap.size + 1 ≤ w1.heap.size := by have := hq1.out.size; simp at this; omega
      have hUp : Hid (∀ W, Below w1.heap.size w1 W → Below (w.heap.size + 1) (w.alloc (.cells #[.string n, .string r, .slice a ts.length c] 24)) W) := fun W h => hq1.out.trans (h.mono hs1)
      go_loopw [5, 6] (fun z i wr => ∃ k : Nat, k ≤ l.length ∧ i = .int .i64 k ∧ Hid (OwnG wr w1.heap.size z ((l.take k).filter (ofB n r ts))) ∧ Hid (Below w1.heap.size w1 wr)) (fun _ i _ => l.length - (intOf i).toNat)
      case atStart => exact ⟨0, Nat.zero_le _, rfl, OwnS.nil _ _, Below.refl _ _⟩
      case round =>
        obtain ⟨k, hk, rfl, hown, hB⟩ := hrel
        obtain ⟨mv, rfl⟩ : ∃ mv, mv = u5 := ⟨_, rfl⟩
        have hbz : w1.heap.size ≤ wr.heap.size := hB.out.size
        by_cases hlt : k < l.length
        · have hki : (k : Int) < (l.length : Int) := by omega
          obtain ⟨wo, rfl⟩ : ∃ wo, wo = wr := ⟨_, rfl⟩
          obtain ⟨b, o, rfl, x0, x1, x2⟩ := gr_at (hvk.out wo (hUp.out _ hB.out)) k hlt
          have hgi1 := (hgi.out _ (getD_mem l gr0 k hlt)).2
          have hfk : Hid ((l.take (k + 1)).filter (ofB n r ts) = (l.take k).filter (ofB n r ts) ++ (if ofB n r ts (l.getD k gr0) then [l.getD k gr0] else [])) := filter_take _ l k hlt
          have hgI : Hid (∀ q ∈ [l.getD k gr0], GrI q) := fun q hq => by
            have e : q = l.getD k gr0 := by simpa using hq
            rw [e]; exact hgi.out _ (getD_mem l gr0 k hlt)
          generalize l.getD k gr0 = g at *
          have how : Hid (owB n r ts g = ofB n r ts g) := owB_of n r ts g
          have howt : Hid (∀ j, j < ts.length → owB n r (ts.take (j + 1)) g = (owB n r (ts.take j) g || (g.kind == 2 && g.name.toList == (ts.getD j ⟨#[]⟩).toList))) := fun j h => owB_take n r g h
          have how0 : Hid (owB n r (ts.take 0) g = ((g.kind == 1 && g.name.toList == n.toList) || (g.kind == 3 && g.name.toList == r.toList))) := by
            show _ = _
            unfold owB; simp [inB]
          have hone : Hid (lvL n r ts [g] = if ofB n r ts g then max 0 g.level else 0) := (hLm.out [g]).trans (lvF_one n r ts g)
          obtain ⟨gk, gm, gl⟩ := g
          simp only at x0 x1 x2 hgi1 howt how0 hone
          have hbx : Below w1.heap.size w1 (wo.alloc (.cells #[.int .i64 gk, .string gm, .int .i64 gl] 52)) := hB.out.alloc hbz _
          have hown1 : OwnG (wo.alloc (.cells #[.int .i64 gk, .string gm, .int .i64 gl] 52)) w1.heap.size mv ((l.take k).filter (ofB n r ts)) := hown.out.alloc _
          have hmlt : ∀ q, mv.ownBlock = some q → q < wo.heap.size := fun q hq => (hown.out.lt q hq).2
          have u0 : ∀ o', (wo.alloc o').cell? ⟨w.heap.size, 0, none⟩ = some (.string n) := fun o' => hu0.out _ (hUp.out _ (hB.out.alloc hbz _))
          have u1 : ∀ o', (wo.alloc o').cell? ⟨w.heap.size, 1, none⟩ = some (.string r) := fun o' => hu1.out _ (hUp.out _ (hB.out.alloc hbz _))
          replace hbx : Hid (Below w1.heap.size w1 (wo.alloc (.cells #[.int .i64 gk, .string gm, .int .i64 gl] 52))) := hbx
          replace hown1 : Hid (OwnG (wo.alloc (.cells #[.int .i64 gk, .string gm, .int .i64 gl] 52)) w1.heap.size mv ((l.take k).filter (ofB n r ts))) := hown1
          replace hmlt : Hid (∀ q, mv.ownBlock = some q → q < wo.heap.size) := hmlt
          generalize hF : (l.take k).filter (ofB n r ts) = F at *
          have hFl : Hid (F.length ≤ 40) := by
            show _ ≤ _
            rw [← hF]
            exact Nat.le_trans (List.length_filter_le ..) (by rw [List.length_take]; omega)
          replace hF : Hid _ := hF
          clear hown
          have hcs : (∃ B, owB n r (ts.take 0) ⟨gk, gm, gl⟩ = B ∧ ((((gk == 1) = true ∧ (gm.toList == n.toList) = true ∧ B = true) ∨ ((gk == 1) = true ∧ (gm.toList == n.toList) = false ∧ (gk == 3) = false ∧ B = false)) ∨ (((gk == 1) = false ∧ (gk == 3) = true ∧ (gm.toList == r.toList) = true ∧ B = true) ∨ ((gk == 1) = false ∧ (gk == 3) = true ∧ (gm.toList == r.toList) = false ∧ B = false)) ∨ ((gk == 1) = false ∧ (gk == 3) = false ∧ B = false))) := by
            refine ⟨_, rfl, ?_⟩
            rw [how0.out]
            rcases Bool.eq_false_or_eq_true (gk == 1) with e1 | e1
            · have e3 : (gk == 3) = false := by have := beq_iff_eq.1 e1; simp; omega
              rcases Bool.eq_false_or_eq_true (gm.toList == n.toList) with e2 | e2 <;> simp [e1, e2, e3]
            · rcases Bool.eq_false_or_eq_true (gk == 3) with e3 | e3
              · rcases Bool.eq_false_or_eq_true (gm.toList == r.toList) with e4 | e4 <;> simp [e1, e3, e4]
              · simp [e1, e3]
          obtain ⟨B0, hB0, hcs⟩ := hcs
          replace hB0 : Hid _ := hB0
          clear how0
          rcases hcs with (⟨e1, e2, rfl⟩ | ⟨e1, e2, e3, rfl⟩) | (⟨e1, e3, e4, rfl⟩ | ⟨e1, e3, e4, rfl⟩) | ⟨e1, e3, rfl⟩
          all_goals
            go_wp2
            clear u0 u1 x0 x1 x2
            go_loopw [8, 9] (fun y i wr => ∃ j : Nat, j ≤ ts.length ∧ i = .int .i64 j ∧ y = .bool (owB n r (ts.take j) ⟨gk, gm, gl⟩) ∧ Hid (Below (wo.heap.size + 1) (wo.alloc (.cells #[.int .i64 gk, .string gm, .int .i64 gl] 52)) wr)) (fun _ i _ => ts.length - (intOf i).toNat)
            case atStart => exact ⟨0, Nat.zero_le _, rfl, by rw [hB0.out], Below.refl _ _⟩
            case round =>
              try clear e1
              try clear e2
              try clear e3
              try clear e4
              clear hB0
              obtain ⟨j, hj, rfl, rfl, hB3⟩ := hrel
              have hb3s : wo.heap.size + 1 ≤ wr.heap.size := by have := hB3.out.size; simp at this; omega
              have hB4 : Hid (Below w1.heap.size w1 wr) := hbx.out.trans (hB3.out.mono (by omega))
              have g0 : wr.cell? ⟨wo.heap.size, 0, none⟩ = some (.int .i64 gk) := (hB3.out.cell (p := ⟨wo.heap.size, 0, none⟩) (Nat.lt_succ_self _)).trans (by simp)
              have g1 : wr.cell? ⟨wo.heap.size, 1, none⟩ = some (.string gm) := (hB3.out.cell (p := ⟨wo.heap.size, 1, none⟩) (Nat.lt_succ_self _)).trans (by simp)
              have g2 : wr.cell? ⟨wo.heap.size, 2, none⟩ = some (.int .i64 gl) := (hB3.out.cell (p := ⟨wo.heap.size, 2, none⟩) (Nat.lt_succ_self _)).trans (by simp)
              have v0 : wr.cell? ⟨w.heap.size, 0, none⟩ = some (.string n) := hu0.out _ (hUp.out _ hB4.out)
              have v1 : wr.cell? ⟨w.heap.size, 1, none⟩ = some (.string r) := hu1.out _ (hUp.out _ hB4.out)
              have v2 : wr.cell? ⟨w.heap.size, 2, none⟩ = some (.slice a ts.length c) := hu2.out _ (hUp.out _ hB4.out)
              by_cases hjl : j < ts.length
              · have hji : (j : Int) < (ts.length : Int) := by omega
                obtain ⟨b5, o5, rfl, t0⟩ := tx_at (htk.out wr (hUp.out _ hB4.out)) j hjl
                have hst := howt.out j hjl
                generalize ts.getD j ⟨#[]⟩ = t at *
                generalize owB n r (ts.take j) ⟨gk, gm, gl⟩ = Y at *
                have d0 : ∀ p : Bel wr, p.W.cell? ⟨wo.heap.size, 0, none⟩ = some (.int .i64 gk) := fun p => p.cell g0
                have d1 : ∀ p : Bel wr, p.W.cell? ⟨wo.heap.size, 1, none⟩ = some (.string gm) := fun p => p.cell g1
                have d2 : ∀ p : Bel wr, p.W.cell? ⟨w.heap.size, 2, none⟩ = some (.slice (some ⟨b5, o5, none⟩) ts.length c) := fun p => p.cell v2
                have d3 : ∀ p : Bel wr, p.W.cell? ⟨b5, o5 + j, none⟩ = some (.string t) := fun p => p.cell t0
                have hcs : (Y = true ∧ owB n r (ts.take (j + 1)) ⟨gk, gm, gl⟩ = true) ∨ (Y = false ∧ (gk == 2) = false ∧ owB n r (ts.take (j + 1)) ⟨gk, gm, gl⟩ = false) ∨ (Y = false ∧ (gk == 2) = true ∧ (gm.toList == t.toList) = true ∧ owB n r (ts.take (j + 1)) ⟨gk, gm, gl⟩ = true) ∨ (Y = false ∧ (gk == 2) = true ∧ (gm.toList == t.toList) = false ∧ owB n r (ts.take (j + 1)) ⟨gk, gm, gl⟩ = false) := by
                  rw [hst]
                  cases Y <;> rcases Bool.eq_false_or_eq_true (gk == 2) with e5 | e5 <;> rcases Bool.eq_false_or_eq_true (gm.toList == t.toList) with e6 | e6 <;> simp [e5, e6]
                clear hst g0 g1 g2 v0 v1 t0
                rcases hcs with ⟨rfl, hst⟩ | ⟨rfl, e5, hst⟩ | ⟨rfl, e5, e6, hst⟩ | ⟨rfl, e5, e6, hst⟩
                all_goals
                  replace hst : Hid _ := hst
                  go_wp2
                  refine wp_region_bel (by kernel_rfl) (by kernel_rfl) ?_
                  repeat (go_big_quiet_step (fail))
                  refine wpQuiet_nil ?_
                  rintro _ ⟨⟨wq, hq⟩, rfl⟩
                  go_wp2
                  refine ⟨⟨j + 1, by omega, by go_num, by rw [hst.out], hB3.out.trans (hq.mono hb3s)⟩, ?_⟩
                  simp [intOf]; omega
              · obtain rfl : ts.length = j := by omega
                have hji : ¬ (ts.length : Int) < (ts.length : Int) := by omega
                rw [List.take_of_length_le (Nat.le_refl _), how.out]
                have hlev : Hid (∀ x W, Below wr.heap.size wr W → Grs W x [⟨gk, gm, gl⟩] → Calls Try.prog 14 #[.agg #[.string n, .string r, .slice a ts.length c], x] W fun e w' => e = .returned (.int .i64 (if ofB n r ts ⟨gk, gm, gl⟩ then max 0 gl else 0)) ∧ Below W.heap.size W w') := fun x W h1 h2 => by
                  have := level_any n r (.slice a ts.length c) ts x [⟨gk, gm, gl⟩] W (htk.out _ (hUp.out _ (hB4.out.trans (h1.mono (by omega))))) (by omega) h2 (by simp) hgI.out
                  rw [hone.out] at this
                  exact this
                cases hof : ofB n r ts ⟨gk, gm, gl⟩ with
                | false =>
                  rw [hof, if_neg (by decide)] at hlev
                  rw [hof, if_neg (by decide), List.append_nil] at hfk
                  clear hof
                  have hl1 := hlev.out (.slice (some ⟨wr.heap.size, 0, none⟩) 1 1) (wr.alloc (.cells #[.int .i64 gk, .string gm, .int .i64 gl] 52)) ((Below.refl _ _).alloc (Nat.le_refl _) _) (sls_one wr _ _ _ rfl)
                  have hown2 : Hid (OwnG wr w1.heap.size mv F) := OwnS.stay hown1.out (by simpa using hB3.out)
                  have v0' : ∀ o', (wr.alloc o').cell? ⟨w.heap.size, 0, none⟩ = some (.string n) := fun o' => Lib.cell?_alloc_some _ v0
                  have v1' : ∀ o', (wr.alloc o').cell? ⟨w.heap.size, 1, none⟩ = some (.string r) := fun o' => Lib.cell?_alloc_some _ v1
                  have v2' : ∀ o', (wr.alloc o').cell? ⟨w.heap.size, 2, none⟩ = some (.slice a ts.length c) := fun o' => Lib.cell?_alloc_some _ v2
                  go_wp2_with (first | (go_at_call 14; refine hl1.mono ?_; rintro e w5 ⟨rfl, hq5⟩))
                  refine ⟨⟨k + 1, by omega, by go_num, ?_, hB4.out.trans (((Below.refl _ _).alloc (Nat.le_refl _) _).trans (hq5.mono (by simp)) |>.mono hB4.out.size)⟩, ?_⟩
                  · show OwnG _ _ _ _
                    rw [hfk.out]
                    exact OwnS.stay (hown2.out.alloc _) hq5
                  · simp [intOf]; omega
                | true =>
                  rw [hof, if_pos rfl] at hlev
                  rw [hof, if_pos rfl] at hfk
                  have hof2 : Hid (ofB n r ts ⟨gk, gm, gl⟩ = true) := hof
                  clear hof
                  have hown2 : Hid (OwnG (wr.alloc (.cells #[.int .i64 gk, .string gm, .int .i64 gl] 52)) w1.heap.size mv F) := OwnS.alloc (OwnS.stay hown1.out (by simpa using hB3.out)) _
                  have hone2 : Hid (Grs (wr.alloc (.cells #[.int .i64 gk, .string gm, .int .i64 gl] 52)) (.slice (some ⟨wr.heap.size, 0, none⟩) 1 1) [⟨gk, gm, gl⟩]) := sls_one wr _ _ _ rfl
                  have hab : Hid (w1.heap.size ≤ (wr.alloc (.cells #[.int .i64 gk, .string gm, .int .i64 gl] 52)).heap.size) := by show _ ≤ _; simp; omega
                  go_wp2_with (first
                    | (at_builtin; refine appR TG rfl (.tmp 76) (.tmp 78) rfl w1.heap.size mv (.slice (some ⟨wr.heap.size, 0, none⟩) 1 1) F [⟨gk, gm, gl⟩] rfl rfl hown2.out hone2.out hab.out (by have := hFl.out; simp; omega) ?_; intro v6 w6 ho6 hg6; replace ho6 : Hid (OwnG w6 w1.heap.size v6 (F ++ [⟨gk, gm, gl⟩])) := ho6; replace hg6 : Hid (World.grownBy (wr.alloc (.cells #[.int .i64 gk, .string gm, .int .i64 gl] 52)) w6 mv.ownBlock) := hg6))
                  have hne : mv.ownBlock ≠ some wo.heap.size := fun e => by have := hmlt.out _ e; omega
                  have hB6 : Hid (Below w1.heap.size w1 w6) := (hB4.out.alloc hB4.out.size _).trans (OwnS.grows hown2.out hab.out hg6.out)
                  have q0 : w6.cell? ⟨wo.heap.size, 0, none⟩ = some (.int .i64 gk) := cell_kept hg6.out hne (Lib.cell?_alloc_some _ g0)
                  have q1 : w6.cell? ⟨wo.heap.size, 1, none⟩ = some (.string gm) := cell_kept hg6.out hne (Lib.cell?_alloc_some _ g1)
                  have q2 : w6.cell? ⟨wo.heap.size, 2, none⟩ = some (.int .i64 gl) := cell_kept hg6.out hne (Lib.cell?_alloc_some _ g2)
                  have d0 : ∀ p : Bel w6, p.W.cell? ⟨wo.heap.size, 0, none⟩ = some (.int .i64 gk) := fun p => p.cell q0
                  have d1 : ∀ p : Bel w6, p.W.cell? ⟨wo.heap.size, 1, none⟩ = some (.string gm) := fun p => p.cell q1
                  have d2 : ∀ p : Bel w6, p.W.cell? ⟨wo.heap.size, 2, none⟩ = some (.int .i64 gl) := fun p => p.cell q2
                  have d3 : ∀ p : Bel w6, p.W.cell? ⟨w.heap.size, 0, none⟩ = some (.string n) := fun p => hu0.out _ (hUp.out _ (hB6.out.trans (p.h.mono hB6.out.size)))
                  have d4 : ∀ p : Bel w6, p.W.cell? ⟨w.heap.size, 1, none⟩ = some (.string r) := fun p => hu1.out _ (hUp.out _ (hB6.out.trans (p.h.mono hB6.out.size)))
                  have d5 : ∀ p : Bel w6, p.W.cell? ⟨w.heap.size, 2, none⟩ = some (.slice a ts.length c) := fun p => hu2.out _ (hUp.out _ (hB6.out.trans (p.h.mono hB6.out.size)))
                  have hlev2 : Hid (∀ x W, Below w6.heap.size w6 W → Grs W x [⟨gk, gm, gl⟩] → Calls Try.prog 14 #[.agg #[.string n, .string r, .slice a ts.length c], x] W fun e w' => e = .returned (.int .i64 (max 0 gl)) ∧ Below W.heap.size W w') := fun x W h1 h2 => by
                    have := level_any n r (.slice a ts.length c) ts x [⟨gk, gm, gl⟩] W (htk.out _ (hUp.out _ (hB6.out.trans (h1.mono hB6.out.size)))) (by omega) h2 (by simp) hgI.out
                    rw [hone.out, hof2.out, if_pos rfl] at this
                    exact this
                  have hend6 : Hid (∀ W, Below w6.heap.size w6 W → OwnG W w1.heap.size v6 (F ++ [⟨gk, gm, gl⟩]) ∧ Below w1.heap.size w1 W) := fun W h => ⟨OwnS.stay ho6.out h, hB6.out.trans (h.mono hB6.out.size)⟩
                  clear q0 q1 q2 g0 g1 g2 v0 v1 v2 hlev hown2 hone2 hab
                  obtain ⟨M, hM⟩ : ∃ M, M = max 0 gl := ⟨_, rfl⟩
                  rw [← hM] at hlev2
                  have hMM : (M == M) = true := by simp
                  have hMx : Hid ((0 < gl ∧ M = gl) ∨ (¬ 0 < gl ∧ M = 0)) := by show _ ∨ _; omega
                  replace hM : Hid _ := hM
                  refine wp_region_grow (w := w6) (fun i => match i with | 2 => some (fun u W => Grs W u [⟨gk, gm, gl⟩]) | 3 => some (fun u _ => u = .int .i64 M) | 6 => some (fun u _ => u = .int .i64 M) | _ => none) ?_ (by kernel_rfl) (by kernel_rfl) ?_
                  · intro i s hs v W W' h g
                    dsimp only at hs; split at hs <;> cases hs <;> first | exact Sls.grow h g | exact h
                  refine wpG_pure rfl rfl rfl rfl (fun K hK => ?_); go_big_quiet_op; refine hK _ ?_; clear hK K
                  refine wpG_pure rfl rfl rfl rfl (fun K hK => ?_); go_big_quiet_op; refine hK _ ?_; clear hK K
                  refine wpG_tell rfl rfl rfl (fun W hW => ?_) (fun x2 hx2 K hK => ?_)
                  · exact tell_run (.slice (some ⟨W.heap.size, 0, none⟩) 1 1) (W.alloc (.cells #[.int .i64 gk, .string gm, .int .i64 gl] 52)) (by go_simp) ((Below.refl _ _).alloc (Nat.le_refl _) _) (sls_one W _ _ _ rfl)
                  go_big_quiet_op; refine hK _ ?_; clear hK K
                  refine wpG_call (.int .i64 M) rfl rfl rfl (fun W hW => ?_) (fun K hK => ?_)
                  · refine tell_fn #[.agg #[.string n, .string r, .slice a ts.length c], x2] rfl (by simp [Act.eval]) Try.func14 (by kernel_rfl) (by kernel_rfl) ?_
                    refine (hlev2.out x2 W hW.1.gw ((hW.2 2 _ rfl (by kernel_rfl)).2 rfl)).mono ?_
                    rintro e w' ⟨h1, h2⟩
                    exact ⟨_, h1, h2, rfl⟩
                  go_big_quiet_op; refine hK _ ?_; clear hK K
                  refine wpG_pure rfl rfl rfl rfl (fun K hK => ?_); go_big_quiet_op; refine hK _ ?_; clear hK K
                  refine wpG_pure rfl rfl rfl rfl (fun K hK => ?_); go_big_quiet_op; refine hK _ ?_; clear hK K
                  refine wpG_call (.int .i64 M) rfl rfl rfl (fun W hW => ?_) (fun K hK => ?_)
                  · refine tell_run (.int .i64 M) W ?_ (Gw.refl W) rfl
                    rcases hMx.out with ⟨hg0, hM0⟩ | ⟨hg0, hM0⟩
                    all_goals
                      rw [hM0]
                      go_simp
                      try simp
                      try omega
                  go_big_quiet_op; refine hK _ ?_; clear hK K
                  refine wpG_pure rfl rfl rfl rfl (fun K hK => ?_); go_big_quiet_op; refine hK _ ?_; clear hK K
                  refine wpG_nil ?_
                  intro W hW _
                  have hG8 : Below w6.heap.size w6 W := hW.gw
                  go_wp2
                  refine ⟨⟨k + 1, by omega, by go_num, ?_, (hend6.out _ hG8).2⟩, ?_⟩
                  · show OwnG _ _ _ _
                    rw [hfk.out]
                    exact (hend6.out _ hG8).1
                  · simp [intOf]; omega
        · obtain rfl : l.length = k := by omega
          have hki : ¬ (l.length : Int) < (l.length : Int) := by omega
          rw [List.take_of_length_le (Nat.le_refl _)] at hown
          have hBu : Hid (Below (w.heap.size + 1) (w.alloc (.cells #[.string n, .string r, .slice a ts.length c] 24)) wr) := hUp.out _ hB.out
          have hBu2 : Hid (∀ p : Bel wr, Below (w.heap.size + 1) (w.alloc (.cells #[.string n, .string r, .slice a ts.length c] 24)) p.W) := fun p => hBu.out.trans (p.h.mono (by omega))
          obtain ⟨a7, c7, rfl⟩ := hown.out.shape
          have k14 : ∀ p : Bel wr, Calls Try.prog 14 #[.agg #[.string n, .string r, .slice a ts.length c], .slice a2 l.length c2] p.W fun e w' => e = .returned (.int .i64 (lvF n r ts l)) ∧ Below p.W.heap.size p.W w' := fun p => by
            have := level_any n r (.slice a ts.length c) ts _ l p.W (htk.out _ (hBu2.out p)) (by omega) (hvk.out _ (hBu2.out p)) (by omega) hgi.out
            rw [hLm.out] at this
            exact this
          have k14b : ∀ p : Bel wr, Calls Try.prog 14 #[.agg #[.string n, .string r, .slice a ts.length c], .slice a7 (l.filter (ofB n r ts)).length c7] p.W fun e w' => e = .returned (.int .i64 (lvF n r ts l)) ∧ Below p.W.heap.size p.W w' := fun p => by
            have := level_any n r (.slice a ts.length c) ts _ (l.filter (ofB n r ts)) p.W (htk.out _ (hBu2.out p)) (by omega) (hown.out.sls.grow p.h) (Nat.le_trans (List.length_filter_le ..) (by omega)) (fun g hg => hgi.out g ((List.mem_filter.1 hg).1))
            rw [hLm.out, lvF_mine] at this
            exact this
          have k8 : ∀ p : Bel wr, Calls Try.prog 8 #[] p.W fun e w' => e = .returned (.bool true) ∧ Below p.W.heap.size p.W w' := fun p => live_ok p.W
          have c0 : ∀ p : Bel wr, p.W.cell? ⟨w.heap.size, 0, none⟩ = some (.string n) := fun p => hu0.out _ (hBu2.out p)
          have c1 : ∀ p : Bel wr, p.W.cell? ⟨w.heap.size, 1, none⟩ = some (.string r) := fun p => hu1.out _ (hBu2.out p)
          have c2' : ∀ p : Bel wr, p.W.cell? ⟨w.heap.size, 2, none⟩ = some (.slice a ts.length c) := fun p => hu2.out _ (hBu2.out p)
          have hend : Hid (∀ W, Below wr.heap.size wr W → Below w.heap.size w W) := fun W h => hb1.out.trans ((hBu.out.trans (h.mono (by omega))).mono (by omega))
          generalize (l.filter (ofB n r ts)).length = NF at *
          generalize lvF n r ts l = LF at *
          have e3 : (LF == LF) = true := by simp
          clear hown
          go_wp2
          refine wp_region_bel (by kernel_rfl) (by kernel_rfl) ?_
          repeat (go_big_quiet_step (first | (go_at_call 14; with_reducible exact Calls.bel (k14 _)) | (go_at_call 14; with_reducible exact Calls.bel (k14b _)) | (go_at_call 8; exact Calls.bel (k8 _))))
          refine wpQuiet_nil ?_
          rintro _ ⟨⟨wq, hq⟩, rfl⟩
          go_wp2
          go_ret
          exact ⟨rfl, hend.out _ hq⟩
/-! ### THE ROW's STEP -/
set_option maxRecDepth 100000 in
theorem lifted (os : Os) (started : os.Started) (H : Type) (enc : TypeId × Value → H) :
    ReturnsInHanded {} Try.checked os 6 .any (Rows.aclOwnSpec.pre6 enc Try.prog Try.f6 Rows.aclOwnRow.domain false) (Rows.aclOwnSpec.post enc Try.prog Try.f6 false true false false) := by
  refine returnsInHanded_of_change_sized (C := Try.checked) own started (by kernel_rfl) Try.func6
    (ChangeSpec.witness6 (enc := enc) (C := Try.checked) false ⟨#[], #[.agg #[.string ⟨#[]⟩, .string ⟨#[]⟩, .slice none 0 0], .slice none 0 0], []⟩ 8 (by kernel_rfl) (by kernel_rfl) (by kernel_rfl) (by kernel_rfl)) ?_
  intro W base args ds gs before hval0 hW hcnd hsz0 _
  have hsz : (DataW.weightsEach Try.prog (Try.f6.params.toList ++ Rows.aclOwnSpec.plain.varTypes Try.prog) (ds ++ gs)).all (· ≤ reachBytes) = true := hsz0
  have hval : ∀ (j : Nat) t v, Try.f6.params[j]? = some t → args[j]? = some v → Value.okWide Try.prog W .any base t v := hval0
  have hW' := hW
  obtain ⟨p, q, hA0, hV, rfl, hfz, hnd⟩ := hW
  have hA : DataW.TrodAll enc Try.prog W 0 (fun _ => true) true Try.f6.params.toList args.toList ds p := hA0
  rw [Try.params6] at hA hval hsz
  obtain ⟨v0, vs0, d0, ds0, p0, q0, hargs, rfl, rfl, h0, r0⟩ := trodAll_cons hA
  obtain ⟨v1, vs1, d1, ds1, p1, q1, rfl, rfl, rfl, h1, r1⟩ := trodAll_cons r0
  obtain ⟨rfl, rfl, rfl⟩ := trodAll_nil r1
  obtain rfl : args = #[v0, v1] := by cases args; simp_all
  obtain ⟨rfl, rfl⟩ := trodVars_none hV
  have k0 := h0
  have lt0 : ∀ x ∈ p0, x.block < W.heap.size := by obtain ⟨m, hm⟩ := k0; exact DataW.trod_lt m _ _ _ hm
  obtain ⟨m0, r0s, tv0, ts0, rfl, hR0⟩ : ∃ m r tv ts, v0 = .agg #[.string m, .string r, tv] ∧ UsIn W m r tv ts := by
    obtain ⟨fuel, hf⟩ := h0
    refine us_arg (hval 0 24 v0 rfl rfl) hf (fun q hq => ?_)
    have := List.all_eq_true.1 hsz _ (DataW.weights_mem_each (j := 0) (t := 24) rfl rfl q hq)
    simpa using this
  have k1 := h1
  have lt1 : ∀ x ∈ p1, x.block < W.heap.size := by obtain ⟨m, hm⟩ := k1; exact DataW.trod_lt m _ _ _ hm
  obtain ⟨a1, n1, c1, rfl⟩ := okWide_slice Try.underlying25 (hval 1 25 v1 rfl rfl)
  obtain ⟨l1, hP1, hR1, hL1⟩ : ∃ l, Grs W (.slice a1 n1 c1) l ∧ (∀ p ∈ l, GrIn p) ∧ l.length ≤ 4398046510976 := by
    obtain ⟨fuel, hf⟩ := h1
    refine grs_of_trod hf (fun q hq => ?_)
    have := List.all_eq_true.1 hsz _ (DataW.weights_mem_each (j := 1) (t := 25) rfl rfl q hq)
    simpa using this
  clear hA0 hval0
  refine (walk m0 r0s tv0 ts0 (.slice a1 n1 c1) l1 W hR0 hP1 hR1 hL1).mono fun e W' ⟨he, bel⟩ => ?_
  subst he
  exact ⟨_, rfl, _, _, _, [], _, [], hW', trodAll_mk1 (shut_bool Try.underlying4 _), (trodAll_cons_mk (Below.trod laidOut (by kernel_rfl) (of_decide_eq_true (by kernel_rfl)) k0 bel lt0) (trodAll_cons_mk (Below.trod laidOut (by kernel_rfl) (of_decide_eq_true (by kernel_rfl)) k1 bel lt1) trodAll_mk0)), rfl, bel.frame _, fun h => by cases h⟩
theorem over : Rows.aclOwnRow.holds Try.pinned (OpenSpec.ofChange Rows.aclOwnSpec) :=
  OpenClaim.holds_of_wide 6 Try.f6 rfl rfl rfl rfl rfl rfl rfl ⟨rfl, rfl, rfl, rfl, rfl⟩ rfl rfl rfl rfl rfl (by kernel_rfl) Try.func6 (by kernel_rfl)
    (of_decide_eq_true (by kernel_rfl)) (by unfold Func.isWrapper; first | (rw [if_pos (by decide +kernel)]; kernel_rfl) | (rw [if_neg (by decide +kernel)]; exact ⟨rfl, rfl⟩))
    (fun os started H enc _ => lifted os started H enc)
end Go.Proofs.Ytfbeilninpapaaa.aclOwn
namespace Go.Proofs.Ytfbeilninpapaaa
/-- The statement. -/
theorem aclOwn_holds : Rows.AclOwnSaid := aclOwn.over
#print axioms aclOwn_holds
end Go.Proofs.Ytfbeilninpapaaa
