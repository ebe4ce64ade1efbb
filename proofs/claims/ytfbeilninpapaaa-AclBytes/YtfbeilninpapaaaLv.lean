/- isOf, Level, May; the document's Level; num. -/
import Derived.Test.YtfbeilninpapaaaNa
namespace Go.Proofs.Ytfbeilninpapaaa
set_option linter.unusedVariables false
open Go.RowKit
/-- The numbers of a grant. -/
def GrI (g : Gr) : Prop := (-9223372036854775808 ≤ g.kind ∧ g.kind ≤ 9223372036854775807) ∧ (-9223372036854775808 ≤ g.level ∧ g.level ≤ 9223372036854775807)
/-- A grant is of a user. -/
def ofB (n r : ByteArray) (ts : List ByteArray) (g : Gr) : Bool := if g.kind == 1 then g.name.toList == n.toList else if g.kind == 2 then inB ts g.name else if g.kind == 3 then g.name.toList == r.toList else false
set_option maxRecDepth 100000 in
set_option maxHeartbeats 2000000 in
theorem isOf_any (n r : ByteArray) (tv : Value) (ts : List ByteArray) (g : Gr) (w : World) (ht : Txs w tv ts) (hl : ts.length ≤ 1000000000000000) :
    Calls Try.prog 29 #[.agg #[.string n, .string r, tv], .agg #[.int .i64 g.kind, .string g.name, .int .i64 g.level]] w fun e w' => e = .returned (.bool (ofB n r ts g)) ∧ Below w.heap.size w w' := by
  obtain ⟨k, m, lv⟩ := g
  simp only
  have hC := contains_any tv ts m ((w.alloc (.cells #[.string n, .string r, tv] 24)).alloc (.cells #[.int .i64 k, .string m, .int .i64 lv] 52)) ((ht.alloc _).alloc _) hl
  obtain ⟨a, c, rfl⟩ := ht.shape
  have hBB : Below w.heap.size w ((w.alloc (.cells #[.string n, .string r, .slice a ts.length c] 24)).alloc (.cells #[.int .i64 k, .string m, .int .i64 lv] 52)) := ((Below.refl _ _).alloc (Nat.le_refl _) _).alloc (by simp) _
  have hR : Hid (ofB n r ts ⟨k, m, lv⟩ = if k == 1 then m.toList == n.toList else if k == 2 then inB ts m else if k == 3 then m.toList == r.toList else false) := rfl
  clear ht
  replace hBB : Hid _ := hBB
  generalize inB ts m = B at *
  rcases Bool.eq_false_or_eq_true (k == 1) with h1 | h1
  · rw [h1, if_pos rfl] at hR
    rcases Bool.eq_false_or_eq_true (m.toList == n.toList) with h2 | h2 <;> rw [h2] at hR
    all_goals
      clear hC
      go_enter Try.func29, Try.ntmps29
      go_wp2
      go_ret
      exact ⟨by rw [hR.out]; rfl, hBB.out⟩
  · rw [h1, if_neg (by decide)] at hR
    rcases Bool.eq_false_or_eq_true (k == 2) with h2 | h2
    · rw [h2, if_pos rfl] at hR
      go_enter Try.func29, Try.ntmps29
      go_wp2_with (first | (go_at_call 45; refine hC.mono ?_; rintro e wx ⟨rfl, hwx⟩; subst wx))
      go_ret
      exact ⟨by rw [hR.out]; rfl, hBB.out⟩
    · rw [h2, if_neg (by decide)] at hR
      clear hC
      rcases Bool.eq_false_or_eq_true (k == 3) with h3 | h3
      · rw [h3, if_pos rfl] at hR
        rcases Bool.eq_false_or_eq_true (m.toList == r.toList) with h4 | h4 <;> rw [h4] at hR
        all_goals
          go_enter Try.func29, Try.ntmps29
          go_wp2
          go_ret
          exact ⟨by rw [hR.out]; rfl, hBB.out⟩
      · rw [h3, if_neg (by decide)] at hR
        go_enter Try.func29, Try.ntmps29
        go_wp2
        go_ret
        exact ⟨by rw [hR.out]; rfl, hBB.out⟩
/-- An admin. -/
def adB (r : ByteArray) : Bool := r.toList == [97, 100, 109, 105, 110]
/-- One grant more. -/
def lvS (n r : ByteArray) (ts : List ByteArray) (a : Int) (g : Gr) : Int := if ofB n r ts g then max a g.level else a
/-- The greatest level of those that are one's own, or a. -/
def lvF (n r : ByteArray) (ts : List ByteArray) (l : List Gr) : Int := l.foldl (lvS n r ts) 0
/-- Level. -/
def lvL (n r : ByteArray) (ts : List ByteArray) (l : List Gr) : Int := if adB r then 3 else lvF n r ts l
theorem lvF_take (n r : ByteArray) (ts : List ByteArray) (l : List Gr) (k : Nat) (h : k < l.length) : lvF n r ts (l.take (k + 1)) = lvS n r ts (lvF n r ts (l.take k)) (l.getD k gr0) := by
  unfold lvF; rw [take_getD l gr0 k h, List.foldl_append]; rfl
theorem lvF_in (n r : ByteArray) (ts : List ByteArray) (l : List Gr) (h : ∀ g ∈ l, GrI g) : 0 ≤ lvF n r ts l ∧ lvF n r ts l ≤ 9223372036854775807 := by
  unfold lvF
  suffices ∀ a : Int, 0 ≤ a ∧ a ≤ 9223372036854775807 → 0 ≤ l.foldl (lvS n r ts) a ∧ l.foldl (lvS n r ts) a ≤ 9223372036854775807 from this 0 (by decide)
  induction l with
  | nil => intro a ha; exact ha
  | cons g l ih =>
    intro a ha
    refine ih (fun x hx => h x (List.mem_cons_of_mem _ hx)) _ ?_
    have hg := (h g (List.mem_cons_self ..)).2
    unfold lvS
    split <;> omega
theorem lvL_in (n r : ByteArray) (ts : List ByteArray) (l : List Gr) (h : ∀ g ∈ l, GrI g) : 0 ≤ lvL n r ts l ∧ lvL n r ts l ≤ 9223372036854775807 := by
  unfold lvL
  split
  · decide
  · exact lvF_in n r ts l h
set_option maxRecDepth 100000 in
set_option maxHeartbeats 4000000 in
/-- acl.Level. -/
theorem level_any (n r : ByteArray) (tv : Value) (ts : List ByteArray) (v : Value) (l : List Gr) (w : World) (ht : Txs w tv ts) (hts : ts.length ≤ 1000000000000000) (hv : Grs w v l) (hl : l.length ≤ 1000000000000000) (hi : ∀ g ∈ l, GrI g) :
    Calls Try.prog 14 #[.agg #[.string n, .string r, tv], v] w fun e w' => e = .returned (.int .i64 (lvL n r ts l)) ∧ Below w.heap.size w w' := by
  obtain ⟨a, c, rfl⟩ := ht.shape
  obtain ⟨a2, c2, rfl⟩ := hv.shape
  have hR : Hid (lvL n r ts l = if r.toList == [97, 100, 109, 105, 110] then 3 else lvF n r ts l) := rfl
  have hb1 : Below w.heap.size w (w.alloc (.cells #[.string n, .string r, .slice a ts.length c] 24)) := (Below.refl _ _).alloc (Nat.le_refl _) _
  rcases Bool.eq_false_or_eq_true (r.toList == [97, 100, 109, 105, 110]) with hr | hr
  · rw [hr, if_pos rfl] at hR
    replace hb1 : Hid _ := hb1
    clear ht hv hi
    go_enter Try.func14, Try.ntmps14
    go_wp2
    go_ret
    exact ⟨by rw [hR.out]; rfl, hb1.out⟩
  · rw [hr, if_neg (by decide)] at hR
    have htk : Hid (∀ W, Below w.heap.size w W → Txs W (.slice a ts.length c) ts) := fun W h => ht.grow h
    have hvk : Hid (∀ W, Below w.heap.size w W → Grs W (.slice a2 l.length c2) l) := fun W h => hv.grow h
    replace hi : Hid (∀ g ∈ l, GrI g) := hi
    replace hb1 : Hid (Below w.heap.size w (w.alloc (.cells #[.string n, .string r, .slice a ts.length c] 24))) := hb1
    clear ht hv
    go_enter Try.func14, Try.ntmps14
    go_wp2
    go_loopw [5, 13] (fun z i wr => ∃ k : Nat, k ≤ l.length ∧ i = .int .i64 k ∧ z = .int .i64 (lvF n r ts (l.take k)) ∧ Hid (Below (w.heap.size + 1) (w.alloc (.cells #[.string n, .string r, .slice a ts.length c] 24)) wr)) (fun _ i _ => l.length - (intOf i).toNat)
    case atStart => exact ⟨0, Nat.zero_le _, rfl, rfl, Below.refl _ _⟩
    case round =>
      obtain ⟨k, hk, rfl, rfl, hB⟩ := hrel
      have hB2 : Hid (Below w.heap.size w wr) := hb1.out.trans (hB.out.mono (by omega))
      have hbz := hB2.out.size
      have hbz1 : w.heap.size < wr.heap.size := by have := hB.out.size; simp at this; omega
      by_cases hlt : k < l.length
      · have hki : (k : Int) < (l.length : Int) := by omega
        obtain ⟨b, o, rfl, x0, x1, x2⟩ := gr_at (hvk.out wr hB2.out) k hlt
        have hin := lvF_in n r ts (l.take k) (fun g hg => hi.out g (List.mem_of_mem_take hg))
        have hgi := (hi.out _ (getD_mem l gr0 k hlt)).2
        have hnx : Hid (lvF n r ts (l.take (k + 1)) = lvS n r ts (lvF n r ts (l.take k)) (l.getD k gr0)) := lvF_take n r ts l k hlt
        have hO := fun g => isOf_any n r (.slice a ts.length c) ts g (wr.alloc (.cells #[.int .i64 g.kind, .string g.name, .int .i64 g.level] 52)) ((htk.out wr hB2.out).alloc _) hts
        replace hO := hO (l.getD k gr0)
        have u0 : ∀ o', (wr.alloc o').cell? ⟨w.heap.size, 0, none⟩ = some (.string n) := fun o' => by
          refine Lib.cell?_alloc_some _ ?_
          exact (hB.out.cell (p := ⟨w.heap.size, 0, none⟩) (Nat.lt_succ_self _)).trans (by simp)
        have u1 : ∀ o', (wr.alloc o').cell? ⟨w.heap.size, 1, none⟩ = some (.string r) := fun o' => by
          refine Lib.cell?_alloc_some _ ?_
          exact (hB.out.cell (p := ⟨w.heap.size, 1, none⟩) (Nat.lt_succ_self _)).trans (by simp)
        have u2 : ∀ o', (wr.alloc o').cell? ⟨w.heap.size, 2, none⟩ = some (.slice a ts.length c) := fun o' => by
          refine Lib.cell?_alloc_some _ ?_
          exact (hB.out.cell (p := ⟨w.heap.size, 2, none⟩) (Nat.lt_succ_self _)).trans (by simp)
        generalize lvF n r ts (l.take k) = A at *
        generalize l.getD k gr0 = g at *
        obtain ⟨gk, gm, gl⟩ := g
        simp only at x0 x1 x2 hgi hO
        have hBa : Hid (Below (w.heap.size + 1) (w.alloc (.cells #[.string n, .string r, .slice a ts.length c] 24)) (wr.alloc (.cells #[.int .i64 gk, .string gm, .int .i64 gl] 52))) := hB.out.alloc (by omega) _
        have hsz : w.heap.size + 1 ≤ (wr.alloc (.cells #[.int .i64 gk, .string gm, .int .i64 gl] 52)).heap.size := by simp; omega
        replace hsz : Hid _ := hsz
        cases ho : ofB n r ts ⟨gk, gm, gl⟩ with
        | true =>
          rw [ho] at hO
          have hnx2 : Hid (lvF n r ts (l.take (k + 1)) = max A gl) := by
            show _ = _
            rw [hnx.out]; unfold lvS; rw [ho, if_pos rfl]
          clear ho hnx
          go_wp2_with (first | (go_at_call 29; refine hO.mono ?_; rintro e wx ⟨rfl, hwx⟩; have y2 : wx.cell? ⟨wr.heap.size, 2, none⟩ = some (.int .i64 gl) := (hwx.cell (p := ⟨wr.heap.size, 2, none⟩) (by simp)).trans (by simp)))
          all_goals
            refine ⟨⟨k + 1, by omega, by go_num, ?_, hBa.out.trans (hwx.mono hsz.out)⟩, ?_⟩
            · rw [hnx2.out]; try (congr 1; omega)
            · simp [intOf]; omega
        | false =>
          rw [ho] at hO
          have hnx2 : Hid (lvF n r ts (l.take (k + 1)) = A) := by
            show _ = _
            rw [hnx.out]; unfold lvS; rw [ho, if_neg (by decide)]
          clear ho hnx
          go_wp2_with (first | (go_at_call 29; refine hO.mono ?_; rintro e wx ⟨rfl, hwx⟩))
          refine ⟨⟨k + 1, by omega, by go_num, by rw [hnx2.out], hBa.out.trans (hwx.mono hsz.out)⟩, ?_⟩
          simp [intOf]; omega
      · obtain rfl : k = l.length := by omega
        have hki : ¬ (l.length : Int) < (l.length : Int) := by omega
        rw [List.take_of_length_le (Nat.le_refl _)]
        generalize lvF n r ts l = A at *
        go_wp2
        go_ret
        exact ⟨by rw [hR.out]; rfl, hB2.out⟩
set_option maxRecDepth 100000 in
set_option maxHeartbeats 1000000 in
/-- May. -/
theorem may_any (n r : ByteArray) (tv : Value) (ts : List ByteArray) (x : Int) (v : Value) (l : List Gr) (w : World) (ht : Txs w tv ts) (hts : ts.length ≤ 1000000000000000) (hv : Grs w v l) (hl : l.length ≤ 1000000000000000) (hi : ∀ g ∈ l, GrI g) :
    Calls Try.prog 16 #[.agg #[.string n, .string r, tv], .int .i64 x, v] w fun e w' => e = .returned (.bool (decide (x ≤ lvL n r ts l))) ∧ Below w.heap.size w w' := by
  have hL := level_any n r tv ts v l (w.alloc (.cells #[.string n, .string r, tv] 24)) (ht.alloc _) hts (hv.alloc _) hl hi
  obtain ⟨a, c, rfl⟩ := ht.shape
  obtain ⟨a2, c2, rfl⟩ := hv.shape
  have hb1 : Hid (Below w.heap.size w (w.alloc (.cells #[.string n, .string r, .slice a ts.length c] 24))) := (Below.refl _ _).alloc (Nat.le_refl _) _
  clear ht hv hi
  generalize lvL n r ts l = A at *
  go_enter Try.func16, Try.ntmps16
  go_wp2_with (first | (go_at_call 14; refine hL.mono ?_; rintro e wx ⟨rfl, hwx⟩))
  all_goals
    go_ret
    exact ⟨rfl, hb1.out.trans (hwx.mono (by simp))⟩
set_option maxRecDepth 100000 in
set_option maxHeartbeats 1000000 in
theorem num_any (x : Int) (w : World) : Calls Try.prog 9 #[.int .i64 x] w fun e w' => e = .returned (.int .i64 x) ∧ w' = w := by
  go_enter Try.func9, Try.ntmps9
  go_wp2
  go_ret
  exact ⟨rfl, rfl⟩
set_option maxRecDepth 100000 in
set_option maxHeartbeats 4000000 in
/-- The document's Level. -/
theorem rlevel_any (n r : ByteArray) (tv : Value) (ts : List ByteArray) (v : Value) (l : List Gr) (w : World) (ht : Txs w tv ts) (hts : ts.length ≤ 1000000000000000) (hv : Grs w v l) (hl : l.length ≤ 1000000000000000) (hi : ∀ g ∈ l, GrI g) :
    Calls Try.prog 15 #[.agg #[.string n, .string r, tv], v] w fun e w' => e = .returned (.int .i64 (lvL n r ts l)) ∧ Below w.heap.size w w' := by
  obtain ⟨a, c, rfl⟩ := ht.shape
  obtain ⟨a2, c2, rfl⟩ := hv.shape
  have hR : Hid (lvL n r ts l = if r.toList == [97, 100, 109, 105, 110] then 3 else lvF n r ts l) := rfl
  have hb1 : Below w.heap.size w (w.alloc (.cells #[.string n, .string r, .slice a ts.length c] 24)) := (Below.refl _ _).alloc (Nat.le_refl _) _
  rcases Bool.eq_false_or_eq_true (r.toList == [97, 100, 109, 105, 110]) with hr | hr
  · rw [hr, if_pos rfl] at hR
    replace hb1 : Hid _ := hb1
    clear ht hv hi
    go_enter Try.func15, Try.ntmps15
    go_wp2
    go_ret
    exact ⟨by rw [hR.out]; rfl, hb1.out⟩
  · rw [hr, if_neg (by decide)] at hR
    have htk : Hid (∀ W, Below w.heap.size w W → Txs W (.slice a ts.length c) ts) := fun W h => ht.grow h
    have hvk : Hid (∀ W, Below w.heap.size w W → Grs W (.slice a2 l.length c2) l) := fun W h => hv.grow h
    replace hi : Hid (∀ g ∈ l, GrI g) := hi
    replace hb1 : Hid (Below w.heap.size w (w.alloc (.cells #[.string n, .string r, .slice a ts.length c] 24))) := hb1
    clear ht hv
    go_enter Try.func15, Try.ntmps15
    go_wp2
    go_loopw [5, 6] (fun z i wr => ∃ k : Nat, k ≤ l.length ∧ i = .int .i64 k ∧ z = .int .i64 (lvF n r ts (l.take k)) ∧ Hid (Below (w.heap.size + 1) (w.alloc (.cells #[.string n, .string r, .slice a ts.length c] 24)) wr)) (fun _ i _ => l.length - (intOf i).toNat)
    case atStart => exact ⟨0, Nat.zero_le _, rfl, rfl, Below.refl _ _⟩
    case round =>
      obtain ⟨k, hk, rfl, rfl, hB⟩ := hrel
      have hB2 : Hid (Below w.heap.size w wr) := hb1.out.trans (hB.out.mono (by omega))
      have hbz := hB2.out.size
      have hbz1 : w.heap.size < wr.heap.size := by have := hB.out.size; simp at this; omega
      by_cases hlt : k < l.length
      · have hki : (k : Int) < (l.length : Int) := by omega
        obtain ⟨b, o, rfl, x0, x1, x2⟩ := gr_at (hvk.out wr hB2.out) k hlt
        have hin := lvF_in n r ts (l.take k) (fun g hg => hi.out g (List.mem_of_mem_take hg))
        have hgi := (hi.out _ (getD_mem l gr0 k hlt)).2
        have hnx : Hid (lvF n r ts (l.take (k + 1)) = lvS n r ts (lvF n r ts (l.take k)) (l.getD k gr0)) := lvF_take n r ts l k hlt
        have hO := fun g : Gr => in_any (.slice a ts.length c) ts g.name (wr.alloc (.cells #[.int .i64 g.kind, .string g.name, .int .i64 g.level] 52)) ((htk.out wr hB2.out).alloc _) hts
        replace hO := hO (l.getD k gr0)
        have u0 : ∀ o', (wr.alloc o').cell? ⟨w.heap.size, 0, none⟩ = some (.string n) := fun o' => by
          refine Lib.cell?_alloc_some _ ?_
          exact (hB.out.cell (p := ⟨w.heap.size, 0, none⟩) (Nat.lt_succ_self _)).trans (by simp)
        have u1 : ∀ o', (wr.alloc o').cell? ⟨w.heap.size, 1, none⟩ = some (.string r) := fun o' => by
          refine Lib.cell?_alloc_some _ ?_
          exact (hB.out.cell (p := ⟨w.heap.size, 1, none⟩) (Nat.lt_succ_self _)).trans (by simp)
        have u2 : ∀ o', (wr.alloc o').cell? ⟨w.heap.size, 2, none⟩ = some (.slice a ts.length c) := fun o' => by
          refine Lib.cell?_alloc_some _ ?_
          exact (hB.out.cell (p := ⟨w.heap.size, 2, none⟩) (Nat.lt_succ_self _)).trans (by simp)
        generalize lvF n r ts (l.take k) = A at *
        generalize l.getD k gr0 = g at *
        obtain ⟨gk, gm, gl⟩ := g
        simp only at x0 x1 x2 hgi hO
        have hBa : Hid (Below (w.heap.size + 1) (w.alloc (.cells #[.string n, .string r, .slice a ts.length c] 24)) (wr.alloc (.cells #[.int .i64 gk, .string gm, .int .i64 gl] 52))) := hB.out.alloc (by omega) _
        have hof : Hid (ofB n r ts ⟨gk, gm, gl⟩ = if gk == 1 then gm.toList == n.toList else if gk == 2 then inB ts gm else if gk == 3 then gm.toList == r.toList else false) := rfl
        generalize inB ts gm = B at *
        have hyes : Hid (ofB n r ts ⟨gk, gm, gl⟩ = true → lvF n r ts (l.take (k + 1)) = max A gl) := fun ho => by
          rw [hnx.out]; unfold lvS; rw [ho, if_pos rfl]
        have hnot : Hid (ofB n r ts ⟨gk, gm, gl⟩ = false → lvF n r ts (l.take (k + 1)) = A) := fun ho => by
          rw [hnx.out]; unfold lvS; rw [ho, if_neg (by decide)]
        clear hnx
        rcases Bool.eq_false_or_eq_true (gk == 1) with h1 | h1
        · rw [h1, if_pos rfl] at hof
          have h2 : (gk == 2) = false := by have := beq_iff_eq.1 h1; simp; omega
          have h3 : (gk == 3) = false := by have := beq_iff_eq.1 h1; simp; omega
          rcases Bool.eq_false_or_eq_true (gm.toList == n.toList) with e | e <;> rw [e] at hof
          · have hnx2 : Hid (lvF n r ts (l.take (k + 1)) = max A gl) := hyes.out hof.out
            clear hyes hnot
            go_wp2_with (first | (go_at_call 30; refine hO.mono ?_; rintro e wx ⟨rfl, hwx⟩; subst wx))
            all_goals
              refine ⟨⟨k + 1, by omega, by go_num, ?_, hBa.out⟩, ?_⟩
              · rw [hnx2.out]; try (congr 1; omega)
              · simp [intOf]; omega
          · have hnx2 : Hid (lvF n r ts (l.take (k + 1)) = A) := hnot.out hof.out
            clear hyes hnot
            go_wp2_with (first | (go_at_call 30; refine hO.mono ?_; rintro e wx ⟨rfl, hwx⟩; subst wx))
            refine ⟨⟨k + 1, by omega, by go_num, by rw [hnx2.out], hBa.out⟩, ?_⟩
            simp [intOf]; omega
        · rw [h1, if_neg (by decide)] at hof
          rcases Bool.eq_false_or_eq_true (gk == 2) with h2 | h2
          · rw [h2, if_pos rfl] at hof
            have h3 : (gk == 3) = false := by have := beq_iff_eq.1 h2; simp; omega
            cases B
            · have hnx2 : Hid (lvF n r ts (l.take (k + 1)) = A) := hnot.out hof.out
              clear hyes hnot
              go_wp2_with (first | (go_at_call 30; refine hO.mono ?_; rintro e wx ⟨rfl, hwx⟩; subst wx))
              refine ⟨⟨k + 1, by omega, by go_num, by rw [hnx2.out], hBa.out⟩, ?_⟩
              simp [intOf]; omega
            · have hnx2 : Hid (lvF n r ts (l.take (k + 1)) = max A gl) := hyes.out hof.out
              clear hyes hnot
              go_wp2_with (first | (go_at_call 30; refine hO.mono ?_; rintro e wx ⟨rfl, hwx⟩; subst wx))
              all_goals
                refine ⟨⟨k + 1, by omega, by go_num, ?_, hBa.out⟩, ?_⟩
                · rw [hnx2.out]; try (congr 1; omega)
                · simp [intOf]; omega
          · rw [h2, if_neg (by decide)] at hof
            rcases Bool.eq_false_or_eq_true (gk == 3) with h3 | h3
            · rw [h3, if_pos rfl] at hof
              rcases Bool.eq_false_or_eq_true (gm.toList == r.toList) with e | e <;> rw [e] at hof
              · have hnx2 : Hid (lvF n r ts (l.take (k + 1)) = max A gl) := hyes.out hof.out
                clear hyes hnot
                go_wp2_with (first | (go_at_call 30; refine hO.mono ?_; rintro e wx ⟨rfl, hwx⟩; subst wx))
                all_goals
                  refine ⟨⟨k + 1, by omega, by go_num, ?_, hBa.out⟩, ?_⟩
                  · rw [hnx2.out]; try (congr 1; omega)
                  · simp [intOf]; omega
              · have hnx2 : Hid (lvF n r ts (l.take (k + 1)) = A) := hnot.out hof.out
                clear hyes hnot
                go_wp2_with (first | (go_at_call 30; refine hO.mono ?_; rintro e wx ⟨rfl, hwx⟩; subst wx))
                refine ⟨⟨k + 1, by omega, by go_num, by rw [hnx2.out], hBa.out⟩, ?_⟩
                simp [intOf]; omega
            · rw [h3, if_neg (by decide)] at hof
              have hnx2 : Hid (lvF n r ts (l.take (k + 1)) = A) := hnot.out hof.out
              clear hyes hnot
              go_wp2_with (first | (go_at_call 30; refine hO.mono ?_; rintro e wx ⟨rfl, hwx⟩; subst wx))
              refine ⟨⟨k + 1, by omega, by go_num, by rw [hnx2.out], hBa.out⟩, ?_⟩
              simp [intOf]; omega
      · obtain rfl : k = l.length := by omega
        have hki : ¬ (l.length : Int) < (l.length : Int) := by omega
        rw [List.take_of_length_le (Nat.le_refl _)]
        generalize lvF n r ts l = A at *
        go_wp2
        go_ret
        exact ⟨by rw [hR.out]; rfl, hB2.out⟩
end Go.Proofs.Ytfbeilninpapaaa
