/- layLabels, layInstance, Put. -/
import Derived.Test.YtiajafljgfpdcaaGreatBCk
import Derived.Test.YtiajafljgfpdcaaGreatQReadQKn
namespace Go.Proofs.YtiajafljgfpdcaaGreat
set_option linter.unusedVariables false
open Go.RowKit
/-- A label, labels, an instance, an entry, a board as bytes. -/
def lbY (x : Lb) : List Int := Q.encT x.name ++ Q.encT x.value
def lsY (l : List Lb) : List Int := Q.enc l.length ++ Q.cat lbY l
def inY (x : S.Inst) : List Int := Q.cat Q.encS [x.st, x.since, x.fr, x.quiet, x.seen, x.vk, x.vn]
def enY (e : List Lb × S.Inst) : List Int := lsY e.1 ++ inY e.2
def bdY (l : List (List Lb × S.Inst)) : List Int := Q.enc l.length ++ Q.cat enY l
theorem cat_app {α : Type} (f : α → List Int) (a b : List α) : Q.cat f (a ++ b) = Q.cat f a ++ Q.cat f b := by simp [Q.cat]
theorem cat_one {α : Type} (f : α → List Int) (a : α) : Q.cat f [a] = f a := by simp [Q.cat]
theorem lbY_len {x : Lb} (h : x.name.size ≤ 128 ∧ x.value.size ≤ 128) : (lbY x).length ≤ 276 := by
  unfold lbY
  have h1 := Q.encT_len x.name (by omega)
  have h2 := Q.encT_len x.value (by omega)
  rw [List.length_append]
  omega
theorem catL_len {l : List Lb} (h : LbsS l) (k : Nat) (hk : k ≤ l.length) : (Q.cat lbY (l.take k)).length ≤ k * 276 := by
  induction k with
  | zero => simp [Q.cat]
  | succ k ih =>
    rw [take_getD l lb0 k hk, cat_app, cat_one, List.length_append]
    have h1 := lbY_len (h _ (getD_mem l lb0 k hk))
    have h2 := ih (by omega)
    have h3 : (k + 1) * 276 = k * 276 + 276 := by rw [Nat.add_mul, Nat.one_mul]
    omega
theorem wrap_len {n : Nat} (h : n ≤ 1000000) : IntKind.u64.wrap ((n : Nat) : Int) = ((n : Nat) : Int) := by
  simp only [IntKind.wrap, IntKind.bits, IntKind.signed]; simp; omega
theorem catL_step {l : List Lb} {k : Nat} (hk : k < l.length) (X : List Int) : X ++ Q.cat lbY (l.take k) ++ Q.cat Q.encT [(l.getD k lb0).name, (l.getD k lb0).value] = X ++ Q.cat lbY (l.take (k + 1)) := by
  rw [take_getD l lb0 k hk, cat_app, cat_one]
  simp [Q.cat, lbY]
set_option maxRecDepth 100000 in
set_option maxHeartbeats 2000000 in
theorem layLabels49 (base : Nat) (v lv : Value) (xs : List Int) (l : List Lb) (w : World) (hown : Q.Own w base v xs) (hbase : base ≤ w.heap.size) (hlen : xs.length ≤ 4000000) (hl : ∀ W, Below base w W → Lbs W lv l) (hs : LbsS l) (h16 : l.length ≤ 16) :
    Calls Tryz.prog 49 #[v, lv] w fun e w' => ∃ v', e = .returned v' ∧ Q.Own w' base v' (xs ++ lsY l) ∧ Below base w w' ∧ Q.Kb w w' := by
  obtain ⟨a, c, rfl⟩ := (hl w (Below.refl _ _)).shape
  replace hl : Hid (∀ W, Below base w W → Lbs W (.slice a l.length c) l) := hl
  have hb0 : Hid (Below base w (w.alloc (.cells #[.int .u64 (l.length : Nat)] 98))) := (Below.refl _ w).alloc hbase _
  have hk0 : Hid (Q.Kb w (w.alloc (.cells #[.int .u64 (l.length : Nat)] 98))) := Q.Kb.alloc w _
  have hnum := Q.number1 base v xs l.length w.heap.size (w.alloc (.cells #[.int .u64 (l.length : Nat)] 98)) (by omega) (World.ownsRow.alloc hown _) (Nat.le_trans hbase (by simp)) (by omega) (by unfold World.cell?; rw [heap_new]; rfl)
  have hu := wrap_len (n := l.length) (by omega)
  have hel := Q.enc_len10 l.length (by omega)
  go_enter Tryz.func49, Tryz.ntmps49
  go_wp2_with (go_at_call 48; refine hnum.mono ?_; rintro e w1 ⟨v1, rfl, ho1, hb1, hk1⟩)
  have hB1 : Hid (Below base w w1) := hb0.out.trans hb1
  have hK1 : Hid (Q.Kb w w1) := hk0.out.trans hk1
  have hO1 : Hid (Q.Own w1 base v1 (xs ++ Q.enc l.length ++ Q.cat lbY (l.take 0))) := by
    show Q.Own _ _ _ _
    simpa [Q.cat] using ho1
  clear hnum hb1 hk1 ho1
  go_loopw [0, 15] (fun u i wr => ∃ k : Nat, k ≤ l.length ∧ i = .int .i64 k ∧ Hid (Q.Own wr base u (xs ++ Q.enc l.length ++ Q.cat lbY (l.take k))) ∧ Hid (Below base w wr) ∧ Hid (Q.Kb w wr)) (fun _ i _ => l.length - (intOf i).toNat)
  case atStart => exact ⟨0, Nat.zero_le _, rfl, hO1, hB1, hK1⟩
  case round =>
    obtain ⟨k, hk, rfl, hO, hB, hK⟩ := hrel
    have hbz := hB.out.size
    by_cases hlt : k < l.length
    · have hki : (k : Int) < (l.length : Int) := by omega
      obtain ⟨bb, o, rfl, x0, x1⟩ := lb_at (hl.out wr hB.out) k hlt
      have hcl := catL_len hs k hk
      have hst := catL_step hlt (xs ++ Q.enc l.length)
      have hsz := hs _ (getD_mem l lb0 k hlt)
      generalize l.getD k lb0 = x at *
      obtain ⟨nm, vl⟩ := x
      simp only at x0 x1 hsz hst
      have hG : Below base wr ((wr.alloc (.cells #[.string nm, .string vl] 70)).alloc (.cells #[.string nm, .string vl] 9)) := ((Below.refl _ wr).alloc (Nat.le_trans hbase hbz) _).alloc (by simp; omega) _
      have hKG : Q.Kb wr ((wr.alloc (.cells #[.string nm, .string vl] 70)).alloc (.cells #[.string nm, .string vl] 9)) := (Q.Kb.alloc wr _).trans (Q.Kb.alloc _ _)
      have hbl : ((wr.alloc (.cells #[.string nm, .string vl] 70)).alloc (.cells #[.string nm, .string vl] 9)).heap[wr.heap.size + 1]? = some (.cells #[.string nm, .string vl] 9 (0, 0)) := by
        have := heap_new (wr.alloc (.cells #[.string nm, .string vl] 70)) (.cells #[.string nm, .string vl] 9)
        rwa [World.size_alloc] at this
      have htx := Q.text_n base _ _ [nm, vl] (wr.heap.size + 1) 0 2 ((wr.alloc (.cells #[.string nm, .string vl] 70)).alloc (.cells #[.string nm, .string vl] 9)) (by simp [Q.total]; omega) (World.ownsRow.alloc (World.ownsRow.alloc hO.out _) _) (Nat.le_trans (Nat.le_trans hbase hbz) (by simp; omega))
        (by simp only [List.length_append, List.length_cons, List.length_nil]; have : k * 276 ≤ 16 * 276 := Nat.mul_le_mul_right _ (by omega); omega)
        (fun t _ ht => by
          have ht2 : t = 0 ∨ t = 1 := by simp at ht; omega
          rcases ht2 with rfl | rfl <;> (unfold World.cell?; simp only [Nat.zero_add]; rw [hbl]; rfl)) (Q.nob_of hbl (by decide))
      replace hst : Hid (xs ++ Q.enc l.length ++ Q.cat lbY (l.take k) ++ Q.cat Q.encT [nm, vl] = xs ++ Q.enc l.length ++ Q.cat lbY (l.take (k + 1))) := hst
      replace hbl : True := trivial
      go_wp2_with (go_at_call 87; refine htx.mono ?_; rintro e w4 ⟨v4, rfl, ho4, hb4, hk4⟩)
      go_roundw
      case rel =>
        refine ⟨k + 1, by omega, by go_num, ?_, (hB.out.trans hG).trans hb4, (hK.out.trans hKG).trans hk4⟩
        show Q.Own _ _ _ _
        rw [← hst.out]; exact ho4
      case measure => simp [intOf]; omega
    · obtain rfl : k = l.length := by omega
      have hki : ¬ (l.length : Int) < (l.length : Int) := by omega
      have hOf : Q.Own wr base u0 (xs ++ lsY l) := by
        have := hO.out
        rw [List.take_of_length_le (Nat.le_refl _)] at this
        unfold lsY
        rwa [← List.append_assoc]
      go_wp2
      go_ret
      exact ⟨_, rfl, hOf, hB.out, hK.out⟩
theorem i64L {z : S.Inst} (h : ∀ n ∈ [z.st, z.since, z.fr, z.quiet, z.seen, z.vk, z.vn], -9223372036854775808 ≤ n ∧ n ≤ 9223372036854775807) : (inY z).length ≤ 77 := by
  unfold inY Q.cat
  simp only [List.map_cons, List.map_nil, List.flatten_cons, List.flatten_nil, List.length_append, List.length_nil]
  have a0 := Q.encS_len11 z.st (h _ (by simp)).1 (h _ (by simp)).2
  have a1 := Q.encS_len11 z.since (h _ (by simp)).1 (h _ (by simp)).2
  have a2 := Q.encS_len11 z.fr (h _ (by simp)).1 (h _ (by simp)).2
  have a3 := Q.encS_len11 z.quiet (h _ (by simp)).1 (h _ (by simp)).2
  have a4 := Q.encS_len11 z.seen (h _ (by simp)).1 (h _ (by simp)).2
  have a5 := Q.encS_len11 z.vk (h _ (by simp)).1 (h _ (by simp)).2
  have a6 := Q.encS_len11 z.vn (h _ (by simp)).1 (h _ (by simp)).2
  omega
/-- An instance whose fields are within int64. -/
def In64 (z : S.Inst) : Prop := ∀ n ∈ [z.st, z.since, z.fr, z.quiet, z.seen, z.vk, z.vn], -9223372036854775808 ≤ n ∧ n ≤ 9223372036854775807
set_option maxRecDepth 100000 in
set_option maxHeartbeats 2000000 in
theorem layInstance50 (base : Nat) (v : Value) (xs : List Int) (z : S.Inst) (w : World) (hown : Q.Own w base v xs) (hbase : base ≤ w.heap.size) (hlen : xs.length ≤ 4000000) (hz : In64 z) :
    Calls Tryz.prog 50 #[v, S.encI z] w fun e w' => ∃ v', e = .returned v' ∧ Q.Own w' base v' (xs ++ inY z) ∧ Below base w w' ∧ Q.Kb w w' := by
  have hS := S.iNew w z
  obtain ⟨c0, c1, c2, c3, c4, c5, c6⟩ := hS.cells
  have hG : Hid (Below base w ((w.alloc (S.iO z)).alloc (.cells #[.int .i64 z.st, .int .i64 z.since, .int .i64 z.fr, .int .i64 z.quiet, .int .i64 z.seen, .int .i64 z.vk, .int .i64 z.vn] 2))) := ((Below.refl _ w).alloc hbase _).alloc (Nat.le_trans hbase (by simp)) _
  have hKG : Hid (Q.Kb w ((w.alloc (S.iO z)).alloc (.cells #[.int .i64 z.st, .int .i64 z.since, .int .i64 z.fr, .int .i64 z.quiet, .int .i64 z.seen, .int .i64 z.vk, .int .i64 z.vn] 2))) := (Q.Kb.alloc w _).trans (Q.Kb.alloc _ _)
  have hbl : ((w.alloc (S.iO z)).alloc (.cells #[.int .i64 z.st, .int .i64 z.since, .int .i64 z.fr, .int .i64 z.quiet, .int .i64 z.seen, .int .i64 z.vk, .int .i64 z.vn] 2)).heap[w.heap.size + 1]? = some (.cells #[.int .i64 z.st, .int .i64 z.since, .int .i64 z.fr, .int .i64 z.quiet, .int .i64 z.seen, .int .i64 z.vk, .int .i64 z.vn] 2 (0, 0)) := by
    have := heap_new (w.alloc (S.iO z)) (.cells #[.int .i64 z.st, .int .i64 z.since, .int .i64 z.fr, .int .i64 z.quiet, .int .i64 z.seen, .int .i64 z.vk, .int .i64 z.vn] 2)
    rwa [World.size_alloc] at this
  have hsg := Q.signed_n base v xs [z.st, z.since, z.fr, z.quiet, z.seen, z.vk, z.vn] (w.heap.size + 1) 0 7 ((w.alloc (S.iO z)).alloc (.cells #[.int .i64 z.st, .int .i64 z.since, .int .i64 z.fr, .int .i64 z.quiet, .int .i64 z.seen, .int .i64 z.vk, .int .i64 z.vn] 2)) hz (World.ownsRow.alloc (World.ownsRow.alloc hown _) _) (Nat.le_trans hbase (by simp; omega)) (by simp only [List.length_cons, List.length_nil]; omega)
    (fun t _ ht => by
      have ht2 : t = 0 ∨ t = 1 ∨ t = 2 ∨ t = 3 ∨ t = 4 ∨ t = 5 ∨ t = 6 := by simp at ht; omega
      rcases ht2 with rfl | rfl | rfl | rfl | rfl | rfl | rfl <;> (unfold World.cell?; simp only [Nat.zero_add]; rw [hbl]; rfl)) (Q.nob_of hbl (by decide))
  unfold S.encI
  go_enter Tryz.func50, Tryz.ntmps50
  go_wp2_with (go_at_call 88; refine hsg.mono ?_; rintro e w4 ⟨v4, rfl, ho4, hb4, hk4⟩)
  go_ret
  exact ⟨_, rfl, ho4, hG.out.trans hb4, hKG.out.trans hk4⟩
end Go.Proofs.YtiajafljgfpdcaaGreat
