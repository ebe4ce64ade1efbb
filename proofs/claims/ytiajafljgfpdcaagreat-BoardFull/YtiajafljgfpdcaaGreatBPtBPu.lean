/- BPt; BPu. -/
import Derived.Test.YtiajafljgfpdcaaGreatBUpBCk
import Derived.Test.YtiajafljgfpdcaaGreatQReadQKn
/- layLabels, layInstance, Put. -/
namespace Go.Proofs.YtiajafljgfpdcaaGreat
set_option linter.unusedVariables false
open Go.RowKit
/-- A label, labels, an instance, an entry, a board as bytes. -/
def lbY (x : Lb) : List Int := Q.encT x.name ++ Q.encT x.value
def lsY (l : List Lb) : List Int := Q.enc l.length ++ Q.cat lbY l
def inY (x : S.Inst) : List Int := Q.cat Q.encS [x.st, x.since, x.fr, x.quiet, x.seen, x.vk, x.vn]
def enY (e : List Lb × S.Inst) : List Int := lsY e.1 ++ inY e.2
def bdY (l : List (List Lb × S.Inst)) : List Int := Q.enc l.length ++ Q.cat enY l
theorem cat_app {α : Type} (f : α → List Int) (a b : List α) : Q.cat f (a ++ b) = Q.cat f a ++ Q.cat f b := by simp [Q.cat]
theorem cat_one {α : Type} (f : α → List Int) (a : α) : Q.cat f [a] = f a := by simp [Q.cat]
theorem lbY_len {x : Lb} (h : x.name.size ≤ 128 ∧ x.value.size ≤ 128) : (lbY x).length ≤ 276 := by
  unfold lbY
  have h1 := Q.encT_len x.name (by omega)
  have h2 := Q.encT_len x.value (by omega)
  rw [List.length_append]
  omega
theorem catL_len {l : List Lb} (h : LbsS l) (k : Nat) (hk : k ≤ l.length) : (Q.cat lbY (l.take k)).length ≤ k * 276 := by
  induction k with
  | zero => simp [Q.cat]
  | succ k ih =>
    rw [take_getD l lb0 k hk, cat_app, cat_one, List.length_append]
    have h1 := lbY_len (h _ (getD_mem l lb0 k hk))
    have h2 := ih (by omega)
    have h3 : (k + 1) * 276 = k * 276 + 276 := by rw [Nat.add_mul, Nat.one_mul]
    omega
theorem wrap_len {n : Nat} (h : n ≤ 1000000) : IntKind.u64.wrap ((n : Nat) : Int) = ((n : Nat) : Int) := by
  simp only [IntKind.wrap, IntKind.bits, IntKind.signed]; simp; omega
theorem catL_step {l : List Lb} {k : Nat} (hk : k < l.length) (X : List Int) : X ++ Q.cat lbY (l.take k) ++ Q.cat Q.encT [(l.getD k lb0).name, (l.getD k lb0).value] = X ++ Q.cat lbY (l.take (k + 1)) := by
  rw [take_getD l lb0 k hk, cat_app, cat_one]
  simp [Q.cat, lbY]
set_option maxRecDepth 100000 in
set_option maxHeartbeats 2000000 in
theorem layLabels49 (base : Nat) (v lv : Value) (xs : List Int) (l : List Lb) (w : World) (hown : Q.Own w base v xs) (hbase : base ≤ w.heap.size) (hlen : xs.length ≤ 4000000) (hl : ∀ W, Below base w W → Lbs W lv l) (hs : LbsS l) (h16 : l.length ≤ 16) :
    Calls Tryz.prog 49 #[v, lv] w fun e w' => ∃ v', e = .returned v' ∧ Q.Own w' base v' (xs ++ lsY l) ∧ Below base w w' ∧ Q.Kb w w' := by
  obtain ⟨a, c, rfl⟩ := (hl w (Below.refl _ _)).shape
  replace hl : Hid (∀ W, Below base w W → Lbs W (.slice a l.length c) l) := hl
  have hb0 : Hid (Below base w (w.alloc (.cells #[.int .u64 (l.length : Nat)] 98))) := (Below.refl _ w).alloc hbase _
  have hk0 : Hid (Q.Kb w (w.alloc (.cells #[.int .u64 (l.length : Nat)] 98))) := Q.Kb.alloc w _
  have hnum := Q.number1 base v xs l.length w.heap.size (w.alloc (.cells #[.int .u64 (l.length : Nat)] 98)) (by omega) (World.ownsRow.alloc hown _) (Nat.le_trans hbase (by simp)) (by omega) (by unfold World.cell?; rw [heap_new]; rfl)
  have hu := wrap_len (n := l.length) (by omega)
  have hel := Q.enc_len10 l.length (by omega)
  go_enter Tryz.func49, Tryz.ntmps49
  go_wp2_with (go_at_call 48; refine hnum.mono ?_; rintro e w1 ⟨v1, rfl, ho1, hb1, hk1⟩)
  have hB1 : Hid (Below base w w1) := hb0.out.trans hb1
  have hK1 : Hid (Q.Kb w w1) := hk0.out.trans hk1
  have hO1 : Hid (Q.Own w1 base v1 (xs ++ Q.enc l.length ++ Q.cat lbY (l.take 0))) := by
    show Q.Own _ _ _ _
    simpa [Q.cat] using ho1
  clear hnum hb1 hk1 ho1
  go_loopw [0, 15] (fun u i wr => ∃ k : Nat, k ≤ l.length ∧ i = .int .i64 k ∧ Hid (Q.Own wr base u (xs ++ Q.enc l.length ++ Q.cat lbY (l.take k))) ∧ Hid (Below base w wr) ∧ Hid (Q.Kb w wr)) (fun _ i _ => l.length - (intOf i).toNat)
  case atStart => exact ⟨0, Nat.zero_le _, rfl, hO1, hB1, hK1⟩
  case round =>
    obtain ⟨k, hk, rfl, hO, hB, hK⟩ := hrel
    have hbz := hB.out.size
    by_cases hlt : k < l.length
    · have hki : (k : Int) < (l.length : Int) := by omega
      obtain ⟨bb, o, rfl, x0, x1⟩ := lb_at (hl.out wr hB.out) k hlt
      have hcl := catL_len hs k hk
      have hst := catL_step hlt (xs ++ Q.enc l.length)
      have hsz := hs _ (getD_mem l lb0 k hlt)
      generalize l.getD k lb0 = x at *
      obtain ⟨nm, vl⟩ := x
      simp only at x0 x1 hsz hst
      have hG : Below base wr ((wr.alloc (.cells #[.string nm, .string vl] 70)).alloc (.cells #[.string nm, .string vl] 9)) := ((Below.refl _ wr).alloc (Nat.le_trans hbase hbz) _).alloc (by simp; omega) _
      have hKG : Q.Kb wr ((wr.alloc (.cells #[.string nm, .string vl] 70)).alloc (.cells #[.string nm, .string vl] 9)) := (Q.Kb.alloc wr _).trans (Q.Kb.alloc _ _)
      have hbl : ((wr.alloc (.cells #[.string nm, .string vl] 70)).alloc (.cells #[.string nm, .string vl] 9)).heap[wr.heap.size + 1]? = some (.cells #[.string nm, .string vl] 9 (0, 0)) := by
        have := heap_new (wr.alloc (.cells #[.string nm, .string vl] 70)) (.cells #[.string nm, .string vl] 9)
        rwa [World.size_alloc] at this
      have htx := Q.text_n base _ _ [nm, vl] (wr.heap.size + 1) 0 2 ((wr.alloc (.cells #[.string nm, .string vl] 70)).alloc (.cells #[.string nm, .string vl] 9)) (by simp [Q.total]; omega) (World.ownsRow.alloc (World.ownsRow.alloc hO.out _) _) (Nat.le_trans (Nat.le_trans hbase hbz) (by simp; omega))
        (by simp only [List.length_append, List.length_cons, List.length_nil]; have : k * 276 ≤ 16 * 276 := Nat.mul_le_mul_right _ (by omega); omega)
        (fun t _ ht => by
          have ht2 : t = 0 ∨ t = 1 := by simp at ht; omega
          rcases ht2 with rfl | rfl <;> (unfold World.cell?; simp only [Nat.zero_add]; rw [hbl]; rfl)) (Q.nob_of hbl (by decide))
      replace hst : Hid (xs ++ Q.enc l.length ++ Q.cat lbY (l.take k) ++ Q.cat Q.encT [nm, vl] = xs ++ Q.enc l.length ++ Q.cat lbY (l.take (k + 1))) := hst
      replace hbl : True := trivial
      go_wp2_with (go_at_call 87; refine htx.mono ?_; rintro e w4 ⟨v4, rfl, ho4, hb4, hk4⟩)
      go_roundw
      case rel =>
        refine ⟨k + 1, by omega, by go_num, ?_, (hB.out.trans hG).trans hb4, (hK.out.trans hKG).trans hk4⟩
        show Q.Own _ _ _ _
        rw [← hst.out]; exact ho4
      case measure => simp [intOf]; omega
    · obtain rfl : k = l.length := by omega
      have hki : ¬ (l.length : Int) < (l.length : Int) := by omega
      have hOf : Q.Own wr base u0 (xs ++ lsY l) := by
        have := hO.out
        rw [List.take_of_length_le (Nat.le_refl _)] at this
        unfold lsY
        rwa [← List.append_assoc]
      go_wp2
      go_ret
      exact ⟨_, rfl, hOf, hB.out, hK.out⟩
theorem i64L {z : S.Inst} (h : ∀ n ∈ [z.st, z.since, z.fr, z.quiet, z.seen, z.vk, z.vn], -9223372036854775808 ≤ n ∧ n ≤ 9223372036854775807) : (inY z).length ≤ 77 := by
  unfold inY Q.cat
  simp only [List.map_cons, List.map_nil, List.flatten_cons, List.flatten_nil, List.length_append, List.length_nil]
  have a0 := Q.encS_len11 z.st (h _ (by simp)).1 (h _ (by simp)).2
  have a1 := Q.encS_len11 z.since (h _ (by simp)).1 (h _ (by simp)).2
  have a2 := Q.encS_len11 z.fr (h _ (by simp)).1 (h _ (by simp)).2
  have a3 := Q.encS_len11 z.quiet (h _ (by simp)).1 (h _ (by simp)).2
  have a4 := Q.encS_len11 z.seen (h _ (by simp)).1 (h _ (by simp)).2
  have a5 := Q.encS_len11 z.vk (h _ (by simp)).1 (h _ (by simp)).2
  have a6 := Q.encS_len11 z.vn (h _ (by simp)).1 (h _ (by simp)).2
  omega
/-- An instance whose fields are within int64. -/
def In64 (z : S.Inst) : Prop := ∀ n ∈ [z.st, z.since, z.fr, z.quiet, z.seen, z.vk, z.vn], -9223372036854775808 ≤ n ∧ n ≤ 9223372036854775807
set_option maxRecDepth 100000 in
set_option maxHeartbeats 2000000 in
theorem layInstance50 (base : Nat) (v : Value) (xs : List Int) (z : S.Inst) (w : World) (hown : Q.Own w base v xs) (hbase : base ≤ w.heap.size) (hlen : xs.length ≤ 4000000) (hz : In64 z) :
    Calls Tryz.prog 50 #[v, S.encI z] w fun e w' => ∃ v', e = .returned v' ∧ Q.Own w' base v' (xs ++ inY z) ∧ Below base w w' ∧ Q.Kb w w' := by
  have hS := S.iNew w z
  obtain ⟨c0, c1, c2, c3, c4, c5, c6⟩ := hS.cells
  have hG : Hid (Below base w ((w.alloc (S.iO z)).alloc (.cells #[.int .i64 z.st, .int .i64 z.since, .int .i64 z.fr, .int .i64 z.quiet, .int .i64 z.seen, .int .i64 z.vk, .int .i64 z.vn] 2))) := ((Below.refl _ w).alloc hbase _).alloc (Nat.le_trans hbase (by simp)) _
  have hKG : Hid (Q.Kb w ((w.alloc (S.iO z)).alloc (.cells #[.int .i64 z.st, .int .i64 z.since, .int .i64 z.fr, .int .i64 z.quiet, .int .i64 z.seen, .int .i64 z.vk, .int .i64 z.vn] 2))) := (Q.Kb.alloc w _).trans (Q.Kb.alloc _ _)
  have hbl : ((w.alloc (S.iO z)).alloc (.cells #[.int .i64 z.st, .int .i64 z.since, .int .i64 z.fr, .int .i64 z.quiet, .int .i64 z.seen, .int .i64 z.vk, .int .i64 z.vn] 2)).heap[w.heap.size + 1]? = some (.cells #[.int .i64 z.st, .int .i64 z.since, .int .i64 z.fr, .int .i64 z.quiet, .int .i64 z.seen, .int .i64 z.vk, .int .i64 z.vn] 2 (0, 0)) := by
    have := heap_new (w.alloc (S.iO z)) (.cells #[.int .i64 z.st, .int .i64 z.since, .int .i64 z.fr, .int .i64 z.quiet, .int .i64 z.seen, .int .i64 z.vk, .int .i64 z.vn] 2)
    rwa [World.size_alloc] at this
  have hsg := Q.signed_n base v xs [z.st, z.since, z.fr, z.quiet, z.seen, z.vk, z.vn] (w.heap.size + 1) 0 7 ((w.alloc (S.iO z)).alloc (.cells #[.int .i64 z.st, .int .i64 z.since, .int .i64 z.fr, .int .i64 z.quiet, .int .i64 z.seen, .int .i64 z.vk, .int .i64 z.vn] 2)) hz (World.ownsRow.alloc (World.ownsRow.alloc hown _) _) (Nat.le_trans hbase (by simp; omega)) (by simp only [List.length_cons, List.length_nil]; omega)
    (fun t _ ht => by
      have ht2 : t = 0 ∨ t = 1 ∨ t = 2 ∨ t = 3 ∨ t = 4 ∨ t = 5 ∨ t = 6 := by simp at ht; omega
      rcases ht2 with rfl | rfl | rfl | rfl | rfl | rfl | rfl <;> (unfold World.cell?; simp only [Nat.zero_add]; rw [hbl]; rfl)) (Q.nob_of hbl (by decide))
  unfold S.encI
  go_enter Tryz.func50, Tryz.ntmps50
  go_wp2_with (go_at_call 88; refine hsg.mono ?_; rintro e w4 ⟨v4, rfl, ho4, hb4, hk4⟩)
  go_ret
  exact ⟨_, rfl, ho4, hG.out.trans hb4, hKG.out.trans hk4⟩
end Go.Proofs.YtiajafljgfpdcaaGreat
/- Put. -/
namespace Go.Proofs.YtiajafljgfpdcaaGreat
set_option linter.unusedVariables false
open Go.RowKit
theorem enY_len {e : List Lb × S.Inst} (h1 : LbsS e.1) (h2 : e.1.length ≤ 16) (h3 : In64 e.2) : (enY e).length ≤ 4600 := by
  unfold enY lsY
  have a := catL_len h1 e.1.length (Nat.le_refl _)
  rw [List.take_length] at a
  have b := Q.enc_len10 e.1.length (by omega)
  have c := i64L h3
  have d : e.1.length * 276 ≤ 16 * 276 := Nat.mul_le_mul_right _ h2
  simp only [List.length_append]
  omega
theorem bd_short {l : List (List Lb × S.Inst)} (h : IsBd l) : ∀ e ∈ l, IsSet e.1 := fun e he => by
  have := h.2 e he
  unfold mbB at this
  rw [Bool.and_eq_true] at this
  exact setB_iff.1 this.1
theorem catE_len {l : List (List Lb × S.Inst)} (h : IsBd l) (h6 : ∀ e ∈ l, In64 e.2) (k : Nat) (hk : k ≤ l.length) : (Q.cat enY (l.take k)).length ≤ k * 4600 := by
  induction k with
  | zero => simp [Q.cat]
  | succ k ih =>
    rw [take_getD l pr0 k hk, cat_app, cat_one, List.length_append]
    have hm := getD_mem l pr0 k hk
    have hs := bd_short h _ hm
    have h1 := enY_len hs.short hs.2.2 (h6 _ hm)
    have h2 := ih (by omega)
    have h3 : (k + 1) * 4600 = k * 4600 + 4600 := by rw [Nat.add_mul, Nat.one_mul]
    omega
theorem catE_step {l : List (List Lb × S.Inst)} {k : Nat} (hk : k < l.length) (X : List Int) : X ++ Q.cat enY (l.take k) ++ lsY (l.getD k pr0).1 ++ inY (l.getD k pr0).2 = X ++ Q.cat enY (l.take (k + 1)) := by
  rw [take_getD l pr0 k hk, cat_app, cat_one]
  simp [enY]
theorem chk_zero {l : List (List Lb × S.Inst)} (h : chkF l = 0) : IsBd l ∧ l.length ≤ 100 := by
  unfold chkF at h
  split at h
  · cases h
  · split at h
    · rename_i h1 h2
      exact ⟨h2, by omega⟩
    · cases h
theorem chk_in (l : List (List Lb × S.Inst)) : chkF l = 0 ∨ chkF l = 2 ∨ chkF l = 6 := by
  unfold chkF
  split
  · exact .inr (.inr rfl)
  · split
    · exact .inl rfl
    · exact .inr (.inl rfl)
set_option maxRecDepth 100000 in
set_option maxHeartbeats 2000000 in
theorem put21 (v : Value) (l : List En) (w : World) (hv : Ens w v l) (hl : l.length ≤ 1000000) (hr : ∀ e ∈ l, LbsR e.ls ∧ e.ls.length ≤ 100000) (h6 : ∀ e ∈ l, In64 e.x) :
    Calls Tryz.prog 21 #[v] w fun e w' => ∃ u, e = .returned (.tuple #[u, .int .i64 (chkF (l.map enF))]) ∧ Q.Own w' w.heap.size u (if chkF (l.map enF) = 0 then bdY (l.map enF) else []) ∧ Below w.heap.size w w' := by
  have hchk := check17 v l w hv hl hr
  obtain ⟨a, c, rfl⟩ := hv.1.shape
  by_cases h0 : chkF (l.map enF) = 0
  · obtain ⟨hbd, h100⟩ := chk_zero h0
    have hlm : (l.map enF).length = l.length := List.length_map _
    rw [hlm] at h100
    rw [if_pos h0]
    rw [h0] at hchk ⊢
    have hu := wrap_len (n := l.length) (by omega)
    have hel := Q.enc_len10 l.length (by omega)
    have h6m : ∀ e ∈ l.map enF, In64 e.2 := fun e he => by
      obtain ⟨x, hx, rfl⟩ := List.mem_map.1 he
      exact h6 x hx
    have hnum : ∀ w1, Below w.heap.size w w1 → Calls Tryz.prog 48 #[.slice none 0 0, .slice (some ⟨w1.heap.size, 0, none⟩) 1 1] (w1.alloc (.cells #[.int .u64 (l.length : Nat)] 98)) fun e w' => ∃ v', e = .returned v' ∧ Q.Own w' w.heap.size v' ([] ++ Q.enc l.length) ∧ Below w.heap.size (w1.alloc (.cells #[.int .u64 (l.length : Nat)] 98)) w' ∧ Q.Kb (w1.alloc (.cells #[.int .u64 (l.length : Nat)] 98)) w' := fun w1 hb =>
      Q.number1 w.heap.size (.slice none 0 0) [] l.length w1.heap.size _ (by omega) (World.ownsRow_nil _ _ _ _) (Nat.le_trans hb.size (by simp)) (by simp) (by unfold World.cell?; rw [heap_new]; rfl)
    clear h0
    replace hbd : Hid (IsBd (l.map enF)) := hbd
    go_enter Tryz.func21, Tryz.ntmps21
    go_wp2_with (first
      | (go_at_call 17; refine hchk.mono ?_; rintro e w1 ⟨rfl, hb1⟩)
      | (go_at_call 48; refine (hnum _ hb1).mono ?_; rintro e w2 ⟨v2, rfl, ho2, hb2, hk2⟩))
    have hB2 : Hid (Below w.heap.size w w2) := (hb1.alloc hb1.size _).trans hb2
    have hO2 : Hid (Q.Own w2 w.heap.size v2 (Q.enc l.length ++ Q.cat enY ((l.map enF).take 0))) := by
      show Q.Own _ _ _ _
      simpa [Q.cat] using ho2
    clear hnum hchk hb1 hb2 hk2 ho2
    go_loopw [5, 20] (fun u i wr => ∃ k : Nat, k ≤ l.length ∧ i = .int .i64 k ∧ Hid (Q.Own wr w.heap.size u (Q.enc l.length ++ Q.cat enY ((l.map enF).take k))) ∧ Hid (Below w.heap.size w wr)) (fun _ i _ => l.length - (intOf i).toNat)
    case atStart => exact ⟨0, Nat.zero_le _, rfl, hO2, hB2⟩
    case round =>
      obtain ⟨k, hk, rfl, hO, hB⟩ := hrel
      have hbz := hB.out.size
      by_cases hlt : k < l.length
      · have hki : (k : Int) < (l.length : Int) := by omega
        have hltm : k < (l.map enF).length := by omega
        obtain ⟨bb, o, rfl, hat⟩ := en_at (Sls.grow hv.1 hB.out) k hlt
        obtain ⟨x0, x1, x2, x3, x4, x5, x6, x7⟩ := at_en hat
        have hmem := getD_mem l en0 k hlt
        have hcl := catE_len hbd.out h6m k (by omega)
        have hst := catE_step hltm (Q.enc l.length)
        rw [getD_map] at hst
        have hset := bd_short hbd.out _ (List.mem_map_of_mem (f := enF) hmem)
        have hlb := hv.2 _ hmem
        have h6e := h6 _ hmem
        have hcl2 : (Q.cat enY ((l.map enF).take k)).length ≤ 460000 := by
          have : k * 4600 ≤ 100 * 4600 := Nat.mul_le_mul_right _ (by omega)
          omega
        generalize l.getD k en0 = e at *
        obtain ⟨⟨ea, en, ec⟩, els, ⟨st, since, fr, quiet, seen, vk, vn⟩⟩ := e
        have hset2 : IsSet els := hset
        have hsY := Q.enc_len10 els.length (by have := hset2.2.2; omega)
        have hcL := catL_len hset2.short els.length (Nat.le_refl _)
        rw [List.take_length] at hcL
        have hlsl : (lsY els).length ≤ 4500 := by
          unfold lsY
          rw [List.length_append]
          have h16 := hset2.2.2
          have : els.length * 276 ≤ 16 * 276 := Nat.mul_le_mul_right _ h16
          omega
        have e1 : (enF ⟨⟨ea, en, ec⟩, els, ⟨st, since, fr, quiet, seen, vk, vn⟩⟩).1 = els := rfl
        have e2 : (enF ⟨⟨ea, en, ec⟩, els, ⟨st, since, fr, quiet, seen, vk, vn⟩⟩).2 = ⟨st, since, fr, quiet, seen, vk, vn⟩ := rfl
        rw [e1, e2] at hst
        simp only at x0 x1 x2 x3 x4 x5 x6 x7 h6e hlb
        have hx5 : (wr.alloc (.cells #[.slice ea en ec, .int .i64 st, .int .i64 since, .int .i64 fr, .int .i64 quiet, .int .i64 seen, .int .i64 vk, .int .i64 vn] 67)).heap[wr.heap.size]? = some (.cells #[.slice ea en ec, .int .i64 st, .int .i64 since, .int .i64 fr, .int .i64 quiet, .int .i64 seen, .int .i64 vk, .int .i64 vn] 67 (0, 0)) := heap_new _ _
        have hG5 : Hid (Below w.heap.size w (wr.alloc (.cells #[.slice ea en ec, .int .i64 st, .int .i64 since, .int .i64 fr, .int .i64 quiet, .int .i64 seen, .int .i64 vk, .int .i64 vn] 67))) := hB.out.alloc hbz _
        have hll := layLabels49 w.heap.size u5 (.slice ea en ec) _ els (wr.alloc (.cells #[.slice ea en ec, .int .i64 st, .int .i64 since, .int .i64 fr, .int .i64 quiet, .int .i64 seen, .int .i64 vk, .int .i64 vn] 67)) (World.ownsRow.alloc hO.out _) hG5.out.size (by simp only [List.length_append]; omega) (fun W hW => Sls.grow hlb (hG5.out.trans hW)) hset2.short hset2.2.2
        have hli := fun w6 v6 (ho : Q.Own w6 w.heap.size v6 (Q.enc l.length ++ Q.cat enY ((l.map enF).take k) ++ lsY els)) (hb : w.heap.size ≤ w6.heap.size) => layInstance50 w.heap.size v6 _ ⟨st, since, fr, quiet, seen, vk, vn⟩ w6 ho hb (by simp only [List.length_append]; omega) h6e
        unfold S.encI at hli
        simp only at hli
        replace hst : Hid (Q.enc l.length ++ Q.cat enY ((l.map enF).take k) ++ lsY els ++ inY ⟨st, since, fr, quiet, seen, vk, vn⟩ = Q.enc l.length ++ Q.cat enY ((l.map enF).take (k + 1))) := hst
        clear hat hmem hset hset2 hcL hsY e1 e2
        have hcells : ∀ (w6 : World), Q.Kb (wr.alloc (.cells #[.slice ea en ec, .int .i64 st, .int .i64 since, .int .i64 fr, .int .i64 quiet, .int .i64 seen, .int .i64 vk, .int .i64 vn] 67)) w6 → w6.cell? ⟨wr.heap.size, 1, none⟩ = some (.int .i64 st) ∧ w6.cell? ⟨wr.heap.size, 2, none⟩ = some (.int .i64 since) ∧ w6.cell? ⟨wr.heap.size, 3, none⟩ = some (.int .i64 fr) ∧ w6.cell? ⟨wr.heap.size, 4, none⟩ = some (.int .i64 quiet) ∧ w6.cell? ⟨wr.heap.size, 5, none⟩ = some (.int .i64 seen) ∧ w6.cell? ⟨wr.heap.size, 6, none⟩ = some (.int .i64 vk) ∧ w6.cell? ⟨wr.heap.size, 7, none⟩ = some (.int .i64 vn) := fun w6 hk => by
          have h := (hk.block wr.heap.size (by simp) (Q.nob_of hx5 (by decide))).trans hx5
          simp [World.cell?, h]
        go_wp2_with (first
          | (go_at_call 49; refine hll.mono ?_; rintro e w6 ⟨v6, rfl, ho6, hb6, hk6⟩; obtain ⟨p1, p2, p3, p4, p5, p6, p7⟩ := hcells w6 hk6)
          | (go_at_call 50; refine (hli _ _ ho6 (hG5.out.trans hb6).size).mono ?_; rintro e w7 ⟨v7, rfl, ho7, hb7, hk7⟩))
        go_roundw
        case rel =>
          refine ⟨k + 1, by omega, by go_num, ?_, (hG5.out.trans hb6).trans hb7⟩
          show Q.Own _ _ _ _
          rw [← hst.out]; exact ho7
        case measure => simp [intOf]; omega
      · obtain rfl : k = l.length := by omega
        have hki : ¬ (l.length : Int) < (l.length : Int) := by omega
        have hOf : Q.Own wr w.heap.size u5 (bdY (l.map enF)) := by
          have := hO.out
          rw [List.take_of_length_le (by rw [hlm]; exact Nat.le_refl _)] at this
          unfold bdY
          rwa [hlm]
        go_wp2
        go_ret2
        exact ⟨_, rfl, hOf, hB.out⟩
  · rw [if_neg h0]
    have hne : ((chkF (l.map enF)) != 0) = true := by simp [h0]
    go_enter Tryz.func21, Tryz.ntmps21
    go_wp2_with (first
      | (go_at_call 17; refine hchk.mono ?_; rintro e w1 ⟨rfl, hb1⟩))
    go_ret2
    exact ⟨_, rfl, World.ownsRow_nil _ _ _ _, hb1⟩
end Go.Proofs.YtiajafljgfpdcaaGreat
