/- Cells of nodes, as values, in memory, as bytes; the contract of appendCell. -/
import Derived.Test.YtdobleekjiehdaaGreatKeep
import Derived.Deep.RegionHeld3
namespace Go.Proofs.YtdobleekjiehdaaGreat
set_option linter.unusedVariables false
open Go.RowKit
/-- A cell of a node. -/
structure Cl where
  key : ByteArray
  val : ByteArray
  page : Nat
  count : Nat
def cl0 : Cl := ⟨ByteArray.empty, ByteArray.empty, 0, 0⟩
def Cl.arr (c : Cl) : Array Value := #[.string c.key, .string c.val, .int .i64 c.page, .int .i64 c.count]
def Cl.agg (c : Cl) : Value := .agg c.arr
/-- What a cell of a node may be. -/
def Cl.ok (c : Cl) : Prop := c.key.size ≤ 1000 ∧ c.val.size ≤ 100000 ∧ c.page < 9223372036854775808 ∧ c.count < 9223372036854775808
/-- A cell's bytes. -/
def cellB (c : Cl) : List Int := encT c.key ++ enc c.page ++ (if c.page = 0 then encT c.val else enc c.count)
theorem u64_of (n : Nat) (h : n < 9223372036854775808) : IntKind.u64.wrap (n : Int) = (n : Int) := Go.IntWalk.u64_in _ (by omega)
theorem cells4 {w : World} {b : Nat} {a0 a1 a2 a3 : Value} {t : TypeId} (h : w.heap[b]? = some (.cells #[a0, a1, a2, a3] t (0, 0))) : w.cell? ⟨b, 0, none⟩ = some a0 ∧ w.cell? ⟨b, 1, none⟩ = some a1 ∧ w.cell? ⟨b, 2, none⟩ = some a2 ∧ w.cell? ⟨b, 3, none⟩ = some a3 := by
  refine ⟨?_, ?_, ?_, ?_⟩ <;> simp [World.cell?, h]
theorem newC {W : World} {n : Nat} (h : W.heap.size = n) (u : Value) (t : TypeId) : (W.alloc (.cells #[u] t)).cell? ⟨n, 0, none⟩ = some u := by subst h; simp
theorem newC2a {W : World} {n : Nat} (h : W.heap.size = n) (u : Value) (t : TypeId) (o : Obj) : ((W.alloc (.cells #[u] t)).alloc o).cell? ⟨n, 0, none⟩ = some u :=
  (((Below.refl _ (W.alloc (.cells #[u] t))).alloc (Nat.le_refl _) o).cell (p := ⟨n, 0, none⟩) (by simp [h])).trans (newC h u t)
theorem newC2b {W : World} {n : Nat} (h : W.heap.size = n) (u : Value) (t : TypeId) (o : Obj) : ((W.alloc o).alloc (.cells #[u] t)).cell? ⟨n + 1, 0, none⟩ = some u := newC (by simp [h]) u t
theorem nob2a {W : World} {n : Nat} (h : W.heap.size = n) (u : Value) (o : Obj) {t : TypeId} (ht : t ≠ 5) : NoB ((W.alloc (.cells #[u] t)).alloc o) n := by
  subst h
  exact nob_of (((Below.refl _ (W.alloc (.cells #[u] t))).alloc (Nat.le_refl _) o).block _ (by simp) |>.trans (heap_alloc_new W _)) ht
theorem nob2b {W : World} {n : Nat} (h : W.heap.size = n) (u : Value) (o : Obj) {t : TypeId} (ht : t ≠ 5) : NoB ((W.alloc o).alloc (.cells #[u] t)) (n + 1) := by
  subst h
  have := heap_alloc_new (W.alloc o) (.cells #[u] t)
  rw [World.size_alloc] at this
  exact nob_of this ht
theorem newCd {W : World} {n : Nat} (h : W.heap.size = n) (u : Value) (t : TypeId) : (W.alloc (.cells #[u] t)).drew.cell? ⟨n, 0, none⟩ = some u := newC h u t
theorem newC2ad {W : World} {n : Nat} (h : W.heap.size = n) (u : Value) (t : TypeId) (o : Obj) : ((W.alloc (.cells #[u] t)).alloc o).drew.cell? ⟨n, 0, none⟩ = some u := newC2a h u t o
theorem newC2bd {W : World} {n : Nat} (h : W.heap.size = n) (u : Value) (t : TypeId) (o : Obj) : ((W.alloc o).alloc (.cells #[u] t)).drew.cell? ⟨n + 1, 0, none⟩ = some u := newC2b h u t o
theorem Own.drew {w : World} {base : Nat} {v : Value} {xs : List Int} (h : Own w base v xs) : Own w.drew base v xs := World.ownsRow.kept (row := none) h ⟨rfl, rfl, rfl, Nat.le_refl _, fun _ _ _ => rfl⟩ (by cases v.ownBlock <;> simp)
theorem NoB.drew {w : World} {k : Nat} (h : NoB w k) : NoB w.drew k := h
section
variable {w : World}
set_option maxRecDepth 100000 in
set_option maxHeartbeats 4000000 in
theorem appendCell_any (base : Nat) (v : Value) (xs : List Int) (c : Cl) (hc : c.ok) (hown : Own w base v xs) (hbase : base ≤ w.heap.size) (hlen : xs.length ≤ 8000000) :
    Calls Tryz.prog 114 #[v, .agg #[.string c.key, .string c.val, .int .i64 c.page, .int .i64 c.count]] w fun e w' => ∃ v', e = .returned v' ∧ Own w' base v' (xs ++ cellB c) ∧ Below base w w' ∧ Kb w w' := by
  obtain ⟨h1, h2, h3, h4⟩ := hc
  have hB : Below base w (w.alloc (.cells #[.string c.key, .string c.val, .int .i64 c.page, .int .i64 c.count] 90)) := (Below.refl _ w).alloc hbase _
  have hK := Kb.alloc w (.cells #[.string c.key, .string c.val, .int .i64 c.page, .int .i64 c.count] 90)
  have ho1 := hown.alloc (.cells #[.string c.key, .string c.val, .int .i64 c.page, .int .i64 c.count] 90)
  have hx : (w.alloc (.cells #[.string c.key, .string c.val, .int .i64 c.page, .int .i64 c.count] 90)).heap[w.heap.size]? = some (.cells #[.string c.key, .string c.val, .int .i64 c.page, .int .i64 c.count] 90 (0, 0)) := heap_alloc_new w _
  have hz : (w.alloc (.cells #[.string c.key, .string c.val, .int .i64 c.page, .int .i64 c.count] 90)).heap.size = w.heap.size + 1 := by simp
  have hu := u64_of c.page h3
  have hu2 := u64_of c.count h4
  go_enter Tryz.func114, Tryz.ntmps114
  go_wp2_with fail
  generalize w.alloc (.cells #[.string c.key, .string c.val, .int .i64 c.page, .int .i64 c.count] 90) = W1 at *
  obtain ⟨x0, x1, x2, x3⟩ := cells4 hx
  have hxn : NoB W1 w.heap.size := nob_of hx (by decide)
  have hlt : w.heap.size < W1.heap.size := by omega
  have hkl := encT_len c.key (by omega)
  have hb1 : base ≤ W1.heap.size := by omega
  have hel := enc_len10 c.page (by omega)
  by_cases hp : c.page = 0
  · have hpe : ((c.page : Int) == 0) = true := by simp [hp]
    have hcb : cellB c = encT c.key ++ enc c.page ++ encT c.val := by unfold cellB; rw [if_pos hp]
    replace hcb : Hid _ := hcb
    clear hp
    go_region_held3 (fun W => W.cell? ⟨w.heap.size, 0, none⟩ = some (.string c.key) ∧ W.cell? ⟨w.heap.size, 2, none⟩ = some (.int .i64 c.page)) (first | go_keep | exact ⟨y0, y2⟩) (first
      | (go_at_call 122; refine (text1 base v xs c.key _ _ (by omega) (by first | exact (ho1.alloc _).drew | exact ((ho1.alloc _).alloc _).drew | exact ho1.alloc _ | exact (ho1.alloc _).alloc _) (by simp; omega) (by omega) (by first | exact newCd hz _ _ | exact newC2ad hz _ _ _ | exact newC2bd hz _ _ _)).mono ?_; rintro e w2 ⟨v2, rfl, ho2, hb2, hk2⟩; have hk2' : Kb W1 w2 := Kb.trans (by first | exact (Kb.alloc _ _).trans (Kb.drew _) | exact ((Kb.alloc _ _).trans (Kb.alloc _ _)).trans (Kb.drew _)) hk2; have hb2' : Below base w w2 := Below.trans (Below.trans hB (by first | exact ((Below.refl base W1).alloc hb1 _).drew | exact (((Below.refl base W1).alloc hb1 _).alloc (by simp; omega) _).drew)) hb2; have y0 := hk2'.cell x0 hxn; have y2 := hk2'.cell x2 hxn; have hs2 := hk2'.size)
      | (go_at_call 113; refine (number1 base v2 (xs ++ encT c.key) c.page _ _ (by omega) (by first | exact ho2 | exact ho2.alloc _) (by first | omega | (simp; omega)) (by simp only [List.length_append]; omega) (by first | exact newC rfl _ _ | exact hk2.cell (newC2ad hz _ _ _) (NoB.drew (nob2a hz _ _ (by decide))) | exact hk2.cell (newC2bd hz _ _ _) (NoB.drew (nob2b hz _ _ (by decide))))).mono ?_; rintro e w3 ⟨v3, rfl, ho3, hb3', hk3'⟩; have hk3 : Kb W1 w3 := hk2'.trans (Kb.trans (by first | exact Kb.refl _ | exact Kb.alloc _ _) hk3'); have hb3 : Below base w w3 := hb2'.trans (Below.trans (by first | exact Below.refl _ _ | exact (Below.refl base w2).alloc (by omega) _) hb3'); have y0 := hk3.cell x0 hxn; have y1 := hk3.cell x1 hxn; have y2 := hk3.cell x2 hxn; have y3 := hk3.cell x3 hxn; have hs3 := hk3.size))
    all_goals
      go_wp2_with (first | (go_at_call 122; refine (text1 base _ _ c.val _ _ (by omega) (ho3.alloc _) (by simp; omega) (by simp only [List.length_append]; omega) (newC rfl _ _)).mono ?_; rintro e w4 ⟨v4, rfl, ho4, hb4, hk4⟩))
      go_ret
      exact ⟨v4, rfl, ho4.cast (by rw [hcb.out]; simp), hb3.trans (((Below.refl base w3).alloc (by omega) _).trans hb4), hK.trans (hk3.trans ((Kb.alloc w3 _).trans hk4))⟩
  · have hpe : ((c.page : Int) == 0) = false := by simp [hp]
    have hcb : cellB c = encT c.key ++ enc c.page ++ enc c.count := by unfold cellB; rw [if_neg hp]
    replace hcb : Hid _ := hcb
    clear hp
    go_region_held3 (fun W => W.cell? ⟨w.heap.size, 0, none⟩ = some (.string c.key) ∧ W.cell? ⟨w.heap.size, 2, none⟩ = some (.int .i64 c.page)) (first | go_keep | exact ⟨y0, y2⟩) (first
      | (go_at_call 122; refine (text1 base v xs c.key _ _ (by omega) (by first | exact (ho1.alloc _).drew | exact ((ho1.alloc _).alloc _).drew | exact ho1.alloc _ | exact (ho1.alloc _).alloc _) (by simp; omega) (by omega) (by first | exact newCd hz _ _ | exact newC2ad hz _ _ _ | exact newC2bd hz _ _ _)).mono ?_; rintro e w2 ⟨v2, rfl, ho2, hb2, hk2⟩; have hk2' : Kb W1 w2 := Kb.trans (by first | exact (Kb.alloc _ _).trans (Kb.drew _) | exact ((Kb.alloc _ _).trans (Kb.alloc _ _)).trans (Kb.drew _)) hk2; have hb2' : Below base w w2 := Below.trans (Below.trans hB (by first | exact ((Below.refl base W1).alloc hb1 _).drew | exact (((Below.refl base W1).alloc hb1 _).alloc (by simp; omega) _).drew)) hb2; have y0 := hk2'.cell x0 hxn; have y2 := hk2'.cell x2 hxn; have hs2 := hk2'.size)
      | (go_at_call 113; refine (number1 base v2 (xs ++ encT c.key) c.page _ _ (by omega) (by first | exact ho2 | exact ho2.alloc _) (by first | omega | (simp; omega)) (by simp only [List.length_append]; omega) (by first | exact newC rfl _ _ | exact hk2.cell (newC2ad hz _ _ _) (NoB.drew (nob2a hz _ _ (by decide))) | exact hk2.cell (newC2bd hz _ _ _) (NoB.drew (nob2b hz _ _ (by decide))))).mono ?_; rintro e w3 ⟨v3, rfl, ho3, hb3', hk3'⟩; have hk3 : Kb W1 w3 := hk2'.trans (Kb.trans (by first | exact Kb.refl _ | exact Kb.alloc _ _) hk3'); have hb3 : Below base w w3 := hb2'.trans (Below.trans (by first | exact Below.refl _ _ | exact (Below.refl base w2).alloc (by omega) _) hb3'); have y0 := hk3.cell x0 hxn; have y1 := hk3.cell x1 hxn; have y2 := hk3.cell x2 hxn; have y3 := hk3.cell x3 hxn; have hs3 := hk3.size))
    all_goals
      go_wp2_with (first | (go_at_call 113; refine (number1 base _ _ c.count _ _ (by omega) (ho3.alloc _) (by simp; omega) (by simp only [List.length_append]; omega) (newC rfl _ _)).mono ?_; rintro e w4 ⟨v4, rfl, ho4, hb4, hk4⟩))
      go_ret
      exact ⟨v4, rfl, ho4.cast (by rw [hcb.out]; simp), hb3.trans (((Below.refl base w3).alloc (by omega) _).trans hb4), hK.trans (hk3.trans ((Kb.alloc w3 _).trans hk4))⟩
end
end Go.Proofs.YtdobleekjiehdaaGreat
