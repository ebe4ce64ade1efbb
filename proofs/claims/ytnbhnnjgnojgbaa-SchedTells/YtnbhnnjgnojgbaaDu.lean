/- Due 16, under a contract of the sort; the sort of one or none. -/
import Derived.Test.YtnbhnnjgnojgbaaSm
namespace Go.Proofs.Ytnbhnnjgnojgbaa
set_option linter.unusedVariables false
open Go.RowKit
set_option maxRecDepth 100000 in
set_option maxHeartbeats 1000000 in
theorem ins_none (v f : Value) (a b : Nat) (w : World) (h : b ≤ a + 1) (ha : a ≤ 1000000) : Calls Try.prog 30 #[v, .int .i64 a, .int .i64 b, f] w fun e w' => e = .returned (.tuple #[]) ∧ w' = w := by
  have h2 : ¬ (a : Int) + 1 < (b : Int) := by omega
  have h3 : IntKind.i64.wrap ((a : Int) + 1) = (a : Int) + 1 := Go.IntWalk.i64_in _ (by omega)
  go_enter Try.func30, Try.ntmps30
  go_wp2
  refine wp_loop_rounds 1 ?_
  rw [rounds_succ]
  go_wp2
  go_end0
  exact ⟨rfl, rfl⟩
set_option maxRecDepth 100000 in
set_option maxHeartbeats 1000000 in
theorem stable_tiny (a : Option Addr) (n c : Nat) (f : Value) (w : World) (hn : n ≤ 1) : Calls Try.prog 27 #[.slice a n c, .int .i64 n, f] w fun e w' => e = .returned (.tuple #[]) ∧ w' = w := by
  have h1 : ¬ (20 : Int) ≤ (n : Int) := by omega
  have h3 : ¬ (20 : Int) < (n : Int) := by omega
  have hi := ins_none (.slice a n c) f 0 n w (by omega) (by omega)
  go_enter Try.func27, Try.ntmps27
  go_wp2
  refine wp_loop_rounds 1 ?_
  rw [rounds_succ]
  go_wp2_with (go_at_call 30; refine hi.mono ?_; rintro e wx ⟨rfl, hwx⟩; subst wx)
  refine wp_loop_rounds 1 ?_
  rw [rounds_succ]
  go_wp2
  go_end0
  exact ⟨rfl, rfl⟩
set_option maxRecDepth 100000 in
set_option maxHeartbeats 1000000 in
/-- The sort of a row of one or none. -/
theorem sort_tiny (a : Option Addr) (n c : Nat) (f : Value) (w : World) (hn : n ≤ 1) : Calls Try.prog 21 #[.slice a n c, f] w fun e w' => e = .returned (.tuple #[]) ∧ w' = w := by
  have hs := stable_tiny a n c f w hn
  go_enter Try.func21, Try.ntmps21
  go_wp2_with (go_at_call 27; refine hs.mono ?_; rintro e wx ⟨rfl, hwx⟩; subst wx)
  go_end0
  exact ⟨rfl, rfl⟩
def dueL (now : Int) (l : List Jb) : List Jb := l.filter fun j => isB j now
theorem dueL_snoc (now : Int) (l : List Jb) (k : Nat) (h : k < l.length) : dueL now (l.take (k + 1)) = if isB (l.getD k jb0) now = true then dueL now (l.take k) ++ [l.getD k jb0] else dueL now (l.take k) := by
  unfold dueL
  rw [take_getD l jb0 k h, List.filter_append, List.filter_cons]
  split <;> simp
theorem dueL_len (now : Int) (l : List Jb) : (dueL now l).length ≤ l.length := List.length_filter_le _ _
set_option maxRecDepth 100000 in
set_option maxHeartbeats 1000000 in
theorem due_any (R : List Jb → Prop) (v : Value) (l : List Jb) (now : Int) (w : World) (hv : Jbs w v l) (hok : ∀ j ∈ l, Ok j) (hl : l.length ≤ 100000) (h0 : -1 ≤ now) (h1 : now ≤ 4398046511104)
    (hsort : ∀ (W : World) (u : Value), OwnS TJ W w.heap.size u (dueL now l) → Below w.heap.size w W → Calls Try.prog 21 #[u, .func (.func 22) #[] #[]] W fun e w' => e = .returned (.tuple #[]) ∧ ∃ D, R D ∧ OwnS TJ w' w.heap.size u D ∧ Below w.heap.size w w') :
    Calls Try.prog 16 #[.int .i64 now, v] w fun e w' => ∃ y D, e = .returned y ∧ R D ∧ OwnS TJ w' w.heap.size y D ∧ Below w.heap.size w w' := by
  obtain ⟨va, vc, rfl⟩ := hv.shape
  have hI := fun j W (h : Ok j) => isDue20 j now W h h0 h1
  unfold encJ at hI
  replace hsort : Hid _ := hsort
  go_enter Try.func16, Try.ntmps16
  go_wp2
  go_loopw [5, 10] (fun mv i wr => ∃ k : Nat, k ≤ l.length ∧ i = .int .i64 k ∧ Hid (OwnS TJ wr w.heap.size mv (dueL now (l.take k))) ∧ Hid (Below w.heap.size w wr)) (fun _ i _ => l.length - (intOf i).toNat)
  case atStart => exact ⟨0, Nat.zero_le _, rfl, OwnS.nil _ _, Below.refl _ _⟩
  case round =>
    obtain ⟨k, hk, rfl, hO, hB⟩ := hrel
    by_cases hlt : k < l.length
    · have hki : (k : Int) < (l.length : Int) := by omega
      obtain ⟨b, o, rfl, hat⟩ := jb_at (Sls.grow hv hB.out) k hlt
      obtain ⟨y0, y1, y2, y3, y4, y5, y6⟩ := at_jb hat
      have hokj := hok _ (getD_mem l jb0 k hlt)
      have hsn : Hid _ := dueL_snoc now l k hlt
      have hln : Hid ((dueL now (l.take k)).length ≤ 100000) := by show _ ≤ _; have := dueL_len now (l.take k); rw [List.length_take] at this; omega
      clear hat
      generalize l.getD k jb0 = j at *
      have hI2 := fun W => hI j W hokj
      have hJ := jNew wr j
      have hB1 : Below w.heap.size w (wr.alloc (jO j)) := hB.out.alloc hB.out.size _
      have hO1 : Hid (OwnS TJ (wr.alloc (jO j)) w.heap.size u5 (dueL now (l.take k))) := OwnS.alloc hO.out _
      unfold jO at hJ hB1 hO1
      obtain ⟨j0, j1, j2, j3, j4, j5, j6⟩ := JAt.cells hJ
      clear hI
      generalize hib : isB j now = ib at *
      cases ib with
      | true =>
        rw [if_pos rfl] at hsn
        go_wp2_with (first
          | (go_at_call 20; refine (hI2 _).mono ?_; rintro e w3 ⟨rfl, hb3⟩; have hJ3 := hJ.grow hb3; obtain ⟨z0, z1, z2, z3, z4, z5, z6⟩ := hJ3.cells; have hO3 : Hid (OwnS TJ w3 w.heap.size u5 (dueL now (l.take k))) := OwnS.stay hO1.out hb3; have hB3 : Hid (Below w.heap.size w w3) := hB1.trans (hb3.mono hB1.size))
          | (at_builtin; refine appR TJ rfl (.tmp 17) (.tmp 19) rfl w.heap.size u5 (.slice (some ⟨w3.heap.size, 0, none⟩) 1 1) (dueL now (l.take k)) [j] rfl rfl (OwnS.alloc hO3.out _) (sls_one w3 _ _ _ rfl) (by have := hB3.out.size; simp; omega) (by have := hln.out; simp; omega) ?_; intro v5 w5 ho5 hg5))
        have hBA : Below w.heap.size w (w3.alloc (jO j)) := hB3.out.alloc hB3.out.size _
        refine ⟨⟨k + 1, by omega, by go_num, (show OwnS TJ w5 w.heap.size v5 (dueL now (l.take (k + 1))) from hsn.out ▸ ho5), hBA.trans (OwnS.grows (OwnS.alloc hO3.out (jO j)) hBA.size hg5)⟩, ?_⟩
        simp [intOf]; omega
      | false =>
        rw [if_neg (by decide)] at hsn
        go_wp2_with (go_at_call 20; refine (hI2 _).mono ?_; rintro e w3 ⟨rfl, hb3⟩)
        refine ⟨⟨k + 1, by omega, by go_num, (show OwnS TJ w3 w.heap.size u5 (dueL now (l.take (k + 1))) from hsn.out ▸ OwnS.stay hO1.out hb3), hB1.trans (hb3.mono hB1.size)⟩, ?_⟩
        simp [intOf]; omega
    · obtain rfl : k = l.length := by omega
      have hki : ¬ (l.length : Int) < (l.length : Int) := by omega
      rw [List.take_of_length_le (Nat.le_refl _)] at hO
      have hS := hsort.out wr u5 hO.out hB.out
      obtain ⟨ma, mc, hm⟩ := hO.out.shape
      subst hm
      go_wp2_with (go_at_call 21; refine hS.mono ?_; rintro e w3 ⟨rfl, D, hR, hO3, hB3⟩)
      go_ret
      exact ⟨_, D, rfl, hR, hO3, hB3⟩
end Go.Proofs.Ytnbhnnjgnojgbaa
