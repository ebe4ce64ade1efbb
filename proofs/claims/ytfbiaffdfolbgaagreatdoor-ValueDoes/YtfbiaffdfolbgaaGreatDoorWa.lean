/- The document's Digits. -/
import Derived.Test.YtfbiaffdfolbgaaGreatDoorVa4
import Derived.Laws.DeepStrings4
namespace Go.Proofs.YtfbiaffdfolbgaaGreatDoor
set_option linter.unusedVariables false
open Go.RowKit
attribute [local go_sem ↓] Go.wp_at_zero Go.wp_at_succ
/-- The ten digits. -/
def B10 : ByteArray := ⟨#[48, 49, 50, 51, 52, 53, 54, 55, 56, 57]⟩
theorem b10_at (n : Nat) (h : n < 10) : B10.extract n (n + 1) = bOf [48 + (n : Int)] := by
  have : n = 0 ∨ n = 1 ∨ n = 2 ∨ n = 3 ∨ n = 4 ∨ n = 5 ∨ n = 6 ∨ n = 7 ∨ n = 8 ∨ n = 9 := by omega
  rcases this with rfl | rfl | rfl | rfl | rfl | rfl | rfl | rfl | rfl | rfl <;> rfl
theorem b10_run (n : Nat) (h : n < 10) (W : World) : (Instr.slice 9 (.string ⟨#[48, 49, 50, 51, 52, 53, 54, 55, 56, 57]⟩) (some (.int .i64 (n : Int))) (some (.int .i64 ((n : Int) + 1))) none).run Tryz.prog W = .ok (.string (bOf [48 + (n : Int)])) W := by
  have e := run_slice_string_if (P := Tryz.prog) (w := W) 9 B10 .i64 .i64 (n : Int) ((n : Int) + 1) Tryz.underlying9
  rw [if_pos ⟨by omega, by show (n : Int) + 1 ≤ 10; omega⟩, if_pos ⟨by omega, by omega⟩] at e
  have e2 : ((n : Int) + 1).toNat = n + 1 := by omega
  rw [e2, Int.toNat_natCast, b10_at n h] at e
  exact e
set_option maxRecDepth 100000 in
set_option maxHeartbeats 1000000 in
theorem rdigits_any : ∀ (n : Nat) (w : World), n ≤ 1000000000000000 → Calls Tryz.prog 44 #[.int .i64 (n : Int)] w fun e w' => e = .returned (.string (bOf (dec n))) ∧ Below w.heap.size w w' := by
  intro n
  induction n using Nat.strongRecOn with
  | _ n ih =>
    intro w hn
    by_cases h : n < 10
    · have hr := fun W => b10_run n h W
      have e : bOf (dec n) = bOf [48 + (n : Int)] := by rw [dec_lt h]
      rw [e]
      generalize bOf [48 + (n : Int)] = D at *
      have hi : (n : Int) < 10 := by omega
      clear ih e h
      go_enter Tryz.func44, Tryz.ntmps44
      go_wp2
      go_ret
      exact ⟨rfl, Below.refl _ _⟩
    · have hq := ih (n / 10) (by omega)
      obtain ⟨q, eq'⟩ : ∃ q, Hid (q = n / 10) := ⟨_, rfl⟩
      obtain ⟨r, er'⟩ : ∃ r, Hid (r = n % 10) := ⟨_, rfl⟩
      have eqi : (n : Int) / 10 = (q : Int) := by have := eq'.out; omega
      have eri : (n : Int) % 10 = (r : Int) := by have := er'.out; omega
      have hrb : r < 10 := by have := er'.out; omega
      have e : bOf (dec n) = bOf (dec q) ++ bOf [48 + (r : Int)] := by rw [dec_ge (by omega), bOf_append, eq'.out, er'.out]
      rw [e]
      rw [← eq'.out] at hq
      have hlen : (bOf (dec q)).size ≤ 16 := by rw [bOf_size]; exact dec_len 15 q (by have := eq'.out; omega)
      have hlen2 : (bOf [48 + (r : Int)]).size ≤ 1 := by rw [bOf_size]; exact Nat.le_refl 1
      have hs1 : ¬ ((bOf (dec q)).size + (bOf [48 + (r : Int)]).size > 9223372036854775807) := by omega
      have hs2 : (bOf (dec q)).size + (bOf [48 + (r : Int)]).size ≤ 9223372036854775807 := by omega
      have hcat := fun W : World => run_string_add_sum (P := Tryz.prog) W (bOf (dec q)) (bOf [48 + (r : Int)]) hs2
      have hqb : q ≤ 1000000000000000 := by have := eq'.out; omega
      have hr := fun W => b10_run r hrb W
      generalize bOf (dec q) = D1 at *
      generalize bOf [48 + (r : Int)] = D2 at *
      have hi : ¬ (n : Int) < 10 := by omega
      have hw1 : IntKind.i64.wrap ((r : Int) + 1) = (r : Int) + 1 := by rw [IntKind.wrap_i64]; omega
      have hwq : IntKind.i64.wrap (q : Int) = (q : Int) := by rw [IntKind.wrap_i64]; omega
      have etm : (n : Int).tmod 10 = (r : Int) := by rw [Int.tmod_eq_emod_of_nonneg (by omega)]; exact eri
      have hB : Below w.heap.size w w.drew := (Below.refl _ _).drew
      clear ih e h eq' er'
      go_enter Tryz.func44, Tryz.ntmps44
      go_wp2
      go_region_held3 (fun _ => True) (trivial) (first | (go_at_call 44; with_reducible refine (hq _ hqb).mono ?_; rintro e w2 ⟨rfl, hb2⟩; replace hB := hB.trans (hb2.mono hB.size)))
      all_goals
        go_wp2
        go_ret
        exact ⟨rfl, hB⟩
end Go.Proofs.YtfbiaffdfolbgaaGreatDoor
