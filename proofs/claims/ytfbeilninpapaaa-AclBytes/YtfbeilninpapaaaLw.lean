/- live. -/
import Derived.Test.YtfbeilninpapaaaSm
namespace Go.Proofs.Ytfbeilninpapaaa
set_option linter.unusedVariables false
open Go.RowKit
def sAnn : ByteArray := ⟨#[97, 110, 110]⟩
def sVie : ByteArray := ⟨#[118, 105, 101, 119, 101, 114]⟩
def sX : ByteArray := ⟨#[120]⟩
def lvG : List Gr := [⟨1, sAnn, 2⟩, ⟨2, sX, 3⟩]
theorem live_level : lvL sAnn sVie [] lvG = 2 := by decide +kernel
theorem live_check : ckE lvG = 0 := by decide +kernel
theorem live_bad : ckE [⟨0, ⟨#[]⟩, 0⟩] = 150 := by decide +kernel
theorem live_user : usE sAnn sVie [] = 0 := by decide +kernel
theorem lvG_i : ∀ g ∈ lvG, GrI g := by
  intro g hg
  simp only [lvG, List.mem_cons, List.not_mem_nil, or_false] at hg
  rcases hg with rfl | rfl <;> (unfold GrI; decide)
theorem lvG_r : GrR lvG := by
  intro g hg
  simp only [lvG, List.mem_cons, List.not_mem_nil, or_false] at hg
  rcases hg with rfl | rfl <;> decide
theorem sls_two (w : World) : Grs (w.alloc (.cells #[.int .i64 1, .string ⟨#[97, 110, 110]⟩, .int .i64 2, .int .i64 2, .string ⟨#[120]⟩, .int .i64 3] 52)) (.slice (some ⟨w.heap.size, 0, none⟩) 2 2) lvG := by
  refine ⟨_, 2, rfl, ⟨(fun e => by cases e), Nat.le_refl _⟩, .inr ⟨w.heap.size, 0, rfl, fun t ht i u hu => ?_⟩⟩
  have ht2 : t = 0 ∨ t = 1 := by simp [lvG] at ht; omega
  simp only [World.cell?, heap_new]
  rcases ht2 with rfl | rfl
  · match i, hu with
    | 0, hu => simpa [lvG, eGr, sAnn] using hu
    | 1, hu => simpa [lvG, eGr, sAnn] using hu
    | 2, hu => simpa [lvG, eGr, sAnn] using hu
    | i + 3, hu => simp [lvG, eGr] at hu
  · match i, hu with
    | 0, hu => simpa [lvG, eGr, sX] using hu
    | 1, hu => simpa [lvG, eGr, sX] using hu
    | 2, hu => simpa [lvG, eGr, sX] using hu
    | i + 3, hu => simp [lvG, eGr] at hu
set_option maxRecDepth 100000 in
set_option maxHeartbeats 4000000 in
theorem live_ok (w : World) : Calls Try.prog 8 #[] w fun e w' => e = .returned (.bool true) ∧ Below w.heap.size w w' := by
  obtain ⟨w2, hw2⟩ : ∃ w2, w2 = (w.alloc (.cells #[.string ⟨#[97, 110, 110]⟩, .string ⟨#[118, 105, 101, 119, 101, 114]⟩, .slice none 0 0] 24)).alloc (.cells #[.int .i64 1, .string ⟨#[97, 110, 110]⟩, .int .i64 2, .int .i64 2, .string ⟨#[120]⟩, .int .i64 3] 52) := ⟨_, rfl⟩
  have hb2 : Hid (Below w.heap.size w w2) := by rw [hw2]; exact ((Below.refl _ _).alloc (Nat.le_refl _) _).alloc (by simp) _
  have hs2 : Hid (w2.heap.size = w.heap.size + 2) := by rw [hw2]; show _ = _; simp
  have hg2 : Hid (Grs w2 (.slice (some ⟨w.heap.size + 1, 0, none⟩) 2 2) lvG) := by
    rw [hw2]
    have := sls_two (w.alloc (.cells #[.string ⟨#[97, 110, 110]⟩, .string ⟨#[118, 105, 101, 119, 101, 114]⟩, .slice none 0 0] 24))
    simp only [World.size_alloc] at this
    exact this
  have hc0 : Hid (∀ W, Below w2.heap.size w2 W → W.cell? ⟨w.heap.size, 0, none⟩ = some (.string ⟨#[97, 110, 110]⟩)) := fun W h => (h.cell (p := ⟨w.heap.size, 0, none⟩) (by rw [hs2.out]; show w.heap.size < _; omega)).trans (by rw [hw2]; simp)
  have hc1 : Hid (∀ W, Below w2.heap.size w2 W → W.cell? ⟨w.heap.size, 1, none⟩ = some (.string ⟨#[118, 105, 101, 119, 101, 114]⟩)) := fun W h => (h.cell (p := ⟨w.heap.size, 1, none⟩) (by rw [hs2.out]; show w.heap.size < _; omega)).trans (by rw [hw2]; simp)
  have hc2 : Hid (∀ W, Below w2.heap.size w2 W → W.cell? ⟨w.heap.size, 2, none⟩ = some (.slice none 0 0)) := fun W h => (h.cell (p := ⟨w.heap.size, 2, none⟩) (by rw [hs2.out]; show w.heap.size < _; omega)).trans (by rw [hw2]; simp)
  have hL : Hid (∀ W, Below w2.heap.size w2 W → Calls Try.prog 14 #[.agg #[.string ⟨#[97, 110, 110]⟩, .string ⟨#[118, 105, 101, 119, 101, 114]⟩, .slice none 0 0], .slice (some ⟨w.heap.size + 1, 0, none⟩) 2 2] W fun e w' => e = .returned (.int .i64 2) ∧ Below W.heap.size W w') := fun W h => by
    have := level_any sAnn sVie (.slice none 0 0) [] (.slice (some ⟨w.heap.size + 1, 0, none⟩) 2 2) lvG W (sls_nil _) (by simp) (hg2.out.grow h) (by decide) lvG_i
    rw [live_level] at this
    exact this
  have hM2 : Hid (∀ W, Below w2.heap.size w2 W → Calls Try.prog 16 #[.agg #[.string ⟨#[97, 110, 110]⟩, .string ⟨#[118, 105, 101, 119, 101, 114]⟩, .slice none 0 0], .int .i64 2, .slice (some ⟨w.heap.size + 1, 0, none⟩) 2 2] W fun e w' => e = .returned (.bool true) ∧ Below W.heap.size W w') := fun W h => by
    have := may_any sAnn sVie (.slice none 0 0) [] 2 (.slice (some ⟨w.heap.size + 1, 0, none⟩) 2 2) lvG W (sls_nil _) (by simp) (hg2.out.grow h) (by decide) lvG_i
    rw [live_level] at this
    exact this
  have hM3 : Hid (∀ W, Below w2.heap.size w2 W → Calls Try.prog 16 #[.agg #[.string ⟨#[97, 110, 110]⟩, .string ⟨#[118, 105, 101, 119, 101, 114]⟩, .slice none 0 0], .int .i64 3, .slice (some ⟨w.heap.size + 1, 0, none⟩) 2 2] W fun e w' => e = .returned (.bool false) ∧ Below W.heap.size W w') := fun W h => by
    have := may_any sAnn sVie (.slice none 0 0) [] 3 (.slice (some ⟨w.heap.size + 1, 0, none⟩) 2 2) lvG W (sls_nil _) (by simp) (hg2.out.grow h) (by decide) lvG_i
    rw [live_level] at this
    exact this
  have hC : Hid (∀ W, Below w2.heap.size w2 W → Calls Try.prog 10 #[.slice (some ⟨w.heap.size + 1, 0, none⟩) 2 2] W fun e w' => e = .returned (.int .i64 0) ∧ Below W.heap.size W w') := fun W h => by
    have := check_any (.slice (some ⟨w.heap.size + 1, 0, none⟩) 2 2) lvG W (hg2.out.grow h) (by decide) lvG_r
    rw [live_check] at this
    exact this
  have hC0 : Hid (∀ W : World, Calls Try.prog 10 #[.slice (some ⟨W.heap.size, 0, none⟩) 1 1] (W.alloc (.cells #[.int .i64 0, .string ⟨#[]⟩, .int .i64 0] 52)) fun e w' => e = .returned (.int .i64 150) ∧ Below (W.alloc (.cells #[.int .i64 0, .string ⟨#[]⟩, .int .i64 0] 52)).heap.size (W.alloc (.cells #[.int .i64 0, .string ⟨#[]⟩, .int .i64 0] 52)) w') := fun W => by
    have := check_any (.slice (some ⟨W.heap.size, 0, none⟩) 1 1) [⟨0, ⟨#[]⟩, 0⟩] (W.alloc (.cells #[.int .i64 0, .string ⟨#[]⟩, .int .i64 0] 52)) (sls_one W _ _ _ rfl) (by simp) (by intro g hg; simp at hg; subst hg; decide)
    rw [live_bad] at this
    exact this
  have hU : Hid (∀ W, Calls Try.prog 12 #[.agg #[.string ⟨#[97, 110, 110]⟩, .string ⟨#[118, 105, 101, 119, 101, 114]⟩, .slice none 0 0]] W fun e w' => e = .returned (.int .i64 0) ∧ Below W.heap.size W w') := fun W => by
    have := user_any sAnn sVie (.slice none 0 0) [] W (sls_nil _) (by simp) (by decide) (by intro s hs; cases hs)
    rw [live_user] at this
    exact this
  have hnum := num_any
  have hB2r : Below w2.heap.size w2 ((w.alloc (.cells #[.string ⟨#[97, 110, 110]⟩, .string ⟨#[118, 105, 101, 119, 101, 114]⟩, .slice none 0 0] 24)).alloc (.cells #[.int .i64 1, .string ⟨#[97, 110, 110]⟩, .int .i64 2, .int .i64 2, .string ⟨#[120]⟩, .int .i64 3] 52)) := by rw [← hw2]; exact Below.refl _ _
  replace hw2 : Hid _ := hw2
  replace hB2r : Hid (Below w2.heap.size w2 ((w.alloc (.cells #[.string ⟨#[97, 110, 110]⟩, .string ⟨#[118, 105, 101, 119, 101, 114]⟩, .slice none 0 0] 24)).alloc (.cells #[.int .i64 1, .string ⟨#[97, 110, 110]⟩, .int .i64 2, .int .i64 2, .string ⟨#[120]⟩, .int .i64 3] 52))) := hB2r
  have t1 : True := trivial
  have t2 : True := trivial
  go_enter Try.func8, Try.ntmps8
  go_wp2_with (first
    | (go_at_call 14; refine (hL.out _ hB2r.out).mono ?_; rintro e w3 ⟨rfl, hb3⟩; have hB3 := hB2r.out.trans (hb3.mono hB2r.out.size); have c30 := hc0.out _ hB3; have c31 := hc1.out _ hB3; have c32 := hc2.out _ hB3; replace hB3 : Hid (Below w2.heap.size w2 w3) := hB3; replace hb3 : Hid _ := hb3)
    | (go_at_call 16; have _t := t1; refine (hM2.out _ hB3.out).mono ?_; rintro e w4 ⟨rfl, hb4⟩; clear t1; have hB4 := hB3.out.trans (hb4.mono hB3.out.size); have c40 := hc0.out _ hB4; have c41 := hc1.out _ hB4; have c42 := hc2.out _ hB4; replace hB4 : Hid (Below w2.heap.size w2 w4) := hB4; replace hb4 : Hid _ := hb4)
    | (go_at_call 16; refine (hM3.out _ hB4.out).mono ?_; rintro e w5 ⟨rfl, hb5⟩; have hB5 := hB4.out.trans (hb5.mono hB4.out.size); have c50 := hc0.out _ hB5; have c51 := hc1.out _ hB5; have c52 := hc2.out _ hB5; replace hB5 : Hid (Below w2.heap.size w2 w5) := hB5; replace hb5 : Hid _ := hb5)
    | (go_at_call 10; have _t := t2; refine (hC.out _ hB5.out).mono ?_; rintro e w6 ⟨rfl, hb6⟩; clear t2; have hB6 := hB5.out.trans (hb6.mono hB5.out.size); replace hB6 : Hid (Below w2.heap.size w2 w6) := hB6; replace hb6 : Hid _ := hb6)
    | (go_at_call 9; refine (hnum _ _).mono ?_; rintro e wx ⟨rfl, hwx⟩; subst wx)
    | (go_at_call 10; refine (hC0.out _).mono ?_; rintro e w7 ⟨rfl, hb7⟩; have hB7 := (hB6.out.alloc hB6.out.size _).trans (hb7.mono (by simp; exact Nat.le_succ_of_le hB6.out.size)); have c70 := hc0.out _ hB7; have c71 := hc1.out _ hB7; have c72 := hc2.out _ hB7; replace hB7 : Hid (Below w2.heap.size w2 w7) := hB7; replace hb7 : Hid _ := hb7)
    | (go_at_call 12; refine (hU.out _).mono ?_; rintro e w8 ⟨rfl, hb8⟩; have hB8 := hB7.out.trans (hb8.mono hB7.out.size); replace hB8 : Hid (Below w2.heap.size w2 w8) := hB8; replace hb8 : Hid _ := hb8))
  go_ret
  exact ⟨rfl, hb2.out.trans (hB8.out.mono hb2.out.size)⟩
end Go.Proofs.Ytfbeilninpapaaa
