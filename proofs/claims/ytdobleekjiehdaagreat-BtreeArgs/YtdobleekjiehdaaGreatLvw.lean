/- live. -/
import Derived.Test.YtdobleekjiehdaaGreatLve
namespace Go.Proofs.YtdobleekjiehdaaGreat
set_option linter.unusedVariables false
open Go.RowKit Go.Maps Go.Sort Go.Shelf
section
variable {w : World} {m most size : Nat} {ps : List ByteArray}
theorem Prs.kl {W : World} {base : Nat} {v : Value} {l : List (ByteArray × ByteArray)} (h : Prs w base v l) (hk : Kl m w W) (hm : IsMem w m ps most size) : Prs W base v l := by
  refine ⟨h.1, ?_⟩
  rcases h.2 with h2 | ⟨g, cap, cur, e, hb, hg, rest⟩
  · exact .inl h2
  · exact .inr ⟨g, cap, cur, e, hb, hk.cells hm hg (by decide) (by decide), rest⟩
set_option maxRecDepth 100000 in
theorem num_any (z : Int) : Calls Tryz.prog 14 #[.int .i64 z] w fun e w' => e = .returned (.int .i64 z) ∧ w = w' := by
  go_enter Tryz.func14, Tryz.ntmps14
  go_wp2_with fail
  go_ret
  exact ⟨rfl, rfl⟩
theorem ba (w : World) (o : Obj) : Below w.heap.size w (w.alloc o) := (Below.refl _ w).alloc (Nat.le_refl _) _
set_option maxRecDepth 100000 in
set_option maxHeartbeats 8000000 in
theorem live_ok : Calls Tryz.prog 11 #[] w fun e w' => e = .returned (.bool true) ∧ Below w.heap.size w w' := by
  have hm1 := isMem_new (w := w) 100 480
  have hp1 := put_b hm1
  go_enter Tryz.func11, Tryz.ntmps11
  go_wp2_with (first
    | (go_at_call 26; refine hp1.mono ?_; rintro e w2 ⟨a2, c2, rfl, hm2, hk2⟩; clear hp1; have hm2' := hm2.grow (ba w2 (.cells #[.int .i64 1, .int .i64 1, .int .i64 1] 31)); have hp2 := put_a hm2')
    | (go_at_call 26; refine hp2.mono ?_; rintro e w3 ⟨a3, c3, rfl, hm3, hk3⟩; clear hp2; have hb3 := heap_alloc_new w3 (.cells #[.int .i64 2, .int .i64 2, .int .i64 1] 31); have hm3' := hm3.grow (ba w3 (.cells #[.int .i64 2, .int .i64 2, .int .i64 1] 31)); have hs4 := scan_ab hm3')
    | (go_at_call 18; refine hs4.mono ?_; rintro e w4 ⟨v4, rfl, hpr4, hbl4⟩; obtain ⟨aR, nR, cR, rfl⟩ := hpr4.shape; have hb4 := (hbl4.block _ (lt_of_block hb3)).trans hb3; obtain ⟨x0, x1, x2⟩ := cells3 hb4; have hm4 := hm3'.grow hbl4; have hg5 := get_a hm4)
    | (go_at_call 16; refine hg5.mono ?_; rintro e w5 ⟨rfl, hbl5⟩; have hb5 := (hbl5.block _ (lt_of_block hb4)).trans hb4; obtain ⟨y0, y1, y2⟩ := cells3 hb5; have hm5 := hm4.grow hbl5; have hpr5 := hpr4.grow hbl5; have hd6 := del_a hm5)
    | (go_at_call 27; refine hd6.mono ?_; rintro e w6 ⟨a6, c6, rfl, hm6, hk6⟩; clear hd6; have hb6 := ((ba w6 (.cells #[.int .i64 3, .int .i64 1, .int .i64 1] 31)).block _ (lt_of_block (hk6.cells hm5 hb5 (by decide) (by decide)))).trans (hk6.cells hm5 hb5 (by decide) (by decide)); have hpr6 := (hpr5.kl hk6 hm5).grow (ba w6 (.cells #[.int .i64 3, .int .i64 1, .int .i64 1] 31)); have hm6' := hm6.grow (ba w6 (.cells #[.int .i64 3, .int .i64 1, .int .i64 1] 31)); have hd7 := del_b hm6')
    | (go_at_call 27; refine hd7.mono ?_; rintro e w7 ⟨a7, c7, rfl, hm7, hk7⟩; clear hd7; have hb7 := ((ba w7 (.cells #[.int .i64 0, .int .i64 0, .int .i64 0] 31)).block _ (lt_of_block (hk7.cells hm6' hb6 (by decide) (by decide)))).trans (hk7.cells hm6' hb6 (by decide) (by decide)); have hpr7 := (hpr6.kl hk7 hm6').grow (ba w7 (.cells #[.int .i64 0, .int .i64 0, .int .i64 0] 31)); have hd7 := heap_alloc_new w7 (.cells #[.int .i64 0, .int .i64 0, .int .i64 0] 31); have hm7' := hm7.grow (ba w7 (.cells #[.int .i64 0, .int .i64 0, .int .i64 0] 31)); obtain ⟨z0, z1, z2⟩ := cells3 hb7; have hp8 := put_bad hm7' (by omega) 2 2 1 ⟨#[]⟩)
    | (go_at_call 26; refine hp8.mono ?_; rintro e w8 ⟨rfl, hbl8⟩; have hb8 := (hbl8.block _ (lt_of_block hb7)).trans hb7; have hd8 := (hbl8.block _ (lt_of_block hd7)).trans hd7; have hpr8 := hpr7.grow hbl8; have hB9 := ba w8 (Obj.cells #[.int .i64 0, .int .i64 0, .int .i64 0] 31); have hb9 := (hB9.block _ (lt_of_block hb8)).trans hb8; have u1 := (cells3 hb9).2.1; have hX := ba (w8.alloc (Obj.cells #[.int .i64 0, .int .i64 0, .int .i64 0] 31)) (Obj.cells #[.string ⟨#[97]⟩, .string ⟨#[49]⟩, .string ⟨#[98]⟩, .string ⟨#[50]⟩] 66); have hS := same_ok (w := (w8.alloc (Obj.cells #[.int .i64 0, .int .i64 0, .int .i64 0] 31)).alloc (Obj.cells #[.string ⟨#[97]⟩, .string ⟨#[49]⟩, .string ⟨#[98]⟩, .string ⟨#[50]⟩] 66)) (.slice aR nR cR) (.slice (some ⟨(w8.alloc (Obj.cells #[.int .i64 0, .int .i64 0, .int .i64 0] 31)).heap.size, 0, none⟩) 2 2) (prsOf [cA, cB]) (by simp [prsOf]) (((hpr8.grow hB9).grow hX).read) (PrR.of_block (l := prsOf [cA, cB]) (c := 2) (heap_alloc_new (w8.alloc (Obj.cells #[.int .i64 0, .int .i64 0, .int .i64 0] 31)) (Obj.cells #[.string ⟨#[97]⟩, .string ⟨#[49]⟩, .string ⟨#[98]⟩, .string ⟨#[50]⟩] 66)) rfl); rw [World.size_alloc] at hS)
    | (go_at_call 14; refine (num_any _).mono ?_; rintro e wn ⟨rfl, hwn⟩; subst wn)
    | (go_at_call 19; refine hS.mono ?_; rintro e w9 ⟨rfl, hbl9⟩; have hd9 := (hbl9.block _ (by simp; have := lt_of_block hd8; omega)).trans ((hX.block _ (by simp; have := lt_of_block hd8; omega)).trans ((hB9.block _ (lt_of_block hd8)).trans hd8)); obtain ⟨o0, o1, o2⟩ := cells3 hd9))
  go_ret
  have z2 := hk2.size
  have z3 := hk3.size
  have z4 := hbl4.size
  have z5 := hbl5.size
  have z6 := hk6.size
  have z7 := hk7.size
  have z8 := hbl8.size
  have zX := hX.size
  simp only [World.size_alloc] at z2 z3 z4 z5 z6 z7 z8 zX
  have q1 : Below w.heap.size w w2 := (ba w _).trans (hk2.below (by simp))
  have q2 : Below w.heap.size w2 w3 := ((ba w2 _).mono (by omega)).trans (hk3.below (by simp; omega))
  have q3 : Below w.heap.size w3 w4 := ((ba w3 _).mono (by omega)).trans (hbl4.mono (by simp; omega))
  have q4 : Below w.heap.size w4 w5 := hbl5.mono (by omega)
  have q5 : Below w.heap.size w5 w6 := hk6.below (by omega)
  have q6 : Below w.heap.size w6 w7 := ((ba w6 _).mono (by omega)).trans (hk7.below (by simp; omega))
  have q7 : Below w.heap.size w7 w8 := ((ba w7 _).mono (by omega)).trans (hbl8.mono (by simp; omega))
  have q8 : Below w.heap.size w8 w9 := ((ba w8 _).mono (by omega)).trans ((hX.mono (by simp; omega)).trans (hbl9.mono (by simp; omega)))
  exact ⟨rfl, ((((((q1.trans q2).trans q3).trans q4).trans q5).trans q6).trans q7).trans q8⟩
end
end Go.Proofs.YtdobleekjiehdaaGreat
