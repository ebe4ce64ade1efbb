/- The contract of a strip's Text. -/
import Derived.Test.YtfbeilninpapaaaTake
namespace Go.Proofs.Ytfbeilninpapaaa
open Go.RowKit
set_option maxRecDepth 100000 in
theorem text1_any (most : Int) (q : Nat) (bs : List Int) (v : Value) (w : World) (h1 : -9223372036854775808 ≤ most) (h2 : most ≤ 9223372036854775807) (hq : w.cell? ⟨q, 0, none⟩ = some (.int .i64 most)) (hby : IsBytes bs) (hlen : bs.length ≤ 1000000000) (hb : Bts w v bs) :
    Calls Try.prog 60 #[v, .pointer (some ⟨q, 0, none⟩)] w fun e w' => e = .returned (.tuple #[.string (strOfNums (rdT most.toNat bs).1), .int .i64 (rdT most.toNat bs).2.1, .int .i64 (rdT most.toNat bs).2.2]) ∧ w' = w := by
  have hR := readText_any most.toNat bs v w (by omega) hby hlen hb
  by_cases hm : most < 0
  · have hmax : max most 0 = 0 := by omega
    have ht : most.toNat = 0 := by omega
    rw [ht] at hR ⊢
    generalize rdT 0 bs = R at hR
    obtain ⟨l, sz, er⟩ := R
    go_enter Try.func60, Try.ntmps60
    go_wp2_with (go_at_call 61; refine hR.mono ?_; rintro e w' ⟨rfl, hw'⟩; subst w')
    go_ret3
    exact ⟨rfl, rfl⟩
  · obtain ⟨k, rfl⟩ : ∃ k : Nat, most = k := ⟨most.toNat, by omega⟩
    have hmax : max (k : Int) 0 = k := by omega
    rw [Int.toNat_natCast] at hR ⊢
    generalize rdT k bs = R at hR
    obtain ⟨l, sz, er⟩ := R
    go_enter Try.func60, Try.ntmps60
    go_wp2_with (go_at_call 61; refine hR.mono ?_; rintro e w' ⟨rfl, hw'⟩; subst w')
    go_ret3
    exact ⟨rfl, rfl⟩

theorem rdT_bounds (most : Nat) (bs : List Int) : (rdT most bs).2.1 ≤ 0 + bs.length := by
  have := rdN_bounds bs true 0 0 (by omega)
  unfold rdT
  split
  · split
    · simp
    · split
      · simp
      · rename_i h; rw [List.length_drop] at h; simp only; omega
  · simp
set_option maxRecDepth 100000 in
set_option maxHeartbeats 2000000 in
theorem stripText_ok (lo g : Nat) (bs : List Int) (pl : Nat) (most : Int) (w : World) (h1 : -9223372036854775808 ≤ most) (h2 : most ≤ 9223372036854775807) (hs : IsStrip w lo g bs pl 0) (hby : IsBytes bs) (hlen : bs.length ≤ 1000000000) :
    Calls Try.prog 50 #[.pointer (some ⟨g, 0, none⟩), .int .i64 most] w fun e w' => e = .returned (.string (strOfNums (nextV [] 0 (rdT most.toNat (bs.drop pl))))) ∧ IsStrip w' lo g bs (nextP pl 0 (rdT most.toNat (bs.drop pl))) (nextE 0 (rdT most.toNat (bs.drop pl))) ∧ w.grownBy w' (some g) := by
  have hs0 := hs
  have hlt := hs.lt
  obtain ⟨a, n, c, hg, hb, hk, hpl⟩ := hs
  have q0 : w.cell? ⟨g, 0, none⟩ = some (.slice a n c) := (strip_cells hg 0 _ rfl).1
  have q1 : w.cell? ⟨g, 1, none⟩ = some (.int .i64 pl) := (strip_cells hg 1 _ rfl).1
  have q2 : w.cell? ⟨g, 2, none⟩ = some (.int .i64 0) := (strip_cells hg 2 _ rfl).1
  have f1 := (strip_cells hg 1 _ rfl).2
  have f2 := (strip_cells hg 2 _ rfl).2
  obtain ⟨v2, hrun, hb2, _⟩ := slice_from hb pl hpl
  have hdl : (bs.drop pl).length = bs.length - pl := List.length_drop
  have hBA : Below w.heap.size w (w.alloc (.cells #[.int .i64 most] 3)) := (Below.refl _ _).alloc (Nat.le_refl _) _
  have hR := fun n => text1_any most w.heap.size (bs.drop pl) v2 ((w.alloc (.cells #[.int .i64 most] 3)).drewN n) h1 h2 (by simp) (hby.drop pl) (by omega) (hb2.grow (below_drewN hBA n))
  have hbd := rdT_bounds most.toNat (bs.drop pl)
  generalize rdT most.toNat (bs.drop pl) = R at hR hbd
  obtain ⟨m, sz, er⟩ := R
  simp only at hR hbd
  clear hb hb2 hk hg
  by_cases he : er = 0
  · subst he
    go_enter Try.func50, Try.ntmps50
    go_wp2
    go_quiet ((go_at_call 60; exact Calls.quiet_of_same (hR _)))
    go_wp2
    go_ret
    refine ⟨rfl, ?_⟩
    exact strip_move hs0 (below_drewN hBA _) (pl + sz) (by omega) _ (by omega)
  · have hee : (er == 0) = false := by simpa using he
    have hv : nextV [] 0 (m, sz, er) = [] := by simp [nextV, he]
    have hp : nextP pl 0 (m, sz, er) = pl := by simp [nextP, he]
    rw [hv, hp]
    go_enter Try.func50, Try.ntmps50
    go_wp2
    go_quiet ((go_at_call 60; exact Calls.quiet_of_same (hR _)))
    go_wp2
    go_ret
    refine ⟨rfl, ?_⟩
    exact strip_fail hs0 (below_drewN hBA _) er
set_option maxRecDepth 100000 in
theorem stripText_bad (lo g : Nat) (bs : List Int) (pl : Nat) (err most : Int) (w : World) (hs : IsStrip w lo g bs pl err) (he : err ≠ 0) :
    Calls Try.prog 50 #[.pointer (some ⟨g, 0, none⟩), .int .i64 most] w fun e w' => e = .returned (.string ⟨#[]⟩) ∧ w' = w.alloc (.cells #[.int .i64 most] 3) := by
  have hlt := hs.lt
  obtain ⟨a, n, c, hg, hb, hk, hpl⟩ := hs
  have q2 : w.cell? ⟨g, 2, none⟩ = some (.int .i64 err) := (strip_cells hg 2 _ rfl).1
  have hee : (err == 0) = false := by simpa using he
  have hef : ¬ err = 0 := he
  clear hb hg he
  go_enter Try.func50, Try.ntmps50
  go_wp2
  go_ret
  exact ⟨rfl, rfl⟩
theorem stripText_any (lo g : Nat) (bs : List Int) (pl : Nat) (err most : Int) (w : World) (h1 : -9223372036854775808 ≤ most) (h2 : most ≤ 9223372036854775807) (hs : IsStrip w lo g bs pl err) (hby : IsBytes bs) (hlen : bs.length ≤ 1000000000) :
    Calls Try.prog 50 #[.pointer (some ⟨g, 0, none⟩), .int .i64 most] w fun e w' => e = .returned (.string (strOfNums (nextV [] err (rdT most.toNat (bs.drop pl))))) ∧ IsStrip w' lo g bs (nextP pl err (rdT most.toNat (bs.drop pl))) (nextE err (rdT most.toNat (bs.drop pl))) ∧ w.grownBy w' (some g) := by
  by_cases he : err = 0
  · subst he; exact stripText_ok lo g bs pl most w h1 h2 hs hby hlen
  · refine (stripText_bad lo g bs pl err most w hs he).mono ?_
    rintro e w' ⟨rfl, rfl⟩
    have hv : nextV [] err (rdT most.toNat (bs.drop pl)) = [] := by simp [nextV, he]
    have hp : nextP pl err (rdT most.toNat (bs.drop pl)) = pl := by simp [nextP, he]
    have hx : nextE err (rdT most.toNat (bs.drop pl)) = err := by simp [nextE, he]
    rw [hv, hp, hx]
    exact ⟨rfl, strip_stay hs ((Below.refl _ _).alloc (Nat.le_refl _) _)⟩
end Go.Proofs.Ytfbeilninpapaaa
