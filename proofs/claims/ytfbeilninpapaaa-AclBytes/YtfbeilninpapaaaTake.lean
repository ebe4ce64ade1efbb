/- The contracts of a strip's Number, Signed and One. -/
import Derived.Test.YtfbeilninpapaaaStrip
namespace Go.Proofs.Ytfbeilninpapaaa
open Go.RowKit
theorem rdS_bounds (bs : List Int) : (rdS bs).2.1 ≤ 0 + bs.length := by
  cases bs with
  | nil => simp [rdS]
  | cons c r =>
    have := rdN_bounds r true 0 0 (by omega)
    rw [rdS]
    split
    · split
      · simp only [List.length_cons]; omega
      · simp
    · simp
theorem rdO_bounds (bs : List Int) : (rdO bs).2.1 ≤ 0 + bs.length := by
  cases bs with
  | nil => simp [rdO]
  | cons c r => simp [rdO]

set_option maxRecDepth 100000 in
set_option maxHeartbeats 2000000 in
theorem stripNumber_ok (lo g : Nat) (bs : List Int) (pl : Nat) (w : World) (hs : IsStrip w lo g bs pl 0) (hby : IsBytes bs) (hlen : bs.length ≤ 1000000000) :
    Calls Try.prog 62 #[.pointer (some ⟨g, 0, none⟩)] w fun e w' => e = .returned (.int .u64 (nextV 0 0 (rdN true 0 0 (bs.drop pl)) : Nat)) ∧ IsStrip w' lo g bs (nextP pl 0 (rdN true 0 0 (bs.drop pl))) (nextE 0 (rdN true 0 0 (bs.drop pl))) ∧ w.grownBy w' (some g) := by
  have hs0 := hs
  obtain ⟨a, n, c, hg, hb, hk, hpl⟩ := hs
  have q0 : w.cell? ⟨g, 0, none⟩ = some (.slice a n c) := (strip_cells hg 0 _ rfl).1
  have q1 : w.cell? ⟨g, 1, none⟩ = some (.int .i64 pl) := (strip_cells hg 1 _ rfl).1
  have q2 : w.cell? ⟨g, 2, none⟩ = some (.int .i64 0) := (strip_cells hg 2 _ rfl).1
  have f1 := (strip_cells hg 1 _ rfl).2
  have f2 := (strip_cells hg 2 _ rfl).2
  obtain ⟨v2, hrun, hb2, _⟩ := slice_from hb pl hpl
  have hdl : (bs.drop pl).length = bs.length - pl := List.length_drop
  have hR := fun n => readNumber_any (bs.drop pl) v2 (w.drewN n) (hby.drop pl) (by omega) (hb2.grow (below_draw w n))
  have hbd := (rdN_bounds (bs.drop pl) true 0 0 (by omega)).2
  generalize rdN true 0 0 (bs.drop pl) = R at hR hbd
  obtain ⟨m, sz, er⟩ := R
  simp only at hR hbd
  clear hb hb2 hk hg
  by_cases he : er = 0
  · subst he
    go_enter Try.func62, Try.ntmps62
    go_wp2
    go_quiet ((go_at_call 66; exact Calls.quiet_of_same (hR _)))
    go_wp2
    go_ret
    refine ⟨rfl, ?_⟩
    exact strip_move hs0 (below_draw w _) (pl + sz) (by omega) _ (by omega)
  · have hee : (er == 0) = false := by simpa using he
    have hv : nextV 0 0 (m, sz, er) = 0 := by simp [nextV, he]
    have hp : nextP pl 0 (m, sz, er) = pl := by simp [nextP, he]
    rw [hv, hp]
    go_enter Try.func62, Try.ntmps62
    go_wp2
    go_quiet ((go_at_call 66; exact Calls.quiet_of_same (hR _)))
    go_wp2
    go_ret
    refine ⟨rfl, ?_⟩
    exact strip_fail hs0 (below_draw w _) er
set_option maxRecDepth 100000 in
theorem stripNumber_bad (lo g : Nat) (bs : List Int) (pl : Nat) (err : Int) (w : World) (hs : IsStrip w lo g bs pl err) (he : err ≠ 0) :
    Calls Try.prog 62 #[.pointer (some ⟨g, 0, none⟩)] w fun e w' => e = .returned (.int .u64 0) ∧ w' = w := by
  obtain ⟨a, n, c, hg, hb, hk, hpl⟩ := hs
  have q2 : w.cell? ⟨g, 2, none⟩ = some (.int .i64 err) := (strip_cells hg 2 _ rfl).1
  have hee : (err == 0) = false := by simpa using he
  have hef : ¬ err = 0 := he
  clear hb hg he
  go_enter Try.func62, Try.ntmps62
  go_wp2
  go_ret
  exact ⟨rfl, rfl⟩
theorem stripNumber_any (lo g : Nat) (bs : List Int) (pl : Nat) (err : Int) (w : World) (hs : IsStrip w lo g bs pl err) (hby : IsBytes bs) (hlen : bs.length ≤ 1000000000) :
    Calls Try.prog 62 #[.pointer (some ⟨g, 0, none⟩)] w fun e w' => e = .returned (.int .u64 (nextV 0 err (rdN true 0 0 (bs.drop pl)) : Nat)) ∧ IsStrip w' lo g bs (nextP pl err (rdN true 0 0 (bs.drop pl))) (nextE err (rdN true 0 0 (bs.drop pl))) ∧ w.grownBy w' (some g) := by
  by_cases he : err = 0
  · subst he; exact stripNumber_ok lo g bs pl w hs hby hlen
  · refine (stripNumber_bad lo g bs pl err w hs he).mono ?_
    rintro e w' ⟨rfl, rfl⟩
    have hv : nextV 0 err (rdN true 0 0 (bs.drop pl)) = 0 := by simp [nextV, he]
    have hp : nextP pl err (rdN true 0 0 (bs.drop pl)) = pl := by simp [nextP, he]
    have hx : nextE err (rdN true 0 0 (bs.drop pl)) = err := by simp [nextE, he]
    rw [hv, hp, hx]
    exact ⟨rfl, strip_stay hs (Below.refl _ _)⟩

set_option maxRecDepth 100000 in
set_option maxHeartbeats 2000000 in
theorem stripSigned_ok (lo g : Nat) (bs : List Int) (pl : Nat) (w : World) (hs : IsStrip w lo g bs pl 0) (hby : IsBytes bs) (hlen : bs.length ≤ 1000000000) :
    Calls Try.prog 52 #[.pointer (some ⟨g, 0, none⟩)] w fun e w' => e = .returned (.int .i64 (nextV 0 0 (rdS (bs.drop pl)) : Int)) ∧ IsStrip w' lo g bs (nextP pl 0 (rdS (bs.drop pl))) (nextE 0 (rdS (bs.drop pl))) ∧ w.grownBy w' (some g) := by
  have hs0 := hs
  obtain ⟨a, n, c, hg, hb, hk, hpl⟩ := hs
  have q0 : w.cell? ⟨g, 0, none⟩ = some (.slice a n c) := (strip_cells hg 0 _ rfl).1
  have q1 : w.cell? ⟨g, 1, none⟩ = some (.int .i64 pl) := (strip_cells hg 1 _ rfl).1
  have q2 : w.cell? ⟨g, 2, none⟩ = some (.int .i64 0) := (strip_cells hg 2 _ rfl).1
  have f1 := (strip_cells hg 1 _ rfl).2
  have f2 := (strip_cells hg 2 _ rfl).2
  obtain ⟨v2, hrun, hb2, _⟩ := slice_from hb pl hpl
  have hdl : (bs.drop pl).length = bs.length - pl := List.length_drop
  have hR := fun n => readSigned_any (bs.drop pl) v2 (w.drewN n) (hby.drop pl) (by omega) (hb2.grow (below_draw w n))
  have hbd := rdS_bounds (bs.drop pl)
  generalize rdS (bs.drop pl) = R at hR hbd
  obtain ⟨m, sz, er⟩ := R
  simp only at hR hbd
  clear hb hb2 hk hg
  by_cases he : er = 0
  · subst he
    go_enter Try.func52, Try.ntmps52
    go_wp2
    go_quiet ((go_at_call 64; exact Calls.quiet_of_same (hR _)))
    go_wp2
    go_ret
    refine ⟨rfl, ?_⟩
    exact strip_move hs0 (below_draw w _) (pl + sz) (by omega) _ (by omega)
  · have hee : (er == 0) = false := by simpa using he
    have hv : nextV 0 0 (m, sz, er) = 0 := by simp [nextV, he]
    have hp : nextP pl 0 (m, sz, er) = pl := by simp [nextP, he]
    rw [hv, hp]
    go_enter Try.func52, Try.ntmps52
    go_wp2
    go_quiet ((go_at_call 64; exact Calls.quiet_of_same (hR _)))
    go_wp2
    go_ret
    refine ⟨rfl, ?_⟩
    exact strip_fail hs0 (below_draw w _) er
set_option maxRecDepth 100000 in
theorem stripSigned_bad (lo g : Nat) (bs : List Int) (pl : Nat) (err : Int) (w : World) (hs : IsStrip w lo g bs pl err) (he : err ≠ 0) :
    Calls Try.prog 52 #[.pointer (some ⟨g, 0, none⟩)] w fun e w' => e = .returned (.int .i64 0) ∧ w' = w := by
  obtain ⟨a, n, c, hg, hb, hk, hpl⟩ := hs
  have q2 : w.cell? ⟨g, 2, none⟩ = some (.int .i64 err) := (strip_cells hg 2 _ rfl).1
  have hee : (err == 0) = false := by simpa using he
  have hef : ¬ err = 0 := he
  clear hb hg he
  go_enter Try.func52, Try.ntmps52
  go_wp2
  go_ret
  exact ⟨rfl, rfl⟩
theorem stripSigned_any (lo g : Nat) (bs : List Int) (pl : Nat) (err : Int) (w : World) (hs : IsStrip w lo g bs pl err) (hby : IsBytes bs) (hlen : bs.length ≤ 1000000000) :
    Calls Try.prog 52 #[.pointer (some ⟨g, 0, none⟩)] w fun e w' => e = .returned (.int .i64 (nextV 0 err (rdS (bs.drop pl)) : Int)) ∧ IsStrip w' lo g bs (nextP pl err (rdS (bs.drop pl))) (nextE err (rdS (bs.drop pl))) ∧ w.grownBy w' (some g) := by
  by_cases he : err = 0
  · subst he; exact stripSigned_ok lo g bs pl w hs hby hlen
  · refine (stripSigned_bad lo g bs pl err w hs he).mono ?_
    rintro e w' ⟨rfl, rfl⟩
    have hv : nextV 0 err (rdS (bs.drop pl)) = 0 := by simp [nextV, he]
    have hp : nextP pl err (rdS (bs.drop pl)) = pl := by simp [nextP, he]
    have hx : nextE err (rdS (bs.drop pl)) = err := by simp [nextE, he]
    rw [hv, hp, hx]
    exact ⟨rfl, strip_stay hs (Below.refl _ _)⟩

end Go.Proofs.Ytfbeilninpapaaa
