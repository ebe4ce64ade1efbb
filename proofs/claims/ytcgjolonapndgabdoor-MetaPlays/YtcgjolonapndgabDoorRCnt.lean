/- The contract of the document's Count. -/
import Derived.Test.YtcgjolonapndgabDoorTwoW
import Derived.Test.YtcgjolonapndgabDoorMArgs
namespace Go.Proofs.YtcgjolonapndgabDoor
open Go.RowKit Go.Maps Go.ChangeMaps Go.MapKept
set_option maxRecDepth 100000 in
set_option maxHeartbeats 1000000 in
theorem rroom_ok (size : Int) (w : World) (h1 : 64 ≤ size) (h2 : size ≤ 8192) : Calls Tryd.prog 58 #[.int .i64 size] w fun e w' => e = .returned (.int .i64 (size - 11)) ∧ w' = w := by
  have d1 : decide (size < 64) = false := by simpa using h1
  have d2 : decide (8192 < size) = false := by simpa using h2
  go_enter Tryd.func58, Tryd.ntmps58
  go_wp2
  go_ret
  exact ⟨rfl, rfl⟩
set_option maxRecDepth 100000 in
set_option maxHeartbeats 1000000 in
theorem rroom_bad (size : Int) (w : World) (h : size < 64 ∨ 8192 < size) : Calls Tryd.prog 58 #[.int .i64 size] w fun e w' => e = .returned (.int .i64 0) ∧ w' = w := by
  by_cases h1 : size < 64
  · go_enter Tryd.func58, Tryd.ntmps58
    go_wp2
    go_ret
    exact ⟨rfl, rfl⟩
  · have d1 : decide (size < 64) = false := by simpa using h1
    have h2 : 8192 < size := by omega
    go_enter Tryd.func58, Tryd.ntmps58
    go_wp2
    go_ret
    exact ⟨rfl, rfl⟩
section
variable {w : World} {r : Nat} {G : Nat → Prop} {s : St}
set_option maxRecDepth 100000 in
set_option maxHeartbeats 2000000 in
theorem rcount_any (h : IsR w r G s) (per : Int) : Calls Tryd.prog 42 #[.pointer (some ⟨r, 0, none⟩), .int .i64 per] w fun e w' => e = .returned (.int .i64 (cnt s per)) ∧ w' = w := by
  obtain ⟨gn, cn, gs, cs, gu, cu, h⟩ := h
  have c0 := h.c0
  have cn1 := h.c1
  have z1 := h.size1
  have z2 := h.size2
  have q1 := h.sec1
  have q2 := h.sec2
  clear h
  by_cases c1 : per < 1
  · have hv : Hid (cnt s per = 0) := by show _ = _; unfold cnt; rw [if_pos (.inl c1)]
    go_enter Tryd.func42, Tryd.ntmps42
    go_wp2
    go_ret
    exact ⟨by rw [hv.out]; rfl, rfl⟩
  have d1 : decide (per < 1) = false := by simpa using c1
  by_cases c2 : 8192 < per
  · have hv : Hid (cnt s per = 0) := by show _ = _; unfold cnt; rw [if_pos (.inr (.inl c2))]
    go_enter Tryd.func42, Tryd.ntmps42
    go_wp2
    go_ret
    exact ⟨by rw [hv.out]; rfl, rfl⟩
  have d2 : decide (8192 < per) = false := by simpa using c2
  have hpw : IntKind.i64.wrap (per * (s.size : Int)) = per * s.size := by
    have h7 : per * (s.size : Int) ≤ 8192 * 1024 := Int.mul_le_mul (by omega) (by omega) (by omega) (by omega)
    have h8 : 0 ≤ per * (s.size : Int) := Int.mul_nonneg (by omega) (by omega)
    exact Go.IntWalk.i64_in _ (by omega)
  by_cases c3 : per * (s.size : Int) < 64 ∨ 8192 < per * (s.size : Int)
  · have hv : Hid (cnt s per = 0) := by show _ = _; unfold cnt; rw [if_pos (.inr (.inr c3))]
    have hroom := rroom_bad (per * (s.size : Int)) w c3
    clear c3
    go_enter Tryd.func42, Tryd.ntmps42
    go_wp2_with (first | (go_at_call 58; refine hroom.mono ?_; rintro e w' ⟨rfl, hw'⟩; subst w'))
    go_ret
    exact ⟨by rw [hv.out]; rfl, rfl⟩
  · have hv : Hid (cnt s per = min (s.sectors / per) 16384) := by show _ = _; unfold cnt; rw [if_neg (by omega)]
    have hroom := rroom_ok (per * (s.size : Int)) w (by omega) (by omega)
    have hr0 : (per * (s.size : Int) - 11 == 0) = false := by simp; omega
    have hper : 1 ≤ per := by omega
    have hq0 : 0 ≤ (s.sectors : Int) / per := Int.ediv_nonneg (by omega) (by omega)
    have hq1 : (s.sectors : Int) / per ≤ s.sectors := Int.ediv_le_self _ (by omega)
    have hw64 : wrap64 ((s.sectors : Int) / per) = (s.sectors : Int) / per := by
      have := Go.IntWalk.i64_in ((s.sectors : Int) / per) (by omega)
      rw [IntKind.wrap_i64] at this
      simpa [wrap64] using this
    clear c3
    by_cases hm : (s.sectors : Int) / per ≤ 16384
    · have hmv : Hid (min ((s.sectors : Int) / per) 16384 = (s.sectors : Int) / per) := by show _ = _; omega
      go_enter Tryd.func42, Tryd.ntmps42
      go_wp2_with (first | (go_at_call 58; refine hroom.mono ?_; rintro e w' ⟨rfl, hw'⟩; subst w'))
      go_ret
      exact ⟨by rw [hv.out, hmv.out]; rfl, rfl⟩
    · have hmv : Hid (min ((s.sectors : Int) / per) 16384 = 16384) := by show _ = _; omega
      have hmd : 16384 < (s.sectors : Int) / per := by omega
      go_enter Tryd.func42, Tryd.ntmps42
      go_wp2_with (first | (go_at_call 58; refine hroom.mono ?_; rintro e w' ⟨rfl, hw'⟩; subst w'))
      go_ret
      exact ⟨by rw [hv.out, hmv.out]; rfl, rfl⟩
end
end Go.Proofs.YtcgjolonapndgabDoor
