/- The contract of the document's Count. -/
import Derived.Test.YtcgjolonapndgaaTwoW
import Derived.Test.YtcgjolonapndgaaRGet
namespace Go.Proofs.Ytcgjolonapndgaa
open Go.RowKit Go.Maps Go.ChangeMaps Go.MapKept
section
variable {w : World} {r : Nat} {G : Nat → Prop} {s : St}
set_option maxRecDepth 100000 in
set_option maxHeartbeats 2000000 in
theorem rcount_any (h : IsR w r G s) (per : Int) : Calls Try.prog 22 #[.pointer (some ⟨r, 0, none⟩), .int .i64 per] w fun e w' => e = .returned (.int .i64 (cnt s per)) ∧ w' = w := by
  obtain ⟨gn, cn, gs, cs, gu, cu, h⟩ := h
  have c0 := h.c0
  have cn1 := h.c1
  have z1 := h.size1
  have z2 := h.size2
  have q1 := h.sec1
  have q2 := h.sec2
  clear h
  by_cases c1 : per < 1
  · have hv : Hid (cnt s per = 0) := by show _ = _; unfold cnt; rw [if_pos (.inl c1)]
    go_enter Try.func22, Try.ntmps22
    go_wp2
    go_ret
    exact ⟨by rw [hv.out]; rfl, rfl⟩
  have d1 : decide (per < 1) = false := by simpa using c1
  by_cases c2 : 8192 < per
  · have hv : Hid (cnt s per = 0) := by show _ = _; unfold cnt; rw [if_pos (.inr (.inl c2))]
    go_enter Try.func22, Try.ntmps22
    go_wp2
    go_ret
    exact ⟨by rw [hv.out]; rfl, rfl⟩
  have d2 : decide (8192 < per) = false := by simpa using c2
  have hpw : IntKind.i64.wrap (per * (s.size : Int)) = per * s.size := by
    have h7 : per * (s.size : Int) ≤ 8192 * 1024 := Int.mul_le_mul (by omega) (by omega) (by omega) (by omega)
    have h8 : 0 ≤ per * (s.size : Int) := Int.mul_nonneg (by omega) (by omega)
    exact Go.IntWalk.i64_in _ (by omega)
  by_cases c3 : per * (s.size : Int) < 64 ∨ 8192 < per * (s.size : Int)
  · have hv : Hid (cnt s per = 0) := by show _ = _; unfold cnt; rw [if_pos (.inr (.inr c3))]
    have hroom := rroom_bad (per * (s.size : Int)) w c3
    clear c3
    go_enter Try.func22, Try.ntmps22
    go_wp2_with (first | (go_at_call 17; refine hroom.mono ?_; rintro e w' ⟨rfl, hw'⟩; subst w'))
    go_ret
    exact ⟨by rw [hv.out]; rfl, rfl⟩
  · have hv : Hid (cnt s per = min (s.sectors / per) 16384) := by show _ = _; unfold cnt; rw [if_neg (by omega)]
    have hroom := rroom_ok (per * (s.size : Int)) w (by omega) (by omega)
    have hr0 : (per * (s.size : Int) - 11 == 0) = false := by simp; omega
    have hper : 1 ≤ per := by omega
    have hq0 : 0 ≤ (s.sectors : Int) / per := Int.ediv_nonneg (by omega) (by omega)
    have hq1 : (s.sectors : Int) / per ≤ s.sectors := Int.ediv_le_self _ (by omega)
    have hw64 : wrap64 ((s.sectors : Int) / per) = (s.sectors : Int) / per := by
      have := Go.IntWalk.i64_in ((s.sectors : Int) / per) (by omega)
      rw [IntKind.wrap_i64] at this
      simpa [wrap64] using this
    clear c3
    by_cases hm : (s.sectors : Int) / per ≤ 16384
    · have hmv : Hid (min ((s.sectors : Int) / per) 16384 = (s.sectors : Int) / per) := by show _ = _; omega
      go_enter Try.func22, Try.ntmps22
      go_wp2_with (first | (go_at_call 17; refine hroom.mono ?_; rintro e w' ⟨rfl, hw'⟩; subst w'))
      go_ret
      exact ⟨by rw [hv.out, hmv.out]; rfl, rfl⟩
    · have hmv : Hid (min ((s.sectors : Int) / per) 16384 = 16384) := by show _ = _; omega
      have hmd : 16384 < (s.sectors : Int) / per := by omega
      go_enter Try.func22, Try.ntmps22
      go_wp2_with (first | (go_at_call 17; refine hroom.mono ?_; rintro e w' ⟨rfl, hw'⟩; subst w'))
      go_ret
      exact ⟨by rw [hv.out, hmv.out]; rfl, rfl⟩
end
end Go.Proofs.Ytcgjolonapndgaa
