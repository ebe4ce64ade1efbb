/- The contract of page.readSectors. -/
import Derived.Test.YtcgjolonapndgaaCount
namespace Go.Proofs.Ytcgjolonapndgaa
open Go.RowKit Go.Maps Go.ChangeMaps Go.MapKept
/-- The bytes of k sectors from first on. -/
def secs (s : St) (first : Int) : Nat → List Int
  | 0 => []
  | k + 1 => secs s first k ++ s.now (first + k)
theorem secs_len (s : St) (first : Int) (k : Nat) (h : ∀ n, (s.now n).length = s.size) : (secs s first k).length = k * s.size := by
  induction k with
  | zero => simp [secs]
  | succ k ih => rw [secs, List.length_append, ih, h, Nat.succ_mul]
theorem makeCap (w : World) (c : Nat) (hc : c ≤ 1000000) : ∃ v W, (Instr.makeSlice 23 (.int .i64 0) (.int .i64 c)).run Try.prog w = .ok v W ∧ Own W w.heap.size v [] ∧ Below w.heap.size w W := by
  obtain ⟨i0, hi, hz0, hz1, hz2⟩ := info_parts info5
  have hr := run_make (P := Try.prog) w 23 5 i0 (.int .u8 0) Try.underlying23 hi hz0 .i64 .i64 0 c (by omega) (by omega) (by rw [hz2]; omega) (by omega)
  refine ⟨_, _, hr, ?_, (Below.refl _ w).alloc (Nat.le_refl _) _⟩
  have := World.ownsRow_made (base := w.heap.size) (e := 5) (size := 1) w (madeCells (Value.int .u8 0).cells ((c : Int).toNat * i0.size)) c (Nat.le_refl _) (by unfold maxLen; omega) (by rw [hz1]; simp [madeCells])
  unfold Own
  simpa using this
section
variable {w : World} {p : Nat} {F : Nat → Prop} {s : St}
set_option maxRecDepth 100000 in
set_option maxHeartbeats 2000000 in
theorem readSectors_ok (h : IsD w p F s) (first count : Nat) (hfit : first + count ≤ s.sectors) (hd : s.dead = false) (hroom : count * s.size ≤ 8192) (hnow : ∀ n, (s.now n).length = s.size) :
    Calls Try.prog 45 #[.pointer (some ⟨p, 0, none⟩), .int .i64 first, .int .i64 count] w fun e w' => ∃ v, e = .returned (.tuple #[v, .int .i64 0]) ∧ Own w' w.heap.size v (secs s first count) ∧ Below w.heap.size w w' := by
  have hsz := size_any h
  have hb := h
  obtain ⟨bs, bf, ns, nf, gs, gf, hdk, _⟩ := hb
  have z1 := hdk.size1
  have z2 := hdk.size2
  have q2 := hdk.sec2
  clear hdk
  have hmul : IntKind.i64.wrap ((count : Int) * (s.size : Int)) = ((count * s.size : Nat) : Int) := by
    rw [Int.natCast_mul]
    have h8 : ((count * s.size : Nat) : Int) ≤ 8192 := by omega
    rw [Int.natCast_mul] at h8
    have h9 : 0 ≤ (count : Int) * (s.size : Int) := Int.mul_nonneg (by omega) (by omega)
    exact Go.IntWalk.i64_in _ (by omega)
  obtain ⟨c, hcc⟩ : ∃ c, c = count * s.size := ⟨_, rfl⟩
  rw [← hcc] at hmul
  obtain ⟨v0, W0, hmk, ho0, hb0⟩ := makeCap w c (by omega)
  have hcm : (count : Int) * (s.size : Int) = (c : Int) := by rw [hcc, Int.natCast_mul]
  rw [hcm] at hmul
  have hcl : c ≤ 8192 := by omega
  replace hcc : Hid _ := hcc
  have hsl : ∀ k, (secs s first k).length = k * s.size := fun k => secs_len s first k hnow
  replace hnow : Hid _ := hnow
  replace hsl : Hid _ := hsl
  replace hroom : Hid _ := hroom
  go_enter Try.func45, Try.ntmps45
  go_wp2_with (first | (go_at_call 42; refine hsz.mono ?_; rintro e w' ⟨rfl, hw'⟩; subst w'))
  go_loopw [8, 18] (fun b i wr => ∃ k : Nat, k ≤ count ∧ i = .int .i64 k ∧ Own wr w.heap.size b (secs s first k) ∧ Below w.heap.size w wr) (fun _ i _ => count - (intOf i).toNat)
  case atStart => exact ⟨0, Nat.zero_le _, rfl, ho0, hb0⟩
  case round =>
    clear hmk ho0 hb0
    obtain ⟨k, hk, rfl, ho, hbr⟩ := hrel
    by_cases hlt : k < count
    · have hki : (k : Int) < (count : Int) := by omega
      have hrd := read_ok (h.grow hbr) ((first : Int) + (k : Int)) (by omega) hd
      have hsk : Hid (secs s first (k + 1) = secs s first k ++ s.now (first + k)) := rfl
      have hnk := hnow.out ((first : Int) + (k : Int))
      have hlk := hsl.out k
      have hkm : k * s.size ≤ 8192 := Nat.le_trans (Nat.mul_le_mul_right _ hk) hroom.out
      have hz := hbr.size
      generalize secs s first k = xs at *
      generalize s.now ((first : Int) + (k : Int)) = ys at *
      go_wp2_with (first
        | (go_at_call 57; refine hrd.mono ?_; rintro e w6 ⟨g6, rfl, hg6, hrow6, hb6⟩; have hbt6 := hrow6.bts; rw [hnk] at hbt6; replace hrow6 : Hid _ := hrow6; have ho6 := ho.grow hb6; unfold slV)
        | (at_builtin; refine appX rfl (.tmp 32) (.tmp 33) rfl w.heap.size _ _ xs ys rfl rfl ho6 hbt6 (by have := hb6.size; omega) (by omega) ?_; intro v7 w7 ho7 hb7 _))
      go_roundw
      case rel => exact ⟨k + 1, by omega, by go_num, by rw [hsk.out]; exact ho7, (hbr.trans (hb6.mono hz)).trans hb7⟩
      case measure => simp [intOf]; omega
    · obtain rfl : k = count := by omega
      go_wp2
      go_ret2
      exact ⟨_, rfl, ho, hbr⟩
set_option maxRecDepth 100000 in
set_option maxHeartbeats 2000000 in
theorem readSectors_dead (h : IsD w p F s) (first count : Nat) (h1 : 1 ≤ count) (hfit : first + count ≤ s.sectors) (hd : s.dead = true) (hroom : count * s.size ≤ 8192) :
    Calls Try.prog 45 #[.pointer (some ⟨p, 0, none⟩), .int .i64 first, .int .i64 count] w fun e w' => e = .returned (.tuple #[.slice none 0 0, .int .i64 (s.errRead first)]) ∧ Below w.heap.size w w' := by
  have hsz := size_any h
  have hb := h
  obtain ⟨bs, bf, ns, nf, gs, gf, hdk, _⟩ := hb
  have z1 := hdk.size1
  have z2 := hdk.size2
  have q2 := hdk.sec2
  clear hdk
  have hmul : IntKind.i64.wrap ((count : Int) * (s.size : Int)) = ((count * s.size : Nat) : Int) := by
    rw [Int.natCast_mul]
    have h8 : ((count * s.size : Nat) : Int) ≤ 8192 := by omega
    rw [Int.natCast_mul] at h8
    have h9 : 0 ≤ (count : Int) * (s.size : Int) := Int.mul_nonneg (by omega) (by omega)
    exact Go.IntWalk.i64_in _ (by omega)
  obtain ⟨c, hcc⟩ : ∃ c, c = count * s.size := ⟨_, rfl⟩
  rw [← hcc] at hmul
  obtain ⟨v0, W0, hmk, ho0, hb0⟩ := makeCap w c (by omega)
  have hcm : (count : Int) * (s.size : Int) = (c : Int) := by rw [hcc, Int.natCast_mul]
  rw [hcm] at hmul
  have hcl : c ≤ 8192 := by omega
  replace hcc : Hid _ := hcc
  have her : s.errRead first ≠ 0 := by
    unfold St.errRead
    rw [if_pos (by omega), hd]
    simp
  have hrd := read_err (h.grow hb0) (first : Int) her
  have hec : (s.errRead first == 0) = false := by simpa using her
  have hec2 : (s.errRead first != 0) = true := by simpa using her
  generalize s.errRead first = er at *
  have hc0 : (0 : Int) < (count : Int) := by omega
  clear ho0
  go_enter Try.func45, Try.ntmps45
  go_wp2_with (first | (go_at_call 42; refine hsz.mono ?_; rintro e w' ⟨rfl, hw'⟩; subst w'))
  go_loopw [18] (fun i wr => i = .int .i64 0 ∧ wr = W0) (fun _ _ => 0)
  case atStart => exact ⟨rfl, rfl⟩
  case round =>
    obtain ⟨rfl, rfl⟩ := hrel
    go_wp2_with (first | (go_at_call 57; refine hrd.mono ?_; rintro e w6 ⟨rfl, hw6⟩; subst w6))
    go_ret2
    exact ⟨rfl, hb0⟩
end
end Go.Proofs.Ytcgjolonapndgaa
