/- The contract of huge. -/
import Derived.Test.YtcjmfibehofepaaActs
namespace Go.Proofs.Ytcjmfibehofepaa
open Go.RowKit Go.Maps Go.ChangeMaps Go.MapKept

/-- The three slices of an act, as values. -/
theorem ActAt.shapes {w : World} {b o : Nat} {a : Deed} (h : ActAt w b o a) : ∃ ap lp cp ak lk ck at' lt ct, w.cell? ⟨b, o + 2, none⟩ = some (.slice ap lp cp) ∧ w.cell? ⟨b, o + 3, none⟩ = some (.slice ak lk ck) ∧ w.cell? ⟨b, o + 4, none⟩ = some (.slice at' lt ct) ∧ lp = a.p.length ∧ lk = a.keep.length ∧ lt = a.torn.length := by
  obtain ⟨vp, vk, vt, h0, h1, h2, h3, h4, h5, h6, h7⟩ := h
  obtain ⟨ap, cp, rfl, _⟩ := h5
  obtain ⟨ak, ck, rfl, _⟩ := h6
  obtain ⟨at', ct, rfl, _⟩ := h7
  exact ⟨_, _, _, _, _, _, _, _, _, h2, h3, h4, rfl, rfl, rfl⟩

/-- What huge answers. -/
def HugeP (w : World) (l : List Deed) (e : Ending) (w' : World) : Prop := ∃ B : Bool, e = .returned (.bool B) ∧ (B = false → l.length ≤ 150) ∧ ∃ m, w' = w.drewN m
set_option maxRecDepth 100000 in
set_option maxHeartbeats 2000000 in
theorem huge_any {w : World} (v : Value) (l : List Deed) (h : Acts w v l) : Calls Try.prog 8 #[v] w fun e w' => HugeP w l e w' := by
  obtain ⟨a, c, rfl, _, h⟩ := h
  obtain ⟨n, hn⟩ : ∃ n, Hid (n = l.length) := ⟨_, rfl⟩
  rw [← hn.out]
  go_enter Try.func8, Try.ntmps8
  go_wp2
  go_loopw [3, 4] (fun x i wr => ∃ (k : Nat) (z : Int), k ≤ n ∧ k ≤ 151 ∧ i = .int .i64 k ∧ x = .int .i64 z ∧ In64 z ∧ ∃ m, wr = w.drewN m) (fun _ i _ => n - (intOf i).toNat)
  case atStart => exact ⟨0, 0, Nat.zero_le _, by omega, rfl, rfl, ⟨by decide, by decide⟩, 0, rfl⟩
  case round =>
    obtain ⟨k, z, hk, hk2, rfl, rfl, hz, m, rfl⟩ := hrel
    by_cases hlt : k < n
    · by_cases h150 : k ≤ 150
      · have hki : (k : Int) < (n : Int) := by omega
        rcases h with h0 | ⟨b, o, rfl, h⟩
        · have := hn.out; rw [h0] at this; simp at this; omega
        · obtain ⟨ap, lp, cp, ak, lk, ck, at', lt, ct, g2, g3, g4, _, _, _⟩ := (h k (by have := hn.out; omega)).shapes
          clear h
          obtain ⟨hz1, hz2⟩ := hz
          go_wp2
          go_quiet (fail)
          go_wp2
          refine ⟨⟨k + 1, _, by omega, by omega, by go_num, rfl, in64_of (wrap64_wf _), _, rfl⟩, ?_⟩
          simp [intOf]; omega
      · have hki : (k : Int) < (n : Int) := by omega
        have hkd : decide ((k : Int) ≤ 150) = false := by simp; omega
        have hnb : (150 : Int) < (n : Int) := by omega
        clear h
        go_wp2
        go_ret
        exact ⟨true, rfl, (fun h => by cases h), m, rfl⟩
    · have hkd : decide ((k : Int) < (n : Int)) = false := by simp; omega
      clear h
      by_cases hb : (150 : Int) < (n : Int)
      · go_wp2
        go_ret
        exact ⟨true, rfl, (fun h => by cases h), m, rfl⟩
      · have hbd : decide ((150 : Int) < (n : Int)) = false := by simpa using hb
        go_wp2
        go_ret
        exact ⟨_, rfl, (fun _ => by have := hn.out; omega), m, rfl⟩
end Go.Proofs.Ytcjmfibehofepaa
