/- The contract of huge, with the lengths. -/
import Derived.Test.YtcjmfibehofepaaHuge
namespace Go.Proofs.Ytcjmfibehofepaa
open Go.RowKit Go.Maps Go.ChangeMaps Go.MapKept
/-- The lengths of an act. -/
def deedLen (d : Deed) : Nat := d.p.length + d.keep.length + d.torn.length
def deedsLen (l : List Deed) : Nat := (l.map deedLen).sum
theorem deedsLen_take (l : List Deed) (k : Nat) (h : k < l.length) : deedsLen (l.take (k + 1)) = deedsLen (l.take k) + deedLen (l.getD k act0) := by
  unfold deedsLen
  rw [List.take_succ_eq_append_getElem h, List.map_append, List.sum_append]
  simp [h]
theorem deedsLen_mem (l : List Deed) (x : Deed) (h : x ∈ l) : deedLen x ≤ deedsLen l := by
  induction l with
  | nil => cases h
  | cons y r ih =>
    unfold deedsLen at *
    simp only [List.map_cons, List.sum_cons]
    rcases List.mem_cons.1 h with rfl | h
    · omega
    · have := ih h; omega
def HugeQ (w : World) (l : List Deed) (e : Ending) (w' : World) : Prop := ∃ B : Bool, e = .returned (.bool B) ∧ (B = false → l.length ≤ 150 ∧ ∀ x ∈ l, x.p.length ≤ 40000 ∧ x.keep.length ≤ 40000 ∧ x.torn.length ≤ 40000) ∧ ∃ m, w' = w.drewN m
set_option maxRecDepth 100000 in
set_option maxHeartbeats 2000000 in
theorem huge2_any {w : World} (v : Value) (l : List Deed) (h : Acts w v l) (hlen : ∀ x ∈ l, x.p.length ≤ 140737488355328 ∧ x.keep.length ≤ 140737488355328 ∧ x.torn.length ≤ 140737488355328) : Calls Try.prog 8 #[v] w fun e w' => HugeQ w l e w' := by
  obtain ⟨a, c, rfl, _, h⟩ := h
  obtain ⟨n, hn⟩ : ∃ n, Hid (n = l.length) := ⟨_, rfl⟩
  rw [← hn.out]
  replace hlen : Hid _ := hlen
  go_enter Try.func8, Try.ntmps8
  go_wp2
  go_loopw [3, 4] (fun x i wr => ∃ (k z : Nat), k ≤ n ∧ k ≤ 151 ∧ i = .int .i64 k ∧ x = .int .i64 z ∧ Hid (z = deedsLen (l.take k)) ∧ z ≤ k * 422212465065984 ∧ ∃ m, wr = w.drewN m) (fun _ i _ => n - (intOf i).toNat)
  case atStart => exact ⟨0, 0, Nat.zero_le _, by omega, rfl, rfl, rfl, by omega, 0, rfl⟩
  case round =>
    obtain ⟨k, z, hk, hk2, rfl, rfl, hz, hzb, m, rfl⟩ := hrel
    by_cases hlt : k < n
    · by_cases h150 : k ≤ 150
      · have hki : (k : Int) < (n : Int) := by omega
        rcases h with h0 | ⟨b, o, rfl, h⟩
        · have := hn.out; rw [h0] at this; simp at this; omega
        · obtain ⟨ap, lp, cp, ak, lk, ck, at', lt, ct, g2, g3, g4, e2, e3, e4⟩ := (h k (by have := hn.out; omega)).shapes
          have hb3 := hlen.out (l.getD k act0) (by have := hn.out; rw [List.getD_eq_getElem?_getD, List.getElem?_eq_getElem (by omega)]; simp)
          have hst : Hid (z + lp + lk + lt = deedsLen (l.take (k + 1))) := by
            show _ = _
            rw [deedsLen_take l k (by have := hn.out; omega), ← hz.out, e2, e3, e4]
            unfold deedLen; omega
          rw [← e2, ← e3, ← e4] at hb3
          obtain ⟨hb31, hb32, hb33⟩ := hb3
          clear h e2 e3 e4
          have hzl : (z : Int) ≤ 63753982224963584 := by omega
          go_wp2
          go_quiet (fail)
          go_wp2
          refine ⟨⟨k + 1, z + lp + lk + lt, by omega, by omega, by go_num, by go_num, hst, by omega, _, rfl⟩, ?_⟩
          simp [intOf]; omega
      · have hki : (k : Int) < (n : Int) := by omega
        have hkd : decide ((k : Int) ≤ 150) = false := by simp; omega
        have hnb : (150 : Int) < (n : Int) := by omega
        clear h
        go_wp2
        go_ret
        exact ⟨true, rfl, (fun h => by cases h), m, rfl⟩
    · have hkd : decide ((k : Int) < (n : Int)) = false := by simp; omega
      obtain rfl : k = n := by omega
      clear h
      by_cases hb : (150 : Int) < (k : Int)
      · go_wp2
        go_ret
        exact ⟨true, rfl, (fun h => by cases h), m, rfl⟩
      · have hbd : decide ((150 : Int) < (k : Int)) = false := by simpa using hb
        by_cases hzz : (40000 : Int) < (z : Int)
        · go_wp2
          go_ret
          exact ⟨true, rfl, (fun h => by cases h), m, rfl⟩
        · have hzd : decide ((40000 : Int) < (z : Int)) = false := by simpa using hzz
          go_wp2
          go_ret
          refine ⟨false, rfl, (fun _ => ⟨by have := hn.out; omega, fun x hx => ?_⟩), m, rfl⟩
          have h1 := deedsLen_mem l x hx
          have h2 := hz.out
          rw [List.take_of_length_le (by have := hn.out; omega)] at h2
          unfold deedLen at h1
          omega
end Go.Proofs.Ytcjmfibehofepaa
