/- Wake 13. -/
import Derived.Test.YtnbhnnjgnojgbaaDu
namespace Go.Proofs.Ytnbhnnjgnojgbaa
set_option linter.unusedVariables false
open Go.RowKit
def wkS (now : Int) (a : Int × Bool) (j : Jb) : Int × Bool := if j.pa = true then a else if (!a.2 || decide (max now (nextF j j.la) < a.1)) = true then (max now (nextF j j.la), true) else a
def wkF (now : Int) (l : List Jb) : Int × Bool := l.foldl (wkS now) (0, false)
theorem wkF_snoc (now : Int) (l : List Jb) (k : Nat) (h : k < l.length) : wkF now (l.take (k + 1)) = wkS now (wkF now (l.take k)) (l.getD k jb0) := by
  unfold wkF
  rw [take_getD l jb0 k h, List.foldl_append]
  rfl
set_option maxRecDepth 100000 in
set_option maxHeartbeats 1000000 in
theorem wake13 (v : Value) (l : List Jb) (now : Int) (w : World) (hv : Jbs w v l) (hok : ∀ j ∈ l, Ok j) (hl : l.length ≤ 100000) (h0 : -1 ≤ now) (h1 : now ≤ 4398046511104) :
    Calls Try.prog 13 #[.int .i64 now, v] w fun e w' => e = .returned (.tuple #[.int .i64 (wkF now l).1, .bool (wkF now l).2]) ∧ Below w.heap.size w w' := by
  obtain ⟨va, vc, rfl⟩ := hv.shape
  have hI := fun j W (h : Ok j) => next11 j j.la W h h.2.2.2.2.1 (by have := h.2.2.2.2.2; omega)
  unfold encJ at hI
  go_enter Try.func13, Try.ntmps13
  go_wp2
  go_loopw [6, 7, 13] (fun lv fv i wr => ∃ k : Nat, k ≤ l.length ∧ i = .int .i64 k ∧ lv = .int .i64 (wkF now (l.take k)).1 ∧ fv = .bool (wkF now (l.take k)).2 ∧ Hid (Below w.heap.size w wr)) (fun _ _ i _ => l.length - (intOf i).toNat)
  case atStart => exact ⟨0, Nat.zero_le _, rfl, rfl, rfl, Below.refl _ _⟩
  case round =>
    obtain ⟨k, hk, rfl, rfl, rfl, hB⟩ := hrel
    by_cases hlt : k < l.length
    · have hki : (k : Int) < (l.length : Int) := by omega
      obtain ⟨b, o, rfl, hat⟩ := jb_at (Sls.grow hv hB.out) k hlt
      obtain ⟨y0, y1, y2, y3, y4, y5, y6⟩ := at_jb hat
      have hokj := hok _ (getD_mem l jb0 k hlt)
      have hsn : Hid _ := wkF_snoc now l k hlt
      clear hat
      generalize l.getD k jb0 = j at *
      have hI2 := fun W => hI j W hokj
      have hJ := jNew wr j
      have hB1 : Below w.heap.size w (wr.alloc (jO j)) := hB.out.alloc hB.out.size _
      unfold jO at hJ hB1
      obtain ⟨j0, j1, j2, j3, j4, j5, j6⟩ := JAt.cells hJ
      clear hI
      generalize hp : j.pa = pa at *
      generalize wkF now (l.take k) = a at *
      obtain ⟨a1, a2⟩ := a
      unfold wkS at hsn
      rw [hp] at hsn
      clear hp
      cases pa with
      | true =>
        rw [if_pos rfl] at hsn
        go_wp2
        refine ⟨⟨k + 1, by omega, by go_num, by rw [hsn.out], by rw [hsn.out], hB1⟩, ?_⟩
        simp [intOf]; omega
      | false =>
        rw [if_neg (by decide)] at hsn
        generalize nextF j j.la = nx at *
        obtain ⟨t, ht⟩ : ∃ t, t = max now nx := ⟨_, rfl⟩
        rw [← ht] at hsn
        have hmx : (if now < nx then nx else now) = t := by rw [ht]; split <;> omega
        cases a2 with
        | false =>
          rw [if_pos (by simp)] at hsn
          go_wp2_with (go_at_call 11; refine (hI2 _).mono ?_; rintro e w3 ⟨rfl, hb3⟩; have hB3 : Hid (Below w.heap.size w w3) := hB1.trans (hb3.mono hB1.size))
          refine ⟨⟨k + 1, by omega, by go_num, by rw [hsn.out]; try rw [ht], by rw [hsn.out], hB3⟩, ?_⟩
          simp [intOf]; omega
        | true =>
          by_cases hc : t < a1
          · rw [if_pos (by simp [hc])] at hsn
            go_wp2_with (go_at_call 11; refine (hI2 _).mono ?_; rintro e w3 ⟨rfl, hb3⟩; have hB3 : Hid (Below w.heap.size w w3) := hB1.trans (hb3.mono hB1.size))
            refine ⟨⟨k + 1, by omega, by go_num, by rw [hsn.out]; try rw [ht], by rw [hsn.out], hB3⟩, ?_⟩
            simp [intOf]; omega
          · rw [if_neg (by simp [hc])] at hsn
            go_wp2_with (go_at_call 11; refine (hI2 _).mono ?_; rintro e w3 ⟨rfl, hb3⟩; have hB3 : Hid (Below w.heap.size w w3) := hB1.trans (hb3.mono hB1.size))
            refine ⟨⟨k + 1, by omega, by go_num, by rw [hsn.out]; try rw [ht], by rw [hsn.out], hB3⟩, ?_⟩
            simp [intOf]; omega
    · obtain rfl : k = l.length := by omega
      have hki : ¬ (l.length : Int) < (l.length : Int) := by omega
      rw [List.take_of_length_le (Nat.le_refl _)]
      go_wp2
      go_ret2
      exact ⟨rfl, hB.out⟩
end Go.Proofs.Ytnbhnnjgnojgbaa
