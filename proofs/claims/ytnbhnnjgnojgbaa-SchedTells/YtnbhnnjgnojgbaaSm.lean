/- Right 18, small 7. -/
import Derived.Test.YtnbhnnjgnojgbaaLe
namespace Go.Proofs.Ytnbhnnjgnojgbaa
set_option linter.unusedVariables false
open Go.RowKit
def okB (j : Jb) : Bool := decide (Ok j)
set_option maxRecDepth 100000 in
set_option maxHeartbeats 1000000 in
theorem right18 (j : Jb) (w : World) : Calls Try.prog 18 #[encJ j] w fun e w' => e = .returned (.bool (okB j)) ∧ Below w.heap.size w w' := by
  have hb0 : Hid (Below w.heap.size w (w.alloc (jO j))) := (Below.refl _ w).alloc (Nat.le_refl _) _
  have hd : ∀ b : Bool, (Ok j ↔ b = true) → okB j = b := fun b h => by cases b <;> simp [okB, h]
  unfold Ok at hd
  obtain ⟨fo, gr, id, iv, off, pa, la⟩ := j
  simp only at hd
  unfold encJ
  by_cases h1 : 1 ≤ iv
  · by_cases h2 : iv ≤ 86400
    · by_cases h3 : 0 ≤ off
      · by_cases h4 : off < iv
        · by_cases h5 : -1 ≤ la
          · by_cases h6 : la ≤ 1099511627776
            · have hd' : Hid _ := hd true (by simp [h1, h2, h3, h4, h5, h6])
              clear hd
              go_enter Try.func18, Try.ntmps18
              go_wp2
              go_ret
              exact ⟨by rw [hd'.out]; rfl, hb0.out⟩
            · have hd' : Hid _ := hd false (by simp [h6])
              clear hd
              go_enter Try.func18, Try.ntmps18
              go_wp2
              go_ret
              exact ⟨by rw [hd'.out]; rfl, hb0.out⟩
          · have hd' : Hid _ := hd false (by simp [h5])
            clear hd
            go_enter Try.func18, Try.ntmps18
            go_wp2
            go_ret
            exact ⟨by rw [hd'.out]; rfl, hb0.out⟩
        · have hd' : Hid _ := hd false (by simp [h4])
          clear hd
          go_enter Try.func18, Try.ntmps18
          go_wp2
          go_ret
          exact ⟨by rw [hd'.out]; rfl, hb0.out⟩
      · have hd' : Hid _ := hd false (by simp [h3])
        clear hd
        go_enter Try.func18, Try.ntmps18
        go_wp2
        go_ret
        exact ⟨by rw [hd'.out]; rfl, hb0.out⟩
    · have hd' : Hid _ := hd false (by simp [h2])
      clear hd
      go_enter Try.func18, Try.ntmps18
      go_wp2
      go_ret
      exact ⟨by rw [hd'.out]; rfl, hb0.out⟩
  · have hd' : Hid _ := hd false (by simp [h1])
    clear hd
    go_enter Try.func18, Try.ntmps18
    go_wp2
    go_ret
    exact ⟨by rw [hd'.out]; rfl, hb0.out⟩
def tot (l : List Jb) : Nat := (l.map fun j => j.fo.size + j.gr.size).sum
/-- Bounds of what came in. -/
def Szs (l : List Jb) : Prop := ∀ j ∈ l, j.fo.size ≤ 281474976710656 ∧ j.gr.size ≤ 281474976710656
def smB (l : List Jb) (now : Int) : Bool := decide (l.length ≤ 60 ∧ (∀ j ∈ l, Ok j) ∧ tot l ≤ 10000 ∧ 0 ≤ now ∧ now ≤ 1099511627776)
theorem smB_yes {l : List Jb} {now : Int} (h : smB l now = true) : l.length ≤ 60 ∧ (∀ j ∈ l, Ok j) ∧ tot l ≤ 10000 ∧ 0 ≤ now ∧ now ≤ 1099511627776 := of_decide_eq_true h
theorem tot_snoc (l : List Jb) (j : Jb) : tot (l ++ [j]) = tot l + (j.fo.size + j.gr.size) := by simp [tot]
theorem tot_le {l : List Jb} (h : Szs l) (k : Nat) : tot (l.take k) ≤ k * 562949953421312 := by
  induction k with
  | zero => simp [tot]
  | succ k ih =>
    have e : (k + 1) * 562949953421312 = k * 562949953421312 + 562949953421312 := Nat.succ_mul _ _
    by_cases hk : k < l.length
    · rw [take_getD l jb0 k hk, tot_snoc, e]
      have := h _ (getD_mem l jb0 k hk)
      have h2 : (l.getD k jb0).fo.size + (l.getD k jb0).gr.size ≤ 562949953421312 := by omega
      exact Nat.add_le_add ih h2
    · rw [List.take_of_length_le (by omega)]
      rw [List.take_of_length_le (by omega)] at ih
      rw [e]
      exact Nat.le_trans ih (Nat.le_add_right _ _)
set_option maxRecDepth 100000 in
set_option maxHeartbeats 1000000 in
theorem small7 (v : Value) (l : List Jb) (now : Int) (w : World) (hv : Jbs w v l) (hz : Szs l) : Calls Try.prog 7 #[v, .int .i64 now] w fun e w' => e = .returned (.bool (smB l now)) ∧ Below w.heap.size w w' := by
  obtain ⟨va, vc, rfl⟩ := hv.shape
  have hR := fun j W => right18 j W
  unfold encJ at hR
  go_enter Try.func7, Try.ntmps7
  go_wp2
  go_loopw [5, 6] (fun nv i wr => ∃ k : Nat, k ≤ l.length ∧ k ≤ 61 ∧ i = .int .i64 k ∧ nv = .int .i64 (tot (l.take k)) ∧ Hid (∀ j ∈ l.take k, Ok j) ∧ Hid (Below w.heap.size w wr)) (fun _ i _ => l.length - (intOf i).toNat)
  case atStart => exact ⟨0, Nat.zero_le _, by decide, rfl, by simp [tot], (show ∀ j ∈ l.take 0, Ok j by simp), Below.refl _ _⟩
  case round =>
    obtain ⟨k, hk, hk2, rfl, rfl, hall, hB⟩ := hrel
    have hle : tot (l.take k) ≤ 34902897112121344 := Nat.le_trans (tot_le hz k) (Nat.le_trans (Nat.mul_le_mul_right _ hk2) (by decide))
    by_cases hlt : k < l.length
    · have hki : (k : Int) < (l.length : Int) := by omega
      by_cases h60 : k ≤ 60
      · have hk60 : (k : Int) ≤ 60 := by omega
        obtain ⟨b, o, rfl, hat⟩ := jb_at (Sls.grow hv hB.out) k hlt
        obtain ⟨y0, y1, y2, y3, y4, y5, y6⟩ := at_jb hat
        have hsz := hz _ (getD_mem l jb0 k hlt)
        have htk : Hid (tot (l.take (k + 1)) = tot (l.take k) + ((l.getD k jb0).fo.size + (l.getD k jb0).gr.size)) := by show _ = _; rw [take_getD l jb0 k hlt, tot_snoc]
        have hal2 : Hid (Ok (l.getD k jb0) → ∀ j ∈ l.take (k + 1), Ok j) := by
          intro h j hj
          rw [take_getD l jb0 k hlt, List.mem_append] at hj
          rcases hj with hj | hj
          · exact hall.out j hj
          · rw [List.mem_singleton.1 hj]; exact h
        have hno : Hid (¬ Ok (l.getD k jb0) → smB l now = false) := fun h => decide_eq_false fun hh => h (hh.2.1 _ (getD_mem l jb0 k hlt))
        clear hat
        generalize l.getD k jb0 = j at *
        have w1 : IntKind.i64.wrap ((tot (l.take k) : Int) + (j.fo.size : Int)) = (tot (l.take k) : Int) + (j.fo.size : Int) := Go.IntWalk.i64_in _ (by omega)
        have w2 : IntKind.i64.wrap ((tot (l.take k) : Int) + (j.fo.size : Int) + (j.gr.size : Int)) = (tot (l.take k) : Int) + (j.fo.size : Int) + (j.gr.size : Int) := Go.IntWalk.i64_in _ (by omega)
        have hR2 := fun W => hR j W
        have c0 : ∀ p : Bel wr, p.W.cell? ⟨b, o + k * 7, none⟩ = some (.string j.fo) := fun p => p.cell y0
        have c1 : ∀ p : Bel wr, p.W.cell? ⟨b, o + k * 7 + 1, none⟩ = some (.string j.gr) := fun p => p.cell y1
        go_upto_region 5 with fail
        refine wp_region_bel (by kernel_rfl) (by kernel_rfl) ?_
        repeat (go_big_quiet_step (fail))
        refine wpQuiet_nil ?_
        rintro wq ⟨⟨wz, hq⟩, rfl⟩
        have z0 := (⟨wq, hq⟩ : Bel wr).cell y0
        have z1 := (⟨wq, hq⟩ : Bel wr).cell y1
        have z2 := (⟨wq, hq⟩ : Bel wr).cell y2
        have z3 := (⟨wq, hq⟩ : Bel wr).cell y3
        have z4 := (⟨wq, hq⟩ : Bel wr).cell y4
        have z5 := (⟨wq, hq⟩ : Bel wr).cell y5
        have z6 := (⟨wq, hq⟩ : Bel wr).cell y6
        dsimp only at z0 z1 z2 z3 z4 z5 z6
        have hB2 : Hid (Below w.heap.size w wq) := hB.out.trans (hq.mono hB.out.size)
        clear hq c0 c1 y0 y1 y2 y3 y4 y5 y6
        by_cases hok : Ok j
        · have hok2 : Hid (∀ j ∈ l.take (k + 1), Ok j) := hal2.out hok
          have hokd : okB j = true := decide_eq_true hok
          rw [hokd] at hR2
          clear hR hno hok hokd
          go_wp2_with (go_at_call 18; refine (hR2 _).mono ?_; rintro e w3 ⟨rfl, hb3⟩)
          refine ⟨⟨k + 1, by omega, by omega, by go_num, ?_, hok2, hB2.out.trans (hb3.mono hB2.out.size)⟩, ?_⟩
          · rw [htk.out]; go_num; try omega
          · simp [intOf]; omega
        · have hokd : okB j = false := decide_eq_false hok
          rw [hokd] at hR2
          have hsm : Hid (smB l now = false) := hno.out hok
          clear hR hno hok hokd
          go_wp2_with (go_at_call 18; refine (hR2 _).mono ?_; rintro e w3 ⟨rfl, hb3⟩)
          go_ret
          exact ⟨by rw [hsm.out]; rfl, hB2.out.trans (hb3.mono hB2.out.size)⟩
      · have hk60 : ¬ (k : Int) ≤ 60 := by omega
        have hl60 : ¬ (l.length : Int) ≤ 60 := by omega
        have hsm : Hid (smB l now = false) := decide_eq_false fun hh => by omega
        go_wp2
        go_ret
        exact ⟨by rw [hsm.out]; rfl, hB.out⟩
    · obtain rfl : k = l.length := by omega
      have hki : ¬ (l.length : Int) < (l.length : Int) := by omega
      rw [List.take_of_length_le (Nat.le_refl _)] at *
      have hd : ∀ b : Bool, ((l.length ≤ 60 ∧ tot l ≤ 10000 ∧ 0 ≤ now ∧ now ≤ 1099511627776) ↔ b = true) → smB l now = b := fun b h => by
        unfold smB
        have : (l.length ≤ 60 ∧ (∀ j ∈ l, Ok j) ∧ tot l ≤ 10000 ∧ 0 ≤ now ∧ now ≤ 1099511627776) ↔ b = true := by rw [← h]; exact ⟨fun h => ⟨h.1, h.2.2⟩, fun h => ⟨h.1, hall.out, h.2⟩⟩
        cases b <;> simp [this]
      by_cases h1 : (l.length : Int) ≤ 60
      · by_cases h2 : (tot l : Int) ≤ 10000
        · by_cases h3 : 0 ≤ now
          · by_cases h4 : now ≤ 1099511627776
            · have hsm : Hid (smB l now = true) := hd true (by simp; omega)
              clear hd
              go_wp2
              go_ret
              exact ⟨by rw [hsm.out]; rfl, hB.out⟩
            · have hsm : Hid (smB l now = false) := hd false (by simp; omega)
              clear hd
              go_wp2
              go_ret
              exact ⟨by rw [hsm.out]; rfl, hB.out⟩
          · have hsm : Hid (smB l now = false) := hd false (by simp; omega)
            clear hd
            go_wp2
            go_ret
            exact ⟨by rw [hsm.out]; rfl, hB.out⟩
        · have hsm : Hid (smB l now = false) := hd false (by simp; omega)
          clear hd
          go_wp2
          go_ret
          exact ⟨by rw [hsm.out]; rfl, hB.out⟩
      · have hsm : Hid (smB l now = false) := hd false (by simp; omega)
        clear hd
        go_wp2
        go_ret
        exact ⟨by rw [hsm.out]; rfl, hB.out⟩
end Go.Proofs.Ytnbhnnjgnojgbaa
