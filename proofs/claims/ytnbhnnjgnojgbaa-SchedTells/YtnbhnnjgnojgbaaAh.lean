/- The order of jobs; the document's ahead 26, Wake 14. -/
import Derived.Test.YtnbhnnjgnojgbaaWm
namespace Go.Proofs.Ytnbhnnjgnojgbaa
set_option linter.unusedVariables false
open Go.RowKit
theorem cmp_in : ∀ x y : List UInt8, Lib.compareBytes x y = -1 ∨ Lib.compareBytes x y = 0 ∨ Lib.compareBytes x y = 1
  | [], [] => by simp [Lib.compareBytes]
  | [], _ :: _ => by simp [Lib.compareBytes]
  | _ :: _, [] => by simp [Lib.compareBytes]
  | a :: x, b :: y => by
    rw [Lib.compareBytes]
    split
    · exact .inl rfl
    · split
      · exact .inr (.inr rfl)
      · exact cmp_in x y
theorem cmp_zero : ∀ {x y : List UInt8}, Lib.compareBytes x y = 0 ↔ x = y
  | [], [] => by simp [Lib.compareBytes]
  | [], _ :: _ => by simp [Lib.compareBytes]
  | _ :: _, [] => by simp [Lib.compareBytes]
  | a :: x, b :: y => by
    rw [Lib.compareBytes]
    split
    · rename_i h
      constructor
      · intro h2; cases h2
      · intro h2; cases h2; exact absurd h (UInt8.lt_irrefl _)
    · split
      · rename_i h
        constructor
        · intro h2; cases h2
        · intro h2; cases h2; exact absurd h (UInt8.lt_irrefl _)
      · rename_i h1 h2
        have e : a = b := UInt8.toNat_inj.1 (by
          have g1 : ¬ a.toNat < b.toNat := fun h => h1 (UInt8.lt_iff_toNat_lt.2 h)
          have g2 : ¬ b.toNat < a.toNat := fun h => h2 (UInt8.lt_iff_toNat_lt.2 h)
          omega)
        rw [cmp_zero, e]
        simp
theorem less_cmpB : ∀ x y : List UInt8, Op.bytesLess x y = decide (Lib.compareBytes x y < 0)
  | [], [] => by simp [Op.bytesLess, Lib.compareBytes]
  | [], _ :: _ => by simp [Op.bytesLess, Lib.compareBytes]
  | _ :: _, [] => by simp [Op.bytesLess, Lib.compareBytes]
  | a :: x, b :: y => by
    have ih := less_cmpB x y
    rw [Op.bytesLess, Lib.compareBytes, ih]
    by_cases h1 : a < b
    · simp [h1]
    · rw [if_neg h1]
      by_cases h2 : b < a
      · rw [if_pos h2]
        have : (a == b) = false := by
          simp only [beq_eq_false_iff_ne]
          intro e; subst e; exact UInt8.lt_irrefl _ h2
        simp [h1, this]
      · rw [if_neg h2]
        have e : a = b := UInt8.toNat_inj.1 (by
          have g1 : ¬ a.toNat < b.toNat := fun h => h1 (UInt8.lt_iff_toNat_lt.2 h)
          have g2 : ¬ b.toNat < a.toNat := fun h => h2 (UInt8.lt_iff_toNat_lt.2 h)
          omega)
        subst e
        simp
theorem cS_less (a b : ByteArray) : Op.bytesLess a.toList b.toList = decide (cS a b < 0) := by
  rw [Lib.toList_data, Lib.toList_data, less_cmpB]; rfl
theorem cS_in (a b : ByteArray) : cS a b = -1 ∨ cS a b = 0 ∨ cS a b = 1 := cmp_in _ _
theorem cS_zero {a b : ByteArray} : cS a b = 0 ↔ a = b := by
  unfold cS
  rw [cmp_zero]
  exact ⟨fun h => ByteArray.ext (Array.toList_inj.1 h), fun h => by rw [h]⟩
theorem cS_ne (a b : ByteArray) : (!a.toList == b.toList) = decide (cS a b ≠ 0) := by
  rw [Lib.toList_data, Lib.toList_data]
  by_cases h : a = b
  · subst h
    simp [cS_zero.2 rfl]
  · have h1 : ¬ cS a b = 0 := fun e => h (cS_zero.1 e)
    have h2 : ¬ a.data = b.data := fun e => h (ByteArray.ext e)
    simp [h1, h2]
theorem cI_less (x y : Int) : decide (x < y) = decide (cI x y < 0) := by
  unfold cI
  by_cases h : x < y
  · simp [h]
  · rw [if_neg h]; split <;> simp [h]
set_option maxRecDepth 100000 in
set_option maxHeartbeats 2000000 in
theorem ahead26 (x y : Jb) (w : World) : Calls Try.prog 26 #[encJ x, encJ y] w fun e w' => e = .returned (.bool (decide (cmpJ x y < 0))) ∧ Below w.heap.size w w' := by
  obtain ⟨B, hB⟩ : ∃ B, B = decide (cmpJ x y < 0) := ⟨_, rfl⟩
  rw [← hB]
  have hb0 : Hid (Below w.heap.size w ((w.alloc (jO x)).alloc (jO y))) := ((Below.refl _ w).alloc (Nat.le_refl _) _).alloc (by simp) _
  have f1 := cS_ne x.fo y.fo
  have f2 := cS_ne x.gr y.gr
  have l1 := cS_less x.fo y.fo
  have l2 := cS_less x.gr y.gr
  have l3 := cI_less x.id y.id
  unfold cmpJ orI at hB
  generalize cS x.fo y.fo = P at *
  generalize cS x.gr y.gr = Q at *
  generalize hR : cI x.id y.id = R at *
  clear hR
  unfold encJ
  by_cases hP : P = 0
  · rw [if_pos hP] at hB
    have g1 : (!x.fo.toList == y.fo.toList) = false := by rw [f1]; simp [hP]
    by_cases hQ : Q = 0
    · rw [if_pos hQ] at hB
      have g2 : (!x.gr.toList == y.gr.toList) = false := by rw [f2]; simp [hQ]
      rw [← l3] at hB
      replace hB : Hid _ := hB
      clear f1 f2 l1 l2 l3 hP hQ
      go_enter Try.func26, Try.ntmps26
      go_wp2
      go_ret
      exact ⟨by rw [hB.out]; rfl, hb0.out⟩
    · rw [if_neg hQ] at hB
      have g2 : (!x.gr.toList == y.gr.toList) = true := by rw [f2]; simp [hQ]
      rw [← l2] at hB
      replace hB : Hid _ := hB
      clear f1 f2 l1 l2 l3 hP hQ
      go_enter Try.func26, Try.ntmps26
      go_wp2
      go_ret
      exact ⟨by rw [hB.out]; rfl, hb0.out⟩
  · rw [if_neg hP] at hB
    have g1 : (!x.fo.toList == y.fo.toList) = true := by rw [f1]; simp [hP]
    rw [← l1] at hB
    replace hB : Hid _ := hB
    clear f1 f2 l1 l2 l3 hP
    go_enter Try.func26, Try.ntmps26
    go_wp2
    go_ret
    exact ⟨by rw [hB.out]; rfl, hb0.out⟩
theorem wk_step (now : Int) (a : Int × Bool) (j : Jb) (hj : Ok j) (h0 : -1 ≤ now) : (if isB j now = true then now else max now (nextF j j.la)) = (if j.pa = true then (if isB j now = true then now else max now (nextF j j.la)) else max now (nextF j j.la)) := by
  by_cases hp : j.pa = true
  · rw [if_pos hp]
  · rw [if_neg hp]
    split
    · rename_i h
      have := ((isB_next hj h0).1 h).2
      omega
    · rfl
set_option maxRecDepth 100000 in
set_option maxHeartbeats 2000000 in
theorem rwake14 (v : Value) (l : List Jb) (now : Int) (w : World) (hv : Jbs w v l) (hok : ∀ j ∈ l, Ok j) (hl : l.length ≤ 100000) (h0 : -1 ≤ now) (h1 : now ≤ 4398046511104) :
    Calls Try.prog 14 #[.int .i64 now, v] w fun e w' => e = .returned (.tuple #[.int .i64 (wkF now l).1, .bool (wkF now l).2]) ∧ Below w.heap.size w w' := by
  obtain ⟨va, vc, rfl⟩ := hv.shape
  have hI := fun j W (h : Ok j) => rnext12 j j.la W h h.2.2.2.2.1 (by have := h.2.2.2.2.2; omega)
  have hS := fun j W (h : Ok j) => ris19 j now W h h0 h1
  unfold encJ at hI hS
  go_enter Try.func14, Try.ntmps14
  go_wp2
  go_loopw [6, 7, 8] (fun lv fv i wr => ∃ k : Nat, k ≤ l.length ∧ i = .int .i64 k ∧ lv = .int .i64 (wkF now (l.take k)).1 ∧ fv = .bool (wkF now (l.take k)).2 ∧ Hid (Below w.heap.size w wr)) (fun _ _ i _ => l.length - (intOf i).toNat)
  case atStart => exact ⟨0, Nat.zero_le _, rfl, rfl, rfl, Below.refl _ _⟩
  case round =>
    obtain ⟨k, hk, rfl, rfl, rfl, hB⟩ := hrel
    by_cases hlt : k < l.length
    · have hki : (k : Int) < (l.length : Int) := by omega
      obtain ⟨b, o, rfl, hat⟩ := jb_at (Sls.grow hv hB.out) k hlt
      obtain ⟨y0, y1, y2, y3, y4, y5, y6⟩ := at_jb hat
      have hokj := hok _ (getD_mem l jb0 k hlt)
      have hsn : Hid _ := wkF_snoc now l k hlt
      clear hat
      generalize l.getD k jb0 = j at *
      have hI2 := fun W => hI j W hokj
      have hS2 := fun W => hS j W hokj
      clear hI hS
      have hbn : isB j now = true → max now (nextF j j.la) = now := fun h => by
        have := ((isB_next hokj h0).1 h).2
        omega
      generalize hp : j.pa = pa at *
      generalize wkF now (l.take k) = a at *
      obtain ⟨a1, a2⟩ := a
      unfold wkS at hsn
      rw [hp] at hsn
      clear hp
      cases pa with
      | true =>
        rw [if_pos rfl] at hsn
        go_wp2
        refine ⟨⟨k + 1, by omega, by go_num, by rw [hsn.out], by rw [hsn.out], hB.out⟩, ?_⟩
        simp [intOf]; omega
      | false =>
        rw [if_neg (by decide)] at hsn
        obtain ⟨T, hT⟩ : ∃ T, T = max now (nextF j j.la) := ⟨_, rfl⟩
        rw [← hT] at hsn hbn
        have hfin : ∀ (wq : World), Below wr.heap.size wr wq → Hid (Below w.heap.size w wq) := fun wq hq => hB.out.trans (hq.mono hB.out.size)
        cases hib : isB j now with
        | true =>
          rw [hib] at hS2
          have hTn := hbn hib
          rw [hTn] at hsn
          clear hTn hT hbn hI2
          cases a2 with
          | false =>
            rw [if_pos (by simp)] at hsn
            go_wp2_with (first
              | (go_at_call 19; refine (hS2 _).mono ?_; rintro e w3 ⟨rfl, hb3⟩; have hBq : Hid (Below w.heap.size w w3) := hfin w3 hb3))
            refine ⟨⟨k + 1, by omega, by go_num, by rw [hsn.out], by rw [hsn.out], hBq.out⟩, ?_⟩
            simp [intOf]; omega
          | true =>
            by_cases hc : now < a1
            · rw [if_pos (by simp [hc])] at hsn
              go_wp2_with (first
                | (go_at_call 19; refine (hS2 _).mono ?_; rintro e w3 ⟨rfl, hb3⟩; have hBq : Hid (Below w.heap.size w w3) := hfin w3 hb3))
              refine ⟨⟨k + 1, by omega, by go_num, by rw [hsn.out], by rw [hsn.out], hBq.out⟩, ?_⟩
              simp [intOf]; omega
            · rw [if_neg (by simp [hc])] at hsn
              go_wp2_with (first
                | (go_at_call 19; refine (hS2 _).mono ?_; rintro e w3 ⟨rfl, hb3⟩; have hBq : Hid (Below w.heap.size w w3) := hfin w3 hb3))
              refine ⟨⟨k + 1, by omega, by go_num, by rw [hsn.out], by rw [hsn.out], hBq.out⟩, ?_⟩
              simp [intOf]; omega
        | false =>
          rw [hib] at hS2
          clear hbn
          go_upto_region 8 with (first
            | (go_at_call 19; refine (hS2 _).mono ?_; rintro e w3 ⟨rfl, hb3⟩; have hBq : Hid (Below w.heap.size w w3) := hfin w3 hb3))
          have q12 : ∀ p : Bel w3, _ := fun p => hI2 p.W
          have c0 : ∀ p : Bel w3, p.W.cell? ⟨b, o + k * 7, none⟩ = some (.string j.fo) := fun p => ((⟨p.W, (hb3.trans (p.h.mono hb3.size))⟩ : Bel wr).cell y0)
          have c1 : ∀ p : Bel w3, p.W.cell? ⟨b, o + k * 7 + 1, none⟩ = some (.string j.gr) := fun p => ((⟨p.W, (hb3.trans (p.h.mono hb3.size))⟩ : Bel wr).cell y1)
          have c2 : ∀ p : Bel w3, p.W.cell? ⟨b, o + k * 7 + 2, none⟩ = some (.int .i64 j.id) := fun p => ((⟨p.W, (hb3.trans (p.h.mono hb3.size))⟩ : Bel wr).cell y2)
          have c3 : ∀ p : Bel w3, p.W.cell? ⟨b, o + k * 7 + 3, none⟩ = some (.int .i64 j.iv) := fun p => ((⟨p.W, (hb3.trans (p.h.mono hb3.size))⟩ : Bel wr).cell y3)
          have c4 : ∀ p : Bel w3, p.W.cell? ⟨b, o + k * 7 + 4, none⟩ = some (.int .i64 j.off) := fun p => ((⟨p.W, (hb3.trans (p.h.mono hb3.size))⟩ : Bel wr).cell y4)
          have c5 : ∀ p : Bel w3, p.W.cell? ⟨b, o + k * 7 + 5, none⟩ = some (.bool false) := fun p => ((⟨p.W, (hb3.trans (p.h.mono hb3.size))⟩ : Bel wr).cell y5)
          have c6 : ∀ p : Bel w3, p.W.cell? ⟨b, o + k * 7 + 6, none⟩ = some (.int .i64 j.la) := fun p => ((⟨p.W, (hb3.trans (p.h.mono hb3.size))⟩ : Bel wr).cell y6)
          generalize nextF j j.la = nx at *
          refine wp_region_bel (by kernel_rfl) (by kernel_rfl) ?_
          repeat (go_big_quiet_step (first | (go_at_call 12; exact Calls.bel (q12 _))))
          refine wpQuiet_nil ?_
          rintro wq ⟨⟨wz, hq⟩, rfl⟩
          have hBr : Hid (Below w.heap.size w wq) := hBq.out.trans (hq.mono hBq.out.size)
          clear c0 c1 c2 c3 c4 c5 c6 q12 hq
          cases a2 with
          | false =>
            rw [if_pos (by simp)] at hsn
            go_wp2
            refine ⟨⟨k + 1, by omega, by go_num, by rw [hsn.out]; try rw [hT], by rw [hsn.out], hBr.out⟩, ?_⟩
            simp [intOf]; omega
          | true =>
            by_cases hc : T < a1
            · rw [if_pos (by simp [hc])] at hsn
              go_wp2
              refine ⟨⟨k + 1, by omega, by go_num, by rw [hsn.out]; try rw [hT], by rw [hsn.out], hBr.out⟩, ?_⟩
              simp [intOf]; omega
            · rw [if_neg (by simp [hc])] at hsn
              go_wp2
              refine ⟨⟨k + 1, by omega, by go_num, by rw [hsn.out]; try rw [hT], by rw [hsn.out], hBr.out⟩, ?_⟩
              simp [intOf]; omega
    · obtain rfl : k = l.length := by omega
      have hki : ¬ (l.length : Int) < (l.length : Int) := by omega
      rw [List.take_of_length_le (Nat.le_refl _)]
      go_wp2
      go_ret2
      exact ⟨rfl, hB.out⟩
end Go.Proofs.Ytnbhnnjgnojgbaa
