/- small, live. -/
import Derived.Test.YtfbeilninpapaaaCm
import Derived.Test.YtfbeilninpapaaaCn
namespace Go.Proofs.Ytfbeilninpapaaa
set_option linter.unusedVariables false
open Go.RowKit
theorem total_succ (ts : List ByteArray) (k : Nat) (h : k < ts.length) : total (ts.take (k + 1)) = total (ts.take k) + (ts.getD k ⟨#[]⟩).size := by
  unfold total
  rw [take_getD ts ⟨#[]⟩ k h, List.map_append, List.sum_append]
  simp
set_option maxRecDepth 100000 in
theorem total_bound (ts : List ByteArray) (h : TxR ts) (k : Nat) : total (ts.take k) ≤ k * 1000000000000000 := by
  induction k with
  | zero => simp [total]
  | succ k ih =>
    by_cases hk : k < ts.length
    · rw [total_succ ts k hk]
      have := h _ (getD_mem ts ⟨#[]⟩ k hk)
      omega
    · rw [List.take_of_length_le (by omega)]
      rw [List.take_of_length_le (by omega)] at ih
      exact Nat.le_trans ih (Nat.mul_le_mul_right _ (Nat.le_succ k))
/-- The names of grants. -/
def nmsG (l : List Gr) : List ByteArray := l.map Gr.name
theorem nmsG_len (l : List Gr) : (nmsG l).length = l.length := by simp [nmsG]
theorem nmsG_get (l : List Gr) (k : Nat) (h : k < l.length) : (nmsG l).getD k ⟨#[]⟩ = (l.getD k gr0).name := by
  unfold nmsG
  rw [List.getD_eq_getElem?_getD, List.getElem?_map, List.getElem?_eq_getElem h, List.getD_eq_getElem?_getD, List.getElem?_eq_getElem h]
  rfl
theorem nmsG_R {l : List Gr} (h : GrR l) : TxR (nmsG l) := by
  intro s hs
  obtain ⟨g, hg, rfl⟩ := List.mem_map.1 hs
  exact h g hg
/-- small. -/
def smB (n r : ByteArray) (ts : List ByteArray) (l : List Gr) : Bool := decide (l.length ≤ 40) && (decide (ts.length ≤ 40) && decide (n.size + r.size + total (ts.take 41) + total ((nmsG l).take 41) ≤ 20000))
theorem take_more {α : Type} (l : List α) (k : Nat) (h : k = l.length) (h2 : k ≤ 41) : l.take 41 = l.take k := by
  subst h; rw [List.take_of_length_le h2, List.take_of_length_le (Nat.le_refl _)]
set_option maxRecDepth 100000 in
set_option maxHeartbeats 4000000 in
theorem small_any (n r : ByteArray) (tv : Value) (ts : List ByteArray) (v : Value) (l : List Gr) (w : World) (ht : Txs w tv ts) (hts : ts.length ≤ 1000000000000000) (hv : Grs w v l) (hl : l.length ≤ 1000000000000000) (hn : n.size ≤ 1000000000000000) (hr : r.size ≤ 1000000000000000) (htr : TxR ts) (hgr : GrR l) :
    Calls Try.prog 7 #[.agg #[.string n, .string r, tv], v] w fun e w' => e = .returned (.bool (smB n r ts l)) ∧ Below w.heap.size w w' := by
  obtain ⟨a, c, rfl⟩ := ht.shape
  obtain ⟨a2, c2, rfl⟩ := hv.shape
  have hb1 : Below w.heap.size w (w.alloc (.cells #[.string n, .string r, .slice a ts.length c] 24)) := (Below.refl _ _).alloc (Nat.le_refl _) _
  have hR : Hid (smB n r ts l = (decide (l.length ≤ 40) && (decide (ts.length ≤ 40) && decide (n.size + r.size + total (ts.take 41) + total ((nmsG l).take 41) ≤ 20000)))) := rfl
  have htv : Hid (Txs (w.alloc (.cells #[.string n, .string r, .slice a ts.length c] 24)) (.slice a ts.length c) ts) := ht.alloc _
  have hvv : Hid (Grs (w.alloc (.cells #[.string n, .string r, .slice a ts.length c] 24)) (.slice a2 l.length c2) l) := hv.alloc _
  replace hb1 : Hid (Below w.heap.size w (w.alloc (.cells #[.string n, .string r, .slice a ts.length c] 24))) := hb1
  have hbt : Hid (∀ k, total (ts.take k) ≤ k * 1000000000000000) := total_bound ts htr
  have hbg : Hid (∀ k, total ((nmsG l).take k) ≤ k * 1000000000000000) := total_bound _ (nmsG_R hgr)
  replace htr : Hid (TxR ts) := htr
  replace hgr : Hid (GrR l) := hgr
  clear ht hv
  go_enter Try.func7, Try.ntmps7
  go_wp2
  go_loop [5, 6] (fun z i => ∃ k : Nat, k ≤ ts.length ∧ k ≤ 41 ∧ i = .int .i64 k ∧ z = .int .i64 ((n.size + r.size + total (ts.take k) : Nat) : Int)) (fun _ i => ts.length - (intOf i).toNat)
  case atStart => exact ⟨0, Nat.zero_le _, by omega, rfl, by simp [total]⟩
  case round =>
    obtain ⟨k, hk, hk41, rfl, rfl⟩ := hrel
    have hT := hbt.out k
    have hT2 : total (ts.take k) ≤ 41000000000000000 := by have : k * 1000000000000000 ≤ 41 * 1000000000000000 := Nat.mul_le_mul_right _ hk41; omega
    clear hT
    by_cases hlt : k < ts.length ∧ k ≤ 40
    · have hki : (k : Int) < (ts.length : Int) := by omega
      have hk40 : (k : Int) ≤ 40 := by omega
      obtain ⟨b, o, rfl, x0⟩ := tx_at htv.out k hlt.1
      have hs : Hid (total (ts.take (k + 1)) = total (ts.take k) + (ts.getD k ⟨#[]⟩).size) := total_succ ts k hlt.1
      have hsz := htr.out _ (getD_mem ts ⟨#[]⟩ k hlt.1)
      generalize ts.getD k ⟨#[]⟩ = t at *
      generalize total (ts.take k) = T at *
      go_wp2
      go_round
      case rel => exact ⟨k + 1, by omega, by omega, by go_num, by rw [hs.out]; congr 1; omega⟩
      case measure => simp [intOf]; omega
    · have hend : ¬ (k : Int) < (ts.length : Int) ∨ ((k : Int) < (ts.length : Int) ∧ ¬ (k : Int) ≤ 40) := by omega
      have hTk : Hid (ts.length ≤ 40 → total (ts.take 41) = total (ts.take k)) := fun h => by rw [take_more ts k (by omega) hk41]
      generalize total (ts.take k) = T at *
      obtain ⟨S, hS⟩ : ∃ S, S = n.size + r.size + T := ⟨_, rfl⟩
      rw [← hS]
      have hSb : S ≤ 44000000000000000 := by omega
      have hR2 : Hid (ts.length ≤ 40 → smB n r ts l = (decide (l.length ≤ 40) && decide (S + total ((nmsG l).take 41) ≤ 20000))) := fun h => by
        rw [hR.out, decide_eq_true h, Bool.true_and, hTk.out h, hS]
      clear hS hTk hT2
      rcases hend with hend | ⟨hend, h40⟩
      all_goals
        clear hlt hk hk41
        go_wp2
        go_loop [5, 7] (fun z i => ∃ k : Nat, k ≤ l.length ∧ k ≤ 41 ∧ i = .int .i64 k ∧ z = .int .i64 ((S + total ((nmsG l).take k) : Nat) : Int)) (fun _ i => l.length - (intOf i).toNat)
        case atStart => exact ⟨0, Nat.zero_le _, by omega, rfl, by simp [total]⟩
        case round =>
          obtain ⟨q, hq, hq41, rfl, rfl⟩ := hrel
          have hT := hbg.out q
          have hT2 : total ((nmsG l).take q) ≤ 41000000000000000 := by have : q * 1000000000000000 ≤ 41 * 1000000000000000 := Nat.mul_le_mul_right _ hq41; omega
          clear hT
          by_cases hlt : q < l.length ∧ q ≤ 40
          · have hqi : (q : Int) < (l.length : Int) := by omega
            have hq40 : (q : Int) ≤ 40 := by omega
            obtain ⟨b, o, rfl, x0, x1, x2⟩ := gr_at hvv.out q hlt.1
            have hs : Hid (total ((nmsG l).take (q + 1)) = total ((nmsG l).take q) + (l.getD q gr0).name.size) := by
              show _ = _
              rw [total_succ _ q (by rw [nmsG_len]; exact hlt.1), nmsG_get l q hlt.1]
            have hsz := hgr.out _ (getD_mem l gr0 q hlt.1)
            generalize l.getD q gr0 = g at *
            obtain ⟨gk, gm, gl⟩ := g
            simp only at x0 x1 x2 hsz hs
            generalize total ((nmsG l).take q) = T2 at *
            go_wp2
            go_round
            case rel => exact ⟨q + 1, by omega, by omega, by go_num, by rw [hs.out]; congr 1; omega⟩
            case measure => simp [intOf]; omega
          · have hend2 : (¬ (q : Int) < (l.length : Int)) ∨ ((q : Int) < (l.length : Int) ∧ ¬ (q : Int) ≤ 40) := by omega
            have hTq : Hid (l.length ≤ 40 → total ((nmsG l).take 41) = total ((nmsG l).take q)) := fun h => by rw [take_more (nmsG l) q (by rw [nmsG_len]; omega) hq41]
            generalize total ((nmsG l).take q) = T2 at *
            by_cases g1 : l.length ≤ 40
            · have g1d : decide ((l.length : Int) ≤ 40) = true := by simp; omega
              have g1i : (l.length : Int) ≤ 40 := by omega
              have hqe : ¬ (q : Int) < (l.length : Int) := by omega
              by_cases g2 : ts.length ≤ 40
              · have g2d : decide ((ts.length : Int) ≤ 40) = true := by simp; omega
                have hR3 : Hid (smB n r ts l = decide (S + T2 ≤ 20000)) := by
                  show _ = _
                  rw [hR2.out g2, decide_eq_true g1, Bool.true_and, hTq.out g1]
                clear hR hR2 hTq hend2
                first
                  | (exfalso; omega)
                  | (by_cases g3 : S + T2 ≤ 20000
                     · have g3d : decide ((S : Int) + (T2 : Int) ≤ 20000) = true := by simp; omega
                       rw [decide_eq_true g3] at hR3
                       go_wp2
                       go_ret
                       exact ⟨by rw [hR3.out]; rfl, hb1.out⟩
                     · have g3d : decide ((S : Int) + (T2 : Int) ≤ 20000) = false := by simp; omega
                       rw [decide_eq_false g3] at hR3
                       go_wp2
                       go_ret
                       exact ⟨by rw [hR3.out]; rfl, hb1.out⟩)
              · have g2d : decide ((ts.length : Int) ≤ 40) = false := by simp; omega
                have hR3 : Hid (smB n r ts l = false) := by
                  show _ = _
                  rw [hR.out, decide_eq_false g2, Bool.false_and, Bool.and_false]
                clear hR hR2 hTq hend2
                go_wp2
                go_ret
                exact ⟨by rw [hR3.out]; rfl, hb1.out⟩
            · have g1d : decide ((l.length : Int) ≤ 40) = false := by simp; omega
              have g1i : ¬ (l.length : Int) ≤ 40 := by omega
              have hR3 : Hid (smB n r ts l = false) := by
                show _ = _
                rw [hR.out, decide_eq_false g1, Bool.false_and]
              clear hR hR2 hTq
              rcases hend2 with h5 | ⟨h5, h6⟩
              all_goals
                go_wp2
                go_ret
                exact ⟨by rw [hR3.out]; rfl, hb1.out⟩
end Go.Proofs.Ytfbeilninpapaaa
