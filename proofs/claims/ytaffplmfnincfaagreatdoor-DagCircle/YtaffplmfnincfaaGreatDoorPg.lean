/- DagCircle: the walk. -/
import Derived.Test.YtaffplmfnincfaaGreatDoorPh
import Derived.Deep.Cut
namespace Go.Proofs.YtaffplmfnincfaaGreatDoor
set_option linter.unusedVariables false
open Go.RowKit
theorem names_are : ([⟨#[65]⟩, ⟨#[66]⟩, ⟨#[67]⟩, ⟨#[68]⟩, ⟨#[69]⟩, ⟨#[70]⟩, ⟨#[71]⟩, ⟨#[72]⟩, ⟨#[73]⟩, ⟨#[74]⟩] : List ByteArray) = (List.range 10).map nmK := by decide
theorem nm_get (k : Nat) (hk : k < 10) : ([⟨#[65]⟩, ⟨#[66]⟩, ⟨#[67]⟩, ⟨#[68]⟩, ⟨#[69]⟩, ⟨#[70]⟩, ⟨#[71]⟩, ⟨#[72]⟩, ⟨#[73]⟩, ⟨#[74]⟩] : List ByteArray).getD k ⟨#[]⟩ = nmK k := by
  rw [names_are, List.getD_eq_getElem?_getD]
  simp [hk]
set_option maxRecDepth 100000 in
set_option maxHeartbeats 16000000 in
/-- The numbers are out of bounds. -/
theorem circle_bad (n f t : Int) (W : World) (hG : G W ∧ SignsAt W) (h : ¬ (2 ≤ n ∧ n ≤ 10 ∧ 0 ≤ f ∧ f < n ∧ 0 ≤ t ∧ t < n)) : Calls Tryz.prog 6 #[.int .i64 n, .int .i64 f, .int .i64 t] W fun e w' => e = .returned (.bool true) ∧ Below W.heap.size W w' := by
  have hl1 := live8 W hG.1 hG.2
  clear hG
  by_cases h1 : n < 2
  · go_enter Tryz.func6, Tryz.ntmps6
    go_wp2_with (first | (go_at_call 8; refine hl1.mono ?_; rintro e w2 ⟨rfl, hb2⟩))
    go_ret
    exact ⟨rfl, hb2⟩
  by_cases h2 : 10 < n
  · go_enter Tryz.func6, Tryz.ntmps6
    go_wp2_with (first | (go_at_call 8; refine hl1.mono ?_; rintro e w2 ⟨rfl, hb2⟩))
    go_ret
    exact ⟨rfl, hb2⟩
  by_cases h3 : f < 0
  · go_enter Tryz.func6, Tryz.ntmps6
    go_wp2_with (first | (go_at_call 8; refine hl1.mono ?_; rintro e w2 ⟨rfl, hb2⟩))
    go_ret
    exact ⟨rfl, hb2⟩
  by_cases h4 : n ≤ f
  · go_enter Tryz.func6, Tryz.ntmps6
    go_wp2_with (first | (go_at_call 8; refine hl1.mono ?_; rintro e w2 ⟨rfl, hb2⟩))
    go_ret
    exact ⟨rfl, hb2⟩
  by_cases h5 : t < 0
  · go_enter Tryz.func6, Tryz.ntmps6
    go_wp2_with (first | (go_at_call 8; refine hl1.mono ?_; rintro e w2 ⟨rfl, hb2⟩))
    go_ret
    exact ⟨rfl, hb2⟩
  · have h6 : n ≤ t := by omega
    clear h
    go_enter Tryz.func6, Tryz.ntmps6
    go_wp2_with (first | (go_at_call 8; refine hl1.mono ?_; rintro e w2 ⟨rfl, hb2⟩))
    go_ret
    exact ⟨rfl, hb2⟩
theorem lk_succ (k : Nat) : (List.range (k + 1)).map ndK = (List.range k).map ndK ++ [ndK k] := by
  rw [List.range_succ, List.map_append]
  rfl
theorem txK_pos (k : Nat) (h : 0 < k) : txK k = (⟨#[36]⟩ : ByteArray) ++ nmK (k - 1) ++ (⟨#[32, 43, 32, 49]⟩ : ByteArray) := by
  unfold txK
  rw [if_neg (by omega)]
set_option maxRecDepth 100000 in
set_option maxHeartbeats 16000000 in
theorem circle_ok (n f t : Nat) (W : World) (hG : G W ∧ SignsAt W) (hn2 : 2 ≤ n) (hn10 : n ≤ 10) (hf : f < n) (ht : t < n) : Calls Tryz.prog 6 #[.int .i64 n, .int .i64 f, .int .i64 t] W fun e w' => e = .returned (.bool true) ∧ Below W.heap.size W w' := by
  have h1 : ¬ (n : Int) < 2 := by omega
  have h2 : ¬ (10 : Int) < (n : Int) := by omega
  have h3 : ¬ (f : Int) < 0 := by omega
  have h4 : ¬ (n : Int) ≤ (f : Int) := by omega
  have h5 : ¬ (t : Int) < 0 := by omega
  have h6 : ¬ (n : Int) ≤ (t : Int) := by omega
  have hb1 := bW0 W (.cells #[.string ⟨#[65]⟩, .string ⟨#[66]⟩, .string ⟨#[67]⟩, .string ⟨#[68]⟩, .string ⟨#[69]⟩, .string ⟨#[70]⟩, .string ⟨#[71]⟩, .string ⟨#[72]⟩, .string ⟨#[73]⟩, .string ⟨#[74]⟩] 9)
  have hnm : Hid (∀ w', Below (W.alloc (.cells #[.string ⟨#[65]⟩, .string ⟨#[66]⟩, .string ⟨#[67]⟩, .string ⟨#[68]⟩, .string ⟨#[69]⟩, .string ⟨#[70]⟩, .string ⟨#[71]⟩, .string ⟨#[72]⟩, .string ⟨#[73]⟩, .string ⟨#[74]⟩] 9)).heap.size (W.alloc (.cells #[.string ⟨#[65]⟩, .string ⟨#[66]⟩, .string ⟨#[67]⟩, .string ⟨#[68]⟩, .string ⟨#[69]⟩, .string ⟨#[70]⟩, .string ⟨#[71]⟩, .string ⟨#[72]⟩, .string ⟨#[73]⟩, .string ⟨#[74]⟩] 9)) w' → ∀ k, k < 10 → w'.cell? ⟨W.heap.size, k, none⟩ = some (.string (nmK k))) := fun w' h k hk => by
    have ho := own_lit TS W W.heap.size #[.string ⟨#[65]⟩, .string ⟨#[66]⟩, .string ⟨#[67]⟩, .string ⟨#[68]⟩, .string ⟨#[69]⟩, .string ⟨#[70]⟩, .string ⟨#[71]⟩, .string ⟨#[72]⟩, .string ⟨#[73]⟩, .string ⟨#[74]⟩] [⟨#[65]⟩, ⟨#[66]⟩, ⟨#[67]⟩, ⟨#[68]⟩, ⟨#[69]⟩, ⟨#[70]⟩, ⟨#[71]⟩, ⟨#[72]⟩, ⟨#[73]⟩, ⟨#[74]⟩] 10 (Nat.le_refl _) rfl (by decide) rfl
    obtain ⟨b, o, e, hc⟩ := tx_at (ho.sls.grow h) k hk
    cases e
    rw [Nat.zero_add] at hc
    rw [nm_get k hk] at hc
    exact hc
  have hb2 : Below (W.alloc (.cells #[.string ⟨#[65]⟩, .string ⟨#[66]⟩, .string ⟨#[67]⟩, .string ⟨#[68]⟩, .string ⟨#[69]⟩, .string ⟨#[70]⟩, .string ⟨#[71]⟩, .string ⟨#[72]⟩, .string ⟨#[73]⟩, .string ⟨#[74]⟩] 9)).heap.size (W.alloc (.cells #[.string ⟨#[65]⟩, .string ⟨#[66]⟩, .string ⟨#[67]⟩, .string ⟨#[68]⟩, .string ⟨#[69]⟩, .string ⟨#[70]⟩, .string ⟨#[71]⟩, .string ⟨#[72]⟩, .string ⟨#[73]⟩, .string ⟨#[74]⟩] 9)) ((W.alloc (.cells #[.string ⟨#[65]⟩, .string ⟨#[66]⟩, .string ⟨#[67]⟩, .string ⟨#[68]⟩, .string ⟨#[69]⟩, .string ⟨#[70]⟩, .string ⟨#[71]⟩, .string ⟨#[72]⟩, .string ⟨#[73]⟩, .string ⟨#[74]⟩] 9)).alloc (.cells #[.string ⟨#[65]⟩, .int .i64 3, .string ⟨#[]⟩, .string ⟨#[]⟩, .string ⟨#[]⟩, .bool false, .int .i64 0, .int .i64 0, .int .i64 0, .int .i64 0, .string ⟨#[49]⟩] 36)) := bW0 _ _
  have ho2 : Hid (OwnN ((W.alloc (.cells #[.string ⟨#[65]⟩, .string ⟨#[66]⟩, .string ⟨#[67]⟩, .string ⟨#[68]⟩, .string ⟨#[69]⟩, .string ⟨#[70]⟩, .string ⟨#[71]⟩, .string ⟨#[72]⟩, .string ⟨#[73]⟩, .string ⟨#[74]⟩] 9)).alloc (.cells #[.string ⟨#[65]⟩, .int .i64 3, .string ⟨#[]⟩, .string ⟨#[]⟩, .string ⟨#[]⟩, .bool false, .int .i64 0, .int .i64 0, .int .i64 0, .int .i64 0, .string ⟨#[49]⟩] 36)) (W.heap.size + 1) (.slice (some ⟨W.heap.size + 1, 0, none⟩) 1 1) ((List.range 1).map ndK)) := by
    have h := own_lit TN (W.alloc (.cells #[.string ⟨#[65]⟩, .string ⟨#[66]⟩, .string ⟨#[67]⟩, .string ⟨#[68]⟩, .string ⟨#[69]⟩, .string ⟨#[70]⟩, .string ⟨#[71]⟩, .string ⟨#[72]⟩, .string ⟨#[73]⟩, .string ⟨#[74]⟩] 9)) (W.heap.size + 1) #[.string ⟨#[65]⟩, .int .i64 3, .string ⟨#[]⟩, .string ⟨#[]⟩, .string ⟨#[]⟩, .bool false, .int .i64 0, .int .i64 0, .int .i64 0, .int .i64 0, .string ⟨#[49]⟩] [ndK 0] 1 (by simp) rfl (by decide) rfl
    have e : (W.alloc (.cells #[.string ⟨#[65]⟩, .string ⟨#[66]⟩, .string ⟨#[67]⟩, .string ⟨#[68]⟩, .string ⟨#[69]⟩, .string ⟨#[70]⟩, .string ⟨#[71]⟩, .string ⟨#[72]⟩, .string ⟨#[73]⟩, .string ⟨#[74]⟩] 9)).heap.size = W.heap.size + 1 := by simp
    rw [e] at h
    exact h
  have hG2 : Hid (∀ w', Below W.heap.size W w' → G w' ∧ SignsAt w') := fun w' h => ⟨hG.1.grow h, hG.2.grow h⟩
  have hs1 : (W.alloc (.cells #[.string ⟨#[65]⟩, .string ⟨#[66]⟩, .string ⟨#[67]⟩, .string ⟨#[68]⟩, .string ⟨#[69]⟩, .string ⟨#[70]⟩, .string ⟨#[71]⟩, .string ⟨#[72]⟩, .string ⟨#[73]⟩, .string ⟨#[74]⟩] 9)).heap.size = W.heap.size + 1 := by simp
  rw [hs1] at hb2 hnm
  replace hs1 : Hid ((W.alloc (.cells #[.string ⟨#[65]⟩, .string ⟨#[66]⟩, .string ⟨#[67]⟩, .string ⟨#[68]⟩, .string ⟨#[69]⟩, .string ⟨#[70]⟩, .string ⟨#[71]⟩, .string ⟨#[72]⟩, .string ⟨#[73]⟩, .string ⟨#[74]⟩] 9)).heap.size = W.heap.size + 1) := hs1
  replace hb1 : Hid (Below W.heap.size W (W.alloc (.cells #[.string ⟨#[65]⟩, .string ⟨#[66]⟩, .string ⟨#[67]⟩, .string ⟨#[68]⟩, .string ⟨#[69]⟩, .string ⟨#[70]⟩, .string ⟨#[71]⟩, .string ⟨#[72]⟩, .string ⟨#[73]⟩, .string ⟨#[74]⟩] 9))) := hb1
  replace hb2 : Hid (Below (W.heap.size + 1) (W.alloc (.cells #[.string ⟨#[65]⟩, .string ⟨#[66]⟩, .string ⟨#[67]⟩, .string ⟨#[68]⟩, .string ⟨#[69]⟩, .string ⟨#[70]⟩, .string ⟨#[71]⟩, .string ⟨#[72]⟩, .string ⟨#[73]⟩, .string ⟨#[74]⟩] 9)) ((W.alloc (.cells #[.string ⟨#[65]⟩, .string ⟨#[66]⟩, .string ⟨#[67]⟩, .string ⟨#[68]⟩, .string ⟨#[69]⟩, .string ⟨#[70]⟩, .string ⟨#[71]⟩, .string ⟨#[72]⟩, .string ⟨#[73]⟩, .string ⟨#[74]⟩] 9)).alloc (.cells #[.string ⟨#[65]⟩, .int .i64 3, .string ⟨#[]⟩, .string ⟨#[]⟩, .string ⟨#[]⟩, .bool false, .int .i64 0, .int .i64 0, .int .i64 0, .int .i64 0, .string ⟨#[49]⟩] 36))) := hb2
  clear hG
  go_enter Tryz.func6, Tryz.ntmps6
  go_wp2
  generalize (W.alloc (.cells #[.string ⟨#[65]⟩, .string ⟨#[66]⟩, .string ⟨#[67]⟩, .string ⟨#[68]⟩, .string ⟨#[69]⟩, .string ⟨#[70]⟩, .string ⟨#[71]⟩, .string ⟨#[72]⟩, .string ⟨#[73]⟩, .string ⟨#[74]⟩] 9)).alloc (.cells #[.string ⟨#[65]⟩, .int .i64 3, .string ⟨#[]⟩, .string ⟨#[]⟩, .string ⟨#[]⟩, .bool false, .int .i64 0, .int .i64 0, .int .i64 0, .int .i64 0, .string ⟨#[49]⟩] 36) = W2 at *
  generalize W.alloc (.cells #[.string ⟨#[65]⟩, .string ⟨#[66]⟩, .string ⟨#[67]⟩, .string ⟨#[68]⟩, .string ⟨#[69]⟩, .string ⟨#[70]⟩, .string ⟨#[71]⟩, .string ⟨#[72]⟩, .string ⟨#[73]⟩, .string ⟨#[74]⟩] 9) = W1 at *
  have hBs : Hid (∀ w', Below (W.heap.size + 1) W1 w' → W.heap.size + 1 ≤ w'.heap.size) := fun w' h => by have := h.size; have := hs1.out; omega
  go_loopw [8, 9] (fun v i wr => ∃ (k : Nat) (aT : Option Addr) (nT cT : Nat), 1 ≤ k ∧ k ≤ n ∧ i = .int .i64 k ∧ v = .slice aT nT cT ∧ Hid (OwnN wr (W.heap.size + 1) v ((List.range k).map ndK)) ∧ Hid (Below (W.heap.size + 1) W1 wr)) (fun _ i _ => n - (intOf i).toNat)
  case atStart => exact ⟨1, _, 1, 1, Nat.le_refl _, by omega, rfl, rfl, ho2, hb2⟩
  case round =>
    obtain ⟨k, aT, nT, cT, hk1, hkn, rfl, rfl, hT, hB⟩ := hrel
    by_cases hlt : k < n
    · have hki : (k : Int) < (n : Int) := by omega
      have c0 := hnm.out wr hB.out k (by omega)
      have c1 := hnm.out wr hB.out (k - 1) (by omega)
      have hst : Hid ((List.range (k + 1)).map ndK = (List.range k).map ndK ++ [⟨nmK k, 3, ⟨#[]⟩, ⟨#[]⟩, ⟨#[]⟩, false, zer, zer, (⟨#[36]⟩ : ByteArray) ++ nmK (k - 1) ++ (⟨#[32, 43, 32, 49]⟩ : ByteArray)⟩]) := by
        show _ = _
        rw [lk_succ]
        unfold ndK
        rw [txK_pos k hk1]
      have hz1 : (nmK (k - 1)).size = 1 := rfl
      have ha1 : ∀ w', (Op.stringOp .add ⟨#[36]⟩ (nmK (k - 1))).run Tryz.prog w' = .ok (.string ((⟨#[36]⟩ : ByteArray) ++ nmK (k - 1))) w' := fun w' => run_string_add w' _ _ (by decide) (by rw [hz1]; decide)
      have ha2 : ∀ w', (Op.stringOp .add ((⟨#[36]⟩ : ByteArray) ++ nmK (k - 1)) ⟨#[32, 43, 32, 49]⟩).run Tryz.prog w' = .ok (.string ((⟨#[36]⟩ : ByteArray) ++ nmK (k - 1) ++ (⟨#[32, 43, 32, 49]⟩ : ByteArray))) w' := fun w' => run_string_add w' _ _ (by rw [ByteArray.size_append, hz1]; decide) (by decide)
      have hlen : ((List.range k).map ndK).length + 1 ≤ 1000000000 := by simp; omega
      generalize (⟨#[36]⟩ : ByteArray) ++ nmK (k - 1) = s2 at *
      generalize s2 ++ (⟨#[32, 43, 32, 49]⟩ : ByteArray) = s3 at *
      generalize nmK (k - 1) = s1 at *
      generalize nmK k = s0 at *
      generalize (List.range k).map ndK = RK at *
      have hk10 : (k : Int) < 10 := by omega
      clear hz1
      have hx0 : Hid (OwnN (wr.alloc (.cells (ndC ⟨s0, 3, ⟨#[]⟩, ⟨#[]⟩, ⟨#[]⟩, false, zer, zer, s3⟩) 36)).drew (W.heap.size + 1) (.slice aT nT cT) RK) := (hT.out.alloc _).stay ((Below.refl _ _).drew)
      have hx1 : Hid (Sls encN (wr.alloc (.cells (ndC ⟨s0, 3, ⟨#[]⟩, ⟨#[]⟩, ⟨#[]⟩, false, zer, zer, s3⟩) 36)).drew (.slice (some ⟨wr.heap.size, 0, none⟩) 1 1) [⟨s0, 3, ⟨#[]⟩, ⟨#[]⟩, ⟨#[]⟩, false, zer, zer, s3⟩]) := (sls_one (E := encN) wr ⟨s0, 3, ⟨#[]⟩, ⟨#[]⟩, ⟨#[]⟩, false, zer, zer, s3⟩ (ndC ⟨s0, 3, ⟨#[]⟩, ⟨#[]⟩, ⟨#[]⟩, false, zer, zer, s3⟩) 36 rfl).drew
      have hx2 : Hid (Below (W.heap.size + 1) W1 (wr.alloc (.cells (ndC ⟨s0, 3, ⟨#[]⟩, ⟨#[]⟩, ⟨#[]⟩, false, zer, zer, s3⟩) 36)).drew) := (hB.out.trans ((bW0 wr _).mono (by have := hB.out.size; have := (hT.out); exact hBs.out wr hB.out))).drew
      have htn : ((k : Int) - 1).toNat = k - 1 := by omega
      have hk0 : (0 : Int) ≤ (k : Int) - 1 := by omega
      have hk9 : (k : Int) - 1 < 10 := by omega
      have hk1i : (1 : Int) ≤ (k : Int) := by omega
      have hwr : IntKind.i64.wrap ((k : Int) - 1) = (k : Int) - 1 := by rw [IntKind.wrap_i64]; omega
      go_wp2
      go_region_law? (refine stepR TN rfl (.tmp 46) (.tmp 59) rfl (W.heap.size + 1) (.slice aT nT cT) ⟨wr.heap.size, 0, none⟩ 1 1 RK [⟨s0, 3, ⟨#[]⟩, ⟨#[]⟩, ⟨#[]⟩, false, zer, zer, s3⟩] (by first | rfl | simp [Act.eval, Act.put]) (by first | rfl | simp [Act.eval, Act.put]) hx0.out hx1.out (hBs.out _ hx2.out) hlen ?_; intro v2 w2 o2 g2; have hB2 : Hid (Below (W.heap.size + 1) W1 w2) := hx2.out.trans (hx0.out.grows (hBs.out _ hx2.out) g2); obtain ⟨a4, c4, hv4⟩ := o2.shape; rw [← hst.out] at o2; replace o2 : Hid _ := o2; obtain ⟨n4, hn4⟩ : ∃ n4, n4 = (RK ++ [(⟨s0, 3, ⟨#[]⟩, ⟨#[]⟩, ⟨#[]⟩, false, zer, zer, s3⟩ : Nd)]).length := ⟨_, rfl⟩; rw [← hn4] at hv4; clear hn4; subst hv4; clear hx0 hx1 hx2 g2 c0 c1)
      all_goals (
        go_wp2
        go_roundw
        case rel => exact ⟨k + 1, a4, n4, c4, by omega, by omega, by go_num, rfl, o2, hB2⟩
        case measure => simp [intOf]; omega)
    · obtain rfl : n = k := by omega
      obtain ⟨g, rfl, hnn, hgb⟩ := own_some hT.out (by simp; omega)
      rw [List.length_map, List.length_range] at hnn
      subst hnn
      have hBB : Hid (∀ w' w'', Below (W.heap.size + 1) W1 w' → Below w'.heap.size w' w'' → Below (W.heap.size + 1) W1 w'') := fun w' w'' h h' => h.trans (h'.mono (hBs.out w' h))
      have hGB : Hid (∀ w', Below (W.heap.size + 1) W1 w' → Below W.heap.size W w') := fun w' h => hb1.out.trans (h.mono (by omega))
      have hGw : Hid (∀ w', Below (W.heap.size + 1) W1 w' → G w' ∧ SignsAt w') := fun w' h => hG2.out w' (hGB.out w' h)
      have hck := check15 (nmK (n - 1)) _ n cT _ wr (hGw.out wr hB.out).1 (hGw.out wr hB.out).2 hT.out.sls (by simp; omega) (K_sh hn10)
      rw [K_chk (by omega) hn10] at hck
      have h17 : Hid (∀ w', Below wr.heap.size wr w' → Calls Tryz.prog 17 #[.string (nmK (n - 1)), .slice (some ⟨g, 0, none⟩) n cT] w' fun e w'' => ∃ a' c', e = .returned (.slice a' n c') ∧ Below w'.heap.size w' w'') := fun w' h => need_len hn10 (by omega) _ _ w' (hGw.out w' (hBB.out wr w' hB.out h)) (hT.out.stay h).sls
      have e14 := fun W => num14 0 W (by decide) (by decide)
      have c1 := hnm.out wr hB.out (n - 1) (by omega)
      have hnlt : ¬ (n : Int) < (n : Int) := by omega
      have htn : ((n : Int) - 1).toNat = n - 1 := by omega
      have hk0 : (0 : Int) ≤ (n : Int) - 1 := by omega
      have hk9 : (n : Int) - 1 < 10 := by omega
      have hk1i : (1 : Int) ≤ (n : Int) := by omega
      have hn10i : (n : Int) - 1 ≤ 9 := by omega
      have hwr : IntKind.i64.wrap ((n : Int) - 1) = (n : Int) - 1 := by rw [IntKind.wrap_i64]; omega
      go_wp2_with (first
        | (go_at_call 15; refine hck.mono ?_; clear hck c1; rintro e w3 ⟨rfl, hb3⟩; have c1 := hnm.out w3 (hBB.out wr w3 hB.out hb3) (n - 1) (by omega); have hc17 := h17.out w3 hb3)
        | (go_at_call 14; refine (e14 _).mono ?_; rintro e wx ⟨rfl, hwx⟩; subst wx)
        | (go_at_call 17; refine hc17.mono ?_; clear hc17; rintro e w4 ⟨a4, c4, rfl, hb4⟩))
      have hB4 : Hid (Below (W.heap.size + 1) W1 w4) := hBB.out w3 w4 (hBB.out wr w3 hB.out hb3) hb4
      have hT4 : Hid (OwnN w4 (W.heap.size + 1) (.slice (some ⟨g, 0, none⟩) n cT) ((List.range n).map ndK)) := (hT.out.stay hb3).stay hb4
      clear h17 c1 hb3 hb4 hT hB
      go_cut [8] from 82 (fun x8 wc => x8 = .slice (some ⟨g, 0, none⟩) n cT ∧ Hid (OwnN wc (W.heap.size + 1) (.slice (some ⟨g, 0, none⟩) n cT) ((List.range n).map (gT f t)) ∧ Below (W.heap.size + 1) W1 wc))
      case first =>
        obtain ⟨c10, fz⟩ := OwnS.cellR hT4.out (by simp) f 10 hf (by decide)
        have c10' : w4.cell? ⟨g, f * 11 + 10, none⟩ = some (.string (txK f)) := by
          have e : ((List.range n).map ndK).getD f encN.d = ndK f := by rw [List.getD_eq_getElem?_getD]; simp [hf]
          rw [e] at c10
          exact c10
        have fz' : w4.frozen? ⟨g, f * 11 + 10, none⟩ = false := fz
        have ct := hnm.out w4 hB4.out t (by omega)
        have hz0 := txK_len f (by omega)
        have ha1 : ∀ w', (Op.stringOp .add (txK f) ⟨#[32, 43, 32, 36]⟩).run Tryz.prog w' = .ok (.string (txK f ++ (⟨#[32, 43, 32, 36]⟩ : ByteArray))) w' := fun w' => run_string_add w' _ _ (by omega) (by decide)
        have ha2 : ∀ w', (Op.stringOp .add (txK f ++ (⟨#[32, 43, 32, 36]⟩ : ByteArray)) (nmK t)).run Tryz.prog w' = .ok (.string (txK f ++ (⟨#[32, 43, 32, 36]⟩ : ByteArray) ++ nmK t)) w' := fun w' => run_string_add w' _ _ (by rw [ByteArray.size_append]; have : (⟨#[32, 43, 32, 36]⟩ : ByteArray).size = 4 := rfl; omega) (by show 1 ≤ _; decide)
        have hfin : Hid (OwnN (w4.drew.setCell ⟨g, f * 11 + 10, none⟩ (.string (txK f ++ (⟨#[32, 43, 32, 36]⟩ : ByteArray) ++ nmK t))) (W.heap.size + 1) (.slice (some ⟨g, 0, none⟩) n cT) ((List.range n).map (gT f t)) ∧ Below (W.heap.size + 1) W1 (w4.drew.setCell ⟨g, f * 11 + 10, none⟩ (.string (txK f ++ (⟨#[32, 43, 32, 36]⟩ : ByteArray) ++ nmK t)))) := by
          have hd : OwnN w4.drew (W.heap.size + 1) (.slice (some ⟨g, 0, none⟩) n cT) ((List.range n).map ndK) := hT4.out.stay ((Below.refl _ _).drew)
          obtain ⟨h1, h2⟩ := own_text (t := t) hf hd
          exact ⟨h1, (hB4.out.drew).trans (hd.grows (hBs.out _ hB4.out.drew) h2)⟩
        clear c10 fz hT4 hz0
        generalize txK f ++ (⟨#[32, 43, 32, 36]⟩ : ByteArray) ++ nmK t = s3 at *
        generalize txK f ++ (⟨#[32, 43, 32, 36]⟩ : ByteArray) = s2 at *
        generalize txK f = s1 at *
        generalize nmK t = s0 at *
        have hfi : (f : Int) < (n : Int) := by omega
        have hti : (t : Int) < 10 := by omega
        go_region
        all_goals (
          go_wp2_with fail
          go_meet
          case rel => exact ⟨rfl, hfin⟩)
      case rest =>
        obtain ⟨rfl, hw⟩ := hcut
        obtain ⟨hTc, hBc⟩ := hw.out
        have hE := check15 (nmK (n - 1)) _ n cT _ wc (hGw.out wc hBc).1 (hGw.out wc hBc).2 hTc.sls (by simp; omega) (T_sh hn10)
        have h9 : Hid (∀ w', Below wc.heap.size wc w' → Calls Tryz.prog 9 #[.slice (some ⟨g, 0, none⟩) n cT] w' fun e w'' => ∃ a' n' c', e = .returned (.tuple #[.slice a' n' c', .int .i64 (ordE ((List.range n).map (gT f t)))]) ∧ Hid (Txs w'' (.slice a' n' c') (ordL ((List.range n).map (gT f t))) ∧ Below w'.heap.size w' w'')) := fun w' h => order9 _ _ _ _ w' (hGw.out w' (hBB.out wc w' hBc h)).1 (hGw.out w' (hBB.out wc w' hBc h)).2 (hTc.stay h).sls (by simp; omega) (T_sh hn10).sh
        have c1 := hnm.out wc hBc (n - 1) (by omega)
        have hlv : Hid (∀ w', Below (W.heap.size + 1) W1 w' → Calls Tryz.prog 8 #[] w' fun e w'' => e = .returned (.bool true) ∧ Below w'.heap.size w' w'') := fun w' h => live8 w' (hGw.out w' h).1 (hGw.out w' h).2
        replace hBc : Hid _ := hBc
        clear hw hTc hT4 hB4 e14
        by_cases hft : f ≤ t
        · obtain ⟨r1, r2, r3⟩ := T_one hn10 hf ht hft
          rw [r1] at hE
          rw [r2, r3] at h9
          have e14 := fun W => num14 121 W (by decide) (by decide)
          have hfti : (f : Int) ≤ (t : Int) := by omega
          clear r1 r2 r3
          go_wp2_with (first
            | (go_at_call 15; refine hE.mono ?_; clear hE c1; rintro e w5 ⟨rfl, hb5⟩; have hc9 := h9.out w5 hb5)
            | (go_at_call 14; refine (e14 _).mono ?_; rintro e wx ⟨rfl, hwx⟩; subst wx)
            | (go_at_call 9; refine hc9.mono ?_; clear hc9; rintro e w6 ⟨a6, n6, c6, rfl, h6⟩; obtain rfl : n6 = 0 := h6.out.1.len; have hB6 := hBB.out w5 w6 (hBB.out wc w5 hBc.out hb5) h6.out.2; have hl1 := hlv.out w6 hB6)
            | (go_at_call 8; refine hl1.mono ?_; rintro e w7 ⟨rfl, hb7⟩))
          go_ret
          exact ⟨rfl, hGB.out w7 (hBB.out w6 w7 hB6 hb7)⟩
        · obtain ⟨r1, r2, r3⟩ := T_two hn10 hf ht (by omega)
          rw [r1] at hE
          rw [r2, r3] at h9
          have e14 := fun W => num14 0 W (by decide) (by decide)
          have hfti : ¬ (f : Int) ≤ (t : Int) := by omega
          clear r1 r2 r3
          go_wp2_with (first
            | (go_at_call 15; refine hE.mono ?_; clear hE c1; rintro e w5 ⟨rfl, hb5⟩; have hc9 := h9.out w5 hb5)
            | (go_at_call 14; refine (e14 _).mono ?_; rintro e wx ⟨rfl, hwx⟩; subst wx)
            | (go_at_call 9; refine hc9.mono ?_; clear hc9; rintro e w6 ⟨a6, n6, c6, rfl, h6⟩; obtain rfl : n = n6 := by (have := h6.out.1.len; simp at this; exact this.symm)))
          have hB6 : Hid (Below (W.heap.size + 1) W1 w6) := hBB.out w5 w6 (hBB.out wc w5 hBc.out hb5) h6.out.2
          have hl0 : ((List.range n).map nmK).length = n := by simp
          obtain ⟨b6, o6, rfl, x0⟩ := tx_at h6.out.1 0 (by omega)
          have hg0 : ((List.range n).map nmK).getD 0 ⟨#[]⟩ = nmK 0 := by rw [List.getD_eq_getElem?_getD]; simp [show 0 < n by omega]
          have hg1 : ((List.range n).map nmK).getD (n - 1) ⟨#[]⟩ = nmK (n - 1) := by rw [List.getD_eq_getElem?_getD]; simp [show n - 1 < n by omega]
          have z0 : ∀ p : Bel w6, p.W.cell? ⟨b6, o6, none⟩ = some (.string ⟨#[65]⟩) := fun p => by
            obtain ⟨b, o, e, x⟩ := tx_at (h6.out.1.grow p.h) 0 (by omega)
            cases e
            rw [hg0] at x
            exact x
          have z1 : ∀ p : Bel w6, p.W.cell? ⟨b6, o6 + (n - 1), none⟩ = some (.string (nmK (n - 1))) := fun p => by
            obtain ⟨b, o, e, x⟩ := tx_at (h6.out.1.grow p.h) (n - 1) (by omega)
            cases e
            rw [hg1] at x
            exact x
          have z2 : ∀ p : Bel w6, p.W.cell? ⟨W.heap.size, n - 1, none⟩ = some (.string (nmK (n - 1))) := fun p => hnm.out p.W (hBB.out w6 p.W hB6.out p.h) (n - 1) (by omega)
          have h14 : ∀ W, Calls Tryz.prog 14 #[.int .i64 0] W fun e w' => e = .returned (.int .i64 0) ∧ Below W.heap.size W w' := fun W => (e14 W).mono fun e w' ⟨h, hw⟩ => ⟨h, hw ▸ Below.refl _ _⟩
          have h8p : ∀ p : Bel w6, Calls Tryz.prog 8 #[] p.W fun e w' => e = .returned (.bool true) ∧ Below p.W.heap.size p.W w' := fun p => hlv.out p.W (hBB.out w6 p.W hB6.out p.h)
          clear x0 h6 hl0 hg0 hg1 h9 hb5 e14
          generalize nmK (n - 1) = sn at *
          refine wp_region_bel (by kernel_rfl) (by kernel_rfl) ?_
          repeat (go_big_quiet_step (first | (with_reducible exact Calls.bel (h14 _)) | (with_reducible exact Calls.bel (h8p _))))
          refine wpQuiet_nil ?_
          rintro W9 ⟨p, rfl⟩
          go_wp2
          go_ret
          exact ⟨rfl, hGB.out p.W (hBB.out w6 p.W hB6.out p.h)⟩
theorem circle6 (n f t : Int) (W : World) (hG : G W ∧ SignsAt W) : Calls Tryz.prog 6 #[.int .i64 n, .int .i64 f, .int .i64 t] W fun e w' => e = .returned (.bool true) ∧ Below W.heap.size W w' := by
  by_cases h : 2 ≤ n ∧ n ≤ 10 ∧ 0 ≤ f ∧ f < n ∧ 0 ≤ t ∧ t < n
  · obtain ⟨h1, h2, h3, h4, h5, h6⟩ := h
    obtain ⟨n', rfl⟩ := Int.eq_ofNat_of_zero_le (show 0 ≤ n by omega)
    obtain ⟨f', rfl⟩ := Int.eq_ofNat_of_zero_le h3
    obtain ⟨t', rfl⟩ := Int.eq_ofNat_of_zero_le h5
    exact circle_ok n' f' t' W hG (by omega) (by omega) (by omega) (by omega)
  · exact circle_bad n f t W hG h
end Go.Proofs.YtaffplmfnincfaaGreatDoor
