/- Put. -/
import Derived.Test.YtiajafljgfpdcaaGreatBPt
namespace Go.Proofs.YtiajafljgfpdcaaGreat
set_option linter.unusedVariables false
open Go.RowKit
theorem enY_len {e : List Lb × S.Inst} (h1 : LbsS e.1) (h2 : e.1.length ≤ 16) (h3 : In64 e.2) : (enY e).length ≤ 4600 := by
  unfold enY lsY
  have a := catL_len h1 e.1.length (Nat.le_refl _)
  rw [List.take_length] at a
  have b := Q.enc_len10 e.1.length (by omega)
  have c := i64L h3
  have d : e.1.length * 276 ≤ 16 * 276 := Nat.mul_le_mul_right _ h2
  simp only [List.length_append]
  omega
theorem bd_short {l : List (List Lb × S.Inst)} (h : IsBd l) : ∀ e ∈ l, IsSet e.1 := fun e he => by
  have := h.2 e he
  unfold mbB at this
  rw [Bool.and_eq_true] at this
  exact setB_iff.1 this.1
theorem catE_len {l : List (List Lb × S.Inst)} (h : IsBd l) (h6 : ∀ e ∈ l, In64 e.2) (k : Nat) (hk : k ≤ l.length) : (Q.cat enY (l.take k)).length ≤ k * 4600 := by
  induction k with
  | zero => simp [Q.cat]
  | succ k ih =>
    rw [take_getD l pr0 k hk, cat_app, cat_one, List.length_append]
    have hm := getD_mem l pr0 k hk
    have hs := bd_short h _ hm
    have h1 := enY_len hs.short hs.2.2 (h6 _ hm)
    have h2 := ih (by omega)
    have h3 : (k + 1) * 4600 = k * 4600 + 4600 := by rw [Nat.add_mul, Nat.one_mul]
    omega
theorem catE_step {l : List (List Lb × S.Inst)} {k : Nat} (hk : k < l.length) (X : List Int) : X ++ Q.cat enY (l.take k) ++ lsY (l.getD k pr0).1 ++ inY (l.getD k pr0).2 = X ++ Q.cat enY (l.take (k + 1)) := by
  rw [take_getD l pr0 k hk, cat_app, cat_one]
  simp [enY]
theorem chk_zero {l : List (List Lb × S.Inst)} (h : chkF l = 0) : IsBd l ∧ l.length ≤ 100 := by
  unfold chkF at h
  split at h
  · cases h
  · split at h
    · rename_i h1 h2
      exact ⟨h2, by omega⟩
    · cases h
theorem chk_in (l : List (List Lb × S.Inst)) : chkF l = 0 ∨ chkF l = 2 ∨ chkF l = 6 := by
  unfold chkF
  split
  · exact .inr (.inr rfl)
  · split
    · exact .inl rfl
    · exact .inr (.inl rfl)
set_option maxRecDepth 100000 in
set_option maxHeartbeats 2000000 in
theorem put21 (v : Value) (l : List En) (w : World) (hv : Ens w v l) (hl : l.length ≤ 1000000) (hr : ∀ e ∈ l, LbsR e.ls ∧ e.ls.length ≤ 100000) (h6 : ∀ e ∈ l, In64 e.x) :
    Calls Tryz.prog 21 #[v] w fun e w' => ∃ u, e = .returned (.tuple #[u, .int .i64 (chkF (l.map enF))]) ∧ Q.Own w' w.heap.size u (if chkF (l.map enF) = 0 then bdY (l.map enF) else []) ∧ Below w.heap.size w w' := by
  have hchk := check17 v l w hv hl hr
  obtain ⟨a, c, rfl⟩ := hv.1.shape
  by_cases h0 : chkF (l.map enF) = 0
  · obtain ⟨hbd, h100⟩ := chk_zero h0
    have hlm : (l.map enF).length = l.length := List.length_map _
    rw [hlm] at h100
    rw [if_pos h0]
    rw [h0] at hchk ⊢
    have hu := wrap_len (n := l.length) (by omega)
    have hel := Q.enc_len10 l.length (by omega)
    have h6m : ∀ e ∈ l.map enF, In64 e.2 := fun e he => by
      obtain ⟨x, hx, rfl⟩ := List.mem_map.1 he
      exact h6 x hx
    have hnum : ∀ w1, Below w.heap.size w w1 → Calls Tryz.prog 48 #[.slice none 0 0, .slice (some ⟨w1.heap.size, 0, none⟩) 1 1] (w1.alloc (.cells #[.int .u64 (l.length : Nat)] 98)) fun e w' => ∃ v', e = .returned v' ∧ Q.Own w' w.heap.size v' ([] ++ Q.enc l.length) ∧ Below w.heap.size (w1.alloc (.cells #[.int .u64 (l.length : Nat)] 98)) w' ∧ Q.Kb (w1.alloc (.cells #[.int .u64 (l.length : Nat)] 98)) w' := fun w1 hb =>
      Q.number1 w.heap.size (.slice none 0 0) [] l.length w1.heap.size _ (by omega) (World.ownsRow_nil _ _ _ _) (Nat.le_trans hb.size (by simp)) (by simp) (by unfold World.cell?; rw [heap_new]; rfl)
    clear h0
    replace hbd : Hid (IsBd (l.map enF)) := hbd
    go_enter Tryz.func21, Tryz.ntmps21
    go_wp2_with (first
      | (go_at_call 17; refine hchk.mono ?_; rintro e w1 ⟨rfl, hb1⟩)
      | (go_at_call 48; refine (hnum _ hb1).mono ?_; rintro e w2 ⟨v2, rfl, ho2, hb2, hk2⟩))
    have hB2 : Hid (Below w.heap.size w w2) := (hb1.alloc hb1.size _).trans hb2
    have hO2 : Hid (Q.Own w2 w.heap.size v2 (Q.enc l.length ++ Q.cat enY ((l.map enF).take 0))) := by
      show Q.Own _ _ _ _
      simpa [Q.cat] using ho2
    clear hnum hchk hb1 hb2 hk2 ho2
    go_loopw [5, 20] (fun u i wr => ∃ k : Nat, k ≤ l.length ∧ i = .int .i64 k ∧ Hid (Q.Own wr w.heap.size u (Q.enc l.length ++ Q.cat enY ((l.map enF).take k))) ∧ Hid (Below w.heap.size w wr)) (fun _ i _ => l.length - (intOf i).toNat)
    case atStart => exact ⟨0, Nat.zero_le _, rfl, hO2, hB2⟩
    case round =>
      obtain ⟨k, hk, rfl, hO, hB⟩ := hrel
      have hbz := hB.out.size
      by_cases hlt : k < l.length
      · have hki : (k : Int) < (l.length : Int) := by omega
        have hltm : k < (l.map enF).length := by omega
        obtain ⟨bb, o, rfl, hat⟩ := en_at (Sls.grow hv.1 hB.out) k hlt
        obtain ⟨x0, x1, x2, x3, x4, x5, x6, x7⟩ := at_en hat
        have hmem := getD_mem l en0 k hlt
        have hcl := catE_len hbd.out h6m k (by omega)
        have hst := catE_step hltm (Q.enc l.length)
        rw [getD_map] at hst
        have hset := bd_short hbd.out _ (List.mem_map_of_mem (f := enF) hmem)
        have hlb := hv.2 _ hmem
        have h6e := h6 _ hmem
        have hcl2 : (Q.cat enY ((l.map enF).take k)).length ≤ 460000 := by
          have : k * 4600 ≤ 100 * 4600 := Nat.mul_le_mul_right _ (by omega)
          omega
        generalize l.getD k en0 = e at *
        obtain ⟨⟨ea, en, ec⟩, els, ⟨st, since, fr, quiet, seen, vk, vn⟩⟩ := e
        have hset2 : IsSet els := hset
        have hsY := Q.enc_len10 els.length (by have := hset2.2.2; omega)
        have hcL := catL_len hset2.short els.length (Nat.le_refl _)
        rw [List.take_length] at hcL
        have hlsl : (lsY els).length ≤ 4500 := by
          unfold lsY
          rw [List.length_append]
          have h16 := hset2.2.2
          have : els.length * 276 ≤ 16 * 276 := Nat.mul_le_mul_right _ h16
          omega
        have e1 : (enF ⟨⟨ea, en, ec⟩, els, ⟨st, since, fr, quiet, seen, vk, vn⟩⟩).1 = els := rfl
        have e2 : (enF ⟨⟨ea, en, ec⟩, els, ⟨st, since, fr, quiet, seen, vk, vn⟩⟩).2 = ⟨st, since, fr, quiet, seen, vk, vn⟩ := rfl
        rw [e1, e2] at hst
        simp only at x0 x1 x2 x3 x4 x5 x6 x7 h6e hlb
        have hx5 : (wr.alloc (.cells #[.slice ea en ec, .int .i64 st, .int .i64 since, .int .i64 fr, .int .i64 quiet, .int .i64 seen, .int .i64 vk, .int .i64 vn] 67)).heap[wr.heap.size]? = some (.cells #[.slice ea en ec, .int .i64 st, .int .i64 since, .int .i64 fr, .int .i64 quiet, .int .i64 seen, .int .i64 vk, .int .i64 vn] 67 (0, 0)) := heap_new _ _
        have hG5 : Hid (Below w.heap.size w (wr.alloc (.cells #[.slice ea en ec, .int .i64 st, .int .i64 since, .int .i64 fr, .int .i64 quiet, .int .i64 seen, .int .i64 vk, .int .i64 vn] 67))) := hB.out.alloc hbz _
        have hll := layLabels49 w.heap.size u5 (.slice ea en ec) _ els (wr.alloc (.cells #[.slice ea en ec, .int .i64 st, .int .i64 since, .int .i64 fr, .int .i64 quiet, .int .i64 seen, .int .i64 vk, .int .i64 vn] 67)) (World.ownsRow.alloc hO.out _) hG5.out.size (by simp only [List.length_append]; omega) (fun W hW => Sls.grow hlb (hG5.out.trans hW)) hset2.short hset2.2.2
        have hli := fun w6 v6 (ho : Q.Own w6 w.heap.size v6 (Q.enc l.length ++ Q.cat enY ((l.map enF).take k) ++ lsY els)) (hb : w.heap.size ≤ w6.heap.size) => layInstance50 w.heap.size v6 _ ⟨st, since, fr, quiet, seen, vk, vn⟩ w6 ho hb (by simp only [List.length_append]; omega) h6e
        unfold S.encI at hli
        simp only at hli
        replace hst : Hid (Q.enc l.length ++ Q.cat enY ((l.map enF).take k) ++ lsY els ++ inY ⟨st, since, fr, quiet, seen, vk, vn⟩ = Q.enc l.length ++ Q.cat enY ((l.map enF).take (k + 1))) := hst
        clear hat hmem hset hset2 hcL hsY e1 e2
        have hcells : ∀ (w6 : World), Q.Kb (wr.alloc (.cells #[.slice ea en ec, .int .i64 st, .int .i64 since, .int .i64 fr, .int .i64 quiet, .int .i64 seen, .int .i64 vk, .int .i64 vn] 67)) w6 → w6.cell? ⟨wr.heap.size, 1, none⟩ = some (.int .i64 st) ∧ w6.cell? ⟨wr.heap.size, 2, none⟩ = some (.int .i64 since) ∧ w6.cell? ⟨wr.heap.size, 3, none⟩ = some (.int .i64 fr) ∧ w6.cell? ⟨wr.heap.size, 4, none⟩ = some (.int .i64 quiet) ∧ w6.cell? ⟨wr.heap.size, 5, none⟩ = some (.int .i64 seen) ∧ w6.cell? ⟨wr.heap.size, 6, none⟩ = some (.int .i64 vk) ∧ w6.cell? ⟨wr.heap.size, 7, none⟩ = some (.int .i64 vn) := fun w6 hk => by
          have h := (hk.block wr.heap.size (by simp) (Q.nob_of hx5 (by decide))).trans hx5
          simp [World.cell?, h]
        go_wp2_with (first
          | (go_at_call 49; refine hll.mono ?_; rintro e w6 ⟨v6, rfl, ho6, hb6, hk6⟩; obtain ⟨p1, p2, p3, p4, p5, p6, p7⟩ := hcells w6 hk6)
          | (go_at_call 50; refine (hli _ _ ho6 (hG5.out.trans hb6).size).mono ?_; rintro e w7 ⟨v7, rfl, ho7, hb7, hk7⟩))
        go_roundw
        case rel =>
          refine ⟨k + 1, by omega, by go_num, ?_, (hG5.out.trans hb6).trans hb7⟩
          show Q.Own _ _ _ _
          rw [← hst.out]; exact ho7
        case measure => simp [intOf]; omega
      · obtain rfl : k = l.length := by omega
        have hki : ¬ (l.length : Int) < (l.length : Int) := by omega
        have hOf : Q.Own wr w.heap.size u5 (bdY (l.map enF)) := by
          have := hO.out
          rw [List.take_of_length_le (by rw [hlm]; exact Nat.le_refl _)] at this
          unfold bdY
          rwa [hlm]
        go_wp2
        go_ret2
        exact ⟨_, rfl, hOf, hB.out⟩
  · rw [if_neg h0]
    have hne : ((chkF (l.map enF)) != 0) = true := by simp [h0]
    go_enter Tryz.func21, Tryz.ntmps21
    go_wp2_with (first
      | (go_at_call 17; refine hchk.mono ?_; rintro e w1 ⟨rfl, hb1⟩))
    go_ret2
    exact ⟨_, rfl, World.ownsRow_nil _ _ _ _, hb1⟩
end Go.Proofs.YtiajafljgfpdcaaGreat
