/- The contract of the document's part. -/
import Derived.Test.YtkhnhnaefmcngaaRpn
namespace Go.Proofs.Ytkhnhnaefmcngaa
set_option linter.unusedVariables false
open Go.RowKit
set_option maxRecDepth 100000 in
set_option maxHeartbeats 2000000 in
theorem rpart_none (s : ByteArray) (w : World) (H : Nat) (n : Int) (hs : s.size ≤ 1000000) (h0 : 0 < s.size) (hH : s[0].toNat = H) (hne : ((H : Int) == 160) = false) (h : ((H : Int) < 128 ∧ 127 - (H : Int) = n) ∨ (¬ (H : Int) < 128 ∧ (H : Int) - 128 = n)) (h8 : 8 < n ∨ (n ≤ 8 ∧ (s.size : Int) - 1 < n)) :
    Calls Try.prog 27 #[.string s] w fun e w' => e = .returned (.tuple #[ptV pt0, .int .i64 (0 : Nat)]) ∧ Below w.heap.size w w' := by
  have hH2 : H < 256 := by rw [← hH]; exact UInt8.toNat_lt _
  have hB : ∀ o : Obj, Below w.heap.size w (w.alloc o) := fun o => (Below.refl _ w).alloc (Nat.le_refl _) o
  rcases h with ⟨hlt, hn⟩ | ⟨hlt, hn⟩
  all_goals
    rcases h8 with h8 | ⟨h8, hl⟩
    · have hd1 : decide (8 < n) = true := by simpa using h8
      go_enter Try.func27, Try.ntmps27
      go_wp2
      refine bodyPost_ret (v := .tuple #[ptV pt0, .int .i64 ((0 : Nat) : Int)]) ?_ rfl ⟨rfl, hB _⟩
      simp [results, Try.results27, asAddr, Result.andThen, go_sem, ptV, pt0]
    · have hd1 : decide (8 < n) = false := by simpa using h8
      have hd2 : decide ((s.size : Int) - 1 < n) = true := by simpa using hl
      go_enter Try.func27, Try.ntmps27
      go_wp2
      refine bodyPost_ret (v := .tuple #[ptV pt0, .int .i64 ((0 : Nat) : Int)]) ?_ rfl ⟨rfl, hB _⟩
      simp [results, Try.results27, asAddr, Result.andThen, go_sem, ptV, pt0]
theorem numsS_append (a b : ByteArray) : numsS (a ++ b) = numsS a ++ numsS b := by
  simp [numsS, ByteArray.data_append]
set_option maxRecDepth 100000 in
set_option maxHeartbeats 4000000 in
theorem rpart_text (s : ByteArray) (w : World) (hs : s.size ≤ 1000000) (h0 : 0 < s.size) (hH : s[0].toNat = 160) (hhd : (numsS s).head? = some 160) : Calls Try.prog 27 #[.string s] w fun e w' => ∃ p n, e = .returned (.tuple #[ptV p, .int .i64 (n : Nat)]) ∧ RdP (numsS s) p n ∧ Below w.heap.size w w' := by
  have hnl := numsS_length s
  replace hnl : Hid _ := hnl
  replace hhd : Hid _ := hhd
  have hB : ∀ o : Obj, Below w.heap.size w (w.alloc o) := fun o => (Below.refl _ w).alloc (Nat.le_refl _) o
  go_enter Try.func27, Try.ntmps27
  go_wp2
  go_loop [5, 6] (fun t a => ∃ (j A : Nat) (T : ByteArray), t = .string T ∧ a = .int .i64 (A : Int) ∧ Hid (A = 1 + 9 * j) ∧ A ≤ s.size ∧ T.size ≤ A ∧ Hid (T.size = 8 * j) ∧ Hid (TxI (numsS s) j (numsS T))) (fun _ a => s.size - (intOf a).toNat)
  case atStart => exact ⟨0, 1, ⟨#[]⟩, rfl, rfl, rfl, by omega, by decide, rfl, txI_start _⟩
  case round =>
    obtain ⟨j, A, T, rfl, rfl, hA, hj, hTA, hTs, htx⟩ := hrel
    have hnone := fun h => txI_none htx.out hhd.out h
    rw [hnl.out, ← hA.out] at hnone
    replace hnone : Hid _ := hnone
    by_cases hgo : A + 9 ≤ s.size
    · have hA2 : (A : Int) + 9 ≤ (s.size : Int) := by omega
      have hA8 : IntKind.i64.wrap ((A : Int) + 8) = ((A + 8 : Nat) : Int) := by rw [Go.IntWalk.i64_in _ (by omega)]; omega
      have hA8b : (A : Int) + 8 = ((A + 8 : Nat) : Int) := by omega
      obtain ⟨L, hL⟩ : ∃ L : Nat, Hid ((numsS s).getD (A + 8) 0 = (L : Int)) := ⟨_, getD_str s (A + 8) (by omega)⟩
      have hix : ∀ W : World, (Instr.index 9 (.string s) (.int .i64 ((A + 8 : Nat) : Int))).run Try.prog W = .ok (.int .u8 (L : Int)) W := by
        intro W
        rw [run_index_string W 9 s .i64 _ Try.underlying9, dif_pos (by omega)]
        have := getD_str s (A + 8) (by omega)
        rw [hL.out] at this
        rw [this]
        rfl
      have hL2 : L < 256 := by
        have := numsS_bytes s _ (getD_mem (numsS s) 0 (A + 8) (by rw [hnl.out]; omega))
        rw [hL.out] at this; omega
      by_cases h9 : L = 9
      · have hL9 : (L : Int) = 9 := by omega
        have hmid : ∀ W : World, (Instr.slice 9 (.string s) (some (.int .i64 (A : Int))) (some (.int .i64 ((A + 8 : Nat) : Int))) none).run Try.prog W = .ok (.string (s.extract A (A + 8))) W := fun W => str_mid s A (A + 8) (by omega) (by omega) W
        have hex : numsS (s.extract A (A + 8)) = ((numsS s).drop A).take 8 := by
          rw [numsS_extract, List.drop_take]; congr 1; omega
        have hesz : (s.extract A (A + 8)).size = 8 := by rw [← numsS_length, hex, List.length_take, List.length_drop, hnl.out]; omega
        have hstep : Hid (TxI (numsS s) (j + 1) (numsS (T ++ s.extract A (A + 8)))) := by
          have := txI_step htx.out (by rw [← hA.out, hL.out]; exact hL9)
          rw [← hA.out] at this
          rw [numsS_append, hex]
          exact this
        have hcs : Hid ((T ++ s.extract A (A + 8)).size = T.size + 8) := by
          show _ = _
          rw [← numsS_length, numsS_append, List.length_append, numsS_length, numsS_length, hesz]
        clear hex
        have hcat : ¬ 9223372036854775807 < T.size + (s.extract A (A + 8)).size := by rw [hesz]; omega
        generalize s.extract A (A + 8) = S at *
        subst h9
        generalize hA8n : A + 8 = A8 at *
        replace hA8n : Hid _ := hA8n
        clear hA8b hL hnone
        go_wp2
        refine ⟨⟨j + 1, A + 9, T ++ S, rfl, by go_num, ?_, by omega, by rw [hcs.out]; omega, ?_, hstep⟩, ?_⟩
        · show _ = _
          rw [hA.out]; omega
        · show _ = _
          rw [hcs.out, hTs.out]; omega
        · simp [intOf]; omega
      · by_cases hbig : 9 < L
        · have hres : Hid (RdP (numsS s) pt0 0) := hnone.out (by rw [hL.out]; omega)
          have hb1 : ((L : Int) == 9) = false := by simp; omega
          have hb2 : (9 : Int) < (L : Int) := by omega
          generalize hA8n : A + 8 = A8 at *
          replace hA8n : Hid _ := hA8n
          clear hA8b hL hnone
          go_wp2
          refine bodyPost_ret (v := .tuple #[ptV pt0, .int .i64 ((0 : Nat) : Int)]) ?_ rfl ⟨pt0, 0, rfl, hres.out, hB _⟩
          simp [results, Try.results27, asAddr, Result.andThen, go_sem, ptV, pt0]
        · have hb1 : ((L : Int) == 9) = false := by simp; omega
          have hb2 : ¬ (9 : Int) < (L : Int) := by omega
          have hmid : ∀ W : World, (Instr.slice 9 (.string s) (some (.int .i64 (A : Int))) (some (.int .i64 ((A + L : Nat) : Int))) none).run Try.prog W = .ok (.string (s.extract A (A + L))) W := fun W => str_mid s A (A + L) (by omega) (by omega) W
          have hAL : IntKind.i64.wrap ((A : Int) + (L : Int)) = ((A + L : Nat) : Int) := by rw [Go.IntWalk.i64_in _ (by omega)]; omega
          have hAL2 : (A : Int) + (L : Int) = ((A + L : Nat) : Int) := by omega
          have hex : numsS (s.extract A (A + L)) = (((numsS s).drop A).take 8).take L := by
            rw [numsS_extract, List.drop_take, List.take_take, show A + L - A = min L 8 by omega]
          have hesz : (s.extract A (A + L)).size ≤ 8 := by rw [← numsS_length, hex, List.length_take, List.length_take]; omega
          have hres : Hid (RdP (numsS s) ⟨2, 0, T ++ s.extract A (A + L)⟩ (A + 9)) := by
            have := txI_text htx.out hhd.out (by rw [numsS_length]; exact hTs.out) (by rw [hnl.out, ← hA.out]; exact hgo) L (by rw [← hA.out]; exact hL.out) (by omega)
            rw [← hA.out, ← hex, ← numsS_append, strOf_numsS] at this
            exact this
          have hcat : ¬ 9223372036854775807 < T.size + (s.extract A (A + L)).size := by omega
          clear hex
          generalize s.extract A (A + L) = S at *
          generalize hA8n : A + 8 = A8 at *
          replace hA8n : Hid _ := hA8n
          generalize hALn : A + L = AL at *
          replace hALn : Hid _ := hALn
          generalize hA9n : A + 9 = A9 at *
          have hA9 : (A : Int) + 9 = (A9 : Int) := by omega
          replace hA9n : Hid _ := hA9n
          clear hA8b hL hnone
          go_wp2
          refine bodyPost_ret (v := .tuple #[ptV ⟨2, 0, T ++ S⟩, .int .i64 (A9 : Int)]) ?_ rfl ⟨_, A9, rfl, hres.out, hB _⟩
          simp [results, Try.results27, asAddr, Result.andThen, go_sem, ptV]
    · have hres : Hid (RdP (numsS s) pt0 0) := hnone.out (by omega)
      have hd : ¬ (A : Int) + 9 ≤ (s.size : Int) := by omega
      clear hnone
      go_wp2
      refine bodyPost_ret (v := .tuple #[ptV pt0, .int .i64 ((0 : Nat) : Int)]) ?_ rfl ⟨pt0, 0, rfl, hres.out, hB _⟩
      simp [results, Try.results27, asAddr, Result.andThen, go_sem, ptV, pt0]
theorem rpart_any (s : ByteArray) (w : World) (hs : s.size ≤ 1000000) (h0 : 0 < s.size) : Calls Try.prog 27 #[.string s] w fun e w' => ∃ p n, e = .returned (.tuple #[ptV p, .int .i64 (n : Nat)]) ∧ RdP (numsS s) p n ∧ Below w.heap.size w w' := by
  have hhd := head_of s h0
  obtain ⟨H, hH⟩ : ∃ H : Nat, s[0].toNat = H := ⟨_, rfl⟩
  rw [hH] at hhd
  have hH2 : H < 256 := by rw [← hH]; exact UInt8.toNat_lt _
  by_cases h160 : H = 160
  · subst h160
    exact rpart_text s w hs h0 hH hhd
  have hne : ((H : Int) == 160) = false := by simp; omega
  have hnl : (numsS s).length = s.size := numsS_length s
  have hq : ∀ q rest, OkP q → numsS s = partB q ++ rest → ∃ z, q = ⟨1, z, ⟨#[]⟩⟩ ∧ I64 z ∧ numsS s = numB z ++ rest ∧ (H : Int) = headN z := by
    intro q rest hq e
    rcases OkP.form hq with ⟨z, rfl, hz⟩ | ⟨t, rfl⟩
    · rw [partB_num rfl] at e
      refine ⟨z, rfl, hz, e, ?_⟩
      rw [e] at hhd
      simpa [numB] using hhd.symm
    · rw [partB_text rfl] at e
      rw [e] at hhd
      simp [textB] at hhd
      omega
  have hsz : ∀ z, I64 z → (H : Int) = headN z → (decide ((H : Int) < 128) = decide (z < 0)) ∧ (if decide ((H : Int) < 128) = true then 127 - (H : Int) else (H : Int) - 128) = (needs (mag z) : Int) := by
    intro z hz e
    have h8 := needs_mag hz
    unfold headN at e
    split at e
    · next h =>
      have h1 : (H : Int) < 128 := by omega
      rw [decide_eq_true h1, decide_eq_true h, if_pos rfl]
      exact ⟨rfl, by omega⟩
    · next h =>
      have h1 : ¬ (H : Int) < 128 := by omega
      rw [decide_eq_false h1, decide_eq_false h, if_neg (by simp)]
      exact ⟨rfl, by omega⟩
  obtain ⟨neg, hneg⟩ : ∃ b, decide ((H : Int) < 128) = b := ⟨_, rfl⟩
  rw [hneg] at hsz
  obtain ⟨n, hn⟩ : ∃ n : Nat, (if neg = true then 127 - (H : Int) else (H : Int) - 128) = (n : Int) := by
    cases neg with
    | true =>
      have : (H : Int) < 128 := of_decide_eq_true hneg
      exact ⟨(127 - (H : Int)).toNat, by rw [if_pos rfl]; omega⟩
    | false =>
      have : ¬ (H : Int) < 128 := of_decide_eq_false hneg
      exact ⟨((H : Int) - 128).toNat, by rw [if_neg (by simp)]; omega⟩
  rw [hn] at hsz
  by_cases hin : n ≤ 8 ∧ n < s.size
  · refine (rpart_num s w neg H n hs h0 hH hne hneg hn hin.1 hin.2).mono ?_
    rintro e w' (⟨hN, rfl, hb⟩ | ⟨hN, rfl, hb⟩)
    · refine ⟨_, _, rfl, ⟨by omega, ?_, Nat.zero_le _, ?_⟩, hb⟩
      · show I64 (if neg = true then _ else _)
        unfold I64
        split <;> omega
      · intro q rest hok e
        obtain ⟨z, rfl, hz, e2, e3⟩ := hq q rest hok e
        obtain ⟨h1, h2⟩ := hsz z hz e3
        obtain ⟨_, h3⟩ := num_mag (numsS s) rest z hz e2
        have h2' : n = needs (mag z) := by omega
        rw [← h1, ← h2'] at h3
        rw [h3]
        refine ⟨?_, ?_⟩
        · have hm : (if neg = true then -1 - (mag z : Int) else (mag z : Int)) = z := by
            unfold mag
            by_cases hz0 : z < 0
            · rw [h1, if_pos (by simpa using hz0), if_pos hz0]; omega
            · rw [h1, if_neg (by simpa using hz0), if_neg hz0]; omega
          rw [hm]
        · rw [partB_num rfl]
          show n + 1 = (numB z).length
          rw [numB, List.length_cons, be_len, h2']
    · refine ⟨_, _, rfl, ⟨by omega, by show I64 0; unfold I64; omega, Nat.zero_le _, ?_⟩, hb⟩
      intro q rest hok e
      exfalso
      obtain ⟨z, rfl, hz, e2, e3⟩ := hq q rest hok e
      obtain ⟨h1, h2⟩ := hsz z hz e3
      obtain ⟨_, h3⟩ := num_mag (numsS s) rest z hz e2
      have h2' : n = needs (mag z) := by omega
      rw [← h1, ← h2'] at h3
      rw [h3] at hN
      have := mag_lt hz
      omega
  · refine (rpart_none s w H n hs h0 hH hne ?_ (by omega)).mono ?_
    · cases neg with
      | true => exact .inl ⟨of_decide_eq_true hneg, by simpa using hn⟩
      | false => exact .inr ⟨of_decide_eq_false hneg, by simpa using hn⟩
    rintro e w' ⟨rfl, hb⟩
    refine ⟨_, _, rfl, ⟨by omega, by show I64 0; unfold I64; omega, Nat.zero_le _, ?_⟩, hb⟩
    intro q rest hok e
    exfalso
    obtain ⟨z, rfl, hz, e2, e3⟩ := hq q rest hok e
    obtain ⟨h1, h2⟩ := hsz z hz e3
    obtain ⟨h4, _⟩ := num_mag (numsS s) rest z hz e2
    have := needs_mag hz
    omega
end Go.Proofs.Ytkhnhnaefmcngaa
