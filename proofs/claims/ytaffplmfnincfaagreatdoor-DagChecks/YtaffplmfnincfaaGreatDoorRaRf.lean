/- Ra; Rb; Rc; Rd; Re; Rf. -/
import Derived.Test.YtaffplmfnincfaaGreatDoorPa
import Derived.Test.YtaffplmfnincfaaGreatDoorPf
/- DagChecks: the document's find, in, twice. -/
namespace Go.Proofs.YtaffplmfnincfaaGreatDoor
set_option linter.unusedVariables false
open Go.RowKit
set_option maxRecDepth 100000 in
set_option maxHeartbeats 8000000 in
/-- find. -/
theorem find37 (a : Option Addr) (n c : Nat) (l : List Nd) (s : ByteArray) (w : World) (hv : Sls encN w (.slice a n c) l) (hl : n ≤ 1000000) : Calls Tryz.prog 37 #[.slice a n c, .string s] w fun e w' => e = .returned (.int .i64 (plc (l.map (·.ref)) s)) ∧ Below w.heap.size w w' := by
  obtain ⟨L, hL⟩ : ∃ L, Hid (L = l.map (·.ref)) := ⟨_, rfl⟩
  rw [← hL.out]
  have hn : Hid (n = L.length) := by show _ = _; rw [hL.out, List.length_map]; exact hv.len
  have hget : Hid (∀ w' k, Below w.heap.size w w' → k < L.length → ∃ b o, a = some ⟨b, o, none⟩ ∧ w'.cell? ⟨b, o + k * 11, none⟩ = some (.string (L.getD k ⟨#[]⟩))) := fun w' k h hk => by
    have hk2 : k < l.length := by rw [hL.out, List.length_map] at hk; exact hk
    obtain ⟨b, o, e, c, _⟩ := nd_at (hv.grow h) k hk2
    refine ⟨b, o, e, ?_⟩
    rw [c, hL.out, List.getD_eq_getElem?_getD, List.getD_eq_getElem?_getD]
    simp [hk2]
  clear hL hv
  cases hany : L.any (fun t : ByteArray => t.toList == s.toList) with
  | false =>
    have hid : Hid (plc L s = -1) := by unfold plc idxP; rw [hany]; rfl
    have hno : Hid (∀ k, k < L.length → ((L.getD k ⟨#[]⟩).toList == s.toList) = false) := fun k hk => idxP_none (fun t : ByteArray => t.toList == s.toList) _ hany k hk
    clear hany
    rw [hid.out]
    go_enter Tryz.func37, Tryz.ntmps37
    go_wp2
    go_loopw [5] (fun i wr => ∃ k : Nat, k ≤ n ∧ i = .int .i64 k ∧ Hid (Below w.heap.size w wr)) (fun i _ => n - (intOf i).toNat)
    case atStart => exact ⟨0, Nat.zero_le _, rfl, Below.refl _ _⟩
    case round =>
      obtain ⟨k, hk, rfl, hB⟩ := hrel
      by_cases hlt : k < n
      · have hki : (k : Int) < (n : Int) := by omega
        have hkl : k < L.length := by have := hn.out; omega
        obtain ⟨b, o, rfl, x0⟩ := hget.out wr k hB.out hkl
        have he := hno.out k hkl
        generalize L.getD k ⟨#[]⟩ = r at *
        go_wp2
        refine ⟨⟨k + 1, by omega, by go_num, hB⟩, ?_⟩
        simp [intOf]; omega
      · have hki : ¬ (k : Int) < (n : Int) := by omega
        have hB' := hB.out
        go_wp2
        go_ret
        exact ⟨rfl, hB'⟩
  | true =>
    obtain ⟨h1, h2, h3⟩ := idxP_some (fun t : ByteArray => t.toList == s.toList) ⟨#[]⟩ hany
    have hid : Hid (plc L s = (L.findIdx (fun t : ByteArray => t.toList == s.toList) : Int)) := by unfold plc idxP; rw [hany]; rfl
    rw [hid.out]
    clear hid hany
    generalize L.findIdx (fun t : ByteArray => t.toList == s.toList) = K at *
    replace h2 : Hid (((L.getD K ⟨#[]⟩).toList == s.toList) = true) := h2
    replace h3 : Hid (∀ k, k < K → ((L.getD k ⟨#[]⟩).toList == s.toList) = false) := h3
    have hKn : K < n := by have := hn.out; omega
    go_enter Tryz.func37, Tryz.ntmps37
    go_wp2
    go_loopw [5] (fun i wr => ∃ k : Nat, k ≤ K ∧ i = .int .i64 k ∧ Hid (Below w.heap.size w wr)) (fun i _ => n - (intOf i).toNat)
    case atStart => exact ⟨0, Nat.zero_le _, rfl, Below.refl _ _⟩
    case round =>
      obtain ⟨k, hk, rfl, hB⟩ := hrel
      have hki : (k : Int) < (n : Int) := by omega
      obtain ⟨b, o, rfl, x0⟩ := hget.out wr k hB.out (by omega)
      by_cases hlt : k < K
      · have he := h3.out k hlt
        generalize L.getD k ⟨#[]⟩ = r at *
        go_wp2
        refine ⟨⟨k + 1, by omega, by go_num, hB⟩, ?_⟩
        simp [intOf]; omega
      · obtain rfl : k = K := by omega
        have he := h2.out
        clear h3
        have hB' := hB.out
        generalize L.getD k ⟨#[]⟩ = r at *
        go_wp2
        go_ret
        exact ⟨rfl, hB'⟩
open Classical in
set_option maxRecDepth 100000 in
set_option maxHeartbeats 8000000 in
/-- in. -/
theorem in27 (a : Option Addr) (n c : Nat) (L : List ByteArray) (s : ByteArray) (w : World) (hv : Txs w (.slice a n c) L) (hl : n ≤ 1000000) : Calls Tryz.prog 27 #[.slice a n c, .string s] w fun e w' => e = .returned (.bool (decide (s ∈ L))) ∧ Below w.heap.size w w' := by
  have hn : Hid (n = L.length) := hv.len
  replace hv : Hid (Txs w (.slice a n c) L) := hv
  cases hany : L.any (fun t : ByteArray => t.toList == s.toList) with
  | false =>
    have hid : Hid (decide (s ∈ L) = false) := decide_eq_false fun h => by
      have := List.any_eq_false.1 hany s h
      simp at this
    have hno : Hid (∀ k, k < L.length → ((L.getD k ⟨#[]⟩).toList == s.toList) = false) := fun k hk => idxP_none (fun t : ByteArray => t.toList == s.toList) _ hany k hk
    clear hany
    rw [hid.out]
    go_enter Tryz.func27, Tryz.ntmps27
    go_wp2
    go_loopw [5] (fun i wr => ∃ k : Nat, k ≤ n ∧ i = .int .i64 k ∧ Hid (Below w.heap.size w wr)) (fun i _ => n - (intOf i).toNat)
    case atStart => exact ⟨0, Nat.zero_le _, rfl, Below.refl _ _⟩
    case round =>
      obtain ⟨k, hk, rfl, hB⟩ := hrel
      by_cases hlt : k < n
      · have hki : (k : Int) < (n : Int) := by omega
        have hkl : k < L.length := by have := hn.out; omega
        obtain ⟨b, o, rfl, x0⟩ := tx_at (hv.out.grow hB.out) k hkl
        have he := hno.out k hkl
        generalize L.getD k ⟨#[]⟩ = r at *
        go_wp2
        refine ⟨⟨k + 1, by omega, by go_num, hB⟩, ?_⟩
        simp [intOf]; omega
      · have hki : ¬ (k : Int) < (n : Int) := by omega
        have hB' := hB.out
        go_wp2
        go_ret
        exact ⟨rfl, hB'⟩
  | true =>
    obtain ⟨h1, h2, h3⟩ := idxP_some (fun t : ByteArray => t.toList == s.toList) ⟨#[]⟩ hany
    have hid : Hid (decide (s ∈ L) = true) := decide_eq_true (by
      obtain ⟨x, hx, e⟩ := List.any_eq_true.1 hany
      exact toList_eq e ▸ hx)
    rw [hid.out]
    clear hid hany
    generalize L.findIdx (fun t : ByteArray => t.toList == s.toList) = K at *
    replace h2 : Hid (((L.getD K ⟨#[]⟩).toList == s.toList) = true) := h2
    replace h3 : Hid (∀ k, k < K → ((L.getD k ⟨#[]⟩).toList == s.toList) = false) := h3
    have hKn : K < n := by have := hn.out; omega
    go_enter Tryz.func27, Tryz.ntmps27
    go_wp2
    go_loopw [5] (fun i wr => ∃ k : Nat, k ≤ K ∧ i = .int .i64 k ∧ Hid (Below w.heap.size w wr)) (fun i _ => n - (intOf i).toNat)
    case atStart => exact ⟨0, Nat.zero_le _, rfl, Below.refl _ _⟩
    case round =>
      obtain ⟨k, hk, rfl, hB⟩ := hrel
      have hki : (k : Int) < (n : Int) := by omega
      obtain ⟨b, o, rfl, x0⟩ := tx_at (hv.out.grow hB.out) k (by omega)
      by_cases hlt : k < K
      · have he := h3.out k hlt
        generalize L.getD k ⟨#[]⟩ = r at *
        go_wp2
        refine ⟨⟨k + 1, by omega, by go_num, hB⟩, ?_⟩
        simp [intOf]; omega
      · obtain rfl : k = K := by omega
        have he := h2.out
        clear h3
        have hB' := hB.out
        generalize L.getD k ⟨#[]⟩ = r at *
        go_wp2
        go_ret
        exact ⟨rfl, hB'⟩
theorem least_of {P : Nat → Prop} (n : Nat) (h : P n) : ∃ m, P m ∧ ∀ k, k < m → ¬ P k := by
  induction n using Nat.strongRecOn with
  | _ n ih =>
    by_cases hk : ∃ k, k < n ∧ P k
    · obtain ⟨k, h1, h2⟩ := hk
      exact ih k h1 h2
    · exact ⟨n, h, fun k h1 h2 => hk ⟨k, h1, h2⟩⟩
theorem plc_nodup {L : List ByteArray} (h : L.Nodup) (i : Nat) (hi : i < L.length) : plc L (L.getD i ⟨#[]⟩) = i := by
  have e : L = L.take i ++ L.getD i ⟨#[]⟩ :: L.drop (i + 1) := by
    rw [List.getD_eq_getElem?_getD, List.getElem?_eq_getElem hi]
    exact (List.take_append_drop i L).symm.trans (by rw [List.drop_eq_getElem_cons hi]; rfl)
  have hn : L.getD i ⟨#[]⟩ ∉ L.take i := fun hm => by
    rw [e] at h
    exact (List.nodup_append.1 h).2.2 _ hm _ List.mem_cons_self rfl
  have := plc_at (Q := L.drop (i + 1)) hn
  rw [← e, List.length_take, Nat.min_eq_left (by omega)] at this
  exact this
theorem plc_dup {L : List ByteArray} (h : ¬ L.Nodup) : ∃ i, i < L.length ∧ plc L (L.getD i ⟨#[]⟩) ≠ i := by
  refine Classical.byContradiction fun hc => h ?_
  have hall : ∀ i, i < L.length → plc L (L.getD i ⟨#[]⟩) = i := fun i hi => Classical.byContradiction fun g => hc ⟨i, hi, g⟩
  rw [List.Nodup, List.pairwise_iff_getElem]
  intro i j hi hj hij e
  have h1 := hall i hi
  have h2 := hall j hj
  have e1 : L.getD i ⟨#[]⟩ = L[i] := by rw [List.getD_eq_getElem?_getD, List.getElem?_eq_getElem hi]; rfl
  have e2 : L.getD j ⟨#[]⟩ = L[j] := by rw [List.getD_eq_getElem?_getD, List.getElem?_eq_getElem hj]; rfl
  rw [e1, e] at h1
  rw [e2, h1] at h2
  omega
open Classical in
set_option maxRecDepth 100000 in
set_option maxHeartbeats 8000000 in
/-- twice. -/
theorem twice26 (a : Option Addr) (n c : Nat) (l : List Nd) (w : World) (hv : Sls encN w (.slice a n c) l) (hl : n ≤ 1000000) : Calls Tryz.prog 26 #[.slice a n c] w fun e w' => e = .returned (.bool (decide (¬ (l.map (·.ref)).Nodup))) ∧ Below w.heap.size w w' := by
  have hfi : Hid (∀ w' s, Below w.heap.size w w' → Calls Tryz.prog 37 #[.slice a n c, .string s] w' fun e w'' => e = .returned (.int .i64 (plc (l.map (·.ref)) s)) ∧ Below w'.heap.size w' w'') := fun w' s h => find37 a n c l s w' (hv.grow h) hl
  obtain ⟨L, hL⟩ : ∃ L, Hid (L = l.map (·.ref)) := ⟨_, rfl⟩
  rw [← hL.out] at hfi ⊢
  have hn : Hid (n = L.length) := by show _ = _; rw [hL.out, List.length_map]; exact hv.len
  have hget : Hid (∀ w' k, Below w.heap.size w w' → k < L.length → ∃ b o, a = some ⟨b, o, none⟩ ∧ w'.cell? ⟨b, o + k * 11, none⟩ = some (.string (L.getD k ⟨#[]⟩))) := fun w' k h hk => by
    have hk2 : k < l.length := by rw [hL.out, List.length_map] at hk; exact hk
    obtain ⟨b, o, e, c, _⟩ := nd_at (hv.grow h) k hk2
    refine ⟨b, o, e, ?_⟩
    rw [c, hL.out, List.getD_eq_getElem?_getD, List.getD_eq_getElem?_getD]
    simp [hk2]
  clear hL hv
  by_cases hd : L.Nodup
  · rw [decide_eq_false (fun h => h hd)]
    replace hd : Hid (∀ i, i < L.length → plc L (L.getD i ⟨#[]⟩) = i) := fun i hi => plc_nodup hd i hi
    go_enter Tryz.func26, Tryz.ntmps26
    go_wp2
    go_loopw [3] (fun i wr => ∃ k : Nat, k ≤ n ∧ i = .int .i64 k ∧ Hid (Below w.heap.size w wr)) (fun i _ => n - (intOf i).toNat)
    case atStart => exact ⟨0, Nat.zero_le _, rfl, Below.refl _ _⟩
    case round =>
      obtain ⟨k, hk, rfl, hB⟩ := hrel
      by_cases hlt : k < n
      · have hki : (k : Int) < (n : Int) := by omega
        have hkl : k < L.length := by have := hn.out; omega
        obtain ⟨b, o, rfl, x0⟩ := hget.out wr k hB.out hkl
        have hf := hfi.out wr (L.getD k ⟨#[]⟩) hB.out
        rw [hd.out k hkl] at hf
        generalize L.getD k ⟨#[]⟩ = r at *
        go_wp2_with (first | (go_at_call 37; refine hf.mono ?_; clear hf x0; rintro e w2 ⟨rfl, hb2⟩; have hB2 : Hid (Below w.heap.size w w2) := hB.out.trans (hb2.mono hB.out.size)))
        go_roundw
        case rel => exact ⟨k + 1, by omega, by go_num, hB2⟩
        case measure => simp [intOf]; omega
      · have hki : ¬ (k : Int) < (n : Int) := by omega
        have hB' := hB.out
        go_wp2
        go_ret
        exact ⟨rfl, hB'⟩
  · rw [decide_eq_true hd]
    obtain ⟨i0, h0⟩ := plc_dup hd
    obtain ⟨K, ⟨hK1, hK2⟩, hK3⟩ := least_of (P := fun i => i < L.length ∧ plc L (L.getD i ⟨#[]⟩) ≠ i) i0 h0
    replace hK3 : Hid (∀ i, i < K → plc L (L.getD i ⟨#[]⟩) = i) := fun i hi => Classical.byContradiction fun g => hK3 i hi ⟨by omega, g⟩
    replace hK2 : Hid (plc L (L.getD K ⟨#[]⟩) ≠ K) := hK2
    have hKn : K < n := by have := hn.out; omega
    clear h0 hd
    go_enter Tryz.func26, Tryz.ntmps26
    go_wp2
    go_loopw [3] (fun i wr => ∃ k : Nat, k ≤ K ∧ i = .int .i64 k ∧ Hid (Below w.heap.size w wr)) (fun i _ => n - (intOf i).toNat)
    case atStart => exact ⟨0, Nat.zero_le _, rfl, Below.refl _ _⟩
    case round =>
      obtain ⟨k, hk, rfl, hB⟩ := hrel
      have hki : (k : Int) < (n : Int) := by omega
      have hkl : k < L.length := by omega
      obtain ⟨b, o, rfl, x0⟩ := hget.out wr k hB.out hkl
      have hf := hfi.out wr (L.getD k ⟨#[]⟩) hB.out
      by_cases hlt : k < K
      · rw [hK3.out k hlt] at hf
        generalize L.getD k ⟨#[]⟩ = r at *
        go_wp2_with (first | (go_at_call 37; refine hf.mono ?_; clear hf x0; rintro e w2 ⟨rfl, hb2⟩; have hB2 : Hid (Below w.heap.size w w2) := hB.out.trans (hb2.mono hB.out.size)))
        go_roundw
        case rel => exact ⟨k + 1, by omega, by go_num, hB2⟩
        case measure => simp [intOf]; omega
      · obtain rfl : k = K := by omega
        have hne := hK2.out
        generalize L.getD k ⟨#[]⟩ = r at *
        generalize plc L r = P at *
        have hne1 : (P != (k : Int)) = true := by simpa using hne
        have hne2 : (P == (k : Int)) = false := by simpa using hne
        clear hK2
        go_wp2_with (first | (go_at_call 37; refine hf.mono ?_; clear hf x0; rintro e w2 ⟨rfl, hb2⟩; have hB2 : Hid (Below w.heap.size w w2) := hB.out.trans (hb2.mono hB.out.size)))
        go_ret
        exact ⟨rfl, hB2.out⟩
end Go.Proofs.YtaffplmfnincfaaGreatDoor
/- DagChecks: the document's Add. -/
namespace Go.Proofs.YtaffplmfnincfaaGreatDoor
set_option linter.unusedVariables false
open Go.RowKit
theorem txs_to {w : World} {v : Value} {l : List ByteArray} (hv : Txs w v l) (k : Nat) (hk : k ≤ l.length) :
    ∃ v2, (∀ W, (Instr.slice 25 v none (some (.int .i64 (k : Int))) none).run Tryz.prog W = .ok v2 W) ∧ Txs w v2 (l.take k) := by
  obtain ⟨a, c, rfl, ⟨hn, hc⟩, h1⟩ := hv
  refine ⟨sliced a 0 k c 1, fun W => ?_, ⟨if c = 0 then a else a.map (·.add (0 * 1)), c - 0, by simp only [sliced, List.length_take, Nat.min_eq_left hk, Nat.sub_zero], ⟨fun e => ?_, by simp; omega⟩, ?_⟩⟩
  · rw [run_slice_h W 25 a l.length c elem25 .i64 k (by omega) (by omega), size25]; simp [Result.andThen]
  · by_cases h : c = 0
    · omega
    · rw [if_neg h] at e
      simp at e; have := hn e; omega
  · rcases h1 with rfl | ⟨b, o, rfl, hr⟩
    · exact .inl (by simp)
    · by_cases h : k = 0
      · exact .inl (by simp [h])
      · refine .inr ⟨b, o, ?_, fun t ht => ?_⟩
        · rw [if_neg (by omega)]; simp [ladd_at]
        · rw [List.length_take] at ht
          have := hr t (by omega)
          rw [show (l.take k).getD t encS.d = l.getD t encS.d by rw [List.getD_eq_getElem?_getD, List.getD_eq_getElem?_getD, List.getElem?_take_of_lt (by omega)]]
          exact this
/-! ### What live asks -/
/-- v[k:], k within the length. -/
theorem txs_from {w : World} {v : Value} {l : List ByteArray} (hv : Txs w v l) (k : Nat) (hk : k ≤ l.length) :
    ∃ v2, (∀ W, (Instr.slice 25 v (some (.int .i64 (k : Int))) none none).run Tryz.prog W = .ok v2 W) ∧ Txs w v2 (l.drop k) := by
  obtain ⟨a, c, rfl, ⟨hn, hc⟩, h1⟩ := hv
  refine ⟨sliced a k l.length c 1, fun W => ?_, ⟨if c = k then a else a.map (·.add (k * 1)), c - k, by simp only [sliced, List.length_drop], ⟨fun e => ?_, by simp; omega⟩, ?_⟩⟩
  · rw [run_slice_l W 25 a l.length c elem25 .i64 k (by omega) (by omega), size25]; simp [Result.andThen]
  · by_cases h : c = k
    · omega
    · rw [if_neg h] at e
      simp at e; have := hn e; omega
  · rcases h1 with rfl | ⟨b, o, rfl, hr⟩
    · exact .inl (by simp)
    · by_cases h : k = l.length
      · exact .inl (by simp [h])
      · refine .inr ⟨b, o + k * 1, ?_, fun t ht => ?_⟩
        · rw [if_neg (by omega)]; simp [ladd_at]
        · rw [List.length_drop] at ht
          have := hr (k + t) (by omega)
          rw [show (l.drop k).getD t encS.d = l.getD (k + t) encS.d by rw [List.getD_eq_getElem?_getD, List.getD_eq_getElem?_getD, List.getElem?_drop]]
          intro i u hu
          have h3 := this i u hu
          rw [← h3]
          congr 2
          show o + k * 1 + t * 1 + i = o + (k + t) * 1 + i
          omega

/-- append(s, x...) inside a region that draws, x nil or not. -/
theorem stepN {α : Type} {E : Enc α} (T : RowTy E) {ops : Array Oper} {o : Oper} {a : Act} {w : World} {K : Act → World → Prop} {Q : Exit → Act → World → Prop} {F : Prop} (hg : o.guard = none) (s x : Operand)
    (hop : o.op = Op.call { callee := Callee.builtin Builtin.append, args := #[s, x], argTypes := #[T.st, T.st] }) (base : Nat) (v u : Value) (l m : List α) (hs : a.eval s = v) (hx : a.eval x = u)
    (hown : OwnS T w base v l) (hm : Sls E w u m) (hbase : base ≤ w.heap.size) (hlen : l.length + m.length ≤ 1000000000)
    (h : ∀ v' w', OwnS T w' base v' (l ++ m) → w.grownBy w' v.ownBlock → K (a.put o.dst v') w') : if Region.wanted o (yielded ops a.tmps) = true then Oper.wp Tryz.prog o a w K Q else F := by
  obtain ⟨ad, c, rfl, hnil, hcell⟩ := hm
  cases ad with
  | none =>
    have hms : m = [] := by
      rcases hcell with hcell | ⟨_, _, e, _⟩
      · exact hcell
      · cases e
    subst hms
    obtain rfl := hnil.1 rfl
    have hw : Region.wanted o (yielded ops a.tmps) = true := by simp [Region.wanted, hg]
    rw [if_pos hw]
    obtain ⟨i0, hi, hz0, hz1, hz2⟩ := info_parts T.hi
    have hrun := run_append_owned_none (P := Tryz.prog) (w := w) base T.st o.type T.et i0 E.k T.hu hi v l.length (flat E l) hown
    have hx' : a.eval x = .slice none 0 0 := hx
    unfold Oper.wp
    simp [execOp, hop, resolve, invoke, builtin, hs, hx', hrun, Result.andThen]
    exact h v w (by simpa using hown) (grown_refl _ _)
  | some ad => exact stepR T hg s x hop base v ad m.length c l m hs hx hown ⟨_, _, rfl, hnil, hcell⟩ hbase hlen h
theorem Sls.kept {α : Type} {E : Enc α} {w w' : World} {g o n c : Nat} {r : Option Nat} {l : List α} (h : Sls E w (.slice (some ⟨g, o, none⟩) n c) l) (hg : w.grownBy w' r) (hne : some g ≠ r) : Sls E w' (.slice (some ⟨g, o, none⟩) n c) l := by
  obtain ⟨a, c', e, hn, h⟩ := h
  refine ⟨a, c', e, hn, ?_⟩
  rcases h with h | ⟨b, o', e2, h⟩
  · exact .inl h
  · cases e
    cases e2
    refine .inr ⟨g, o, rfl, fun t ht i u hu => ?_⟩
    have h1 := h t ht i u hu
    have hlt := World.block_lt_of_cell? w _ h1
    rw [← h1]
    simp only [World.cell?, hg.block g hlt hne]

/-- Rising texts. -/
def TRise (L : List ByteArray) : Prop := L.Pairwise bltS
theorem t_insert {L : List ByteArray} {s : ByteArray} {k : Nat} (h : TRise L) (hk : k ≤ L.length) (h1 : ∀ j, j < k → bltS (L.getD j ⟨#[]⟩) s) (h2 : k < L.length → bltS s (L.getD k ⟨#[]⟩)) : TRise (L.take k ++ s :: L.drop k) := by
  have hf : ∀ b ∈ L.take k, bltS b s := fun b hb => by
    obtain ⟨j, hj, rfl⟩ := List.mem_iff_getElem.1 hb
    rw [List.length_take] at hj
    have := h1 j (by omega)
    rw [List.getD_eq_getElem?_getD, List.getElem?_eq_getElem (by omega)] at this
    rw [List.getElem_take]
    exact this
  have hg : ∀ b ∈ L.drop k, bltS s b := fun b hb => by
    by_cases hl : k < L.length
    · have hx := h2 hl
      have hd : L.drop k = L.getD k ⟨#[]⟩ :: L.drop (k + 1) := by
        rw [List.drop_eq_getElem_cons hl]; simp [hl]
      have hr : TRise (L.drop k) := List.Pairwise.sublist (List.drop_sublist k L) h
      rw [hd] at hb hr
      rcases List.mem_cons.1 hb with rfl | hb
      · exact hx
      · exact hx.trans ((List.pairwise_cons.1 hr).1 b hb)
    · rw [List.drop_eq_nil_iff.2 (by omega)] at hb; cases hb
  refine List.pairwise_append.2 ⟨List.Pairwise.sublist (List.take_sublist k L) h, List.pairwise_cons.2 ⟨hg, List.Pairwise.sublist (List.drop_sublist k L) h⟩, ?_⟩
  intro a ha b hb
  rcases List.mem_cons.1 hb with rfl | hb
  · exact hf a ha
  · exact (hf a ha).trans (hg b hb)
theorem t_mem {L : List ByteArray} {s r : ByteArray} {k : Nat} : r ∈ L.take k ++ s :: L.drop k ↔ r ∈ L ∨ r = s := by
  rw [List.mem_append, List.mem_cons]
  have : r ∈ L ↔ r ∈ L.take k ∨ r ∈ L.drop k := by rw [← List.mem_append, List.take_append_drop]
  rw [this]
  constructor
  · rintro (h | h | h)
    · exact .inl (.inl h)
    · exact .inr h
    · exact .inl (.inr h)
  · rintro ((h | h) | h)
    · exact .inl h
    · exact .inr (.inr h)
    · exact .inr (.inl h)
/-- What Add tells. -/
def AddQ (L : List ByteArray) (s : ByteArray) (out : List ByteArray) : Prop := TRise out ∧ (∀ r, r ∈ out ↔ r ∈ L ∨ r = s) ∧ out.length ≤ L.length + 1
set_option maxRecDepth 100000 in
set_option maxHeartbeats 16000000 in
/-- Add. -/
theorem add39 (a : Option Addr) (n c : Nat) (L : List ByteArray) (s : ByteArray) (w : World) (hv : Txs w (.slice a n c) L) (hl : n ≤ 100000) (hr : TRise L) : Calls Tryz.prog 39 #[.slice a n c, .string s] w fun e w' => ∃ a' n' c' out, e = .returned (.slice a' n' c') ∧ Hid (AddQ L s out ∧ Txs w' (.slice a' n' c') out ∧ Below w.heap.size w w') := by
  have hn : Hid (n = L.length) := hv.len
  replace hv : Hid (Txs w (.slice a n c) L) := hv
  replace hr : Hid (TRise L) := hr
  go_enter Tryz.func39, Tryz.ntmps39
  go_wp2
  go_loopw [5] (fun i wr => ∃ k : Nat, k ≤ n ∧ i = .int .i64 k ∧ w = wr ∧ Hid (∀ j, j < k → bltS (L.getD j ⟨#[]⟩) s)) (fun i _ => n - (intOf i).toNat)
  case atStart => exact ⟨0, Nat.zero_le _, rfl, rfl, fun j hj => absurd hj (Nat.not_lt_zero _)⟩
  case round =>
    obtain ⟨k, hk, rfl, rfl, hlo⟩ := hrel
    by_cases hlt : k < n
    · have hki : (k : Int) < (n : Int) := by omega
      have hkl : k < L.length := by have := hn.out; omega
      obtain ⟨b, o, rfl, x0⟩ := tx_at hv.out k hkl
      have hls := less_cmp (L.getD k ⟨#[]⟩) s
      by_cases hb : bltS (L.getD k ⟨#[]⟩) s
      · have hnx : Hid (∀ j, j < k + 1 → bltS (L.getD j ⟨#[]⟩) s) := fun j hj => by
          by_cases e : j = k
          · subst e; exact hb
          · exact hlo.out j (by omega)
        rw [decide_eq_true (show cmpL (numsS (L.getD k ⟨#[]⟩)) (numsS s) = -1 from hb)] at hls
        clear hb
        generalize L.getD k ⟨#[]⟩ = r at x0 hls
        go_wp2
        go_roundw
        case rel => exact ⟨k + 1, by omega, by go_num, by first | rfl | trivial, hnx⟩
        case measure => simp [intOf]; omega
      · rw [decide_eq_false (show ¬ cmpL (numsS (L.getD k ⟨#[]⟩)) (numsS s) = -1 from hb)] at hls
        by_cases he : L.getD k ⟨#[]⟩ = s
        · have hm : Hid (s ∈ L) := he ▸ lgetD_mem L ⟨#[]⟩ k hkl
          rw [he] at x0 hls
          clear hb he hlo
          go_wp2
          go_ret
          exact ⟨_, _, _, L, rfl, ⟨hr.out, fun r => ⟨.inl, fun h => h.elim id fun e => e ▸ hm.out⟩, Nat.le_succ _⟩, hv.out, Below.refl _ _⟩
        · have hne := toList_ne he
          have hq : Hid (AddQ L s (L.take k ++ s :: L.drop k)) := ⟨t_insert hr.out (by omega) hlo.out (fun _ => (bltS_total he).resolve_left hb), fun r => t_mem, by simp [List.length_take, List.length_drop]; omega⟩
          clear hb he hlo
          generalize L.getD k ⟨#[]⟩ = r at x0 hls hne
          go_wp2
          replace hv : Txs w (.slice (some ⟨b, o, none⟩) n c) L := hv.out
          generalize Value.slice (some ⟨b, o, none⟩) n c = u5 at hv ⊢
          obtain ⟨v1, hto, hl1⟩ := txs_to hv k (by have := hn.out; omega)
          obtain ⟨v2, hfr, hl2⟩ := txs_from hv k (by have := hn.out; omega)
          have hlen1 : (L.take k).length ≤ 100000 := by rw [List.length_take]; omega
          have hlen2 : (L.drop k).length ≤ 100000 := by rw [List.length_drop]; have := hn.out; omega
          generalize L.take k = L1 at *
          generalize L.drop k = L2 at *
          have hone : ∀ W : World, Txs (W.alloc (.cells #[.string s] 9)) (.slice (some ⟨W.heap.size, 0, none⟩) 1 1) [s] := fun W => sls_one W _ _ _ rfl
          have bA : Below w.heap.size w (w.alloc (.cells #[] 9)).drew := ((Below.refl _ _).alloc (Nat.le_refl _) _).drew
          have bB : Below w.heap.size w ((w.alloc (.cells #[] 9)).alloc (.cells #[.string s] 9)).drew := (((Below.refl _ _).alloc (Nat.le_refl _) _).alloc (by simp) _).drew
          have bC : Below w.heap.size w ((w.alloc (.cells #[.string s] 9)).alloc (.cells #[] 9)).drew := (((Below.refl _ _).alloc (Nat.le_refl _) _).alloc (by simp) _).drew
          have oA : OwnT (w.alloc (.cells #[] 9)).drew w.heap.size (.slice (some ⟨w.heap.size, 0, none⟩) 0 0) [] := own_empty (T := TS) w w.heap.size (Nat.le_refl _)
          have oB : OwnT ((w.alloc (.cells #[] 9)).alloc (.cells #[.string s] 9)).drew w.heap.size (.slice (some ⟨w.heap.size, 0, none⟩) 0 0) [] := OwnS.alloc (own_empty (T := TS) w w.heap.size (Nat.le_refl _)) _
          have oC : OwnT ((w.alloc (.cells #[.string s] 9)).alloc (.cells #[] 9)).drew w.heap.size (.slice (some ⟨w.heap.size + 1, 0, none⟩) 0 0) [] := by
            have := own_empty (T := TS) (w.alloc (.cells #[.string s] 9)) w.heap.size (by simp)
            rw [World.size_alloc] at this
            exact this
          have xB : Txs ((w.alloc (.cells #[] 9)).alloc (.cells #[.string s] 9)).drew (.slice (some ⟨w.heap.size + 1, 0, none⟩) 1 1) [s] := by
            have := hone (w.alloc (.cells #[] 9))
            rw [World.size_alloc] at this
            exact this
          have xC : Txs ((w.alloc (.cells #[.string s] 9)).alloc (.cells #[] 9)).drew (.slice (some ⟨w.heap.size, 0, none⟩) 1 1) [s] := (hone w).alloc _
          go_region_law (first
            | (refine stepN TS rfl (.tmp 33) (.tmp 36) rfl w.heap.size (.slice (some ⟨w.heap.size, 0, none⟩) 0 0) v1 [] L1 rfl rfl oA (hl1.grow bA) bA.size (by simp; omega) ?_; intro v3 w3 ho3 hg3; rw [List.nil_append] at ho3; have hB3 : Below w.heap.size w w3 := bA.grown hg3 bA.size (by intro q hq; cases hq; exact Nat.le_refl _))
            | (refine stepN TS rfl (.tmp 33) (.tmp 36) rfl w.heap.size (.slice (some ⟨w.heap.size, 0, none⟩) 0 0) v1 [] L1 rfl rfl oB (hl1.grow bB) bB.size (by simp; omega) ?_; intro v3 w3 ho3 hg3; rw [List.nil_append] at ho3; have hB3 : Below w.heap.size w w3 := bB.grown hg3 bB.size (by intro q hq; cases hq; exact Nat.le_refl _); have hx3 := xB.kept hg3 (by simp [Value.ownBlock]))
            | (refine stepN TS rfl (.tmp 33) (.tmp 36) rfl w.heap.size (.slice (some ⟨w.heap.size + 1, 0, none⟩) 0 0) v1 [] L1 rfl rfl oC (hl1.grow bC) bC.size (by simp; omega) ?_; intro v3 w3 ho3 hg3; rw [List.nil_append] at ho3; have hB3 : Below w.heap.size w w3 := bC.grown hg3 bC.size (by intro q hq; cases hq; exact Nat.le_succ _); have hx3 := xC.kept hg3 (by simp [Value.ownBlock]))
            | (refine stepN TS rfl (.tmp 37) (.tmp 39) rfl w.heap.size v3 (.slice (some ⟨w3.heap.size, 0, none⟩) 1 1) L1 [s] rfl rfl (ho3.alloc _) (hone w3) (hB3.alloc hB3.size _).size (by simp; omega) ?_; intro v4 w4 ho4 hg4; have hB4 : Below w.heap.size w w4 := (hB3.alloc hB3.size _).grown hg4 (hB3.alloc hB3.size _).size (fun q hq => (ho3.lt q hq).1))
            | (refine stepN TS rfl (.tmp 37) (.tmp 39) rfl w.heap.size v3 _ L1 [s] rfl rfl ho3 hx3 hB3.size (by simp; omega) ?_; intro v4 w4 ho4 hg4; have hB4 : Below w.heap.size w w4 := hB3.grown hg4 hB3.size (fun q hq => (ho3.lt q hq).1))
            | (refine stepN TS rfl (.tmp 40) (.tmp 43) rfl w.heap.size v4 v2 _ L2 rfl rfl ho4 (hl2.grow hB4) hB4.size (by simp; omega) ?_; intro v5 w5 ho5 hg5; have hB5 : Below w.heap.size w w5 := hB4.grown hg5 hB4.size (fun q hq => (ho4.lt q hq).1); obtain ⟨a5, c5, hv5⟩ := ho5.shape; replace ho5 : Hid _ := ho5.sls; obtain ⟨n5, hn5⟩ : ∃ n5, n5 = (L1 ++ [s] ++ L2).length := ⟨_, rfl⟩; rw [← hn5] at hv5; clear hn5; subst hv5; replace hB5 : Hid _ := hB5))
          all_goals (
            go_wp2
            go_ret
            exact ⟨a5, n5, c5, L1 ++ [s] ++ L2, rfl, by simpa using hq.out, ho5.out, hB5.out⟩)
    · have hki : ¬ (k : Int) < (n : Int) := by omega
      have hq : Hid (AddQ L s (L.take k ++ s :: L.drop k)) := ⟨t_insert hr.out (by have := hn.out; omega) hlo.out (fun h => absurd h (by have := hn.out; omega)), fun r => t_mem, by simp [List.length_take, List.length_drop]; omega⟩
      clear hlo
      go_wp2
      replace hv : Txs w (.slice a n c) L := hv.out
      generalize Value.slice a n c = u5 at hv ⊢
      obtain ⟨v1, hto, hl1⟩ := txs_to hv k (by have := hn.out; omega)
      obtain ⟨v2, hfr, hl2⟩ := txs_from hv k (by have := hn.out; omega)
      have hlen1 : (L.take k).length ≤ 100000 := by rw [List.length_take]; omega
      have hlen2 : (L.drop k).length ≤ 100000 := by rw [List.length_drop]; have := hn.out; omega
      generalize L.take k = L1 at *
      generalize L.drop k = L2 at *
      have hone : ∀ W : World, Txs (W.alloc (.cells #[.string s] 9)) (.slice (some ⟨W.heap.size, 0, none⟩) 1 1) [s] := fun W => sls_one W _ _ _ rfl
      have bA : Below w.heap.size w (w.alloc (.cells #[] 9)).drew := ((Below.refl _ _).alloc (Nat.le_refl _) _).drew
      have bB : Below w.heap.size w ((w.alloc (.cells #[] 9)).alloc (.cells #[.string s] 9)).drew := (((Below.refl _ _).alloc (Nat.le_refl _) _).alloc (by simp) _).drew
      have bC : Below w.heap.size w ((w.alloc (.cells #[.string s] 9)).alloc (.cells #[] 9)).drew := (((Below.refl _ _).alloc (Nat.le_refl _) _).alloc (by simp) _).drew
      have oA : OwnT (w.alloc (.cells #[] 9)).drew w.heap.size (.slice (some ⟨w.heap.size, 0, none⟩) 0 0) [] := own_empty (T := TS) w w.heap.size (Nat.le_refl _)
      have oB : OwnT ((w.alloc (.cells #[] 9)).alloc (.cells #[.string s] 9)).drew w.heap.size (.slice (some ⟨w.heap.size, 0, none⟩) 0 0) [] := OwnS.alloc (own_empty (T := TS) w w.heap.size (Nat.le_refl _)) _
      have oC : OwnT ((w.alloc (.cells #[.string s] 9)).alloc (.cells #[] 9)).drew w.heap.size (.slice (some ⟨w.heap.size + 1, 0, none⟩) 0 0) [] := by
        have := own_empty (T := TS) (w.alloc (.cells #[.string s] 9)) w.heap.size (by simp)
        rw [World.size_alloc] at this
        exact this
      have xB : Txs ((w.alloc (.cells #[] 9)).alloc (.cells #[.string s] 9)).drew (.slice (some ⟨w.heap.size + 1, 0, none⟩) 1 1) [s] := by
        have := hone (w.alloc (.cells #[] 9))
        rw [World.size_alloc] at this
        exact this
      have xC : Txs ((w.alloc (.cells #[.string s] 9)).alloc (.cells #[] 9)).drew (.slice (some ⟨w.heap.size, 0, none⟩) 1 1) [s] := (hone w).alloc _
      go_region_law (first
        | (refine stepN TS rfl (.tmp 33) (.tmp 36) rfl w.heap.size (.slice (some ⟨w.heap.size, 0, none⟩) 0 0) v1 [] L1 rfl rfl oA (hl1.grow bA) bA.size (by simp; omega) ?_; intro v3 w3 ho3 hg3; rw [List.nil_append] at ho3; have hB3 : Below w.heap.size w w3 := bA.grown hg3 bA.size (by intro q hq; cases hq; exact Nat.le_refl _))
        | (refine stepN TS rfl (.tmp 33) (.tmp 36) rfl w.heap.size (.slice (some ⟨w.heap.size, 0, none⟩) 0 0) v1 [] L1 rfl rfl oB (hl1.grow bB) bB.size (by simp; omega) ?_; intro v3 w3 ho3 hg3; rw [List.nil_append] at ho3; have hB3 : Below w.heap.size w w3 := bB.grown hg3 bB.size (by intro q hq; cases hq; exact Nat.le_refl _); have hx3 := xB.kept hg3 (by simp [Value.ownBlock]))
        | (refine stepN TS rfl (.tmp 33) (.tmp 36) rfl w.heap.size (.slice (some ⟨w.heap.size + 1, 0, none⟩) 0 0) v1 [] L1 rfl rfl oC (hl1.grow bC) bC.size (by simp; omega) ?_; intro v3 w3 ho3 hg3; rw [List.nil_append] at ho3; have hB3 : Below w.heap.size w w3 := bC.grown hg3 bC.size (by intro q hq; cases hq; exact Nat.le_succ _); have hx3 := xC.kept hg3 (by simp [Value.ownBlock]))
        | (refine stepN TS rfl (.tmp 37) (.tmp 39) rfl w.heap.size v3 (.slice (some ⟨w3.heap.size, 0, none⟩) 1 1) L1 [s] rfl rfl (ho3.alloc _) (hone w3) (hB3.alloc hB3.size _).size (by simp; omega) ?_; intro v4 w4 ho4 hg4; have hB4 : Below w.heap.size w w4 := (hB3.alloc hB3.size _).grown hg4 (hB3.alloc hB3.size _).size (fun q hq => (ho3.lt q hq).1))
        | (refine stepN TS rfl (.tmp 37) (.tmp 39) rfl w.heap.size v3 _ L1 [s] rfl rfl ho3 hx3 hB3.size (by simp; omega) ?_; intro v4 w4 ho4 hg4; have hB4 : Below w.heap.size w w4 := hB3.grown hg4 hB3.size (fun q hq => (ho3.lt q hq).1))
        | (refine stepN TS rfl (.tmp 40) (.tmp 43) rfl w.heap.size v4 v2 _ L2 rfl rfl ho4 (hl2.grow hB4) hB4.size (by simp; omega) ?_; intro v5 w5 ho5 hg5; have hB5 : Below w.heap.size w w5 := hB4.grown hg5 hB4.size (fun q hq => (ho4.lt q hq).1); obtain ⟨a5, c5, hv5⟩ := ho5.shape; replace ho5 : Hid _ := ho5.sls; obtain ⟨n5, hn5⟩ : ∃ n5, n5 = (L1 ++ [s] ++ L2).length := ⟨_, rfl⟩; rw [← hn5] at hv5; clear hn5; subst hv5; replace hB5 : Hid _ := hB5))
      all_goals (
        go_wp2
        go_ret
        exact ⟨a5, n5, c5, L1 ++ [s] ++ L2, rfl, by simpa using hq.out, ho5.out, hB5.out⟩)
end Go.Proofs.YtaffplmfnincfaaGreatDoor
/- DagChecks: the document's Refs. -/
namespace Go.Proofs.YtaffplmfnincfaaGreatDoor
set_option linter.unusedVariables false
open Go.RowKit
/-- A rising list of what a list holds. -/
def TQ (O S : List ByteArray) : Prop := TRise O ∧ (∀ r, r ∈ O ↔ r ∈ S) ∧ O.length ≤ S.length
theorem TQ.nil : TQ [] [] := ⟨List.Pairwise.nil, fun r => Iff.rfl, Nat.le_refl _⟩
theorem TQ.add {O S out : List ByteArray} {s : ByteArray} (h : TQ O S) (g : AddQ O s out) : TQ out (S ++ [s]) := by
  refine ⟨g.1, fun r => ?_, ?_⟩
  · rw [g.2.1, h.2.1, List.mem_append, List.mem_singleton]
  · have := g.2.2
    have := h.2.2
    rw [List.length_append, List.length_singleton]
    omega
theorem TQ.put {O S L R : List ByteArray} (h : TQ O (S ++ L)) (g : TQ L R) : TQ O (S ++ R) := by
  refine ⟨h.1, fun r => ?_, ?_⟩
  · rw [h.2.1, List.mem_append, List.mem_append, g.2.1]
  · have h1 := h.2.2
    have h2 := g.2.2
    rw [List.length_append] at h1 ⊢
    omega
theorem refsK_le (l : List Ex) (j : Nat) : (refsK (l.take j)).length ≤ (refsK l).length := by
  induction l generalizing j with
  | nil => simp
  | cons t r ih =>
    cases j with
    | zero => simp [refsK]
    | succ j => rw [List.take_succ_cons, refsK, refsK, List.length_append, List.length_append]; have := ih j; omega
/-- What the document's Refs does. -/
def RdC (x : Ex) : Prop := ∀ (w : World) (B : Nat) (k : Int) (n : ByteArray) (vk vn : Int) (a : Option Addr) (m c : Nat), ExV w (fun q => q < B) x (.agg #[.int .i64 k, .string n, .int .i64 vk, .int .i64 vn, .slice a m c]) → B ≤ w.heap.size → (refsE x).length ≤ 10000 →
  Calls Tryz.prog 31 #[.agg #[.int .i64 k, .string n, .int .i64 vk, .int .i64 vn, .slice a m c]] w fun e w' => ∃ a' n' c' O, e = .returned (.slice a' n' c') ∧ Hid (TQ O (refsE x) ∧ Txs w' (.slice a' n' c') O ∧ Below w.heap.size w w')
set_option maxRecDepth 100000 in
set_option maxHeartbeats 16000000 in
theorem rrefs_step {x : Ex} (hk : ∀ i, i < x.kids.length → RdC (x.kids.getD i ex0)) (hkl : x.kids.length ≤ 1000) : RdC x := by
  intro w B k n vk vn a m c hv hB hlen
  obtain ⟨p1, p2, p3, p4, p5⟩ := hv.parts
  have hml : m ≤ 1000 := by rw [p5]; exact hkl
  obtain ⟨S0, hS0⟩ : ∃ S0 : List ByteArray, Hid (S0 = if k = 2 then [n] else []) := ⟨_, rfl⟩
  have hfin : Hid (refsE x = S0 ++ refsK (x.kids.take m)) := by
    show _ = _
    rw [hS0.out, p5, refsK_all, p1, p2]
    obtain ⟨kk, nn, vv, kd⟩ := x
    rw [refsE, Ex.kind, Ex.name, Ex.kids]
  have hlen1 : S0.length + (refsK x.kids).length ≤ 10000 := by
    have := congrArg List.length hfin.out
    rw [p5, refsK_all, List.length_append] at this
    omega
  have hlk : Hid (∀ i, i < m → (S0 ++ refsK (x.kids.take i)).length + (refsE (x.kids.getD i ex0)).length ≤ 10000) := fun i hi => by
    have h1 := refsK_le x.kids (i + 1)
    rw [refsK_take x.kids i (by omega), List.length_append] at h1
    rw [List.length_append]
    omega
  rw [hfin.out]
  have hb0 : Hid (Below w.heap.size w (w.alloc (.cells #[.int .i64 k, .string n, .int .i64 vk, .int .i64 vn, .slice a m c] 62))) := bW0 w _
  have hbx : Hid (∀ W, Below (w.alloc (.cells #[.int .i64 k, .string n, .int .i64 vk, .int .i64 vn, .slice a m c] 62)).heap.size (w.alloc (.cells #[.int .i64 k, .string n, .int .i64 vk, .int .i64 vn, .slice a m c] 62)) W → W.cell? ⟨w.heap.size, 4, none⟩ = some (.slice a m c)) := fun W h => by
    exact ((bxNew w 62 (.int .i64 k) (.string n) (.int .i64 vk) (.int .i64 vn) (.slice a m c)).grow h).cells.2.2.2.2
  have hkid : Hid (∀ i, i < m → ∀ W, Below (w.alloc (.cells #[.int .i64 k, .string n, .int .i64 vk, .int .i64 vn, .slice a m c] 62)).heap.size (w.alloc (.cells #[.int .i64 k, .string n, .int .i64 vk, .int .i64 vn, .slice a m c] 62)) W → ∃ b o k1 n1 vk1 vn1 a1 m1 c1, a = some ⟨b, o, none⟩ ∧ At5 W b (o + i * 5) k1 n1 vk1 vn1 a1 m1 c1 ∧ Calls Tryz.prog 31 #[.agg #[.int .i64 k1, .string n1, .int .i64 vk1, .int .i64 vn1, .slice a1 m1 c1]] W fun e w' => ∃ a' n' c' O, e = .returned (.slice a' n' c') ∧ Hid (TQ O (refsE (x.kids.getD i ex0)) ∧ Txs w' (.slice a' n' c') O ∧ Below W.heap.size W w')) := fun i hi W hb => by
    obtain ⟨b, o, h1, hb1, k1, n1, vk1, vn1, a1, m1, c1, h2, h3⟩ := hv.kid i hi
    have hi' : i < x.kids.length := by rw [← p5]; exact hi
    have hbW : Below w.heap.size w W := hb0.out.trans (hb.mono hb0.out.size)
    have hbB : Below B w W := hbW.mono hB
    refine ⟨b, o, k1, n1, vk1, vn1, a1, m1, c1, h1, h2.low hbB hb1, ?_⟩
    exact hk i hi' W B k1 n1 vk1 vn1 a1 m1 c1 (h3.low hbB) (Nat.le_trans hB hbW.size) (by have := hlk.out i hi; omega)
  have hrr : Hid (refsK (x.kids.take 0) = []) := by show _ = _; simp [refsK]
  have hKl : Hid (m = x.kids.length) := p5
  by_cases h2 : k = 2
  · have hk2 : (k == 2) = true := by rw [beq_iff_eq]; exact h2
    have hS2 : Hid (S0 = [n]) := by show S0 = _; rw [hS0.out, if_pos h2]
    have hadd := add39 none 0 0 [] n (w.alloc (.cells #[.int .i64 k, .string n, .int .i64 vk, .int .i64 vn, .slice a m c] 62)) (OwnS.nil (T := TS) _ 0).sls (by omega) List.Pairwise.nil
    clear hS0 hv hk hkl hlen hfin hlen1 p1 p2 p3 p4 p5 h2
    generalize x.kids = KK at *
    go_enter Tryz.func31, Tryz.ntmps31
    go_wp2_with (first
      | (go_at_call 39; refine hadd.mono ?_; clear hadd; rintro e w3 ⟨a3, n3, c3, O3, rfl, h3⟩))
    generalize (w.alloc (.cells #[.int .i64 k, .string n, .int .i64 vk, .int .i64 vn, .slice a m c] 62)) = w1 at *
    have hb3 : Hid (Below w1.heap.size w1 w3) := h3.out.2.2
    have hO3 : Hid (TQ O3 (S0 ++ refsK (KK.take 0)) ∧ Txs w3 (.slice a3 n3 c3) O3) := by
      refine ⟨?_, h3.out.2.1⟩
      rw [hrr.out, List.append_nil, hS2.out]
      exact TQ.nil.add h3.out.1
    go_loopw [3, 4] (fun v i wr => ∃ (kk : Nat) (aO : Option Addr) (nO cO : Nat) (O : List ByteArray), kk ≤ m ∧ i = .int .i64 kk ∧ v = .slice aO nO cO ∧ Hid (TQ O (S0 ++ refsK (KK.take kk)) ∧ Txs wr v O) ∧ Hid (Below w1.heap.size w1 wr)) (fun _ i _ => m - (intOf i).toNat)
    case atStart => exact ⟨0, a3, n3, c3, O3, Nat.zero_le _, rfl, rfl, hO3, hb3⟩
    case round =>
      obtain ⟨kk, aO, nO, cO, O, hkk, rfl, rfl, hO, hbr⟩ := hrel
      have x4 := hbx.out wr hbr.out
      by_cases hlt : kk < m
      · have hki : (kk : Int) < (m : Int) := by omega
        obtain ⟨b, o, k1, n1, vk1, vn1, a1, m1, c1, rfl, hA, hC⟩ := hkid.out kk hlt wr hbr.out
        obtain ⟨e0, e1, e2, e3, e4⟩ := hA
        have hll := hlk.out kk hlt
        have htk : Hid (∀ O L, TQ L (refsE (KK.getD kk ex0)) → TQ O (S0 ++ refsK (KK.take kk) ++ L) → TQ O (S0 ++ refsK (KK.take (kk + 1)))) := fun O L h1 h2 => by
          rw [refsK_take KK kk (by have := hKl.out; omega), ← List.append_assoc]
          exact h2.put h1
        generalize S0 ++ refsK (KK.take kk) = SS at *
        generalize refsE (KK.getD kk ex0) = RK at *
        go_wp2_with (first
          | (go_at_call 31; refine hC.mono ?_; clear hC; rintro e w4 ⟨a4, n4, c4, L, rfl, h4⟩))
        have hb4 : Hid (Below w1.heap.size w1 w4) := hbr.out.trans (h4.out.2.2.mono hbr.out.size)
        have hn4 : Hid (n4 = L.length) := h4.out.2.1.len
        have hLl : L.length ≤ RK.length := h4.out.1.2.2
        have hOl : O.length ≤ SS.length := hO.out.1.2.2
        have hO4 : Hid (Txs w4 (.slice aO nO cO) O) := hO.out.2.grow h4.out.2.2
        have hT4 : Hid (Txs w4 (.slice a4 n4 c4) L) := h4.out.2.1
        have hQ4 : Hid (TQ L RK) := h4.out.1
        have hQO : Hid (TQ O SS) := hO.out.1
        have hn4l : n4 ≤ 10000 := by have := hn4.out; omega
        clear e0 e1 e2 e3 e4 x4 h4 hO hkid
        go_loopw [3, 6] (fun v i wr => ∃ (j : Nat) (aP : Option Addr) (nP cP : Nat) (P : List ByteArray), j ≤ n4 ∧ i = .int .i64 j ∧ v = .slice aP nP cP ∧ Hid (TQ P (SS ++ L.take j) ∧ Txs wr v P) ∧ Hid (Below w4.heap.size w4 wr)) (fun _ i _ => n4 - (intOf i).toNat)
        case atStart => exact ⟨0, aO, nO, cO, O, Nat.zero_le _, rfl, rfl, ⟨by rw [List.take_zero, List.append_nil]; exact hQO.out, hO4.out⟩, Below.refl _ _⟩
        case round =>
          obtain ⟨j, aP, nP, cP, P, hj, rfl, rfl, hP, hbj⟩ := hrel
          by_cases hjl : j < n4
          · have hji : (j : Int) < (n4 : Int) := by omega
            have hjL : j < L.length := by have := hn4.out; omega
            obtain ⟨b2, o2, rfl, y0⟩ := tx_at (hT4.out.grow hbj.out) j hjL
            have hPl : nP ≤ 100000 := by
              have h1 := hP.out.2.len
              have h2 := hP.out.1.2.2
              rw [List.length_append, List.length_take] at h2
              omega
            have hadd := add39 aP nP cP P (L.getD j ⟨#[]⟩) wr hP.out.2 hPl hP.out.1.1
            have hnx : Hid (∀ out, AddQ P (L.getD j ⟨#[]⟩) out → TQ out (SS ++ L.take (j + 1))) := fun out h => by
              rw [ltake_getD L ⟨#[]⟩ j hjL, ← List.append_assoc]
              exact hP.out.1.add h
            generalize L.getD j ⟨#[]⟩ = r at *
            go_wp2_with (first
              | (go_at_call 39; refine hadd.mono ?_; clear hadd; rintro e w5 ⟨a5, n5, c5, out, rfl, h5⟩))
            have hP5 : Hid (TQ out (SS ++ L.take (j + 1)) ∧ Txs w5 (.slice a5 n5 c5) out) := ⟨hnx.out out h5.out.1, h5.out.2.1⟩
            have hb5 : Hid (Below w4.heap.size w4 w5) := hbj.out.trans (h5.out.2.2.mono hbj.out.size)
            go_roundw
            case rel => exact ⟨j + 1, a5, n5, c5, out, by omega, by go_num, rfl, hP5, hb5⟩
            case measure => simp [intOf]; omega
          · have hji : ¬ (j : Int) < (n4 : Int) := by omega
            have hPe : Hid (TQ P (S0 ++ refsK (KK.take (kk + 1))) ∧ Txs wr (.slice aP nP cP) P) := by
              refine ⟨htk.out P L hQ4.out ?_, hP.out.2⟩
              have h1 := hP.out.1
              rw [List.take_of_length_le (by have := hn4.out; omega)] at h1
              exact h1
            have hbe : Hid (Below w1.heap.size w1 wr) := hb4.out.trans (hbj.out.mono hb4.out.size)
            go_wp2
            go_roundw
            case rel => exact ⟨kk + 1, aP, nP, cP, P, by omega, by go_num, rfl, hPe, hbe⟩
            case measure => simp [intOf]; omega
      · have hkm : Hid (kk = m) := by show kk = m; omega
        have hki : ¬ (kk : Int) < (m : Int) := by omega
        go_wp2
        go_ret
        rw [hkm.out] at hO
        exact ⟨aO, nO, cO, rfl, O, hO.out.1, hO.out.2, hb0.out.trans (hbr.out.mono hb0.out.size)⟩
  · have hk2 : (k == 2) = false := by rw [beq_eq_false_iff_ne]; exact h2
    have hS2 : Hid (S0 = []) := by show S0 = _; rw [hS0.out, if_neg h2]
    clear hS0 hv hk hkl hlen hfin hlen1 p1 p2 p3 p4 p5 h2
    generalize x.kids = KK at *
    have hO3 : Hid (TQ [] (S0 ++ refsK (KK.take 0)) ∧ Txs (w.alloc (.cells #[.int .i64 k, .string n, .int .i64 vk, .int .i64 vn, .slice a m c] 62)) (.slice none 0 0) []) := by
      refine ⟨?_, (OwnS.nil (T := TS) _ 0).sls⟩
      rw [hrr.out, List.append_nil, hS2.out]
      exact TQ.nil
    go_enter Tryz.func31, Tryz.ntmps31
    go_wp2
    generalize (w.alloc (.cells #[.int .i64 k, .string n, .int .i64 vk, .int .i64 vn, .slice a m c] 62)) = w1 at *
    go_loopw [3, 4] (fun v i wr => ∃ (kk : Nat) (aO : Option Addr) (nO cO : Nat) (O : List ByteArray), kk ≤ m ∧ i = .int .i64 kk ∧ v = .slice aO nO cO ∧ Hid (TQ O (S0 ++ refsK (KK.take kk)) ∧ Txs wr v O) ∧ Hid (Below w1.heap.size w1 wr)) (fun _ i _ => m - (intOf i).toNat)
    case atStart => exact ⟨0, none, 0, 0, [], Nat.zero_le _, rfl, rfl, hO3, Below.refl _ _⟩
    case round =>
      obtain ⟨kk, aO, nO, cO, O, hkk, rfl, rfl, hO, hbr⟩ := hrel
      have x4 := hbx.out wr hbr.out
      by_cases hlt : kk < m
      · have hki : (kk : Int) < (m : Int) := by omega
        obtain ⟨b, o, k1, n1, vk1, vn1, a1, m1, c1, rfl, hA, hC⟩ := hkid.out kk hlt wr hbr.out
        obtain ⟨e0, e1, e2, e3, e4⟩ := hA
        have hll := hlk.out kk hlt
        have htk : Hid (∀ O L, TQ L (refsE (KK.getD kk ex0)) → TQ O (S0 ++ refsK (KK.take kk) ++ L) → TQ O (S0 ++ refsK (KK.take (kk + 1)))) := fun O L h1 h2 => by
          rw [refsK_take KK kk (by have := hKl.out; omega), ← List.append_assoc]
          exact h2.put h1
        generalize S0 ++ refsK (KK.take kk) = SS at *
        generalize refsE (KK.getD kk ex0) = RK at *
        go_wp2_with (first
          | (go_at_call 31; refine hC.mono ?_; clear hC; rintro e w4 ⟨a4, n4, c4, L, rfl, h4⟩))
        have hb4 : Hid (Below w1.heap.size w1 w4) := hbr.out.trans (h4.out.2.2.mono hbr.out.size)
        have hn4 : Hid (n4 = L.length) := h4.out.2.1.len
        have hLl : L.length ≤ RK.length := h4.out.1.2.2
        have hOl : O.length ≤ SS.length := hO.out.1.2.2
        have hO4 : Hid (Txs w4 (.slice aO nO cO) O) := hO.out.2.grow h4.out.2.2
        have hT4 : Hid (Txs w4 (.slice a4 n4 c4) L) := h4.out.2.1
        have hQ4 : Hid (TQ L RK) := h4.out.1
        have hQO : Hid (TQ O SS) := hO.out.1
        have hn4l : n4 ≤ 10000 := by have := hn4.out; omega
        clear e0 e1 e2 e3 e4 x4 h4 hO hkid
        go_loopw [3, 6] (fun v i wr => ∃ (j : Nat) (aP : Option Addr) (nP cP : Nat) (P : List ByteArray), j ≤ n4 ∧ i = .int .i64 j ∧ v = .slice aP nP cP ∧ Hid (TQ P (SS ++ L.take j) ∧ Txs wr v P) ∧ Hid (Below w4.heap.size w4 wr)) (fun _ i _ => n4 - (intOf i).toNat)
        case atStart => exact ⟨0, aO, nO, cO, O, Nat.zero_le _, rfl, rfl, ⟨by rw [List.take_zero, List.append_nil]; exact hQO.out, hO4.out⟩, Below.refl _ _⟩
        case round =>
          obtain ⟨j, aP, nP, cP, P, hj, rfl, rfl, hP, hbj⟩ := hrel
          by_cases hjl : j < n4
          · have hji : (j : Int) < (n4 : Int) := by omega
            have hjL : j < L.length := by have := hn4.out; omega
            obtain ⟨b2, o2, rfl, y0⟩ := tx_at (hT4.out.grow hbj.out) j hjL
            have hPl : nP ≤ 100000 := by
              have h1 := hP.out.2.len
              have h2 := hP.out.1.2.2
              rw [List.length_append, List.length_take] at h2
              omega
            have hadd := add39 aP nP cP P (L.getD j ⟨#[]⟩) wr hP.out.2 hPl hP.out.1.1
            have hnx : Hid (∀ out, AddQ P (L.getD j ⟨#[]⟩) out → TQ out (SS ++ L.take (j + 1))) := fun out h => by
              rw [ltake_getD L ⟨#[]⟩ j hjL, ← List.append_assoc]
              exact hP.out.1.add h
            generalize L.getD j ⟨#[]⟩ = r at *
            go_wp2_with (first
              | (go_at_call 39; refine hadd.mono ?_; clear hadd; rintro e w5 ⟨a5, n5, c5, out, rfl, h5⟩))
            have hP5 : Hid (TQ out (SS ++ L.take (j + 1)) ∧ Txs w5 (.slice a5 n5 c5) out) := ⟨hnx.out out h5.out.1, h5.out.2.1⟩
            have hb5 : Hid (Below w4.heap.size w4 w5) := hbj.out.trans (h5.out.2.2.mono hbj.out.size)
            go_roundw
            case rel => exact ⟨j + 1, a5, n5, c5, out, by omega, by go_num, rfl, hP5, hb5⟩
            case measure => simp [intOf]; omega
          · have hji : ¬ (j : Int) < (n4 : Int) := by omega
            have hPe : Hid (TQ P (S0 ++ refsK (KK.take (kk + 1))) ∧ Txs wr (.slice aP nP cP) P) := by
              refine ⟨htk.out P L hQ4.out ?_, hP.out.2⟩
              have h1 := hP.out.1
              rw [List.take_of_length_le (by have := hn4.out; omega)] at h1
              exact h1
            have hbe : Hid (Below w1.heap.size w1 wr) := hb4.out.trans (hbj.out.mono hb4.out.size)
            go_wp2
            go_roundw
            case rel => exact ⟨kk + 1, aP, nP, cP, P, by omega, by go_num, rfl, hPe, hbe⟩
            case measure => simp [intOf]; omega
      · have hkm : Hid (kk = m) := by show kk = m; omega
        have hki : ¬ (kk : Int) < (m : Int) := by omega
        go_wp2
        go_ret
        rw [hkm.out] at hO
        exact ⟨aO, nO, cO, rfl, O, hO.out.1, hO.out.2, hb0.out.trans (hbr.out.mono hb0.out.size)⟩
end Go.Proofs.YtaffplmfnincfaaGreatDoor
/- DagChecks: the document's Refs tells what the program's tells. -/
namespace Go.Proofs.YtaffplmfnincfaaGreatDoor
set_option linter.unusedVariables false
open Go.RowKit
theorem rrefs_wf {x : Ex} (h : WF parC x) : RdC x := by
  induction h with
  | n _ => exact rrefs_step (fun i hi => absurd hi (by simp [exN, Ex.kids])) (by simp [exN, Ex.kids])
  | r _ => exact rrefs_step (fun i hi => absurd hi (by simp [exR, Ex.kids])) (by simp [exR, Ex.kids])
  | @t n x _ _ ih =>
    refine rrefs_step (fun i hi => ?_) (by simp [exC, Ex.kids])
    obtain rfl : i = 0 := by simp [exC, Ex.kids] at hi; exact hi
    exact ih
  | @f n x _ _ ih =>
    refine rrefs_step (fun i hi => ?_) (by simp [exC, Ex.kids])
    obtain rfl : i = 0 := by simp [exC, Ex.kids] at hi; exact hi
    exact ih
  | @o n x y l _ _ _ _ ih1 ih2 =>
    refine rrefs_step (fun i hi => ?_) (by simp [exC, Ex.kids])
    have : i = 0 ∨ i = 1 := by simp [exC, Ex.kids] at hi; omega
    rcases this with rfl | rfl
    · exact ih1
    · exact ih2
theorem compact_le {zs : List (List UInt8)} (h : zs.Pairwise (· ≤ ·)) : (Lib.compact zs).Pairwise (· ≤ ·) := by
  have hg : ∀ k (hk : k < zs.length), zs.toArray[k]! = zs[k] := fun k hk => by simp [hk]
  unfold Lib.compact Lib.compactUpTo
  rw [List.pairwise_map]
  have hr : ((List.range zs.length).filter (Lib.keeps zs.toArray)).Pairwise (· < ·) := List.Pairwise.filter _ (List.pairwise_lt_range)
  refine hr.imp_of_mem ?_
  intro i j hi hj hij
  have hi1 : i < zs.length := by have := (List.mem_filter.1 hi).1; simpa using this
  have hj1 : j < zs.length := by have := (List.mem_filter.1 hj).1; simpa using this
  rw [hg i hi1, hg j hj1]
  exact List.pairwise_iff_getElem.1 h i j hi1 hj1 hij
theorem lt_of_cmp : ∀ x y : List UInt8, cmpL (x.map fun b => (b.toNat : Int)) (y.map fun b => (b.toNat : Int)) = -1 → x < y
  | [], [], h => by simp [cmpL] at h
  | [], _ :: _, _ => List.nil_lt_cons _ _
  | _ :: _, [], h => by simp [cmpL] at h
  | a :: x, b :: y, h => by
    rw [List.map_cons, List.map_cons, cmpL] at h
    by_cases h1 : (a.toNat : Int) < (b.toNat : Int)
    · exact List.cons_lt_cons_iff.2 (.inl (UInt8.lt_iff_toNat_lt.2 (by omega)))
    · rw [if_neg h1] at h
      by_cases h2 : (b.toNat : Int) < (a.toNat : Int)
      · rw [if_pos h2] at h; omega
      · rw [if_neg h2] at h
        exact List.cons_lt_cons_iff.2 (.inr ⟨UInt8.toNat_inj.1 (by omega), lt_of_cmp x y h⟩)
theorem refsR_rise (x : Ex) : TRise (refsR x) := by
  have h1 : (Lib.compact (lsB (srtS (refsE x)))).Pairwise (· ≤ ·) := by
    apply compact_le
    unfold srtS
    rw [lsB_blS]
    exact srt_sorted _
  have h2 : (refsR x).Pairwise fun a b => a.data.toList ≤ b.data.toList := by
    unfold refsR cmpS' blS
    rw [List.pairwise_map]
    refine h1.imp fun h => ?_
    simpa [bB] using h
  refine (h2.and (refsR_nodup x)).imp fun {a b} ⟨h, hne⟩ => ?_
  rcases bltS_total hne with g | g
  · exact g
  · exact absurd (lt_of_cmp _ _ g) (List.not_lt.2 h)
theorem TRise.nodup {O : List ByteArray} (h : TRise O) : O.Nodup := List.Pairwise.imp (fun g => g.ne) h
theorem trise_eq {O P : List ByteArray} (h : TRise O) (g : TRise P) (e : ∀ r, r ∈ O ↔ r ∈ P) : O = P := by
  have hp : O.Perm P := nodup_perm h.nodup g.nodup e
  have := srise_eq (l := O.map fun r => (r, [])) (m := P.map fun r => (r, [])) (List.pairwise_map.2 h) (List.pairwise_map.2 g) (hp.map _)
  have h2 := congrArg (List.map (·.1)) this
  simpa [List.map_map, Function.comp_def] using h2
theorem tq_refs {x : Ex} {O : List ByteArray} (h : TQ O (refsE x)) : O = refsR x :=
  trise_eq h.1 (refsR_rise x) fun r => (h.2.1 r).trans ⟨refsR_mem, refsR_sub⟩
/-- The document's Refs. -/
theorem rrefs31 (w : World) {x : Ex} (hW : WF parC x) (hl : (refsE x).length ≤ 10000) (k : Int) (n : ByteArray) (vk vn : Int) (a : Option Addr) (m c : Nat) (hv : ExV w (fun q => q < w.heap.size) x (.agg #[.int .i64 k, .string n, .int .i64 vk, .int .i64 vn, .slice a m c])) : Calls Tryz.prog 31 #[.agg #[.int .i64 k, .string n, .int .i64 vk, .int .i64 vn, .slice a m c]] w fun e w' => ∃ a' n' c', e = .returned (.slice a' n' c') ∧ Hid (Txs w' (.slice a' n' c') (refsR x) ∧ Below w.heap.size w w') := by
  refine (rrefs_wf hW w w.heap.size k n vk vn a m c hv (Nat.le_refl _) hl).mono ?_
  rintro e w' ⟨a', n', c', O, rfl, h⟩
  have := tq_refs h.out.1
  subst this
  exact ⟨a', n', c', rfl, h.out.2⟩
end Go.Proofs.YtaffplmfnincfaaGreatDoor
/- DagChecks: the document's Inputs, if its Parse reads what the program's reads. -/
namespace Go.Proofs.YtaffplmfnincfaaGreatDoor
set_option linter.unusedVariables false
open Go.RowKit
/-- The document's Parse reads a text's tree, where there is one. -/
def TPar (s : ByteArray) : Prop := ∀ w, G w → SignsAt w → Calls Tryz.prog 30 #[.string s] w fun e w' => ∃ k n x y a m c er p, e = .returned (.tuple #[.agg #[.int .i64 k, .string n, .int .i64 x, .int .i64 y, .slice a m c], .int .i64 er, .int .i64 p]) ∧ Hid (Below w.heap.size w w' ∧ ((er ≠ 0 ∧ ¬ (s.size ≤ 1024 ∧ ∃ X, Whole (par := parC) s X)) ∨ (er = 0 ∧ s.size ≤ 1024 ∧ ∃ X, Whole (par := parC) s X ∧ ExV w' (fun q => q < w'.heap.size) X (.agg #[.int .i64 k, .string n, .int .i64 x, .int .i64 y, .slice a m c]))))
set_option maxRecDepth 100000 in
set_option maxHeartbeats 8000000 in
/-- The document's Inputs. -/
theorem rinputs13 (x : Nd) (w : World) (hG : G w) (hS : SignsAt w) (hs : TPar x.text) : Calls Tryz.prog 13 #[ndV x] w fun e w' => ∃ a n c, e = .returned (.slice a n c) ∧ Hid (Txs w' (.slice a n c) (inpN x) ∧ Below w.heap.size w w') := by
  obtain ⟨ref, kind, source, input, how, strict, low, high, text⟩ := x
  have hb0 := bW0 w (.cells #[.string ref, .int .i64 kind, .string source, .string input, .string how, .bool strict, .int .i64 low.kind, .int .i64 low.n, .int .i64 high.kind, .int .i64 high.n, .string text] 36)
  by_cases h2 : kind = 2
  · subst h2
    have hI : Hid (inpN ⟨ref, 2, source, input, how, strict, low, high, text⟩ = [input]) := inpN_in (.inl rfl)
    generalize inpN ⟨ref, 2, source, input, how, strict, low, high, text⟩ = I at *
    go_enter Tryz.func13, Tryz.ntmps13
    go_wp2
    go_ret
    exact ⟨_, _, _, rfl, by rw [hI.out]; exact one_txs _ _ _, hb0.trans ((bW0 _ _).mono hb0.size)⟩
  by_cases h4 : kind = 4
  · subst h4
    have hI : Hid (inpN ⟨ref, 4, source, input, how, strict, low, high, text⟩ = [input]) := inpN_in (.inr rfl)
    generalize inpN ⟨ref, 4, source, input, how, strict, low, high, text⟩ = I at *
    clear h2
    go_enter Tryz.func13, Tryz.ntmps13
    go_wp2
    go_ret
    exact ⟨_, _, _, rfl, by rw [hI.out]; exact one_txs _ _ _, hb0.trans ((bW0 _ _).mono hb0.size)⟩
  by_cases h3 : kind = 3
  · subst h3
    have hI : Hid (inpN ⟨ref, 3, source, input, how, strict, low, high, text⟩ = inpM text) := inpN_math rfl
    generalize inpN ⟨ref, 3, source, input, how, strict, low, high, text⟩ = I at *
    clear h2 h4
    have hp := hs _ (hG.grow hb0) (hS.grow hb0)
    have hrf : Hid (∀ (w1 : World) (k : Int) (n : ByteArray) (x y : Int) (a : Option Addr) (m c : Nat) (X : Ex) (P : Nat → Prop), text.size ≤ 1024 → Whole (par := parC) text X → ExV w1 P X (.agg #[.int .i64 k, .string n, .int .i64 x, .int .i64 y, .slice a m c]) → Below w.heap.size w w1 → Calls Tryz.prog 31 #[.agg #[.int .i64 k, .string n, .int .i64 x, .int .i64 y, .slice a m c]] (w1.alloc (.cells #[.int .i64 k, .string n, .int .i64 x, .int .i64 y, .slice a m c] 62)) fun e w' => ∃ a n c, e = .returned (.slice a n c) ∧ Hid (Txs w' (.slice a n c) I ∧ Below w.heap.size w w')) := fun w1 k n x y a m c X P ht hX hV hB => by
      obtain ⟨_, _, _, _, _, _, _, hWF⟩ := hX.toks
      have e1 := refs_few hWF
      have e2 := hX.nodes.1
      have hb1 := bW0 w1 (.cells #[.int .i64 k, .string n, .int .i64 x, .int .i64 y, .slice a m c] 62)
      refine (rrefs31 _ hWF (by omega) k n x y a m c (((hV.grow hb1).less).more fun b hb => hb.2)).mono ?_
      rintro e w' ⟨a', n', c', rfl, h⟩
      obtain ⟨g1, g2⟩ := h.out
      have hB1 := hB.trans (hb1.mono hB.size)
      exact ⟨a', n', c', rfl, by rw [hI.out, inpM_ok ht hX]; exact g1, hB1.trans (g2.mono hB1.size)⟩
    have hno : Hid ((¬ (text.size ≤ 1024 ∧ ∃ X, Whole (par := parC) text X)) → I = []) := fun h => hI.out.trans (by unfold inpM; rw [dif_neg h])
    clear hI hG hS hs
    go_enter Tryz.func13, Tryz.ntmps13
    go_wp2_with (first
      | (go_at_call 30; refine hp.mono ?_; clear hp; rintro e w1 ⟨k, n, x, y, a, m, c, er, at', rfl, h1⟩; obtain ⟨hb1, h1⟩ := h1.out; have hB1 := hb0.trans (hb1.mono hb0.size); clear hb1; rcases h1 with ⟨her, hE⟩ | ⟨rfl, ht, X, hX, hV⟩)
      | (go_at_call 31; refine (hrf.out _ _ _ _ _ _ _ _ X _ ht hX hV hB1).mono ?_; rintro e w2 ⟨a2, n2, c2, rfl, h2⟩))
    · go_ret
      exact ⟨_, _, _, rfl, by rw [hno.out hE]; exact sls_nil _, hB1.trans ((bW0 _ _).mono hB1.size)⟩
    · go_ret
      exact ⟨_, _, _, rfl, h2⟩
  · have hI : Hid (inpN ⟨ref, kind, source, input, how, strict, low, high, text⟩ = []) := inpN_no h2 h4 h3
    generalize inpN ⟨ref, kind, source, input, how, strict, low, high, text⟩ = I at *
    clear hG hS hs
    go_enter Tryz.func13, Tryz.ntmps13
    go_wp2
    go_ret
    exact ⟨_, _, _, rfl, by rw [hI.out]; exact sls_nil _, hb0⟩

end Go.Proofs.YtaffplmfnincfaaGreatDoor
/- DagChecks: the document's Order: mathematics. -/
namespace Go.Proofs.YtaffplmfnincfaaGreatDoor
set_option linter.unusedVariables false
open Go.RowKit
/-- May it be told now? -/
def Ready (T : List ByteArray) (x : Nd) : Prop := x.ref ∉ T ∧ ∀ r ∈ inpN x, r ∈ T
theorem rdy_iff {T : List ByteArray} {x : Nd} : rdy T (sqN x) = true ↔ ∀ r ∈ inpN x, r ∈ T := by
  unfold rdy
  rw [List.all_eq_true]
  exact ⟨fun h r hr => inB_iff.1 (h r hr), fun h r hr => inB_iff.2 (h r hr)⟩
/-- What is left, and what will come of it. -/
structure RemI (l : List Nd) (T : List ByteArray) (L : List Sq) (r : Option (List ByteArray)) : Prop where
  rise : SRise L
  mem : ∀ s, s ∈ L ↔ ∃ x ∈ l, s = sqN x ∧ x.ref ∉ T
  len : T.length + L.length = l.length
  ord : ordF L.length L T = r
theorem RemI.start {l : List Nd} {r : Option (List ByteArray)} (h : OrdT l r) : ∃ L, RemI l [] L r := by
  obtain ⟨L, p, hr, e⟩ := h
  refine ⟨L, hr, fun s => ?_, by rw [p.length_eq]; simp, e.symm⟩
  rw [p.mem_iff, List.mem_map]
  constructor
  · rintro ⟨x, hx, rfl⟩
    exact ⟨x, hx, rfl, by simp⟩
  · rintro ⟨x, hx, rfl, _⟩
    exact ⟨x, hx, rfl⟩
theorem RemI.stuck {l : List Nd} {T : List ByteArray} {L : List Sq} {r : Option (List ByteArray)} (h : RemI l T L r) (hl : T.length < l.length) (hn : ∀ x ∈ l, ¬ Ready T x) : r = none := by
  rw [← h.ord]
  refine ordF_stuck (fun e => ?_) fun s hs => ?_
  · have := h.len
    rw [e, List.length_nil] at this
    omega
  · obtain ⟨x, hx, rfl, ht⟩ := (h.mem s).1 hs
    cases e : rdy T (sqN x) with
    | false => rfl
    | true => exact absurd ⟨ht, rdy_iff.1 e⟩ (hn x hx)
theorem RemI.done {l : List Nd} {T : List ByteArray} {L : List Sq} {r : Option (List ByteArray)} (h : RemI l T L r) (hl : ¬ T.length < l.length) : r = some T := by
  have h1 := h.len
  have h2 : L = [] := List.length_eq_zero_iff.1 (by omega)
  rw [← h.ord, h2]
  rfl
theorem RemI.step {l : List Nd} {T : List ByteArray} {L : List Sq} {r : Option (List ByteArray)} (h : RemI l T L r) (hd : (l.map (·.ref)).Nodup) {x : Nd} (hx : x ∈ l) (hr : Ready T x) (hm : ∀ y ∈ l, Ready T y → ¬ bltS y.ref x.ref) : ∃ L', RemI l (T ++ [x.ref]) L' r := by
  have hxL : sqN x ∈ L := (h.mem _).2 ⟨x, hx, rfl, hr.1⟩
  rcases split_find (T := T) (L := L) with h1 | ⟨A, s, B, e, hA, hs⟩
  · have := h1 _ hxL
    rw [rdy_iff.2 hr.2] at this
    cases this
  · have hri := h.rise
    rw [e] at hri
    obtain ⟨g1, g2, g3⟩ := List.pairwise_append.1 hri
    obtain ⟨g4, g5⟩ := List.pairwise_cons.1 g2
    have hsx : s = sqN x := by
      rw [e] at hxL
      rcases List.mem_append.1 hxL with k | k
      · have := hA _ k
        rw [rdy_iff.2 hr.2] at this
        cases this
      · rcases List.mem_cons.1 k with k2 | k2
        · exact k2.symm
        · obtain ⟨y, hy, ey, hyt⟩ := (h.mem s).1 (by rw [e]; simp)
          have k3 : bltS s.1 x.ref := g4 _ k2
          rw [ey] at k3 hs
          exact absurd k3 (hm y hy ⟨hyt, rdy_iff.1 hs⟩)
    subst hsx
    refine ⟨A ++ B, ?_, fun s => ?_, ?_, ?_⟩
    · exact List.pairwise_append.2 ⟨g1, g5, fun a ha b hb => g3 a ha b (List.mem_cons_of_mem _ hb)⟩
    · constructor
      · intro hs2
        have hsL : s ∈ L := by
          rw [e]
          rcases List.mem_append.1 hs2 with k | k
          · exact List.mem_append.2 (.inl k)
          · exact List.mem_append.2 (.inr (List.mem_cons_of_mem _ k))
        obtain ⟨y, hy, rfl, hyt⟩ := (h.mem s).1 hsL
        refine ⟨y, hy, rfl, fun k => ?_⟩
        rcases List.mem_append.1 k with k | k
        · exact hyt k
        · have k2 : y.ref = x.ref := List.mem_singleton.1 k
          rcases List.mem_append.1 hs2 with k | k
          · exact (g3 _ k _ List.mem_cons_self).ne k2
          · exact (g4 _ k).ne k2.symm
      · rintro ⟨y, hy, rfl, hyt⟩
        have hyL : sqN y ∈ L := (h.mem _).2 ⟨y, hy, rfl, fun k => hyt (List.mem_append.2 (.inl k))⟩
        rw [e] at hyL
        rcases List.mem_append.1 hyL with k | k
        · exact List.mem_append.2 (.inl k)
        · rcases List.mem_cons.1 k with k | k
          · have : y.ref = x.ref := congrArg (·.1) k
            exact absurd (List.mem_append.2 (.inr (List.mem_singleton.2 this))) hyt
          · exact List.mem_append.2 (.inr k)
    · have := h.len
      rw [e] at this
      simp at this ⊢
      omega
    · have := h.ord
      rw [e, ordF_step hA hs] at this
      exact this
/-- The least that may be told, so far. -/
structure PickI (l : List Nd) (T : List ByteArray) (i : Nat) (found : Bool) (best : ByteArray) : Prop where
  no : found = false → ∀ j, j < i → ¬ Ready T (l.getD j nd0)
  yes : found = true → ∃ x ∈ l, Ready T x ∧ best = x.ref ∧ ∀ j, j < i → Ready T (l.getD j nd0) → ¬ bltS (l.getD j nd0).ref best
theorem PickI.start (l : List Nd) (T : List ByteArray) (b : ByteArray) : PickI l T 0 false b := ⟨fun _ j hj => absurd hj (Nat.not_lt_zero _), fun h => by cases h⟩
theorem PickI.skip {l : List Nd} {T : List ByteArray} {i : Nat} {fo : Bool} {b : ByteArray} (h : PickI l T i fo b) (hn : ¬ Ready T (l.getD i nd0) ∨ (fo = true ∧ bltS b (l.getD i nd0).ref)) : PickI l T (i + 1) fo b := by
  constructor
  · intro hf j hj
    by_cases e : j = i
    · subst e
      rcases hn with hn | ⟨hn, _⟩
      · exact hn
      · rw [hf] at hn; cases hn
    · exact h.no hf j (by omega)
  · intro hf
    obtain ⟨x, hx, h1, h2, h3⟩ := h.yes hf
    refine ⟨x, hx, h1, h2, fun j hj hr => ?_⟩
    by_cases e : j = i
    · subst e
      rcases hn with hn | ⟨_, hn⟩
      · exact absurd hr hn
      · exact hn.asymm
    · exact h3 j (by omega) hr
theorem PickI.take {l : List Nd} {T : List ByteArray} {i : Nat} {fo : Bool} {b : ByteArray} (h : PickI l T i fo b) (hi : i < l.length) (hr : Ready T (l.getD i nd0)) (hn : fo = true → ¬ bltS b (l.getD i nd0).ref) : PickI l T (i + 1) true (l.getD i nd0).ref := by
  refine ⟨fun h => (by cases h), fun _ => ⟨_, lgetD_mem l nd0 i hi, hr, rfl, fun j hj hrj => ?_⟩⟩
  by_cases e : j = i
  · subst e
    exact fun g => g.ne rfl
  · cases hf : fo with
    | false => exact absurd hrj (h.no hf j (by omega))
    | true =>
      obtain ⟨x, hx, h1, h2, h3⟩ := h.yes hf
      intro g
      by_cases eb : b = (l.getD i nd0).ref
      · exact h3 j (by omega) hrj (eb ▸ g)
      · rcases bltS_total eb with k | k
        · exact hn hf k
        · exact h3 j (by omega) hrj (g.trans k)
theorem PickI.least {l : List Nd} {T : List ByteArray} {b : ByteArray} (h : PickI l T l.length true b) : ∃ x ∈ l, Ready T x ∧ b = x.ref ∧ ∀ y ∈ l, Ready T y → ¬ bltS y.ref x.ref := by
  obtain ⟨x, hx, h1, h2, h3⟩ := h.yes rfl
  refine ⟨x, hx, h1, h2, fun y hy hr => ?_⟩
  obtain ⟨j, hj, rfl⟩ := List.mem_iff_getElem.1 hy
  have e : l.getD j nd0 = l[j] := by rw [List.getD_eq_getElem?_getD, List.getElem?_eq_getElem hj]; rfl
  have := h3 j hj (by rw [e]; exact hr)
  rw [e, h2] at this
  exact this
theorem PickI.none {l : List Nd} {T : List ByteArray} {b : ByteArray} (h : PickI l T l.length false b) : ∀ x ∈ l, ¬ Ready T x := fun y hy => by
  obtain ⟨j, hj, rfl⟩ := List.mem_iff_getElem.1 hy
  have e : l.getD j nd0 = l[j] := by rw [List.getD_eq_getElem?_getD, List.getElem?_eq_getElem hj]; rfl
  have := h.no rfl j hj
  rw [e] at this
  exact this
end Go.Proofs.YtaffplmfnincfaaGreatDoor
