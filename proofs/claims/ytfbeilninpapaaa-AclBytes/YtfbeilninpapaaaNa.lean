/- Names: inNames, rule.Name, the document's Name; roles; which texts are among others. -/
import Derived.Test.YtfbeilninpapaaaRw
import Derived.Test.YtfbeilninpapaaaRound
namespace Go.Proofs.Ytfbeilninpapaaa
set_option linter.unusedVariables false
open Go.RowKit
theorem toList_eq {s t : ByteArray} (h : (s.toList == t.toList) = true) : s = t := by
  have h := eq_of_beq h
  rw [Lib.toList_data, Lib.toList_data] at h
  exact ByteArray.ext (Array.toList_inj.1 h)
theorem toList_ne {s t : ByteArray} (h : s ≠ t) : (s.toList == t.toList) = false := by
  cases e : (s.toList == t.toList) with
  | false => rfl
  | true => exact absurd (toList_eq e) h
theorem take_getD {α : Type} (l : List α) (d : α) (k : Nat) (h : k < l.length) : l.take (k + 1) = l.take k ++ [l.getD k d] := by
  rw [List.take_succ_eq_append_getElem h]; simp [h]
/-- A byte of a name. -/
def chB (c : Int) : Bool := decide (97 ≤ c ∧ c ≤ 122) || (decide (48 ≤ c ∧ c ≤ 57) || decide (c = 45))
/-- The byte at place k. -/
def byteAt (s : ByteArray) (k : Nat) : Int := (numsS s).getD k 0
theorem byteAt_in (s : ByteArray) (k : Nat) : 0 ≤ byteAt s k ∧ byteAt s k < 256 := by
  unfold byteAt
  by_cases h : k < (numsS s).length
  · exact isBytes_nums s _ (getD_mem _ _ _ h)
  · rw [List.getD_eq_getElem?_getD, List.getElem?_eq_none (by omega)]; decide
theorem byteAt_get (s : ByteArray) (k : Nat) (h : k < s.size) : (s[k].toNat : Int) = byteAt s k := by
  unfold byteAt numsS
  have h2 : k < s.data.toList.length := by simpa using h
  rw [List.getD_eq_getElem?_getD, List.getElem?_map, List.getElem?_eq_getElem h2]
  simp [ByteArray.getElem_eq_getElem_data]
/-- It is a name. -/
def nmB (s : ByteArray) : Bool := decide (1 ≤ s.size ∧ s.size ≤ 24) && (numsS s).all chB
/-- The first k bytes may be in a name. -/
def nmTo (s : ByteArray) (k : Nat) : Prop := ∀ j, j < k → chB (byteAt s j) = true
theorem nmTo_succ {s : ByteArray} {k : Nat} (h : nmTo s k) (hc : chB (byteAt s k) = true) : nmTo s (k + 1) := by
  intro j hj
  by_cases e : j = k
  · subst e; exact hc
  · exact h j (by omega)
theorem nmTo_all {s : ByteArray} (h : nmTo s s.size) : (numsS s).all chB = true := by
  rw [List.all_eq_true]
  intro c hc
  obtain ⟨k, hk, rfl⟩ := List.mem_iff_getElem.1 hc
  have := h k (by rw [← numsS_length]; exact hk)
  unfold byteAt at this
  rw [List.getD_eq_getElem?_getD, List.getElem?_eq_getElem hk] at this
  exact this
theorem nmB_all {s : ByteArray} (h : nmTo s s.size) : nmB s = decide (1 ≤ s.size ∧ s.size ≤ 24) := by
  unfold nmB; rw [nmTo_all h, Bool.and_true]
theorem nmB_size {s : ByteArray} (h : s.size < 1 ∨ 24 < s.size) : nmB s = false := by
  unfold nmB; rw [decide_eq_false (by omega), Bool.false_and]
theorem nmB_no {s : ByteArray} {k : Nat} (hk : k < s.size) (hc : chB (byteAt s k) = false) : nmB s = false := by
  cases e : nmB s with
  | false => rfl
  | true =>
    unfold nmB at e
    have := List.all_eq_true.1 (Bool.and_eq_true_iff.1 e).2 (byteAt s k) (getD_mem _ _ _ (by rw [numsS_length]; exact hk))
    rw [hc] at this; cases this
theorem nmB_len {s : ByteArray} (h : nmB s = true) : 1 ≤ s.size ∧ s.size ≤ 24 := by
  unfold nmB at h
  simpa using (Bool.and_eq_true_iff.1 h).1
set_option maxRecDepth 100000 in
set_option maxHeartbeats 1000000 in
theorem inNames_any (c : Int) (w : World) (h0 : 0 ≤ c) (h1 : c < 256) : Calls Try.prog 44 #[.int .u8 c] w fun e w' => e = .returned (.bool (chB c)) ∧ w' = w := by
  by_cases a : 97 ≤ c <;> by_cases b : c ≤ 122 <;> by_cases d : 48 ≤ c <;> by_cases f : c ≤ 57 <;> by_cases g : c = 45
  all_goals first
    | (exfalso; omega)
    | (have hd : Hid (chB c = true) := by (show _ = _; simp [chB]; omega)
       have gb : (c == 45) = true := by simpa using g
       clear g
       go_enter Try.func44, Try.ntmps44
       go_wp2
       go_ret
       exact ⟨by rw [hd.out]; try (simp [*]), rfl⟩)
    | (have hd : Hid (chB c = true) := by (show _ = _; simp [chB]; omega)
       have gb : (c == 45) = false := by simpa using g
       clear g
       go_enter Try.func44, Try.ntmps44
       go_wp2
       go_ret
       exact ⟨by rw [hd.out]; try (simp [*]), rfl⟩)
    | (have hd : Hid (chB c = false) := by (show _ = _; simp [chB]; omega)
       have gb : (c == 45) = false := by simpa using g
       clear g
       go_enter Try.func44, Try.ntmps44
       go_wp2
       go_ret
       exact ⟨by rw [hd.out]; try (simp [*]), rfl⟩)
set_option maxRecDepth 100000 in
set_option maxHeartbeats 1000000 in
/-- rule.Name. -/
theorem name_any (s : ByteArray) (w : World) (hs : s.size ≤ 9223372036854775807) : Calls Try.prog 26 #[.string s] w fun e w' => e = .returned (.bool (nmB s)) ∧ w' = w := by
  by_cases h1 : s.size < 1
  · have hn : Hid (nmB s = false) := nmB_size (.inl h1)
    have h1i : (s.size : Int) < 1 := by omega
    go_enter Try.func26, Try.ntmps26
    go_wp2_with fail
    go_ret
    exact ⟨by rw [hn.out]; rfl, rfl⟩
  · have h1i : ¬ (s.size : Int) < 1 := by omega
    by_cases h2 : 24 < s.size
    · have hn : Hid (nmB s = false) := nmB_size (.inr h2)
      have h2i : (24 : Int) < (s.size : Int) := by omega
      go_enter Try.func26, Try.ntmps26
      go_wp2_with fail
      go_ret
      exact ⟨by rw [hn.out]; rfl, rfl⟩
    · have h2i : ¬ (24 : Int) < (s.size : Int) := by omega
      have hD : ∀ k (h : k < s.size) W, Calls Try.prog 44 #[.int .u8 ((s[k].toNat : Nat) : Int)] W fun e w' => e = .returned (.bool (chB (byteAt s k))) ∧ w' = W := fun k h W => by
        rw [byteAt_get]; exact inNames_any (byteAt s k) W (byteAt_in s k).1 (byteAt_in s k).2
      replace hD : Hid _ := hD
      go_enter Try.func26, Try.ntmps26
      go_wp2_with fail
      go_loop [14] (fun i => ∃ k : Nat, k ≤ s.size ∧ i = .int .i64 k ∧ nmTo s k) (fun i => s.size - (intOf i).toNat)
      case atStart => exact ⟨0, Nat.zero_le _, rfl, fun j hj => absurd hj (Nat.not_lt_zero _)⟩
      case round =>
        obtain ⟨k, hk, rfl, hto⟩ := hrel
        by_cases hlt : k < s.size
        · have hki : (k : Int) < (s.size : Int) := by omega
          have hDk := hD.out k hlt
          cases hd : chB (byteAt s k) with
          | true =>
            rw [hd] at hDk
            have hst : nmTo s (k + 1) := nmTo_succ hto hd
            clear hd
            go_wp2_with (first | (go_at_call 44; refine (hDk _).mono ?_; rintro e wx ⟨rfl, hwx⟩; subst wx))
            go_round
            case rel => exact ⟨k + 1, by omega, by go_num, hst⟩
            case measure => simp [intOf]; omega
          | false =>
            rw [hd] at hDk
            have hn : Hid (nmB s = false) := nmB_no hlt hd
            clear hd
            go_wp2_with (first | (go_at_call 44; refine (hDk _).mono ?_; rintro e wx ⟨rfl, hwx⟩; subst wx))
            go_ret
            exact ⟨by rw [hn.out]; rfl, rfl⟩
        · obtain rfl : k = s.size := by omega
          have hki : ¬ (s.size : Int) < (s.size : Int) := by omega
          have hn : Hid (nmB s = true) := by show _ = _; rw [nmB_all hto, decide_eq_true (by omega)]
          go_wp2_with fail
          go_ret
          exact ⟨by rw [hn.out]; rfl, rfl⟩
set_option maxRecDepth 100000 in
set_option maxHeartbeats 4000000 in
/-- The document's Name. -/
theorem rname_any (s : ByteArray) (w : World) (hs : s.size ≤ 1000000000000000) : Calls Try.prog 24 #[.string s] w fun e w' => e = .returned (.bool (nmB s)) ∧ w' = w := by
  go_enter Try.func24, Try.ntmps24
  go_wp2_with fail
  go_loop [3] (fun i => ∃ k : Nat, k ≤ s.size ∧ i = .int .i64 k ∧ nmTo s k) (fun i => s.size - (intOf i).toNat)
  case atStart => exact ⟨0, Nat.zero_le _, rfl, fun j hj => absurd hj (Nat.not_lt_zero _)⟩
  case round =>
    obtain ⟨k, hk, rfl, hto⟩ := hrel
    by_cases hlt : k < s.size
    · have hki : (k : Int) < (s.size : Int) := by omega
      have hgt := byteAt_get s k hlt
      have hyes : Hid (chB ((s[k].toNat : Nat) : Int) = true → nmTo s (k + 1)) := fun h => nmTo_succ hto (by rw [← hgt]; exact h)
      have hno : Hid (chB ((s[k].toNat : Nat) : Int) = false → nmB s = false) := fun h => nmB_no hlt (by rw [← hgt]; exact h)
      clear hgt
      have hparts : ∃ lo hi : Int, lo ≤ ((s[k].toNat : Nat) : Int) ∧ ((s[k].toNat : Nat) : Int) ≤ hi ∧ ((lo = 0 ∧ hi = 44) ∨ (lo = 45 ∧ hi = 45) ∨ (lo = 46 ∧ hi = 47) ∨ (lo = 48 ∧ hi = 57) ∨ (lo = 58 ∧ hi = 96) ∨ (lo = 97 ∧ hi = 122) ∨ (lo = 123 ∧ hi = 255)) := by
        have hlt := s[k].toNat_lt
        generalize s[k].toNat = c at *
        have : (c ≤ 44) ∨ c = 45 ∨ (46 ≤ c ∧ c ≤ 47) ∨ (48 ≤ c ∧ c ≤ 57) ∨ (58 ≤ c ∧ c ≤ 96) ∨ (97 ≤ c ∧ c ≤ 122) ∨ (123 ≤ c ∧ c ≤ 255) := by omega
        rcases this with h | h | h | h | h | h | h
        · exact ⟨0, 44, by omega, by omega, by omega⟩
        · exact ⟨45, 45, by omega, by omega, by omega⟩
        · exact ⟨46, 47, by omega, by omega, by omega⟩
        · exact ⟨48, 57, by omega, by omega, by omega⟩
        · exact ⟨58, 96, by omega, by omega, by omega⟩
        · exact ⟨97, 122, by omega, by omega, by omega⟩
        · exact ⟨123, 255, by omega, by omega, by omega⟩
      obtain ⟨lo, hi, hlo, hhi, hp⟩ := hparts
      rcases hp with ⟨rfl, rfl⟩ | ⟨rfl, rfl⟩ | ⟨rfl, rfl⟩ | ⟨rfl, rfl⟩ | ⟨rfl, rfl⟩ | ⟨rfl, rfl⟩ | ⟨rfl, rfl⟩
      all_goals
        have hb : (((s[k].toNat : Nat) : Int) == 45) = true ∨ (((s[k].toNat : Nat) : Int) == 45) = false := by cases (((s[k].toNat : Nat) : Int) == 45) <;> simp
        first | (have d1 : decide ((97 : Int) ≤ ((s[k].toNat : Nat) : Int)) = true := (by simp; omega)) | (have d1 : decide ((97 : Int) ≤ ((s[k].toNat : Nat) : Int)) = false := (by simp; omega))
        first | (have d2 : decide (((s[k].toNat : Nat) : Int) ≤ 122) = true := (by simp; omega)) | (have d2 : decide (((s[k].toNat : Nat) : Int) ≤ 122) = false := (by simp; omega))
        first | (have d5 : decide ((48 : Int) ≤ ((s[k].toNat : Nat) : Int)) = true := (by simp; omega)) | (have d5 : decide ((48 : Int) ≤ ((s[k].toNat : Nat) : Int)) = false := (by simp; omega))
        first | (have d6 : decide (((s[k].toNat : Nat) : Int) ≤ 57) = true := (by simp; omega)) | (have d6 : decide (((s[k].toNat : Nat) : Int) ≤ 57) = false := (by simp; omega))
        rcases hb with hb | hb
        all_goals first
          | (exfalso; have := beq_iff_eq.1 hb; omega)
          | (exfalso; have := beq_eq_false_iff_ne.1 hb; omega)
          | (go_wp2_with fail
             go_round
             case rel => exact ⟨k + 1, by omega, by go_num, hyes.out (by simp [chB]; omega)⟩
             case measure => simp [intOf]; omega)
          | (have hn : Hid (nmB s = false) := hno.out (by simp [chB]; omega)
             go_wp2_with fail
             go_ret
             exact ⟨by rw [hn.out]; rfl, rfl⟩)
    · obtain rfl : k = s.size := by omega
      have hki : ¬ (s.size : Int) < (s.size : Int) := by omega
      have hn : Hid (nmB s = decide (1 ≤ s.size ∧ s.size ≤ 24)) := nmB_all hto
      by_cases h1 : s.size < 1
      · have h1i : decide ((1 : Int) ≤ (s.size : Int)) = false := by simp; omega
        go_wp2_with fail
        go_ret
        exact ⟨by rw [hn.out, decide_eq_false (by omega)]; rfl, rfl⟩
      · have h1i : decide ((1 : Int) ≤ (s.size : Int)) = true := by simp; omega
        by_cases h2 : s.size ≤ 24
        · have h2i : decide ((s.size : Int) ≤ 24) = true := by simp; omega
          go_wp2_with fail
          go_ret
          exact ⟨by rw [hn.out, decide_eq_true (by omega)]; rfl, rfl⟩
        · have h2i : decide ((s.size : Int) ≤ 24) = false := by simp; omega
          go_wp2_with fail
          go_ret
          exact ⟨by rw [hn.out, decide_eq_false (by omega)]; rfl, rfl⟩
/-- A role. -/
def roB (s : ByteArray) : Bool := s.toList == [118, 105, 101, 119, 101, 114] || (s.toList == [101, 100, 105, 116, 111, 114] || s.toList == [97, 100, 109, 105, 110])
set_option maxRecDepth 100000 in
set_option maxHeartbeats 1000000 in
theorem isRole_any (s : ByteArray) (w : World) : Calls Try.prog 27 #[.string s] w fun e w' => e = .returned (.bool (roB s)) ∧ w' = w := by
  have hR : Hid (roB s = (s.toList == [118, 105, 101, 119, 101, 114] || (s.toList == [101, 100, 105, 116, 111, 114] || s.toList == [97, 100, 109, 105, 110]))) := rfl
  rcases Bool.eq_false_or_eq_true (s.toList == [118, 105, 101, 119, 101, 114]) with a | a
  · rw [a] at hR
    go_enter Try.func27, Try.ntmps27
    go_wp2
    go_ret
    exact ⟨by rw [hR.out]; rfl, rfl⟩
  · rcases Bool.eq_false_or_eq_true (s.toList == [101, 100, 105, 116, 111, 114]) with b | b
    · rw [a, b] at hR
      go_enter Try.func27, Try.ntmps27
      go_wp2
      go_ret
      exact ⟨by rw [hR.out]; rfl, rfl⟩
    · rcases Bool.eq_false_or_eq_true (s.toList == [97, 100, 109, 105, 110]) with c | c
      all_goals
        rw [a, b, c] at hR
        go_enter Try.func27, Try.ntmps27
        go_wp2
        go_ret
        exact ⟨by rw [hR.out]; rfl, rfl⟩
set_option maxRecDepth 100000 in
set_option maxHeartbeats 1000000 in
/-- The document's. -/
theorem role_any (s : ByteArray) (w : World) : Calls Try.prog 25 #[.string s] w fun e w' => e = .returned (.bool (roB s)) ∧ w' = w := by
  have hR : Hid (roB s = (s.toList == [118, 105, 101, 119, 101, 114] || (s.toList == [101, 100, 105, 116, 111, 114] || s.toList == [97, 100, 109, 105, 110]))) := rfl
  rcases Bool.eq_false_or_eq_true (s.toList == [118, 105, 101, 119, 101, 114]) with a | a
  · rw [a] at hR
    go_enter Try.func25, Try.ntmps25
    go_wp2
    go_ret
    exact ⟨by rw [hR.out]; rfl, rfl⟩
  · rcases Bool.eq_false_or_eq_true (s.toList == [101, 100, 105, 116, 111, 114]) with b | b
    · rw [a, b] at hR
      go_enter Try.func25, Try.ntmps25
      go_wp2
      go_ret
      exact ⟨by rw [hR.out]; rfl, rfl⟩
    · rcases Bool.eq_false_or_eq_true (s.toList == [97, 100, 109, 105, 110]) with c | c
      all_goals
        rw [a, b, c] at hR
        go_enter Try.func25, Try.ntmps25
        go_wp2
        go_ret
        exact ⟨by rw [hR.out]; rfl, rfl⟩
/-! ### Among texts -/
def inB (l : List ByteArray) (s : ByteArray) : Bool := l.any fun t => s.toList == t.toList
theorem beq_comm' (a b : List UInt8) : (a == b) = (b == a) := by
  cases h : (b == a) with
  | true => rw [eq_of_beq h]; simp
  | false =>
    cases h2 : (a == b) with
    | true => rw [eq_of_beq h2] at h; simp at h
    | false => rfl
theorem inB_yes {l : List ByteArray} {s : ByteArray} {k : Nat} (hk : k < l.length) (h : (s.toList == (l.getD k ⟨#[]⟩).toList) = true) : inB l s = true := by
  unfold inB
  rw [List.any_eq_true]
  exact ⟨_, getD_mem l _ k hk, h⟩
/-- None of the first k is s. -/
def notTo (l : List ByteArray) (s : ByteArray) (k : Nat) : Prop := ∀ j, j < k → (s.toList == (l.getD j ⟨#[]⟩).toList) = false
theorem notTo_succ {l : List ByteArray} {s : ByteArray} {k : Nat} (h : notTo l s k) (e : (s.toList == (l.getD k ⟨#[]⟩).toList) = false) : notTo l s (k + 1) := by
  intro j hj
  by_cases h2 : j = k
  · subst h2; exact e
  · exact h j (by omega)
theorem inB_no {l : List ByteArray} {s : ByteArray} (h : notTo l s l.length) : inB l s = false := by
  unfold inB
  rw [List.any_eq_false]
  intro t ht
  obtain ⟨k, hk, rfl⟩ := List.mem_iff_getElem.1 ht
  have := h k hk
  rw [List.getD_eq_getElem?_getD, List.getElem?_eq_getElem hk] at this
  simpa using this
/-- Where. -/
def AtB (l : List ByteArray) (s : ByteArray) (i : Int) : Prop := (i = -1 ∧ inB l s = false) ∨ (0 ≤ i ∧ i ≤ 1000000000000000 ∧ inB l s = true)
set_option maxRecDepth 100000 in
set_option maxHeartbeats 1000000 in
theorem index_any (v : Value) (l : List ByteArray) (s : ByteArray) (w : World) (hv : Txs w v l) (hl : l.length ≤ 1000000000000000) : Calls Try.prog 56 #[v, .string s] w fun e w' => (∃ i : Int, e = .returned (.int .i64 i) ∧ AtB l s i) ∧ w' = w := by
  obtain ⟨a, c, rfl⟩ := hv.shape
  replace hv : Hid (Txs w (.slice a l.length c) l) := hv
  go_enter Try.func56, Try.ntmps56
  go_wp2
  go_loop [8] (fun i => ∃ k : Nat, k ≤ l.length ∧ i = .int .i64 k ∧ notTo l s k) (fun i => l.length - (intOf i).toNat)
  case atStart => exact ⟨0, Nat.zero_le _, rfl, fun j hj => absurd hj (Nat.not_lt_zero _)⟩
  case round =>
    obtain ⟨k, hk, rfl, hno⟩ := hrel
    by_cases hlt : k < l.length
    · have hki : (k : Int) < (l.length : Int) := by omega
      obtain ⟨b, o, rfl, x0⟩ := tx_at hv.out k hlt
      have hyes : Hid ((s.toList == (l.getD k ⟨#[]⟩).toList) = true → inB l s = true) := fun h => inB_yes hlt h
      have hnot : Hid ((s.toList == (l.getD k ⟨#[]⟩).toList) = false → notTo l s (k + 1)) := fun h => notTo_succ hno h
      generalize l.getD k ⟨#[]⟩ = t at *
      rcases Bool.eq_false_or_eq_true (s.toList == t.toList) with e | e
      · have hi := hyes.out e
        go_wp2
        go_ret
        exact ⟨⟨(k : Int), rfl, .inr ⟨by omega, by omega, hi⟩⟩, rfl⟩
      · have hst := hnot.out e
        go_wp2
        go_round
        case rel => exact ⟨k + 1, by omega, by go_num, hst⟩
        case measure => simp [intOf]; omega
    · obtain rfl : k = l.length := by omega
      have hki : ¬ (l.length : Int) < (l.length : Int) := by omega
      have hi := inB_no hno
      go_wp2
      go_ret
      exact ⟨⟨-1, rfl, .inl ⟨rfl, hi⟩⟩, rfl⟩
set_option maxRecDepth 100000 in
set_option maxHeartbeats 1000000 in
/-- slices.Contains. -/
theorem contains_any (v : Value) (l : List ByteArray) (s : ByteArray) (w : World) (hv : Txs w v l) (hl : l.length ≤ 1000000000000000) : Calls Try.prog 45 #[v, .string s] w fun e w' => e = .returned (.bool (inB l s)) ∧ w' = w := by
  have hI := fun W (h : Txs W v l) => index_any v l s W h hl
  obtain ⟨a, c, rfl⟩ := hv.shape
  replace hv : Hid (Txs w (.slice a l.length c) l) := hv
  go_enter Try.func45, Try.ntmps45
  go_wp2_with (first | (go_at_call 56; refine (hI _ hv.out).mono ?_; rintro e wx ⟨⟨i, rfl, hi⟩, hwx⟩; subst wx; rcases hi with ⟨rfl, hi⟩ | ⟨h0, h1, hi⟩))
  · go_ret
    exact ⟨by rw [hi]; rfl, rfl⟩
  · have hd : decide (0 ≤ i) = true := by simpa using h0
    go_wp2
    go_ret
    exact ⟨by rw [hi]; simp, rfl⟩
set_option maxRecDepth 100000 in
set_option maxHeartbeats 1000000 in
/-- The document's. -/
theorem in_any (v : Value) (l : List ByteArray) (s : ByteArray) (w : World) (hv : Txs w v l) (hl : l.length ≤ 1000000000000000) : Calls Try.prog 30 #[v, .string s] w fun e w' => e = .returned (.bool (inB l s)) ∧ w' = w := by
  obtain ⟨a, c, rfl⟩ := hv.shape
  replace hv : Hid (Txs w (.slice a l.length c) l) := hv
  go_enter Try.func30, Try.ntmps30
  go_wp2
  go_loop [5] (fun i => ∃ k : Nat, k ≤ l.length ∧ i = .int .i64 k ∧ notTo l s k) (fun i => l.length - (intOf i).toNat)
  case atStart => exact ⟨0, Nat.zero_le _, rfl, fun j hj => absurd hj (Nat.not_lt_zero _)⟩
  case round =>
    obtain ⟨k, hk, rfl, hno⟩ := hrel
    by_cases hlt : k < l.length
    · have hki : (k : Int) < (l.length : Int) := by omega
      obtain ⟨b, o, rfl, x0⟩ := tx_at hv.out k hlt
      have hyes : Hid (((l.getD k ⟨#[]⟩).toList == s.toList) = true → inB l s = true) := fun h => inB_yes hlt (by rw [beq_comm']; exact h)
      have hnot : Hid (((l.getD k ⟨#[]⟩).toList == s.toList) = false → notTo l s (k + 1)) := fun h => notTo_succ hno (by rw [beq_comm']; exact h)
      generalize l.getD k ⟨#[]⟩ = t at *
      rcases Bool.eq_false_or_eq_true (t.toList == s.toList) with e | e
      · have hi : Hid (inB l s = true) := hyes.out e
        go_wp2
        go_ret
        exact ⟨by rw [hi.out]; rfl, rfl⟩
      · have hst := hnot.out e
        go_wp2
        go_round
        case rel => exact ⟨k + 1, by omega, by go_num, hst⟩
        case measure => simp [intOf]; omega
    · obtain rfl : k = l.length := by omega
      have hki : ¬ (l.length : Int) < (l.length : Int) := by omega
      have hi : Hid (inB l s = false) := inB_no hno
      go_wp2
      go_ret
      exact ⟨by rw [hi.out]; rfl, rfl⟩
end Go.Proofs.Ytfbeilninpapaaa
