/- Names: isLetter, isDigit, isName; the document's Name. -/
import Derived.Test.YtiajafljgfpdcaaGreatRw
namespace Go.Proofs.YtiajafljgfpdcaaGreat
set_option linter.unusedVariables false
open Go.RowKit
def letterB (c : Int) : Bool := (97 ≤ c ∧ c ≤ 122) || (65 ≤ c ∧ c ≤ 90) || c = 95
def digitB (c : Int) : Bool := decide (48 ≤ c ∧ c ≤ 57)
theorem nameC_eq (first : Bool) (c : Int) : nameC first c = (letterB c || (!first && digitB c)) := by
  unfold nameC letterB digitB; simp only [Bool.or_assoc]
/-- The byte at place k. -/
def byteAt (s : ByteArray) (k : Nat) : Int := (numsS s).getD k 0
theorem byteAt_in (s : ByteArray) (k : Nat) : 0 ≤ byteAt s k ∧ byteAt s k < 256 := by
  unfold byteAt
  by_cases h : k < (numsS s).length
  · exact numsS_bytes s _ (getD_mem _ _ _ h)
  · rw [List.getD_eq_getElem?_getD, List.getElem?_eq_none (by omega)]; decide
theorem byteAt_get (s : ByteArray) (k : Nat) (h : k < s.size) : (s[k].toNat : Int) = byteAt s k := by
  unfold byteAt numsS
  have h2 : k < s.data.toList.length := by simpa using h
  rw [List.getD_eq_getElem?_getD, List.getElem?_map, List.getElem?_eq_getElem h2]
  simp [ByteArray.getElem_eq_getElem_data]
/-- The first k bytes may be in a name. -/
def nameTo (s : ByteArray) (k : Nat) : Prop := ∀ j, j < k → nameC (j == 0) (byteAt s j) = true
open Classical in
/-- It is a name. -/
noncomputable def nameB (s : ByteArray) : Bool := decide (IsName s)
theorem isName_iff (s : ByteArray) : IsName s ↔ (1 ≤ s.size ∧ s.size ≤ 64) ∧ nameTo s s.size := by
  unfold IsName nameTo byteAt
  refine ⟨fun ⟨h1, h2⟩ => ⟨h1, fun j hj => ?_⟩, fun ⟨h1, h2⟩ => ⟨h1, fun j hj => ?_⟩⟩
  · have := h2 j (by rw [numsS_length]; exact hj)
    rw [List.getD_eq_getElem?_getD, List.getElem?_eq_getElem (by rw [numsS_length]; exact hj)]
    exact this
  · have := h2 j (by rw [numsS_length] at hj; exact hj)
    rw [List.getD_eq_getElem?_getD, List.getElem?_eq_getElem hj] at this
    exact this
theorem nameB_no {s : ByteArray} (h : ¬ IsName s) : nameB s = false := by simp [nameB, h]
theorem nameB_yes {s : ByteArray} (h : IsName s) : nameB s = true := by simp [nameB, h]
theorem nameB_iff {s : ByteArray} : nameB s = true ↔ IsName s := by simp [nameB]
theorem nameTo_succ {s : ByteArray} {k : Nat} (h : nameTo s k) (hc : nameC (k == 0) (byteAt s k) = true) : nameTo s (k + 1) := by
  intro j hj
  by_cases e : j = k
  · subst e; exact hc
  · exact h j (by omega)
theorem not_name {s : ByteArray} {k : Nat} (hk : k < s.size) (hc : nameC (k == 0) (byteAt s k) = false) : ¬ IsName s := by
  rw [isName_iff]
  rintro ⟨_, h⟩
  have := h k hk
  rw [hc] at this; cases this
set_option maxRecDepth 100000 in
set_option maxHeartbeats 1000000 in
theorem isDigit_any (c : Int) (w : World) (h0 : 0 ≤ c) (h1 : c < 256) : Calls Tryz.prog 158 #[.int .u8 c] w fun e w' => e = .returned (.bool (digitB c)) ∧ w' = w := by
  by_cases a : 48 ≤ c
  · by_cases b : c ≤ 57
    · have hd : Hid (digitB c = true) := by show _ = _; simp [digitB, a, b]
      go_enter Tryz.func158, Tryz.ntmps158
      go_wp2
      go_ret
      exact ⟨by rw [hd.out]; try rfl, rfl⟩
    · have hd : Hid (digitB c = false) := by show _ = _; simp [digitB, b]
      go_enter Tryz.func158, Tryz.ntmps158
      go_wp2
      go_ret
      exact ⟨by rw [hd.out]; simp, rfl⟩
  · have hd : Hid (digitB c = false) := by show _ = _; simp [digitB, a]
    go_enter Tryz.func158, Tryz.ntmps158
    go_wp2
    go_ret
    exact ⟨by rw [hd.out]; simp, rfl⟩
set_option maxRecDepth 100000 in
set_option maxHeartbeats 1000000 in
theorem isLetter_any (c : Int) (w : World) (h0 : 0 ≤ c) (h1 : c < 256) : Calls Tryz.prog 159 #[.int .u8 c] w fun e w' => e = .returned (.bool (letterB c)) ∧ w' = w := by
  by_cases a : 97 ≤ c <;> by_cases b : c ≤ 122 <;> by_cases d : 65 ≤ c <;> by_cases f : c ≤ 90 <;> by_cases g : c = 95
  all_goals first
    | (exfalso; omega)
    | (have hd : Hid (letterB c = true) := by (show _ = _; simp [letterB]; omega)
       have gb : (c == 95) = true := by simpa using g
       clear g
       go_enter Tryz.func159, Tryz.ntmps159
       go_wp2
       go_ret
       exact ⟨by rw [hd.out]; try (simp [*]), rfl⟩)
    | (have hd : Hid (letterB c = true) := by (show _ = _; simp [letterB]; omega)
       have gb : (c == 95) = false := by simpa using g
       clear g
       go_enter Tryz.func159, Tryz.ntmps159
       go_wp2
       go_ret
       exact ⟨by rw [hd.out]; try (simp [*]), rfl⟩)
    | (have hd : Hid (letterB c = false) := by (show _ = _; simp [letterB]; omega)
       have gb : (c == 95) = false := by simpa using g
       clear g
       go_enter Tryz.func159, Tryz.ntmps159
       go_wp2
       go_ret
       exact ⟨by rw [hd.out]; try (simp [*]), rfl⟩)
theorem digit_letter {c : Int} (h : digitB c = true) : letterB c = false := by
  unfold digitB at h; unfold letterB
  simp at h ⊢; omega
set_option maxRecDepth 100000 in
set_option maxHeartbeats 1000000 in
theorem isName_any (s : ByteArray) (w : World) (hs : s.size ≤ 9223372036854775807) : Calls Tryz.prog 142 #[.string s] w fun e w' => e = .returned (.bool (nameB s)) ∧ w' = w := by
  by_cases h1 : s.size < 1
  · have hn : Hid (nameB s = false) := nameB_no (by rw [isName_iff]; omega)
    have h1i : (s.size : Int) < 1 := by omega
    go_enter Tryz.func142, Tryz.ntmps142
    go_wp2_with fail
    go_ret
    exact ⟨by rw [hn.out]; rfl, rfl⟩
  · have h1i : ¬ (s.size : Int) < 1 := by omega
    by_cases h2 : 64 < s.size
    · have hn : Hid (nameB s = false) := nameB_no (by rw [isName_iff]; omega)
      have h2i : (64 : Int) < (s.size : Int) := by omega
      go_enter Tryz.func142, Tryz.ntmps142
      go_wp2_with fail
      go_ret
      exact ⟨by rw [hn.out]; rfl, rfl⟩
    · have h2i : ¬ (64 : Int) < (s.size : Int) := by omega
      have hD : ∀ k (h : k < s.size) W, Calls Tryz.prog 158 #[.int .u8 ((s[k].toNat : Nat) : Int)] W fun e w' => e = .returned (.bool (digitB (byteAt s k))) ∧ w' = W := fun k h W => by
        rw [byteAt_get]; exact isDigit_any (byteAt s k) W (byteAt_in s k).1 (byteAt_in s k).2
      have hL : ∀ k (h : k < s.size) W, Calls Tryz.prog 159 #[.int .u8 ((s[k].toNat : Nat) : Int)] W fun e w' => e = .returned (.bool (letterB (byteAt s k))) ∧ w' = W := fun k h W => by
        rw [byteAt_get]; exact isLetter_any (byteAt s k) W (byteAt_in s k).1 (byteAt_in s k).2
      have hD0 := hD 0 (by omega)
      cases hd0 : digitB (byteAt s 0) with
      | true =>
        have hn : Hid (nameB s = false) := nameB_no (not_name (k := 0) (by omega) (by rw [nameC_eq, digit_letter hd0]; rfl))
        rw [hd0] at hD0
        clear hd0 hD hL
        go_enter Tryz.func142, Tryz.ntmps142
        go_wp2_with (first | (go_at_call 158; refine (hD0 _).mono ?_; rintro e wx ⟨rfl, hwx⟩; subst wx))
        go_ret
        exact ⟨by rw [hn.out]; rfl, rfl⟩
      | false =>
        rw [hd0] at hD0
        replace hd0 : Hid _ := hd0
        replace hD : Hid _ := hD
        replace hL : Hid _ := hL
        go_enter Tryz.func142, Tryz.ntmps142
        go_wp2_with (first | (go_at_call 158; refine (hD0 _).mono ?_; rintro e wx ⟨rfl, hwx⟩; subst wx))
        clear hD0
        go_loop [19] (fun i => ∃ k : Nat, k ≤ s.size ∧ i = .int .i64 k ∧ nameTo s k) (fun i => s.size - (intOf i).toNat)
        case atStart => exact ⟨0, Nat.zero_le _, rfl, fun j hj => absurd hj (Nat.not_lt_zero _)⟩
        case round =>
          obtain ⟨k, hk, rfl, hto⟩ := hrel
          by_cases hlt : k < s.size
          · have hki : (k : Int) < (s.size : Int) := by omega
            have hDk := hD.out k hlt
            have hLk := hL.out k hlt
            have hnx : Hid (nameC (k == 0) (byteAt s k) = (letterB (byteAt s k) || digitB (byteAt s k))) := by
              show _ = _
              rw [nameC_eq]
              by_cases h0 : k = 0
              · subst h0; rw [hd0.out]; rfl
              · rw [show (k == 0) = false from by simpa using h0]; rfl
            cases hl : letterB (byteAt s k) with
            | true =>
              rw [hl] at hLk hnx
              have hst : nameTo s (k + 1) := nameTo_succ hto (hnx.out.trans rfl)
              clear hl
              go_wp2_with (first | (go_at_call 159; refine (hLk _).mono ?_; rintro e wx ⟨rfl, hwx⟩; subst wx))
              go_round
              case rel => exact ⟨k + 1, by omega, by go_num, hst⟩
              case measure => simp [intOf]; omega
            | false =>
              rw [hl] at hLk hnx
              clear hl
              cases hd : digitB (byteAt s k) with
              | true =>
                rw [hd] at hDk hnx
                have hst : nameTo s (k + 1) := nameTo_succ hto (hnx.out.trans rfl)
                clear hd
                go_wp2_with (first | (go_at_call 159; refine (hLk _).mono ?_; rintro e wx ⟨rfl, hwx⟩; subst wx) | (go_at_call 158; refine (hDk _).mono ?_; rintro e wx ⟨rfl, hwx⟩; subst wx))
                go_round
                case rel => exact ⟨k + 1, by omega, by go_num, hst⟩
                case measure => simp [intOf]; omega
              | false =>
                rw [hd] at hDk hnx
                have hn : Hid (nameB s = false) := nameB_no (not_name hlt (hnx.out.trans rfl))
                clear hd
                go_wp2_with (first | (go_at_call 159; refine (hLk _).mono ?_; rintro e wx ⟨rfl, hwx⟩; subst wx) | (go_at_call 158; refine (hDk _).mono ?_; rintro e wx ⟨rfl, hwx⟩; subst wx))
                go_ret
                exact ⟨by rw [hn.out]; rfl, rfl⟩
          · obtain rfl : k = s.size := by omega
            have hki : ¬ (s.size : Int) < (s.size : Int) := by omega
            have hn : Hid (nameB s = true) := nameB_yes (by rw [isName_iff]; exact ⟨by omega, hto⟩)
            go_wp2_with fail
            go_ret
            exact ⟨by rw [hn.out]; rfl, rfl⟩
set_option maxRecDepth 100000 in
set_option maxHeartbeats 4000000 in
/-- The document's Name. -/
theorem rname_any (s : ByteArray) (w : World) (hs : s.size ≤ 9223372036854775807) : Calls Tryz.prog 96 #[.string s] w fun e w' => e = .returned (.bool (nameB s)) ∧ w' = w := by
  by_cases h1 : s.size < 1
  · have hn : Hid (nameB s = false) := nameB_no (by rw [isName_iff]; omega)
    have h1i : (s.size : Int) < 1 := by omega
    go_enter Tryz.func96, Tryz.ntmps96
    go_wp2_with fail
    go_ret
    exact ⟨by rw [hn.out]; rfl, rfl⟩
  · have h1i : ¬ (s.size : Int) < 1 := by omega
    by_cases h2 : 64 < s.size
    · have hn : Hid (nameB s = false) := nameB_no (by rw [isName_iff]; omega)
      have h2i : (64 : Int) < (s.size : Int) := by omega
      go_enter Tryz.func96, Tryz.ntmps96
      go_wp2_with fail
      go_ret
      exact ⟨by rw [hn.out]; rfl, rfl⟩
    · have h2i : ¬ (64 : Int) < (s.size : Int) := by omega
      go_enter Tryz.func96, Tryz.ntmps96
      go_wp2_with fail
      go_loop [3] (fun i => ∃ k : Nat, k ≤ s.size ∧ i = .int .i64 k ∧ nameTo s k) (fun i => s.size - (intOf i).toNat)
      case atStart => exact ⟨0, Nat.zero_le _, rfl, fun j hj => absurd hj (Nat.not_lt_zero _)⟩
      case round =>
        obtain ⟨k, hk, rfl, hto⟩ := hrel
        by_cases hlt : k < s.size
        · have hki : (k : Int) < (s.size : Int) := by omega
          have hgt := byteAt_get s k hlt
          have hin := byteAt_in s k
          have hnx : Hid (nameC (k == 0) (byteAt s k) = (letterB (byteAt s k) || (!(k == 0) && digitB (byteAt s k)))) := nameC_eq _ _
          have hyes : Hid (nameC (k == 0) (byteAt s k) = true → nameTo s (k + 1)) := fun h => nameTo_succ hto h
          have hno : Hid (nameC (k == 0) (byteAt s k) = false → nameB s = false) := fun h => nameB_no (not_name hlt h)
          have hyes2 : Hid ((letterB ((s[k].toNat : Nat) : Int) || (!(k == 0) && digitB ((s[k].toNat : Nat) : Int))) = true → nameTo s (k + 1)) := fun h => hyes.out (by rw [hnx.out, ← hgt]; exact h)
          have hno2 : Hid ((letterB ((s[k].toNat : Nat) : Int) || (!(k == 0) && digitB ((s[k].toNat : Nat) : Int))) = false → nameB s = false) := fun h => hno.out (by rw [hnx.out, ← hgt]; exact h)
          clear hgt hin hnx hyes hno
          have hparts : ∃ lo hi : Int, lo ≤ ((s[k].toNat : Nat) : Int) ∧ ((s[k].toNat : Nat) : Int) ≤ hi ∧ ((lo = 0 ∧ hi = 47) ∨ (lo = 48 ∧ hi = 57) ∨ (lo = 58 ∧ hi = 64) ∨ (lo = 65 ∧ hi = 90) ∨ (lo = 91 ∧ hi = 94) ∨ (lo = 95 ∧ hi = 95) ∨ (lo = 96 ∧ hi = 96) ∨ (lo = 97 ∧ hi = 122) ∨ (lo = 123 ∧ hi = 255)) := by
            have hlt := s[k].toNat_lt
            generalize s[k].toNat = c at *
            have : (c ≤ 47) ∨ (48 ≤ c ∧ c ≤ 57) ∨ (58 ≤ c ∧ c ≤ 64) ∨ (65 ≤ c ∧ c ≤ 90) ∨ (91 ≤ c ∧ c ≤ 94) ∨ c = 95 ∨ c = 96 ∨ (97 ≤ c ∧ c ≤ 122) ∨ (123 ≤ c ∧ c ≤ 255) := by omega
            rcases this with h | h | h | h | h | h | h | h | h
            · exact ⟨0, 47, by omega, by omega, by omega⟩
            · exact ⟨48, 57, by omega, by omega, by omega⟩
            · exact ⟨58, 64, by omega, by omega, by omega⟩
            · exact ⟨65, 90, by omega, by omega, by omega⟩
            · exact ⟨91, 94, by omega, by omega, by omega⟩
            · exact ⟨95, 95, by omega, by omega, by omega⟩
            · exact ⟨96, 96, by omega, by omega, by omega⟩
            · exact ⟨97, 122, by omega, by omega, by omega⟩
            · exact ⟨123, 255, by omega, by omega, by omega⟩
          obtain ⟨lo, hi, hlo, hhi, hp⟩ := hparts
          rcases hp with ⟨rfl, rfl⟩ | ⟨rfl, rfl⟩ | ⟨rfl, rfl⟩ | ⟨rfl, rfl⟩ | ⟨rfl, rfl⟩ | ⟨rfl, rfl⟩ | ⟨rfl, rfl⟩ | ⟨rfl, rfl⟩ | ⟨rfl, rfl⟩ <;> by_cases hk0 : 0 < k
          all_goals
            have hb : (((s[k].toNat : Nat) : Int) == 95) = true ∨ (((s[k].toNat : Nat) : Int) == 95) = false := by cases (((s[k].toNat : Nat) : Int) == 95) <;> simp
            first | (have d1 : decide ((97 : Int) ≤ ((s[k].toNat : Nat) : Int)) = true := (by simp; omega)) | (have d1 : decide ((97 : Int) ≤ ((s[k].toNat : Nat) : Int)) = false := (by simp; omega))
            first | (have d2 : decide (((s[k].toNat : Nat) : Int) ≤ 122) = true := (by simp; omega)) | (have d2 : decide (((s[k].toNat : Nat) : Int) ≤ 122) = false := (by simp; omega))
            first | (have d3 : decide ((65 : Int) ≤ ((s[k].toNat : Nat) : Int)) = true := (by simp; omega)) | (have d3 : decide ((65 : Int) ≤ ((s[k].toNat : Nat) : Int)) = false := (by simp; omega))
            first | (have d4 : decide (((s[k].toNat : Nat) : Int) ≤ 90) = true := (by simp; omega)) | (have d4 : decide (((s[k].toNat : Nat) : Int) ≤ 90) = false := (by simp; omega))
            first | (have d5 : decide ((48 : Int) ≤ ((s[k].toNat : Nat) : Int)) = true := (by simp; omega)) | (have d5 : decide ((48 : Int) ≤ ((s[k].toNat : Nat) : Int)) = false := (by simp; omega))
            first | (have d6 : decide (((s[k].toNat : Nat) : Int) ≤ 57) = true := (by simp; omega)) | (have d6 : decide (((s[k].toNat : Nat) : Int) ≤ 57) = false := (by simp; omega))
            first | (have d7 : decide (0 < k) = true := (by simp; omega)) | (have d7 : decide (0 < k) = false := (by simp; omega))
            rcases hb with hb | hb
            all_goals first
              | (exfalso; have := beq_iff_eq.1 hb; omega)
              | (exfalso; have := beq_eq_false_iff_ne.1 hb; omega)
              | (go_wp2_with fail
                 go_round
                 case rel => exact ⟨k + 1, by omega, by go_num, hyes2.out (by simp [letterB, digitB]; omega)⟩
                 case measure => simp [intOf]; omega)
              | (have hn : Hid (nameB s = false) := hno2.out (by simp [letterB, digitB]; omega)
                 go_wp2_with fail
                 go_ret
                 exact ⟨by rw [hn.out]; rfl, rfl⟩)
        · obtain rfl : k = s.size := by omega
          have hki : ¬ (s.size : Int) < (s.size : Int) := by omega
          have hn : Hid (nameB s = true) := nameB_yes (by rw [isName_iff]; exact ⟨by omega, hto⟩)
          go_wp2_with fail
          go_ret
          exact ⟨by rw [hn.out]; rfl, rfl⟩
end Go.Proofs.YtiajafljgfpdcaaGreat
