/- The contracts of quill.Number, quill.Signed and quill.Text: what is given is written behind what is there. -/
import Derived.Test.YtfbeilninpapaaaPut
namespace Go.Proofs.Ytfbeilninpapaaa
open Go.RowKit
/-- All of a list of pieces, one behind the other. -/
def cat {α : Type} (f : α → List Int) (l : List α) : List Int := (l.map f).flatten
theorem cat_take {α : Type} (f : α → List Int) (l : List α) (d : α) (k : Nat) (h : k < l.length) : cat f (l.take (k + 1)) = cat f (l.take k) ++ f (l.getD k d) := by
  unfold cat
  rw [List.take_succ_eq_append_getElem h]
  rw [List.map_append, List.flatten_append, List.getD_eq_getElem?_getD, List.getElem?_eq_getElem h]
  simp only [List.map_cons, List.map_nil, List.flatten_cons, List.flatten_nil, List.append_nil, Option.getD_some]
theorem cat_len {α : Type} (f : α → List Int) (m : Nat) (l : List α) (h : ∀ x ∈ l, (f x).length ≤ m) : (cat f l).length ≤ m * l.length := by
  induction l with
  | nil => simp [cat]
  | cons a r ih =>
    have h1 := ih fun x hx => h x (by simp [hx])
    have h2 := h a (by simp)
    simp only [cat, List.map_cons, List.flatten_cons, List.length_append, List.length_cons] at *
    rw [Nat.mul_add]; omega
theorem enc_len10 (n : Nat) (h : n < 2 ^ 64) : (enc n).length ≤ 10 := by rw [enc_length]; have := ahead_lt n h; omega
theorem encS_len11 (z : Int) (h1 : -9223372036854775808 ≤ z) (h2 : z ≤ 9223372036854775807) : (encS z).length ≤ 11 := by
  unfold encS
  split
  · have := enc_len10 (-z).toNat (by omega); simp; omega
  · have := enc_len10 z.toNat (by omega); simp; omega
theorem mem_take {α : Type} {l : List α} {k : Nat} {x : α} (h : x ∈ l.take k) : x ∈ l := List.mem_of_mem_take h
theorem getD_mem {α : Type} (l : List α) (d : α) (k : Nat) (h : k < l.length) : l.getD k d ∈ l := by
  rw [List.getD_eq_getElem?_getD, List.getElem?_eq_getElem h]; simp
/-- Cells from place k on, of a row that is read while other memory is written. -/
def Rest (w : World) (k len b o : Nat) (f : Nat → Value) : Prop := ∀ t, k ≤ t → t < len → w.cell? ⟨b, o + t, none⟩ = some (f t)
theorem Rest.next {w w' : World} {k len b o base : Nat} {f : Nat → Value} (h : Rest w k len b o f) (hb : Below base w w') (hs : b < base ∨ len ≤ 1) : Rest w' (k + 1) len b o f := by
  intro t ht hl
  rcases hs with hs | hs
  · exact (hb.cell (p := ⟨b, o + t, none⟩) hs).trans (h t (by omega) hl)
  · omega

set_option maxRecDepth 100000 in
set_option maxHeartbeats 1000000 in
theorem number_some (base : Nat) (v : Value) (xs : List Int) (ls : List Nat) (b o c : Nat) (w : World) (hl : ∀ n ∈ ls, n < 2 ^ 64) (hown : Own w base v xs) (hbase : base ≤ w.heap.size) (hlen : xs.length + 10 * ls.length ≤ 10000000)
    (hcell : Rest w 0 ls.length b o fun t => .int .u64 (ls.getD t 0)) (hs : b < base ∨ ls.length ≤ 1) :
    Calls Try.prog 47 #[v, .slice (some ⟨b, o, none⟩) ls.length c] w fun e w' => ∃ v', e = .returned v' ∧ Own w' base v' (xs ++ cat enc ls) ∧ Below base w w' := by
  go_enter Try.func47, Try.ntmps47
  go_wp2
  go_loopw [0, 9] (fun u i wr => ∃ k : Nat, k ≤ ls.length ∧ i = .int .i64 k ∧ Own wr base u (xs ++ cat enc (ls.take k)) ∧ Below base w wr ∧ Hid (Rest wr k ls.length b o fun t => .int .u64 (ls.getD t 0)))
    (fun _ i _ => ls.length - (intOf i).toNat)
  case atStart => exact ⟨0, Nat.zero_le _, rfl, by simpa [cat] using hown, Below.refl _ _, hcell⟩
  case round =>
    obtain ⟨k, hk, rfl, ho, hbw, hr⟩ := hrel
    have hsz := hbw.size
    have hcl := cat_len enc 10 (ls.take k) fun x hx => enc_len10 x (hl x (mem_take hx))
    have htl : (ls.take k).length ≤ ls.length := by simp; omega
    clear hcell hown
    by_cases hlt : k < ls.length
    · have hc : wr.cell? ⟨b, o + k, none⟩ = some (.int .u64 (ls.getD k 0)) := hr.out k (Nat.le_refl _) hlt
      have hct := cat_take enc ls 0 k hlt
      have hn := hl _ (getD_mem ls 0 k hlt)
      have HN : Hid (∀ (u : Value) (w1 : World), Own w1 base u (xs ++ cat enc (ls.take k) ++ enc (ls.getD k 0)) → Own w1 base u (xs ++ cat enc (ls.take (k + 1)))) := fun u w1 h => h.cast (by rw [hct]; simp)
      clear hct
      obtain ⟨n, hnn⟩ : ∃ n, n = ls.getD k 0 := ⟨_, rfl⟩
      rw [← hnn] at hc hn HN
      clear hnn
      go_wp2_with (go_at_call 57; refine (appendNumber_any base _ _ n _ hn ho (by omega) (by simp only [List.length_append]; omega)).mono ?_; rintro e w1 ⟨v1, rfl, ho1, hb1⟩)
      go_roundw
      case rel => exact ⟨k + 1, by omega, by go_num, HN.out _ _ ho1, hbw.trans hb1, hr.out.next hb1 hs⟩
      case measure => simp [intOf]; omega
    · obtain rfl : k = ls.length := by omega
      rw [List.take_of_length_le (Nat.le_refl _)] at ho
      go_wp2
      go_ret
      exact ⟨_, rfl, ho, hbw⟩

set_option maxRecDepth 100000 in
theorem number_none (v : Value) (a : Option Addr) (c : Nat) (w : World) :
    Calls Try.prog 47 #[v, .slice a 0 c] w fun e w' => e = .returned v ∧ w' = w := by
  go_enter Try.func47, Try.ntmps47
  go_wp2
  refine wp_loop_rounds 1 ?_
  rw [rounds_succ]
  go_wp2
  go_ret
  exact ⟨rfl, rfl⟩

/-- quill.Number(v, ls...): what is written lies behind what v owns. -/
theorem number_any (base : Nat) (v : Value) (xs : List Int) (ls : List Nat) (a : Option Addr) (c : Nat) (w : World) (hl : ∀ n ∈ ls, n < 2 ^ 64) (hown : Own w base v xs) (hbase : base ≤ w.heap.size) (hlen : xs.length + 10 * ls.length ≤ 10000000)
    (hcell : ls = [] ∨ ∃ b o, a = some ⟨b, o, none⟩ ∧ Rest w 0 ls.length b o (fun t => .int .u64 (ls.getD t 0)) ∧ (b < base ∨ ls.length ≤ 1)) :
    Calls Try.prog 47 #[v, .slice a ls.length c] w fun e w' => ∃ v', e = .returned v' ∧ Own w' base v' (xs ++ cat enc ls) ∧ Below base w w' := by
  rcases hcell with rfl | ⟨b, o, rfl, h1, h2⟩
  · refine (number_none v a c w).mono ?_
    rintro e w' ⟨rfl, rfl⟩
    exact ⟨v, rfl, by simpa [cat] using hown, Below.refl _ _⟩
  · exact number_some base v xs ls b o c w hl hown hbase hlen h1 h2

set_option maxRecDepth 100000 in
set_option maxHeartbeats 1000000 in
theorem signed_some (base : Nat) (v : Value) (xs : List Int) (ls : List Int) (b o c : Nat) (w : World) (hl : ∀ n ∈ ls, -9223372036854775808 ≤ n ∧ n ≤ 9223372036854775807) (hown : Own w base v xs) (hbase : base ≤ w.heap.size) (hlen : xs.length + 11 * ls.length ≤ 10000000)
    (hcell : Rest w 0 ls.length b o fun t => .int .i64 (ls.getD t 0)) (hs : b < base ∨ ls.length ≤ 1) :
    Calls Try.prog 48 #[v, .slice (some ⟨b, o, none⟩) ls.length c] w fun e w' => ∃ v', e = .returned v' ∧ Own w' base v' (xs ++ cat encS ls) ∧ Below base w w' := by
  go_enter Try.func48, Try.ntmps48
  go_wp2
  go_loopw [0, 9] (fun u i wr => ∃ k : Nat, k ≤ ls.length ∧ i = .int .i64 k ∧ Own wr base u (xs ++ cat encS (ls.take k)) ∧ Below base w wr ∧ Hid (Rest wr k ls.length b o fun t => .int .i64 (ls.getD t 0)))
    (fun _ i _ => ls.length - (intOf i).toNat)
  case atStart => exact ⟨0, Nat.zero_le _, rfl, by simpa [cat] using hown, Below.refl _ _, hcell⟩
  case round =>
    obtain ⟨k, hk, rfl, ho, hbw, hr⟩ := hrel
    have hsz := hbw.size
    have hcl := cat_len encS 11 (ls.take k) fun x hx => encS_len11 x (hl x (mem_take hx)).1 (hl x (mem_take hx)).2
    have htl : (ls.take k).length ≤ ls.length := by simp; omega
    clear hcell hown
    by_cases hlt : k < ls.length
    · have hc : wr.cell? ⟨b, o + k, none⟩ = some (.int .i64 (ls.getD k 0)) := hr.out k (Nat.le_refl _) hlt
      have hct := cat_take encS ls 0 k hlt
      have hn := hl _ (getD_mem ls 0 k hlt)
      have HN : Hid (∀ (u : Value) (w1 : World), Own w1 base u (xs ++ cat encS (ls.take k) ++ encS (ls.getD k 0)) → Own w1 base u (xs ++ cat encS (ls.take (k + 1)))) := fun u w1 h => h.cast (by rw [hct]; simp)
      clear hct
      obtain ⟨n, hnn⟩ : ∃ n, n = ls.getD k 0 := ⟨_, rfl⟩
      rw [← hnn] at hc hn HN
      clear hnn
      go_wp2_with (go_at_call 58; refine (appendSigned_any base _ _ n _ hn.1 hn.2 ho (by omega) (by simp only [List.length_append]; omega)).mono ?_; rintro e w1 ⟨v1, rfl, ho1, hb1⟩)
      go_roundw
      case rel => exact ⟨k + 1, by omega, by go_num, HN.out _ _ ho1, hbw.trans hb1, hr.out.next hb1 hs⟩
      case measure => simp [intOf]; omega
    · obtain rfl : k = ls.length := by omega
      rw [List.take_of_length_le (Nat.le_refl _)] at ho
      go_wp2
      go_ret
      exact ⟨_, rfl, ho, hbw⟩

set_option maxRecDepth 100000 in
theorem signed_none (v : Value) (a : Option Addr) (c : Nat) (w : World) :
    Calls Try.prog 48 #[v, .slice a 0 c] w fun e w' => e = .returned v ∧ w' = w := by
  go_enter Try.func48, Try.ntmps48
  go_wp2
  refine wp_loop_rounds 1 ?_
  rw [rounds_succ]
  go_wp2
  go_ret
  exact ⟨rfl, rfl⟩

/-- quill.Signed(v, ls...): what is written lies behind what v owns. -/
theorem signed_any (base : Nat) (v : Value) (xs : List Int) (ls : List Int) (a : Option Addr) (c : Nat) (w : World) (hl : ∀ n ∈ ls, -9223372036854775808 ≤ n ∧ n ≤ 9223372036854775807) (hown : Own w base v xs) (hbase : base ≤ w.heap.size) (hlen : xs.length + 11 * ls.length ≤ 10000000)
    (hcell : ls = [] ∨ ∃ b o, a = some ⟨b, o, none⟩ ∧ Rest w 0 ls.length b o (fun t => .int .i64 (ls.getD t 0)) ∧ (b < base ∨ ls.length ≤ 1)) :
    Calls Try.prog 48 #[v, .slice a ls.length c] w fun e w' => ∃ v', e = .returned v' ∧ Own w' base v' (xs ++ cat encS ls) ∧ Below base w w' := by
  rcases hcell with rfl | ⟨b, o, rfl, h1, h2⟩
  · refine (signed_none v a c w).mono ?_
    rintro e w' ⟨rfl, rfl⟩
    exact ⟨v, rfl, by simpa [cat] using hown, Below.refl _ _⟩
  · exact signed_some base v xs ls b o c w hl hown hbase hlen h1 h2
end Go.Proofs.Ytfbeilninpapaaa
