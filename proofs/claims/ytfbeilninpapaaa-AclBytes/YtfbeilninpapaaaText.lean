/- The contracts of quill.Text, bytes.Clone and quill.Unroll. -/
import Derived.Test.YtfbeilninpapaaaLaws2
namespace Go.Proofs.Ytfbeilninpapaaa
open Go.RowKit
/-- A text's bytes. -/
def encT (s : ByteArray) : List Int := enc s.size ++ numsS s
theorem encT_len (s : ByteArray) (h : s.size < 2 ^ 64) : (encT s).length ≤ 10 + s.size := by
  have := enc_len10 s.size h
  simp only [encT, List.length_append, numsS_length]; omega
/-- The bytes of all texts. -/
def total (ss : List ByteArray) : Nat := (ss.map ByteArray.size).sum
theorem total_le (ss : List ByteArray) (s : ByteArray) (h : s ∈ ss) : s.size ≤ total ss := by
  induction ss with
  | nil => cases h
  | cons a r ih =>
    simp only [total, List.map_cons, List.sum_cons] at *
    rcases List.mem_cons.1 h with rfl | h
    · omega
    · have := ih h; omega
theorem total_take (ss : List ByteArray) (k : Nat) : total (ss.take k) ≤ total ss := by
  induction ss generalizing k with
  | nil => simp
  | cons a r ih =>
    cases k with
    | zero => simp [total]
    | succ k =>
      have := ih k
      simp only [total, List.take_succ_cons, List.map_cons, List.sum_cons] at *; omega
theorem catT_len (ss : List ByteArray) (h : total ss < 2 ^ 64) : (cat encT ss).length ≤ 10 * ss.length + total ss := by
  induction ss with
  | nil => simp [cat]
  | cons a r ih =>
    simp only [total, List.map_cons, List.sum_cons] at h
    have h1 := ih (by unfold total; omega)
    have h2 := encT_len a (by omega)
    simp only [cat, total, List.map_cons, List.flatten_cons, List.length_append, List.length_cons, List.sum_cons] at *
    omega

set_option maxRecDepth 100000 in
set_option maxHeartbeats 1000000 in
theorem text_some (base : Nat) (v : Value) (xs : List Int) (ls : List ByteArray) (b o c : Nat) (w : World) (hl : total ls ≤ 1000000) (hown : Own w base v xs) (hbase : base ≤ w.heap.size) (hlen : xs.length + 10 * ls.length ≤ 10000000)
    (hcell : Rest w 0 ls.length b o fun t => .string (ls.getD t ByteArray.empty)) (hs : b < base ∨ ls.length ≤ 1) :
    Calls Try.prog 46 #[v, .slice (some ⟨b, o, none⟩) ls.length c] w fun e w' => ∃ v', e = .returned v' ∧ Own w' base v' (xs ++ cat encT ls) ∧ Below base w w' := by
  go_enter Try.func46, Try.ntmps46
  go_wp2
  go_loopw [0, 9] (fun u i wr => ∃ k : Nat, k ≤ ls.length ∧ i = .int .i64 k ∧ Own wr base u (xs ++ cat encT (ls.take k)) ∧ Below base w wr ∧ Hid (Rest wr k ls.length b o fun t => .string (ls.getD t ByteArray.empty)))
    (fun _ i _ => ls.length - (intOf i).toNat)
  case atStart => exact ⟨0, Nat.zero_le _, rfl, by simpa [cat] using hown, Below.refl _ _, hcell⟩
  case round =>
    obtain ⟨k, hk, rfl, ho, hbw, hr⟩ := hrel
    have hsz := hbw.size
    have htt := total_take ls k
    have hcl := catT_len (ls.take k) (by omega)
    have htl : (ls.take k).length ≤ ls.length := by simp; omega
    clear hcell hown
    by_cases hlt : k < ls.length
    · have hc : wr.cell? ⟨b, o + k, none⟩ = some (.string (ls.getD k ByteArray.empty)) := hr.out k (Nat.le_refl _) hlt
      have hct := cat_take encT ls ByteArray.empty k hlt
      have hn := total_le ls _ (getD_mem ls ByteArray.empty k hlt)
      have HN : Hid (∀ (u : Value) (w1 : World), Own w1 base u (xs ++ cat encT (ls.take k) ++ encT (ls.getD k ByteArray.empty)) → Own w1 base u (xs ++ cat encT (ls.take (k + 1)))) := fun u w1 h => h.cast (by rw [hct]; simp)
      clear hct
      obtain ⟨n, hnn⟩ : ∃ n, n = ls.getD k ByteArray.empty := ⟨_, rfl⟩
      rw [← hnn] at hc hn HN
      clear hnn
      have hsn : n.size < 2 ^ 64 := by omega
      go_wp2_with (first | (go_at_call 57; refine (appendNumber_any base _ _ n.size _ hsn ho (by omega) (by simp only [List.length_append]; omega)).mono ?_; rintro e w1 ⟨v1, rfl, ho1, hb1⟩) | (at_builtin; refine appS rfl (.tmp 17) (.tmp 18) rfl base _ _ n rfl rfl ho1 (by have := hb1.size; omega) (by have := enc_len10 n.size hsn; simp only [List.length_append]; omega) ?_; intro v2 w2 ho2 hb2))
      go_roundw
      case rel => exact ⟨k + 1, by omega, by go_num, HN.out _ _ (ho2.cast (by simp [encT])), (hbw.trans hb1).trans hb2, hr.out.next (hb1.trans hb2) hs⟩
      case measure => simp [intOf]; omega
    · obtain rfl : k = ls.length := by omega
      rw [List.take_of_length_le (Nat.le_refl _)] at ho
      go_wp2
      go_ret
      exact ⟨_, rfl, ho, hbw⟩


set_option maxRecDepth 100000 in
theorem text_none (v : Value) (a : Option Addr) (c : Nat) (w : World) :
    Calls Try.prog 46 #[v, .slice a 0 c] w fun e w' => e = .returned v ∧ w' = w := by
  go_enter Try.func46, Try.ntmps46
  go_wp2
  refine wp_loop_rounds 1 ?_
  rw [rounds_succ]
  go_wp2
  go_ret
  exact ⟨rfl, rfl⟩

/-- quill.Text(v, ls...): what is written lies behind what v owns. -/
theorem text_any (base : Nat) (v : Value) (xs : List Int) (ls : List ByteArray) (a : Option Addr) (c : Nat) (w : World) (hl : total ls ≤ 1000000) (hown : Own w base v xs) (hbase : base ≤ w.heap.size) (hlen : xs.length + 10 * ls.length ≤ 10000000)
    (hcell : ls = [] ∨ ∃ b o, a = some ⟨b, o, none⟩ ∧ Rest w 0 ls.length b o (fun t => .string (ls.getD t ByteArray.empty)) ∧ (b < base ∨ ls.length ≤ 1)) :
    Calls Try.prog 46 #[v, .slice a ls.length c] w fun e w' => ∃ v', e = .returned v' ∧ Own w' base v' (xs ++ cat encT ls) ∧ Below base w w' := by
  rcases hcell with rfl | ⟨b, o, rfl, h1, h2⟩
  · refine (text_none v a c w).mono ?_
    rintro e w' ⟨rfl, rfl⟩
    exact ⟨v, rfl, by simpa [cat] using hown, Below.refl _ _⟩
  · exact text_some base v xs ls b o c w hl hown hbase hlen h1 h2
end Go.Proofs.Ytfbeilninpapaaa
