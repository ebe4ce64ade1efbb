/-
  Proved here: 'klaxonlaw01.QuillShort' (P1.4), called with any number, text and place to cut at, in any memory, returns true, and its arguments read afterwards as they read before: what is cut off within a number or a text is told to end too early, and the strip stays ahead of it. No condition beyond the row's own.
-/
import Derived.Test.YtjieelpbifdfbabRows
import Derived.WalkKit
import Derived.ProofKit
import Derived.OpenShut
import Derived.ShutString
import Derived.ChangeOld
import Derived.Below
import Derived.Test.YtjieelpbifdfbabLive
import Derived.Test.YtjieelpbifdfbabRound
import Derived.Test.YtjieelpbifdfbabArgs
namespace Go.Proofs.Ytjieelpbifdfbab.quillShort
open Go.ChangeShapes Go.WideShapes Go.ChangeAt Go.RowKit
open Go.ChangeMaps (open_string shut_string)
set_option linter.unusedVariables false

theorem own : ownKnob Try.prog.godebug = none := by kernel_rfl

/-! ### The mathematics -/
theorem rdN_cut (n : Nat) (hn : n < 2 ^ 64) : ∀ (k : Nat) (j : Nat) (f : Bool) (i : Nat), j ≤ k → (f = true → 0 < n / 128 ^ k % 128) → rdN f (n / 128 ^ (k + 1)) i ((hi n k).take j) = (0, 0, 3) := by
  intro k
  induction k with
  | zero =>
    intro j f i hj _
    have : j = 0 := by omega
    subst this; rfl
  | succ k ih =>
    intro j f i hj hf
    cases j with
    | zero => rfl
    | succ j =>
      have hd := div_step n (k + 1)
      have hle : n / 128 ^ (k + 1) ≤ 144115188075855871 := by
        have h1 : n / 128 ^ (k + 1) ≤ n / 128 := by
          rw [Nat.pow_succ, Nat.mul_comm, ← Nat.div_div_eq_div_mul]
          exact Nat.div_le_self _ _
        omega
      rw [hi, List.take_succ_cons, rdN]
      have ht : (((n / 128 ^ (k + 1) % 128 + 128 : Nat) : Int)).toNat % 128 = n / 128 ^ (k + 1) % 128 := by rw [Int.toNat_natCast]; omega
      rw [ht, hd, if_neg, if_neg (by omega), if_neg (by omega), ih j false (i + 1) (by omega) (by simp)]
      rintro ⟨h1, h2⟩
      have := hf h1
      omega
/-- A number that is cut off ends too early. -/
theorem rdN_short (n : Nat) (hn : n < 2 ^ 64) (j : Nat) (hj : j < (enc n).length) : rdN true 0 0 ((enc n).take j) = (0, 0, 3) := by
  rw [enc_length] at hj
  have h0 : n / 128 ^ (ahead n + 1) = 0 := Nat.div_eq_of_lt (lt_ahead n)
  have he : (enc n).take j = (hi n (ahead n)).take j := by
    unfold enc
    rw [List.take_append_of_le_length (by rw [hi_length]; omega)]
  cases j with
  | zero => rfl
  | succ j =>
    have ha : 0 < ahead n := by omega
    have hp : 0 < n := by
      rcases Nat.eq_zero_or_pos n with h | h
      · subst h; exact absurd (by decide : ahead 0 = 0) (by omega)
      · exact h
    have h := rdN_cut n hn (ahead n) (j + 1) true 0 (by omega) (by
      intro _
      have h1 := ahead_le n hp
      have h2 := lt_ahead n
      have h3 : 0 < n / 128 ^ ahead n := Nat.div_pos h1 (Nat.pos_of_ne_zero (by simp))
      have h4 : n / 128 ^ ahead n < 128 := by
        rw [Nat.div_lt_iff_lt_mul (Nat.pos_of_ne_zero (by simp))]
        rw [Nat.pow_succ] at h2; omega
      omega)
    rw [h0] at h
    rw [he]; exact h
/-- A text that is cut off ends too early. -/
theorem rdT_short (s : ByteArray) (hs : s.size < 2 ^ 64) (j : Nat) (hj : j < (encT s).length) : rdT s.size ((encT s).take j) = ([], 0, 3) := by
  unfold encT at hj ⊢
  rw [List.length_append, numsS_length] at hj
  by_cases h : j < (enc s.size).length
  · rw [List.take_append_of_le_length (by omega)]
    unfold rdT
    rw [rdN_short s.size hs j h]
    rfl
  · have he : (enc s.size ++ numsS s).take j = enc s.size ++ (numsS s).take (j - (enc s.size).length) := by
      rw [List.take_append, List.take_of_length_le (by omega)]
    rw [he]
    unfold rdT
    rw [rdN_enc s.size hs]
    simp only [if_pos]
    rw [if_neg (by omega), List.drop_left, if_pos (by rw [List.length_take, numsS_length]; omega)]

/-! ### The walk -/
theorem number_one (n : Nat) (hn : n < 2 ^ 64) (w : World) : Calls Try.prog 6 #[.slice none 0 0, .slice (some ⟨w.heap.size, 0, none⟩) 1 1] (w.alloc (.cells #[.int .u64 n] 22)) fun e w' => ∃ a c, e = .returned (.slice a (enc n).length c) ∧ Own w' w.heap.size (.slice a (enc n).length c) (enc n) ∧ Below w.heap.size w w' := by
  refine (number_any w.heap.size _ [] [n] _ _ _ (by simpa using hn) (World.ownsRow_nil _ _ _ _) (by simp) (by simp) (.inr ⟨w.heap.size, 0, rfl, ?_, .inr (by simp)⟩)).mono ?_
  · intro t _ ht
    have : t = 0 := by simp at ht; omega
    subst this
    simp
  · rintro e w' ⟨v, rfl, ho, hb⟩
    have ho' : Own w' w.heap.size v (enc n) := by simpa [cat] using ho
    obtain ⟨a, c, rfl⟩ := ho'.shape
    exact ⟨a, c, rfl, ho', ((Below.refl _ _).alloc (Nat.le_refl _) _).trans hb⟩
theorem text_one (base : Nat) (v : Value) (xs : List Int) (s : ByteArray) (B : List Int) (hB : B = xs ++ encT s) (w : World) (hs : s.size ≤ 20000) (hx : xs.length ≤ 10) (ho : Own w base v xs) (hbase : base ≤ w.heap.size) :
    Calls Try.prog 5 #[v, .slice (some ⟨w.heap.size, 0, none⟩) 1 1] (w.alloc (.cells #[.string s] 9)) fun e w' => ∃ a c, e = .returned (.slice a B.length c) ∧ Own w' base (.slice a B.length c) B ∧ Below base w w' := by
  subst hB
  refine (text_any base v xs [s] _ _ _ (by simp [total]; omega) (ho.alloc _) (by simp; omega) (by simp; omega) (.inr ⟨w.heap.size, 0, rfl, ?_, .inr (by simp)⟩)).mono ?_
  · intro t _ ht
    have : t = 0 := by simp at ht; omega
    subst this
    simp
  · rintro e w' ⟨v, rfl, ho, hb⟩
    have ho' : Own w' base v (xs ++ encT s) := by simpa [cat] using ho
    obtain ⟨a, c, rfl⟩ := ho'.shape
    exact ⟨a, c, rfl, ho', ((Below.refl _ _).alloc hbase _).trans hb⟩
theorem draw_bel {W w5 : World} (h : ∃ m, w5 = W.drewN m) : Below W.heap.size W w5 := by obtain ⟨m, rfl⟩ := h; exact below_draw _ m
set_option maxRecDepth 100000 in
set_option maxHeartbeats 1000000 in
theorem walk_out (n : Int) (s : ByteArray) (cut : Int) (w : World) (h : 20000 < s.size) (hs : s.size ≤ maxLen) :
    Calls Try.prog 3 #[.int .u64 n, .string s, .int .i64 cut] w fun e w' => e = .returned (.bool true) ∧ Below w.heap.size w w' := by
  go_enter Try.func3, Try.ntmps3
  go_wp2_with (go_at_call 4; refine (live_any _).mono ?_; rintro e w1 ⟨rfl, hb1⟩)
  go_ret
  exact ⟨rfl, hb1⟩
set_option maxRecDepth 100000 in
set_option maxHeartbeats 2000000 in
theorem walk_far (n : Nat) (s : ByteArray) (cut : Int) (w : World) (hn : n < 2 ^ 64) (h : s.size ≤ 20000) (hc : cut < 0 ∨ 0 ≤ cut ∧ ((enc n ++ encT s).length : Int) ≤ cut) :
    Calls Try.prog 3 #[.int .u64 n, .string s, .int .i64 cut] w fun e w' => e = .returned (.bool true) ∧ Below w.heap.size w w' := by
  have hl := enc_len10 n hn
  obtain ⟨B, hB⟩ : ∃ B, B = enc n ++ encT s := ⟨_, rfl⟩
  rw [← hB] at hc
  replace hB : Hid (_ = _) := hB
  rcases hc with hc | ⟨hc0, hc⟩
  all_goals
    go_enter Try.func3, Try.ntmps3
    go_wp2_with (first | (go_at_call 6; refine (number_one n hn w).mono ?_; rintro e w1 ⟨a1, c1, rfl, ho1, hb1⟩) | (go_at_call 5; refine (text_one w.heap.size _ (enc n) s B hB.out w1 h hl ho1 hb1.size).mono ?_; rintro e w2 ⟨a2, c2, rfl, ho2, hb2⟩; have hB2 := hb1.trans hb2) | (go_at_call 4; refine (live_any _).mono ?_; rintro e w3 ⟨rfl, hb3⟩))
    go_ret
    exact ⟨rfl, hB2.trans (hb3.mono hB2.size)⟩

/-- What the two readings of the bytes that are left answer. -/
theorem read_cut (n : Nat) (s : ByteArray) (cut : Nat) (hn : n < 2 ^ 64) (h : s.size ≤ 20000) (B : List Int) (hB : B = enc n ++ encT s) (hc : cut < B.length)
    (x pl : Nat) (hx : x = if cut < (enc n).length then 0 else n) (hp : pl = if cut < (enc n).length then 0 else (enc n).length) (hbb : IsBytes (B.take cut)) (hbl : (B.take cut).length ≤ 1000000) :
    ∀ (lo g : Nat) (W : World), IsStrip W lo g (B.take cut) 0 0 → Calls Try.prog 8 #[.pointer (some ⟨g, 0, none⟩)] W fun e w' => e = .returned (.int .u64 x) ∧
      (∃ er : Int, IsStrip w' lo g (B.take cut) pl er ∧ ∀ W2, IsStrip W2 lo g (B.take cut) pl er → Calls Try.prog 9 #[.pointer (some ⟨g, 0, none⟩), .int .i64 s.size] W2 fun e w' => e = .returned (.string ⟨#[]⟩) ∧ IsStrip w' lo g (B.take cut) pl 3 ∧ W2.grownBy w' (some g)) ∧ W.grownBy w' (some g) := by
  subst hB
  intro lo g W hs
  have h1 := stripNumber_any lo g _ 0 0 W hs hbb (by omega)
  rw [List.drop_zero] at h1
  by_cases hcf : cut < (enc n).length
  · rw [if_pos hcf] at hx hp
    subst hx hp
    have hr : rdN true 0 0 ((enc n ++ encT s).take cut) = (0, 0, 3) := by
      rw [List.take_append_of_le_length (by omega)]; exact rdN_short n hn cut hcf
    rw [hr] at h1
    refine h1.mono ?_
    rintro e w' ⟨rfl, hs', hG⟩
    refine ⟨rfl, ⟨3, by simpa [nextP, nextE] using hs', fun W2 hs2 => ?_⟩, hG⟩
    have h2 := stripText_any lo g _ 0 3 s.size W2 (by omega) (by omega) hs2 hbb (by omega)
    simpa [nextV, nextP, nextE, strOf_nil] using h2
  · rw [if_neg hcf] at hx hp
    subst hx hp
    have he : (enc x ++ encT s).take cut = enc x ++ (encT s).take (cut - (enc x).length) := by
      rw [List.take_append, List.take_of_length_le (by omega)]
    have hr : rdN true 0 0 ((enc x ++ encT s).take cut) = (x, (enc x).length, 0) := by rw [he]; exact rdN_enc x hn _
    rw [hr] at h1
    refine h1.mono ?_
    rintro e w' ⟨rfl, hs', hG⟩
    refine ⟨rfl, ⟨0, by simpa [nextP, nextE] using hs', fun W2 hs2 => ?_⟩, hG⟩
    have h2 := stripText_any lo g _ (enc x).length 0 s.size W2 (by omega) (by omega) hs2 hbb (by omega)
    have hr2 : rdT (s.size : Int).toNat (((enc x ++ encT s).take cut).drop (enc x).length) = ([], 0, 3) := by
      rw [he, List.drop_left, Int.toNat_natCast]
      refine rdT_short s (by omega) _ ?_
      rw [List.length_append] at hc; omega
    rw [hr2] at h2
    simpa [nextV, nextP, nextE, strOf_nil] using h2
theorem over3 (bs : List Int) (pl : Nat) : over bs pl 3 = 3 := rfl
theorem okP3 (pl : Nat) : okP pl 3 = pl := rfl
set_option maxRecDepth 100000 in
set_option maxHeartbeats 4000000 in
theorem walk_in (n : Nat) (s : ByteArray) (cut : Nat) (w : World) (hn : n < 2 ^ 64) (h : s.size ≤ 20000) (hc0 : cut < (enc n ++ encT s).length) :
    Calls Try.prog 3 #[.int .u64 n, .string s, .int .i64 cut] w fun e w' => e = .returned (.bool true) ∧ Below w.heap.size w w' := by
  have hl := enc_len10 n hn
  have hlt := encT_len s (by omega)
  obtain ⟨B, hB⟩ : ∃ B, B = enc n ++ encT s := ⟨_, rfl⟩
  have hc : cut < B.length := by rw [hB]; exact hc0
  have hbb : IsBytes (B.take cut) := fun c hc => isBytes_append (isBytes_enc n) (isBytes_encT s) c (by rw [← hB]; exact List.mem_of_mem_take hc)
  have hbl : (B.take cut).length ≤ 1000000 := by rw [List.length_take, hB, List.length_append]; omega
  have hread0 := read_cut n s cut hn h B hB hc _ _ rfl rfl hbb hbl
  have hBL : B.length ≤ 1000000 := by rw [hB, List.length_append]; omega
  replace hB : Hid (_ = _) := hB
  clear hc0 hlt hbb
  have tok1 : True := trivial
  by_cases hcf : cut < (enc n).length
  · have hread := hread0
    rw [if_pos hcf, if_pos hcf] at hread
    clear hread0
    go_enter Try.func3, Try.ntmps3
    go_wp2_with (first | (go_at_call 6; have _t := tok1; refine (number_one n hn w).mono ?_; rintro e w1 ⟨a1, c1, rfl, ho1, hb1⟩; clear tok1) | (go_at_call 5; refine (text_one w.heap.size _ (enc n) s B hB.out w1 h hl ho1 hb1.size).mono ?_; rintro e w2 ⟨a2, c2, rfl, ho2, hb2⟩; have hB2 := hb1.trans hb2) | (go_at_call 6; refine (number_one n hn w2).mono ?_; rintro e w3 ⟨a3, c3, rfl, ho3, hb3⟩; have hB3 := hB2.trans (hb3.mono hB2.size); have hbt := ho2.bts.grow hb3; obtain ⟨v3, hr3, hb3'⟩ := slice_toI hbt cut (by omega); clear ho1 ho2 ho3 hb1 hb2 hb3 hbt) | (go_at_call 7; refine (unroll_any _ v3 w3 (by omega) hb3').mono ?_; rintro e w4 ⟨g, rfl, hg, hs4, hb4⟩; have hB4 := hB3.trans (hb4.mono hB3.size); have hz3 := hB3.size; clear hb4) | (go_at_call 8; refine (hread _ g w4 hs4).mono ?_; rintro e w5 ⟨rfl, ⟨er, hs5, hcall5⟩, hG5⟩; have hB5 := hB4.grown hG5 hB4.size (by intro k hk; cases hk; omega); clear hG5 hs4 hread) | (go_at_call 9; refine (hcall5 _ hs5).mono ?_; rintro e w6 ⟨rfl, hs6, hG6⟩; have hB6 := hB5.grown hG6 hB5.size (by intro k hk; cases hk; omega); clear hG6 hs5 hcall5) | (go_at_call 10; refine (bad_any _ g _ _ 3 w6 hs6).mono ?_; rintro e w7 ⟨rfl, hw7⟩; have hb7 := draw_bel hw7; have hs7 := (strip_stay hs6 hb7).1; have hB7 := hB6.trans (hb7.mono hB6.size); clear hw7 hb7 hs6; have hok := okP3) | (go_at_call 11; refine (num_any _ _ (by omega) (by omega)).mono ?_; rintro e w9 ⟨rfl, hw9⟩; subst w9) | (go_at_call 12; refine (where_any _ g _ _ 3 w7 hs7).mono ?_; rintro e w8 ⟨rfl, hw8⟩; have hb8 := draw_bel hw8; have hs8 := (strip_stay hs7 hb8).1; have hB8 := hB7.trans (hb8.mono hB7.size); have hB9 := hB8; clear hw8 hb8) | (go_at_call 13; refine (over_any _ g _ _ 3 w8 hs8 (by omega)).mono ?_; rintro e w9 ⟨rfl, hw9⟩; rw [over3]; have hb9 := draw_bel hw9; have hB9 := hB8.trans (hb9.mono hB8.size); clear hw9 hb9) | (go_at_call 4; refine (live_any _).mono ?_; rintro e w10 ⟨rfl, hb10⟩))
    go_ret
    exact ⟨rfl, hB9.trans (hb10.mono hB9.size)⟩
  · have hread := hread0
    rw [if_neg hcf, if_neg hcf] at hread
    clear hread0
    go_enter Try.func3, Try.ntmps3
    go_wp2_with (first | (go_at_call 6; have _t := tok1; refine (number_one n hn w).mono ?_; rintro e w1 ⟨a1, c1, rfl, ho1, hb1⟩; clear tok1) | (go_at_call 5; refine (text_one w.heap.size _ (enc n) s B hB.out w1 h hl ho1 hb1.size).mono ?_; rintro e w2 ⟨a2, c2, rfl, ho2, hb2⟩; have hB2 := hb1.trans hb2) | (go_at_call 6; refine (number_one n hn w2).mono ?_; rintro e w3 ⟨a3, c3, rfl, ho3, hb3⟩; have hB3 := hB2.trans (hb3.mono hB2.size); have hbt := ho2.bts.grow hb3; obtain ⟨v3, hr3, hb3'⟩ := slice_toI hbt cut (by omega); clear ho1 ho2 ho3 hb1 hb2 hb3 hbt) | (go_at_call 7; refine (unroll_any _ v3 w3 (by omega) hb3').mono ?_; rintro e w4 ⟨g, rfl, hg, hs4, hb4⟩; have hB4 := hB3.trans (hb4.mono hB3.size); have hz3 := hB3.size; clear hb4) | (go_at_call 8; refine (hread _ g w4 hs4).mono ?_; rintro e w5 ⟨rfl, ⟨er, hs5, hcall5⟩, hG5⟩; have hB5 := hB4.grown hG5 hB4.size (by intro k hk; cases hk; omega); clear hG5 hs4 hread) | (go_at_call 9; refine (hcall5 _ hs5).mono ?_; rintro e w6 ⟨rfl, hs6, hG6⟩; have hB6 := hB5.grown hG6 hB5.size (by intro k hk; cases hk; omega); clear hG6 hs5 hcall5) | (go_at_call 10; refine (bad_any _ g _ _ 3 w6 hs6).mono ?_; rintro e w7 ⟨rfl, hw7⟩; have hb7 := draw_bel hw7; have hs7 := (strip_stay hs6 hb7).1; have hB7 := hB6.trans (hb7.mono hB6.size); clear hw7 hb7 hs6; have hok := okP3) | (go_at_call 11; refine (num_any _ _ (by omega) (by omega)).mono ?_; rintro e w9 ⟨rfl, hw9⟩; subst w9) | (go_at_call 12; refine (where_any _ g _ _ 3 w7 hs7).mono ?_; rintro e w8 ⟨rfl, hw8⟩; have hb8 := draw_bel hw8; have hs8 := (strip_stay hs7 hb8).1; have hB8 := hB7.trans (hb8.mono hB7.size); have hB9 := hB8; clear hw8 hb8) | (go_at_call 13; refine (over_any _ g _ _ 3 w8 hs8 (by omega)).mono ?_; rintro e w9 ⟨rfl, hw9⟩; rw [over3]; have hb9 := draw_bel hw9; have hB9 := hB8.trans (hb9.mono hB8.size); clear hw9 hb9) | (go_at_call 4; refine (live_any _).mono ?_; rintro e w10 ⟨rfl, hb10⟩))
    go_ret
    exact ⟨rfl, hB9.trans (hb10.mono hB9.size)⟩

theorem walk (a0 : Int) (a1 : ByteArray) (a2 : Int) (w0 : (Lit.int .u64 a0).wf = true) (w1 : a1.size ≤ maxLen) (w : World) :
    Calls Try.prog 3 #[.int .u64 a0, .string a1, .int .i64 a2] w fun e w' => e = .returned (.bool true) ∧ Below w.heap.size w w' := by
  have hb := u64_bounds a0 w0
  obtain ⟨n, rfl⟩ : ∃ n : Nat, a0 = n := ⟨a0.toNat, by omega⟩
  by_cases hs : 20000 < a1.size
  · exact walk_out n a1 a2 w hs w1
  · by_cases hf : a2 < 0 ∨ 0 ≤ a2 ∧ ((enc n ++ encT a1).length : Int) ≤ a2
    · exact walk_far n a1 a2 w (by omega) (by omega) hf
    · obtain ⟨cut, rfl⟩ : ∃ k : Nat, a2 = k := ⟨a2.toNat, by omega⟩
      exact walk_in n a1 cut w (by omega) (by omega) (by omega)

/-! ### The row's step -/
set_option maxRecDepth 100000 in
theorem lifted (os : Os) (started : os.Started) (H : Type) (enc : TypeId × Value → H) :
    ReturnsInHanded {} Try.checked os 3 .any (Rows.quillShortSpec.pre6 enc Try.prog Try.f3 Rows.quillShortRow.domain false) (Rows.quillShortSpec.post enc Try.prog Try.f3 false true false false) := by
  refine returnsInHanded_of_change (C := Try.checked) own started (by kernel_rfl) Try.func3
    (ChangeSpec.witness6 (enc := enc) (C := Try.checked) false ⟨#[], #[.int .u64 0, .string ByteArray.empty, .int .i64 0], []⟩ 8 (by kernel_rfl) (by kernel_rfl) (by kernel_rfl) (by kernel_rfl)) ?_
  intro W base args ds gs before hval0 hW hcnd _
  have hval : ∀ (j : Nat) t v, Try.f3.params[j]? = some t → args[j]? = some v → Value.okWide Try.prog W .any base t v := hval0
  have hW' := hW
  obtain ⟨p, q, hA0, hV, rfl, hfz, hnd⟩ := hW
  have hA : DataW.TrodAll enc Try.prog W 0 (fun _ => true) true Try.f3.params.toList args.toList ds p := hA0
  rw [Try.params3] at hA hval
  obtain ⟨v0, vs0, d0, ds0, p0, q0, hargs, rfl, rfl, h0, r0⟩ := trodAll_cons hA
  obtain ⟨v1, vs1, d1, ds1, p1, q1, rfl, rfl, rfl, h1, r1⟩ := trodAll_cons r0
  obtain ⟨v2, vs2, d2, ds2, p2, q2, rfl, rfl, rfl, h2, r2⟩ := trodAll_cons r1
  obtain ⟨rfl, rfl, rfl⟩ := trodAll_nil r2
  obtain rfl : args = #[v0, v1, v2] := by cases args; simp_all
  obtain ⟨rfl, rfl⟩ := trodVars_none hV
  obtain ⟨a0, rfl, rfl, rfl, w0⟩ := open_int Try.underlying22 (hval 0 22 v0 rfl rfl) h0
  obtain ⟨a1, rfl, rfl, rfl, w1⟩ := open_string Try.underlying9 (hval 1 9 v1 rfl rfl) h1
  obtain ⟨a2, rfl, rfl, rfl, w2⟩ := open_int Try.underlying3 (hval 2 3 v2 rfl rfl) h2
  clear hA0 hval0
  simp only [List.append_nil] at hW'
  refine (walk a0 a1 a2 w0 w1 W).mono fun e W' ⟨he, bel⟩ => ?_
  subst he
  exact ⟨_, rfl, _, _, _, [], _, [], hW', trodAll_mk1 (shut_bool Try.underlying4 _), (trodAll_cons_mk (shut_int Try.underlying22 w0) (trodAll_cons_mk (shut_string Try.underlying9 w1) (trodAll_cons_mk (shut_int Try.underlying3 w2) trodAll_mk0))), rfl, bel.frame _, fun h => by cases h⟩

theorem over : Rows.quillShortRow.holds Try.pinned (OpenSpec.ofChange Rows.quillShortSpec) :=
  OpenClaim.holds_of_wide 3 Try.f3 rfl rfl rfl rfl rfl rfl rfl ⟨rfl, rfl, rfl, rfl, rfl⟩ rfl rfl rfl rfl rfl (by kernel_rfl) Try.func3 (by kernel_rfl)
    (of_decide_eq_true (by kernel_rfl)) (by unfold Func.isWrapper; first | (rw [if_pos (by decide +kernel)]; kernel_rfl) | (rw [if_neg (by decide +kernel)]; exact ⟨rfl, rfl⟩))
    (fun os started H enc _ => lifted os started H enc)

end Go.Proofs.Ytjieelpbifdfbab.quillShort
namespace Go.Proofs.Ytjieelpbifdfbab
/-- The statement. -/
theorem quillShort_holds : Rows.QuillShortSaid := quillShort.over
#print axioms quillShort_holds
end Go.Proofs.Ytjieelpbifdfbab
