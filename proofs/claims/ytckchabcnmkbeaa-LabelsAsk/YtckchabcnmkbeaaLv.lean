/- live. -/
import Derived.Test.YtckchabcnmkbeaaMb
namespace Go.Proofs.Ytckchabcnmkbeaa
set_option linter.unusedVariables false
open Go.RowKit
section
variable {α : Type} {E : Enc α}
/-- A row in a new block of its own. -/
theorem sls_new (w : World) (l : List α) (cs : Array Value) (ty : TypeId) (hcs : cs.toList = flat E l) (n : Nat) (hn : n = l.length) : Sls E (w.alloc (.cells cs ty)) (.slice (some ⟨w.heap.size, 0, none⟩) n n) l := by
  subst hn
  refine ⟨_, l.length, rfl, ⟨(fun e => by cases e), Nat.le_refl _⟩, .inr ⟨w.heap.size, 0, rfl, fun t ht i u hu => ?_⟩⟩
  have hi : i < E.k := by
    rw [← E.len (l.getD t E.d)]
    rcases Nat.lt_or_ge i (E.arr (l.getD t E.d)).length with h | h
    · exact h
    · rw [List.getElem?_eq_none h] at hu; cases hu
  simp only [World.cell?, heap_new]
  have := flat_get (E := E) l t i ht hi
  rw [hu, ← hcs] at this
  rw [Nat.zero_add, ← this]
  simp
end
theorem elem22 : Try.prog.underlying 22 = some (.slice (Try.prog.elem 22)) := by kernel_rfl
theorem size22 (W : World) : (sizeOf (Try.prog.elem 22)).run Try.prog W = .ok 2 W := by kernel_rfl
theorem len_lbs {w : World} {v : Value} {l : List Lb} (hv : Lbs w v l) (W : World) : (Builtin.len_ #[22] 3 #[v]).run Try.prog W = .ok (.int .i64 (l.length : Nat)) W := by
  obtain ⟨a, c, rfl⟩ := hv.shape
  rw [run_len_slice W 22 3 a l.length c elem22]; rfl
/-- v[:k], k within the length. -/
theorem lbs_to {w : World} {v : Value} {l : List Lb} (hv : Lbs w v l) (k : Nat) (hk : k ≤ l.length) :
    ∃ v2, (∀ W, (Instr.slice 22 v none (some (.int .i64 (k : Int))) none).run Try.prog W = .ok v2 W) ∧ Lbs w v2 (l.take k) := by
  obtain ⟨a, c, rfl, ⟨hn, hc⟩, h1⟩ := hv
  refine ⟨sliced a 0 k c 2, fun W => ?_, ⟨if c = 0 then a else a.map (·.add (0 * 2)), c - 0, by simp only [sliced, List.length_take, Nat.min_eq_left hk, Nat.sub_zero], ⟨fun e => ?_, by simp; omega⟩, ?_⟩⟩
  · rw [run_slice_h W 22 a l.length c elem22 .i64 k (by omega) (by omega), size22]; simp [Result.andThen]
  · by_cases h : c = 0
    · omega
    · rw [if_neg h] at e
      simp at e; have := hn e; omega
  · rcases h1 with rfl | ⟨b, o, rfl, hr⟩
    · exact .inl (by simp)
    · by_cases h : k = 0
      · exact .inl (by simp [h])
      · refine .inr ⟨b, o, ?_, fun t ht => ?_⟩
        · rw [if_neg (by omega)]; simp [add_at]
        · rw [List.length_take] at ht
          have := hr t (by omega)
          rw [show (l.take k).getD t encL.d = l.getD t encL.d by rw [List.getD_eq_getElem?_getD, List.getD_eq_getElem?_getD, List.getElem?_take_of_lt (by omega)]]
          exact this
/-! ### What live asks -/
def sA : ByteArray := ⟨#[97]⟩
def sB : ByteArray := ⟨#[98]⟩
def s1 : ByteArray := ⟨#[49]⟩
def s2 : ByteArray := ⟨#[50]⟩
def sX : ByteArray := ⟨#[120, 34]⟩
def lvA : List Lb := [⟨sB, s1⟩, ⟨sA, sX⟩]
def lvS : List Lb := [⟨sA, sX⟩, ⟨sB, s1⟩]
theorem name_one {s : ByteArray} (h1 : s.size = 1) (h : letterB (byteAt s 0) = true) : IsName s := by
  rw [isName_iff]
  refine ⟨by omega, fun j hj => ?_⟩
  obtain rfl : j = 0 := by omega
  rw [nameC_eq, h]; rfl
theorem name_sA : IsName sA := name_one rfl (by decide +kernel)
theorem lb_sA {v : ByteArray} (h : 1 ≤ v.size ∧ v.size ≤ 128) : IsLb ⟨sA, v⟩ := ⟨name_sA, h⟩
theorem name_sB : IsName sB := name_one rfl (by decide +kernel)
theorem lb_sB {v : ByteArray} (h : 1 ≤ v.size ∧ v.size ≤ 128) : IsLb ⟨sB, v⟩ := ⟨name_sB, h⟩
theorem lvS_set : IsSet lvS := by
  refine ⟨fun a ha => ?_, ?_, by decide⟩
  · simp only [lvS, List.mem_cons, List.not_mem_nil, or_false] at ha
    rcases ha with rfl | rfl
    · exact lb_sA (by decide)
    · exact lb_sB (by decide)
  · refine List.pairwise_cons.2 ⟨fun b hb => ?_, List.pairwise_cons.2 ⟨(fun b hb => by cases hb), List.Pairwise.nil⟩⟩
    have : b = ⟨sB, s1⟩ := by simpa using hb
    subst this
    show cmpL (numsS sA) (numsS sB) = -1
    decide +kernel
theorem lvA_make : MkQ lvA lvS 0 := lvS_set.make.perm (List.Perm.swap _ _ _)
theorem lvA_short : LbsS lvA := fun a ha => by
  simp only [lvA, List.mem_cons, List.not_mem_nil, or_false] at ha
  rcases ha with rfl | rfl <;> decide
theorem lv_one_lb : ∀ x ∈ ([⟨sA, s1⟩] : List Lb), IsLb x := fun x hx => by
  have : x = ⟨sA, s1⟩ := by simpa using hx
  subst this; exact lb_sA (by decide)
theorem lv_two_lb : ∀ x ∈ ([⟨sA, s2⟩] : List Lb), IsLb x := fun x hx => by
  have : x = ⟨sA, s2⟩ := by simpa using hx
  subst this; exact lb_sA (by decide)
theorem lv_reach {v : ByteArray} (h : v.size ≤ 128) : LbsR [⟨sA, v⟩] := fun x hx => by
  have : x = ⟨sA, v⟩ := by simpa using hx
  subst this
  refine ⟨?_, by unfold reachBytes; show v.size ≤ _; omega⟩
  show sA.size ≤ _
  decide
theorem lv_join {out : List Lb} {ok : Bool} (h : JoinQ (lvS.take 1) lvS out ok) : out = lvS ∧ ok = true := by
  refine h.is lvS_set fun x => ?_
  simp [lvS]
theorem lv_unlike {out : List Lb} {ok : Bool} (h : JoinQ [⟨sA, s1⟩] [⟨sA, s2⟩] out ok) : out = [] ∧ ok = false :=
  h.one (JoinQ.unlike ⟨⟨sA, s1⟩, by simp, ⟨sA, s2⟩, by simp, rfl, by decide +kernel⟩)
theorem lv_key : ((strOfNums (keyL lvS)).toList == [123, 97, 61, 34, 120, 92, 34, 34, 44, 98, 61, 34, 49, 34, 125]) = true := by decide +kernel
theorem lv_match : matchB lvS [⟨sA, ⟨#[94, 61]⟩, ⟨#[120]⟩⟩] = true := by decide +kernel
theorem lv_check : chkE [⟨sA, ⟨#[]⟩, ⟨#[]⟩⟩] = 90 := by
  refine chkE_no (k := 0) (by decide) (by decide) ?_
  show okM ⟨sA, ⟨#[]⟩, ⟨#[]⟩⟩ = false
  unfold okM
  rw [show opB ⟨#[]⟩ = false by decide +kernel, Bool.false_and, Bool.and_false]
set_option maxRecDepth 100000 in
set_option maxHeartbeats 4000000 in
theorem live_ok (w : World) : Calls Try.prog 10 #[] w fun e w' => e = .returned (.bool true) ∧ Below w.heap.size w w' := by
  have hmk := make_any _ lvA _ (sls_new (E := encL) w lvA #[.string sB, .string s1, .string sA, .string sX] 52 rfl 2 rfl) lvA_short.reach (by decide)
  have hb0 : Below w.heap.size w (w.alloc (.cells #[.string sB, .string s1, .string sA, .string sX] 52)) := (Below.refl _ w).alloc (Nat.le_refl _) _
  have hnum := fun x (hx : -1000 ≤ x ∧ x ≤ 1000) W => num_any x W (by omega) (by omega)
  go_enter Try.func10, Try.ntmps10
  go_wp2_with fail
  refine hmk.mono ?_
  rintro e w1 ⟨u1, out, er, rfl, hq, ho1, hb1⟩
  obtain ⟨rfl, rfl⟩ := hq.one lvA_make
  replace hb1 := hb0.trans (hb1.mono hb0.size)
  clear hmk hq hb0
  have hl1 := ho1.sls
  have hlen : ∀ W, (Builtin.len_ #[22] 3 #[u1]).run Try.prog W = .ok (.int .i64 2) W := fun W => len_lbs hl1 W
  obtain ⟨u2, hsl, hl2⟩ := lbs_to hl1 1 (by decide)
  have hsl2 : ∀ W, (Instr.slice 22 u1 none (some (.int .i64 (min 1 2))) none).run Try.prog W = .ok u2 W := fun W => by rw [show (min 1 2 : Int) = 1 by decide]; exact hsl W
  have hjn := join_any u2 u1 _ _ w1 hl2 hl1 (fun x hx => lvS_set.1 x (List.mem_of_mem_take hx)) lvS_set.1 (fun x hx => lvS_set.short.reach x (List.mem_of_mem_take hx)) lvS_set.short.reach (by decide) (by decide)
  have hu1 : Hid (∀ W, Below w1.heap.size w1 W → Lbs W u1 lvS) := fun W h => hl1.grow h
  clear hsl ho1 hl1 hl2
  go_wp2_with fail
  refine hjn.mono ?_
  rintro e w2 ⟨u3, out, ok, rfl, hq, ho3, hb2⟩
  obtain ⟨rfl, rfl⟩ := lv_join hq
  have hu3 : Hid (∀ W, Below w2.heap.size w2 W → Lbs W u3 lvS) := fun W h => ho3.sls.grow h
  clear hjn hq ho3 hlen hsl2
  go_wp2_with fail
  have hb3 := hb1.trans (hb2.mono hb1.size)
  have hjn := fun (W : World) => join_any (.slice (some ⟨W.heap.size, 0, none⟩) 1 1) (.slice (some ⟨(W.alloc (.cells #[.string sA, .string s1] 52)).heap.size, 0, none⟩) 1 1) [⟨sA, s1⟩] [⟨sA, s2⟩] ((W.alloc (.cells #[.string sA, .string s1] 52)).alloc (.cells #[.string sA, .string s2] 52)) ((sls_new (E := encL) W [⟨sA, s1⟩] #[.string sA, .string s1] 52 rfl 1 rfl).alloc _) (sls_new (E := encL) _ [⟨sA, s2⟩] #[.string sA, .string s2] 52 rfl 1 rfl) lv_one_lb lv_two_lb (lv_reach (by decide)) (lv_reach (by decide)) (by decide) (by decide)
  have hjn2 := hjn w2
  rw [World.size_alloc] at hjn2
  refine hjn2.mono ?_
  rintro e w3 ⟨u4, out, ok, rfl, hq, ho4, hb4⟩
  obtain ⟨rfl, rfl⟩ := lv_unlike hq
  have hb5 : Below w2.heap.size w2 w3 := (((Below.refl _ _).alloc (Nat.le_refl _) _).alloc (by simp) _).trans (hb4.mono (by simp; omega))
  clear hjn hjn2 hq ho4 hb4
  have hb6 := hb3.trans (hb5.mono hb3.size)
  have hL1 : ∀ W, Below w3.heap.size w3 W → Lbs W u1 lvS := fun W h => hu1.out W ((hb2.trans (hb5.mono hb2.size)).trans (h.mono (hb2.trans (hb5.mono hb2.size)).size))
  have hL3 : ∀ W, Below w3.heap.size w3 W → Lbs W u3 lvS := fun W h => hu3.out W (hb5.trans (h.mono hb5.size))
  have hkey := key_any u1 lvS w3 (hL1 _ (Below.refl _ _)) lvS_set.short (by decide)
  have hks := lv_key
  generalize strOfNums (keyL lvS) = KS at hkey hks
  clear hu1 hu3 hb1 hb2 hb3 hb5
  go_wp2_with (first
    | (go_at_call 15; refine (hnum _ (by omega) _).mono ?_; rintro e wx ⟨rfl, hwx⟩; subst wx)
    | (go_at_call 27; refine hkey.mono ?_; rintro e w4 ⟨rfl, hb4⟩))
  have hsm := same_any u3 u1 lvS lvS w4 (hL3 _ hb4) (hL1 _ hb4) (by decide) (by decide)
  refine hsm.mono ?_
  rintro e w5 ⟨B, rfl, hB, hb5⟩
  obtain rfl : B = true := hB.2 rfl
  have hb7 := hb4.trans (hb5.mono hb4.size)
  clear hkey hks hsm hB hb4 hb5
  have hmt := match_any u1 _ lvS _ (w5.alloc (.cells #[.string sA, .string ⟨#[94, 61]⟩, .string ⟨#[120]⟩] 46)) ((hL1 _ hb7).alloc _) (sls_new (E := encM) w5 [⟨sA, ⟨#[94, 61]⟩, ⟨#[120]⟩⟩] #[.string sA, .string ⟨#[94, 61]⟩, .string ⟨#[120]⟩] 46 rfl 1 rfl) (by decide) (by decide) lvS_set.short.reach (fun m hm => by
    have : m = ⟨sA, ⟨#[94, 61]⟩, ⟨#[120]⟩⟩ := by simpa using hm
    subst this
    unfold MtR
    decide)
  rw [lv_match] at hmt
  go_wp2_with fail
  refine hmt.mono ?_
  rintro e w6 ⟨rfl, hb8⟩
  have hb9 : Below w3.heap.size w3 w6 := (hb7.alloc hb7.size _).trans (hb8.mono (by simp; have := hb7.size; omega))
  clear hmt hb7 hb8
  have hck := check_any _ [⟨sA, ⟨#[]⟩, ⟨#[]⟩⟩] (w6.alloc (.cells #[.string sA, .string ⟨#[]⟩, .string ⟨#[]⟩] 46)) (sls_new (E := encM) w6 [⟨sA, ⟨#[]⟩, ⟨#[]⟩⟩] #[.string sA, .string ⟨#[]⟩, .string ⟨#[]⟩] 46 rfl 1 rfl) (by decide) (fun m hm => by
    have : m = ⟨sA, ⟨#[]⟩, ⟨#[]⟩⟩ := by simpa using hm
    subst this
    unfold MtR
    decide)
  rw [lv_check] at hck
  go_wp2_with fail
  refine hck.mono ?_
  rintro e w7 ⟨rfl, hb10⟩
  have hb11 : Below w3.heap.size w3 w7 := (hb9.alloc hb9.size _).trans (hb10.mono (by simp; have := hb9.size; omega))
  clear hck hb9 hb10
  go_wp2_with (first
    | (go_at_call 15; refine (hnum _ (by omega) _).mono ?_; rintro e wx ⟨rfl, hwx⟩; subst wx))
  go_ret
  exact ⟨rfl, hb6.trans (hb11.mono hb6.size)⟩
end Go.Proofs.Ytckchabcnmkbeaa
