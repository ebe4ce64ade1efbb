/- The contracts of strings.Compare and of seek. -/
import Derived.Test.YtdobleekjiehdaaGreatNde
import Derived.Lib.Bytealg
namespace Go.Proofs.YtdobleekjiehdaaGreat
set_option linter.unusedVariables false
open Go.RowKit
/-- The order of two keys: -1, 0, 1. -/
def kCmp (a b : ByteArray) : Int := Lib.compareBytes a.data.toList b.data.toList
theorem cmp_in : ∀ (a b : List UInt8), -1 ≤ Lib.compareBytes a b ∧ Lib.compareBytes a b ≤ 1
  | [], [] => by simp [Lib.compareBytes]
  | [], _ :: _ => by simp [Lib.compareBytes]
  | _ :: _, [] => by simp [Lib.compareBytes]
  | a :: r, b :: q => by
    unfold Lib.compareBytes
    split
    · omega
    · split
      · omega
      · exact cmp_in r q
section
variable {w : World}
set_option maxRecDepth 100000 in
set_option maxHeartbeats 1000000 in
theorem compareString_any (a b : ByteArray) (w : World) : Calls Tryz.prog 101 #[.string a, .string b] w fun e w' => e = .returned (.int .i64 (kCmp a b)) ∧ w' = w := by
  go_enter Tryz.func101, Tryz.ntmps101
  go_wp2
  rw [run_callFunc_extern Tryz.func116 (by kernel_rfl) (by kernel_rfl) (by kernel_rfl) (e := Extern.BytealgCompare.compare) (by kernel_rfl), Lib.run_compareString]
  simp only [Result.andThen]
  rw [Oper.upon_value]
  go_wp2
  go_ret
  exact ⟨rfl, rfl⟩
set_option maxRecDepth 100000 in
theorem compare_any (a b : ByteArray) (w : World) : Calls Tryz.prog 79 #[.string a, .string b] w fun e w' => e = .returned (.int .i64 (kCmp a b)) ∧ w' = w := by
  have h := compareString_any a b w
  generalize kCmp a b = r at *
  go_enter Tryz.func79, Tryz.ntmps79
  go_wp2_with (first | (go_at_call 101; refine h.mono ?_; rintro e w' ⟨rfl, hw'⟩; subst w'))
  go_ret
  exact ⟨rfl, rfl⟩
set_option maxRecDepth 100000 in
theorem seek1_any (c : Cl) (k : ByteArray) (w : World) : Calls Tryz.prog 78 #[.agg #[.string c.key, .string c.val, .int .i64 c.page, .int .i64 c.count], .string k] w fun e w' => e = .returned (.int .i64 (kCmp c.key k)) ∧ Below w.heap.size w w' := by
  have h := compare_any c.key k (w.alloc (.cells #[.string c.key, .string c.val, .int .i64 c.page, .int .i64 c.count] 90))
  generalize kCmp c.key k = r at *
  go_enter Tryz.func78, Tryz.ntmps78
  go_wp2_with (first | (go_at_call 79; refine h.mono ?_; rintro e w' ⟨rfl, hw'⟩; subst w'))
  go_ret
  exact ⟨rfl, (Below.refl _ w).alloc (Nat.le_refl _) _⟩
/-- What seek answers. -/
def SeekQ (w : World) (l : List Cl) (k : ByteArray) (e : Ending) (w' : World) : Prop :=
  (∃ i : Nat, i ≤ l.length ∧ e = .returned (.tuple #[.int .i64 i, .bool (decide (i < l.length ∧ kCmp (l.getD i cl0).key k = 0))]) ∧ (i = 0 ∨ kCmp (l.getD (i - 1) cl0).key k < 0) ∧ (i = l.length ∨ 0 ≤ kCmp (l.getD i cl0).key k)) ∧ Below w.heap.size w w'
set_option maxRecDepth 100000 in
set_option maxHeartbeats 4000000 in
theorem search_any (a : Option Addr) (n cap : Nat) (l : List Cl) (k : ByteArray) (hc : Cells w (.slice a n cap) l) (hl : l.length ≤ 8000000) :
    Calls Tryz.prog 77 #[.slice a n cap, .string k, .func (.func 78) #[] #[]] w fun e w' => SeekQ w l k e w' := by
  have hn : n = l.length := by obtain ⟨_, _, e, _⟩ := hc; cases e; rfl
  have hg : Hid (∀ W, Below w.heap.size w W → Cells W (.slice a n cap) l) := fun W hW => hc.grow hW
  have hn3 : n ≤ 8000000 := by rw [hn]; exact hl
  have hk1 : ∀ (c : Cl) W, _ := fun c W => seek1_any c k W
  replace hn : Hid _ := hn
  clear hc
  go_enter Tryz.func77, Tryz.ntmps77
  go_wp2
  go_loopw [9, 10] (fun i j wr => ∃ x y : Nat, x ≤ y ∧ y ≤ n ∧ i = .int .i64 x ∧ j = .int .i64 y ∧ Hid (x = 0 ∨ kCmp (l.getD (x - 1) cl0).key k < 0) ∧ Hid (y = n ∨ 0 ≤ kCmp (l.getD y cl0).key k) ∧ Below w.heap.size w wr) (fun i j _ => (intOf j).toNat - (intOf i).toNat)
  case atStart => exact ⟨0, n, Nat.zero_le _, Nat.le_refl _, rfl, rfl, .inl rfl, .inl rfl, Below.refl _ _⟩
  case round =>
    obtain ⟨x, y, hxy, hyn, rfl, rfl, hx, hy, hbw⟩ := hrel
    by_cases hlt : x < y
    · have hxi : (x : Int) < (y : Int) := by omega
      obtain ⟨h, hh⟩ : ∃ h, h = (x + y) / 2 := ⟨_, rfl⟩
      have hhx : x ≤ h := by omega
      have hhy : h < y := by omega
      have hw1 : IntKind.i64.wrap ((x : Int) + (y : Int)) = ((x + y : Nat) : Int) := by rw [Go.IntWalk.i64_in _ (by omega)]; omega
      have hltl : h < l.length := by rw [← hn.out]; omega
      obtain ⟨a', c', e, _, hcs⟩ := hg.out wr hbw
      cases e
      rcases hcs with hcs | ⟨b, o, rfl, hcs⟩
      · rw [hcs] at hltl; simp at hltl
      · obtain ⟨x0, x1, x2, x3⟩ := hcs h hltl
        have hk2 := hk1 (l.getD h cl0) wr
        obtain ⟨r, hr⟩ : ∃ r, kCmp (l.getD h cl0).key k = r := ⟨_, rfl⟩
        rw [hr] at hk2
        generalize l.getD h cl0 = c at x0 x1 x2 x3 hk2
        replace hr : Hid _ := hr
        have hhi : ((x : Int) + (y : Int)) / 2 = (h : Int) := by omega
        have hlt2 : (x + y) / 2 < l.length := by omega
        have hw2 : IntKind.i64.wrap (((x : Int) + (y : Int)) / 2 + 1) = (h : Int) + 1 := by rw [hhi]; exact Go.IntWalk.i64_in _ (by omega)
        replace hh : Hid _ := hh
        clear hcs hk1
        by_cases hrn : r < 0
        · have hrd : decide (r < 0) = true := by simpa using hrn
          go_wp2_with (first | (go_at_call 78; refine hk2.mono ?_; rintro e w2 ⟨rfl, hb2⟩))
          refine ⟨⟨h + 1, y, by omega, hyn, by go_num, rfl, .inr (by rw [Nat.add_sub_cancel, hr.out]; exact hrn), hy, hbw.trans (hb2.mono hbw.size)⟩, ?_⟩
          simp [intOf]; omega
        · have hrd : decide (r < 0) = false := by simpa using hrn
          go_wp2_with (first | (go_at_call 78; refine hk2.mono ?_; rintro e w2 ⟨rfl, hb2⟩))
          refine ⟨⟨x, h, hhx, by omega, rfl, by go_num, hx, .inr (by rw [hr.out]; omega), hbw.trans (hb2.mono hbw.size)⟩, ?_⟩
          simp [intOf]; omega
    · obtain rfl : x = y := by omega
      have hxd : decide ((x : Int) < (x : Int)) = false := by simp
      by_cases hxn : x < n
      · have hxi : (x : Int) < (n : Int) := by omega
        have hltl : x < l.length := by rw [← hn.out]; exact hxn
        obtain ⟨a', c', e, _, hcs⟩ := hg.out wr hbw
        cases e
        rcases hcs with hcs | ⟨b, o, rfl, hcs⟩
        · rw [hcs] at hltl; simp at hltl
        · obtain ⟨x0, x1, x2, x3⟩ := hcs x hltl
          have hk2 := hk1 (l.getD x cl0) wr
          obtain ⟨r, hr⟩ : ∃ r, kCmp (l.getD x cl0).key k = r := ⟨_, rfl⟩
          rw [hr] at hk2
          generalize l.getD x cl0 = c at x0 x1 x2 x3 hk2
          replace hr : Hid _ := hr
          clear hcs hk1
          go_wp2_with (first | (go_at_call 78; refine hk2.mono ?_; rintro e w2 ⟨rfl, hb2⟩))
          go_ret2
          refine ⟨⟨x, by omega, ?_, hx.out, hy.out⟩, hbw.trans (hb2.mono hbw.size)⟩
          rw [hr.out]
          simp [hltl]
          by_cases h0 : r = 0 <;> simp [h0]
      · have hxl : Hid (x = l.length) := by show _ = _; rw [← hn.out]; omega
        have hxi : decide ((x : Int) < (n : Int)) = false := by simp; omega
        clear hk1
        go_wp2_with fail
        go_ret2
        have hxl' := hxl.out
        refine ⟨⟨x, by omega, ?_, hx.out, .inl hxl'⟩, hbw⟩
        have : decide (x < l.length ∧ kCmp (l.getD x cl0).key k = 0) = false := by simp; omega
        rw [this]
        rfl
set_option maxRecDepth 100000 in
theorem seek_any (a : Option Addr) (n cap : Nat) (l : List Cl) (k : ByteArray) (hc : Cells w (.slice a n cap) l) (hl : l.length ≤ 8000000) :
    Calls Tryz.prog 67 #[.slice a n cap, .string k] w fun e w' => SeekQ w l k e w' := by
  have h := search_any a n cap l k hc hl
  go_enter Tryz.func67, Tryz.ntmps67
  go_wp2_with (first | (go_at_call 77; refine h.mono ?_; rintro e w2 ⟨⟨i, hi, he, h1, h2⟩, hb⟩; generalize hfd : decide (i < l.length ∧ kCmp (l.getD i cl0).key k = 0) = fd at he; replace hfd : Hid _ := hfd; subst he))
  go_ret2
  exact ⟨⟨i, hi, by rw [hfd.out]; rfl, h1, h2⟩, hb⟩
end
end Go.Proofs.YtdobleekjiehdaaGreat
