/- La; Lv. -/
import Derived.Test.YtejdmielhaldaaaGreatSxSy
import Derived.Test.YtejdmielhaldaaaGreatGr
/- live: its values, reckoned; its rows. -/
namespace Go.Proofs.YtejdmielhaldaaaGreat
set_option linter.unusedVariables false
open Go.RowKit
def lvP : List Pn := [⟨0, ⟨1, 1000⟩⟩, ⟨0, ⟨1, 2000⟩⟩, ⟨0, ⟨2, 0⟩⟩]
def lvX : List Lb := [⟨⟨#[97]⟩, ⟨#[49]⟩⟩]
def lvY : List Lb := [⟨⟨#[97]⟩, ⟨#[49]⟩⟩, ⟨⟨#[98]⟩, ⟨#[49]⟩⟩]
def lvZ : List Lb := [⟨⟨#[97]⟩, ⟨#[50]⟩⟩]
theorem lv_a : reduV ⟨#[109, 101, 97, 110]⟩ false lvP = ⟨1, 1500⟩ := by decide +kernel
theorem lv_b : reduV ⟨#[109, 101, 97, 110]⟩ true lvP = ⟨3, 0⟩ := by decide +kernel
theorem lv_e : redE ⟨#[109, 101, 97, 110]⟩ lvP = 0 := by decide +kernel
theorem lv_n : reduV ⟨#[110, 111, 110, 101]⟩ false [] = ⟨0, 0⟩ := by decide +kernel
theorem lv_ne : redE ⟨#[110, 111, 110, 101]⟩ [] = 100 := by decide +kernel
theorem lv_lb (c d : UInt8) (hc : nameC true ((numsS ⟨#[c]⟩)[0]'(by simp [numsS])) = true) : IsLb ⟨⟨#[c]⟩, ⟨#[d]⟩⟩ :=
  ⟨⟨⟨Nat.le_refl 1, Nat.le_of_ble_eq_true rfl⟩, fun k hk => by
    have h0 : k = 0 := by simp [numsS] at hk; exact hk
    subst h0
    exact hc⟩, Nat.le_refl 1, Nat.le_of_ble_eq_true rfl⟩
theorem lvX_set : IsSet lvX := ⟨fun a ha => by simp only [lvX, List.mem_singleton] at ha; subst ha; exact lv_lb _ _ (by decide +kernel), by unfold Rise; decide +kernel, by decide⟩
theorem lvY_set : IsSet lvY := ⟨fun a ha => by simp only [lvY, List.mem_cons, List.not_mem_nil, or_false] at ha; rcases ha with rfl | rfl <;> exact lv_lb _ _ (by decide +kernel), by unfold Rise; decide +kernel, by decide⟩
theorem lvZ_set : IsSet lvZ := ⟨fun a ha => by simp only [lvZ, List.mem_singleton] at ha; subst ha; exact lv_lb _ _ (by decide +kernel), by unfold Rise; decide +kernel, by decide⟩
theorem lv_fa : Series10.IsFrame [⟨lvX, ⟨1, 1⟩⟩, ⟨lvZ, ⟨1, 2⟩⟩] := by
  refine ⟨fun a ha => ?_, fun a ha => ?_, ?_, by decide⟩
  · simp only [List.mem_cons, List.not_mem_nil, or_false] at ha; rcases ha with rfl | rfl; exact lvX_set; exact lvZ_set
  · simp only [List.mem_cons, List.not_mem_nil, or_false] at ha; rcases ha with rfl | rfl <;> decide
  · unfold Series10.Rise
    refine List.pairwise_cons.2 ⟨fun b hb => ?_, List.pairwise_singleton _ _⟩
    rw [List.mem_singleton.1 hb]
    show cmpS lvX lvZ = -1
    decide +kernel
theorem lv_fb (n : Int) (h : -1000 ≤ n ∧ n ≤ 1000) : Series10.IsFrame [⟨lvY, ⟨1, n⟩⟩] := by
  refine ⟨fun a ha => ?_, fun a ha => ?_, List.pairwise_singleton _ _, by simp⟩
  · rw [List.mem_singleton.1 ha]; exact lvY_set
  · rw [List.mem_singleton.1 ha]; exact .inl ⟨rfl, by show _ ≤ n; omega, by show n ≤ _; omega⟩
theorem lv_j : joinA ⟨#[43]⟩ [⟨lvX, ⟨1, 1⟩⟩, ⟨lvZ, ⟨1, 2⟩⟩] [⟨lvY, ⟨1, 10⟩⟩] = [⟨lvY, ⟨1, 11⟩⟩] := by decide +kernel
theorem lv_join : JoinT ⟨#[43]⟩ [⟨lvX, ⟨1, 1⟩⟩, ⟨lvZ, ⟨1, 2⟩⟩] [⟨lvY, ⟨1, 10⟩⟩] [⟨lvY, ⟨1, 11⟩⟩] 0 :=
  .inl ⟨_, lv_fa.sort, .inl ⟨_, (lv_fb 10 (by decide)).sort, .inr ⟨by decide +kernel, by rw [lv_j]; exact (lv_fb 11 (by decide)).sort⟩⟩⟩
/-- A row of what its cells say. -/
theorem sls_flat {α : Type} {E : Enc α} (w : World) (l : List α) (cs : Array Value) (ty : TypeId) (hcs : cs.toList = flat E l) : Sls E (w.alloc (.cells cs ty)) (.slice (some ⟨w.heap.size, 0, none⟩) l.length l.length) l := by
  refine ⟨_, _, rfl, ⟨(fun e => by cases e), Nat.le_refl _⟩, .inr ⟨w.heap.size, 0, rfl, fun t ht i u hu => ?_⟩⟩
  have hi : i < E.k := by
    rcases Nat.lt_or_ge i (E.arr (l.getD t E.d)).length with h | h
    · rw [E.len] at h; exact h
    · rw [List.getElem?_eq_none h] at hu; cases hu
  have hf := flat_get (E := E) l t i ht hi
  rw [hu, ← hcs] at hf
  simp only [World.cell?, heap_new]
  simpa using hf
end Go.Proofs.YtejdmielhaldaaaGreat
/- live. -/
namespace Go.Proofs.YtejdmielhaldaaaGreat
set_option linter.unusedVariables false
open Go.RowKit
theorem lv_num (n : Int) (h : -1000000 ≤ n ∧ n ≤ 1000000) (w : World) : Calls Tryz.prog 27 #[.int .i64 n] w fun e w' => e = .returned (.agg #[.int .i64 1, .int .i64 n]) ∧ Below w.heap.size w w' := by
  have h1 := rnum_any n w
  have h2 : num n = ⟨1, n⟩ := by unfold num; rw [if_neg (by omega), if_neg (by omega)]
  rw [h2] at h1
  exact h1
theorem lv_rows (W : World) : Lbs (((W.alloc (.cells #[.string ⟨#[97]⟩, .string ⟨#[49]⟩] 62)).alloc (.cells #[.string ⟨#[97]⟩, .string ⟨#[49]⟩, .string ⟨#[98]⟩, .string ⟨#[49]⟩] 62)).alloc (.cells #[.string ⟨#[97]⟩, .string ⟨#[50]⟩] 62)) (.slice (some ⟨W.heap.size, 0, none⟩) 1 1) lvX ∧
    Lbs (((W.alloc (.cells #[.string ⟨#[97]⟩, .string ⟨#[49]⟩] 62)).alloc (.cells #[.string ⟨#[97]⟩, .string ⟨#[49]⟩, .string ⟨#[98]⟩, .string ⟨#[49]⟩] 62)).alloc (.cells #[.string ⟨#[97]⟩, .string ⟨#[50]⟩] 62)) (.slice (some ⟨W.heap.size + 1, 0, none⟩) 2 2) lvY ∧
    Lbs (((W.alloc (.cells #[.string ⟨#[97]⟩, .string ⟨#[49]⟩] 62)).alloc (.cells #[.string ⟨#[97]⟩, .string ⟨#[49]⟩, .string ⟨#[98]⟩, .string ⟨#[49]⟩] 62)).alloc (.cells #[.string ⟨#[97]⟩, .string ⟨#[50]⟩] 62)) (.slice (some ⟨W.heap.size + 1 + 1, 0, none⟩) 1 1) lvZ ∧
    Below W.heap.size W (((W.alloc (.cells #[.string ⟨#[97]⟩, .string ⟨#[49]⟩] 62)).alloc (.cells #[.string ⟨#[97]⟩, .string ⟨#[49]⟩, .string ⟨#[98]⟩, .string ⟨#[49]⟩] 62)).alloc (.cells #[.string ⟨#[97]⟩, .string ⟨#[50]⟩] 62)) := by
  have h1 := sls_flat (E := encL) W lvX #[.string ⟨#[97]⟩, .string ⟨#[49]⟩] 62 rfl
  have h2 := sls_flat (E := encL) (W.alloc (.cells #[.string ⟨#[97]⟩, .string ⟨#[49]⟩] 62)) lvY #[.string ⟨#[97]⟩, .string ⟨#[49]⟩, .string ⟨#[98]⟩, .string ⟨#[49]⟩] 62 rfl
  have h3 := sls_flat (E := encL) ((W.alloc (.cells #[.string ⟨#[97]⟩, .string ⟨#[49]⟩] 62)).alloc (.cells #[.string ⟨#[97]⟩, .string ⟨#[49]⟩, .string ⟨#[98]⟩, .string ⟨#[49]⟩] 62)) lvZ #[.string ⟨#[97]⟩, .string ⟨#[50]⟩] 62 rfl
  rw [World.size_alloc] at h2
  rw [World.size_alloc, World.size_alloc] at h3
  exact ⟨(h1.grow (bW0 _ _)).grow (bW0 _ _), h2.grow (bW0 _ _), h3, (((Below.refl _ W).alloc (Nat.le_refl _) _).alloc (by simp) _).alloc (by simp; omega) _⟩
set_option maxRecDepth 100000 in
set_option maxHeartbeats 8000000 in
/-- live. -/
theorem live_ok (w : World) : Calls Tryz.prog 9 #[] w fun e w' => e = .returned (.bool true) ∧ Below w.heap.size w w' := by
  have n1 := fun W => lv_num 1000 (by decide) W
  have n2 := fun W => lv_num 2000 (by decide) W
  have n3 := fun W => lv_num 1 (by decide) W
  have n4 := fun W => lv_num 2 (by decide) W
  have n5 := fun W => lv_num 10 (by decide) W
  have n0 : ∀ W : World, Calls Tryz.prog 28 #[] W fun e w' => e = .returned (.agg #[.int .i64 2, .int .i64 0]) ∧ Below W.heap.size W w' := fun W => rnull_b W
  have hr1 : ∀ v W, Pns W v lvP → Calls Tryz.prog 10 #[.string ⟨#[109, 101, 97, 110]⟩, .bool false, v] W fun e w' => e = .returned (.tuple #[.agg #[.int .i64 1, .int .i64 1500], .int .i64 0]) ∧ Below W.heap.size W w' := fun v W h => by
    have := reduce_any ⟨#[109, 101, 97, 110]⟩ false v lvP W h (by decide)
    rw [lv_a, lv_e] at this
    exact this
  have hr2 : ∀ v W, Pns W v lvP → Calls Tryz.prog 10 #[.string ⟨#[109, 101, 97, 110]⟩, .bool true, v] W fun e w' => e = .returned (.tuple #[.agg #[.int .i64 3, .int .i64 0], .int .i64 0]) ∧ Below W.heap.size W w' := fun v W h => by
    have := reduce_any ⟨#[109, 101, 97, 110]⟩ true v lvP W h (by decide)
    rw [lv_b, lv_e] at this
    exact this
  have hr3 : ∀ W, Calls Tryz.prog 10 #[.string ⟨#[110, 111, 110, 101]⟩, .bool false, .slice none 0 0] W fun e w' => e = .returned (.tuple #[.agg #[.int .i64 0, .int .i64 0], .int .i64 100]) ∧ Below W.heap.size W w' := fun W => by
    have := reduce_any ⟨#[110, 111, 110, 101]⟩ false (.slice none 0 0) [] W (OwnS.nil (T := TP) W 0).sls (by decide)
    rw [lv_n, lv_ne] at this
    exact this
  have hP : ∀ W : World, Pns (W.alloc (.cells #[.int .i64 0, .int .i64 1, .int .i64 1000, .int .i64 0, .int .i64 1, .int .i64 2000, .int .i64 0, .int .i64 2, .int .i64 0] 51)) (.slice (some ⟨W.heap.size, 0, none⟩) 3 3) lvP := fun W => sls_flat (E := encP) W lvP _ 51 rfl
  have hRa : Hid (∀ (W : World) (p q : Addr), Srs (W.alloc (.cells #[.slice (some p) 1 1, .int .i64 1, .int .i64 1, .slice (some q) 1 1, .int .i64 1, .int .i64 2] 49)) (.slice (some ⟨W.heap.size, 0, none⟩) 2 2) [⟨some p, 1, 1, lvX, ⟨1, 1⟩⟩, ⟨some q, 1, 1, lvZ, ⟨1, 2⟩⟩]) := fun W p q => sls_flat (E := encR) W [⟨some p, 1, 1, lvX, ⟨1, 1⟩⟩, ⟨some q, 1, 1, lvZ, ⟨1, 2⟩⟩] _ 49 rfl
  have hRb : Hid (∀ (W : World) (p : Addr) (n : Int), Srs (W.alloc (.cells #[.slice (some p) 2 2, .int .i64 1, .int .i64 n] 49)) (.slice (some ⟨W.heap.size, 0, none⟩) 1 1) [⟨some p, 2, 2, lvY, ⟨1, n⟩⟩]) := fun W p n => sls_flat (E := encR) W [⟨some p, 2, 2, lvY, ⟨1, n⟩⟩] _ 49 rfl
  have hjo : Hid (∀ (W : World) (v u : Value) (p q r : Addr), Srs W v [⟨some p, 1, 1, lvX, ⟨1, 1⟩⟩, ⟨some q, 1, 1, lvZ, ⟨1, 2⟩⟩] → Srs W u [⟨some r, 2, 2, lvY, ⟨1, 10⟩⟩] → Lbs W (.slice (some p) 1 1) lvX → Lbs W (.slice (some q) 1 1) lvZ → Lbs W (.slice (some r) 2 2) lvY →
      Calls Tryz.prog 19 #[.string ⟨#[43]⟩, v, u] W fun e w' => ∃ (vo : Value) (l : List Se), e = .returned (.tuple #[vo, .int .i64 0]) ∧ Hid (l.map serOf = [⟨lvY, ⟨1, 11⟩⟩] ∧ Srs w' vo l ∧ (∀ x ∈ l, Lbs w' (.slice x.a x.n x.c) x.labs)) ∧ Below W.heap.size W w') := fun W v u p q r h1 h2 h3 h4 h5 => by
    refine (join_ser ⟨#[43]⟩ v u _ _ W h1 h2 (fun x hx => ?_) (fun x hx => ?_) (fun x hx => ?_) (fun x hx => ?_) (by simp) (by simp)).mono ?_
    · simp only [List.mem_cons, List.not_mem_nil, or_false] at hx; rcases hx with rfl | rfl; exact h3; exact h4
    · rw [List.mem_singleton.1 hx]; exact h5
    · simp only [List.mem_cons, List.not_mem_nil, or_false] at hx; rcases hx with rfl | rfl; exact ⟨lbsR_of lvX_set, by simp [lvX]⟩; exact ⟨lbsR_of lvZ_set, by simp [lvZ]⟩
    · rw [List.mem_singleton.1 hx]; exact ⟨lbsR_of lvY_set, by simp [lvY]⟩
    · rintro e w' ⟨vo, l, er, rfl, hj, ho, hok, hb⟩
      obtain ⟨h6, rfl⟩ := hj.one lv_join
      exact ⟨vo, l, rfl, ⟨h6, ho.sls, hok⟩, hb⟩
  replace hP : Hid _ := hP
  go_enter Tryz.func9, Tryz.ntmps9
  go_wp2_with (first
    | (go_at_call 27; (with_reducible refine (n1 _).mono ?_); rintro e w1 ⟨rfl, hb1⟩; have hB := hb1)
    | (go_at_call 27; (with_reducible refine (n2 _).mono ?_); rintro e w2 ⟨rfl, hb2⟩; replace hB := hB.trans (hb2.mono hB.size))
    | (go_at_call 28; refine (n0 _).mono ?_; rintro e w3 ⟨rfl, hb3⟩; replace hB := hB.trans (hb3.mono hB.size); have hp3 := hP.out w3; replace hB := hB.alloc hB.size (.cells #[.int .i64 0, .int .i64 1, .int .i64 1000, .int .i64 0, .int .i64 1, .int .i64 2000, .int .i64 0, .int .i64 2, .int .i64 0] 51))
    | (go_at_call 10; (with_reducible refine (hr1 _ _ hp3).mono ?_); rintro e w5 ⟨rfl, hb5⟩; replace hB := hB.trans (hb5.mono hB.size); have hp5 := (hp3.grow hb5).grow (bW0 w5 (.cells #[.int .i64 1, .int .i64 1500] 25)); have hB6 := hB.alloc hB.size (.cells #[.int .i64 1, .int .i64 1500] 25); have hv5 : VlAt (w5.alloc (.cells #[.int .i64 1, .int .i64 1500] 25)) w5.heap.size ⟨1, 1500⟩ := vlNew w5 ⟨1, 1500⟩)
    | (go_at_call 10; (with_reducible refine (hr2 _ _ hp5).mono ?_); rintro e w7 ⟨rfl, hb7⟩; have hB7 := hB6.trans (hb7.mono hB6.size); have hv7 := (hv5.grow hb7).alloc (.cells #[.int .i64 3, .int .i64 0] 25); have hu7 : VlAt (w7.alloc (.cells #[.int .i64 3, .int .i64 0] 25)) w7.heap.size ⟨3, 0⟩ := vlNew w7 ⟨3, 0⟩; have hB8 := hB7.alloc hB7.size (.cells #[.int .i64 3, .int .i64 0] 25); have h3 := lv_rows (w7.alloc (.cells #[.int .i64 3, .int .i64 0] 25)); have hB9 := hB8.trans (h3.2.2.2.mono hB8.size); have hv9 := hv7.grow h3.2.2.2; have hu9 := hu7.grow h3.2.2.2; rw [World.size_alloc] at h3; replace h3 : Hid _ := h3)
    | (go_at_call 27; (with_reducible refine (n3 _).mono ?_); rintro e w12 ⟨rfl, hb12⟩; have hB12 := hB9.trans (hb12.mono hB9.size); have hx12 := h3.out.1.grow hb12; have hy12 := h3.out.2.1.grow hb12; have hz12 := h3.out.2.2.1.grow hb12; have hv12 := hv9.grow hb12; have hu12 := hu9.grow hb12)
    | (go_at_call 27; (with_reducible refine (n4 _).mono ?_); rintro e w13 ⟨rfl, hb13⟩; have hB13 := hB12.trans (hb13.mono hB12.size); have hA13 := hRa.out w13 ⟨w7.heap.size + 1, 0, none⟩ ⟨w7.heap.size + 1 + 1 + 1, 0, none⟩; have bA := bW0 w13 (.cells #[.slice (some ⟨w7.heap.size + 1, 0, none⟩) 1 1, .int .i64 1, .int .i64 1, .slice (some ⟨w7.heap.size + 1 + 1 + 1, 0, none⟩) 1 1, .int .i64 1, .int .i64 2] 49); have hB14 := hB13.trans (bA.mono hB13.size); have hx14 := (hx12.grow hb13).grow bA; have hy14 := (hy12.grow hb13).grow bA; have hz14 := (hz12.grow hb13).grow bA; have hv14 := (hv12.grow hb13).grow bA; have hu14 := (hu12.grow hb13).grow bA)
    | (go_at_call 27; (with_reducible refine (n5 _).mono ?_); rintro e w15 ⟨rfl, hb15⟩; have hB15 := hB14.trans (hb15.mono hB14.size); have hR15 := hRb.out w15 ⟨w7.heap.size + 1 + 1, 0, none⟩ 10; have bB := bW0 w15 (.cells #[.slice (some ⟨w7.heap.size + 1 + 1, 0, none⟩) 2 2, .int .i64 1, .int .i64 10] 49); have hB16 := hB15.trans (bB.mono hB15.size); have hx16 := (hx14.grow hb15).grow bB; have hy16 := (hy14.grow hb15).grow bB; have hz16 := (hz14.grow hb15).grow bB; have hv16 := (hv14.grow hb15).grow bB; have hu16 := (hu14.grow hb15).grow bB; have hA16 := (hA13.grow hb15).grow bB; have hj16 := hjo.out _ _ _ _ _ _ hA16 hR15 hx16 hz16 hy16)
    | (go_at_call 19; refine hj16.mono ?_; rintro e w17 ⟨vo, l, rfl, hl17, hb17⟩; have hB17 := hB16.trans (hb17.mono hB16.size); have hy17 := hy16.grow hb17; have hv17 := hv16.grow hb17; have hu17 := hu16.grow hb17)
    | (go_at_call 10; (with_reducible refine (hr3 _).mono ?_); rintro e w18 ⟨rfl, hb18⟩))
  have hb19 := hb18.alloc hb18.size (.cells #[.int .i64 0, .int .i64 0] 25)
  have hB19 : Hid _ := hB17.trans (hb19.mono hB17.size)
  obtain ⟨a0, a1⟩ := (hv17.grow hb19).cells
  obtain ⟨b0, b1⟩ := (hu17.grow hb19).cells
  have hy19 : Hid _ := hy17.grow hb19
  have hl19 : Hid _ := hl17.out.2.1.grow hb19
  have hk19 : Hid _ := fun x hx => (hl17.out.2.2 x hx).grow hb19
  have hn0 := fun W => enum_any 0 W
  have hn1 := fun W => enum_any 100 W
  have n6 := fun W => lv_num 1500 (by decide) W
  have n7 := fun W => lv_num 11 (by decide) W
  have nN : ∀ W : World, Calls Tryz.prog 29 #[] W fun e w' => e = .returned (.agg #[.int .i64 3, .int .i64 0]) ∧ Below W.heap.size W w' := fun W => rnan_b W
  have hsl : Hid (l.map serOf = [⟨lvY, ⟨1, 11⟩⟩]) := hl17.out.1
  clear hl17 hv17 hu17 hy17 hx16 hz16 hy16 hv16 hu16 hA16 hj16 hR15 hA13 hx14 hy14 hz14 hv14 hu14 hx12 hy12 hz12 hv12 hu12 h3 hv9 hu9 hv7 hu7 hv5 hp5 hp3 n1 n2 n3 n4 n5 n0 hr1 hr2 hr3 hP hRa hjo bA bB hB hB6 hB7 hB8 hB9 hB12 hB13 hB14 hB15 hB16 hb1 hb2 hb3 hb5 hb7 hb12 hb13 hb15 hb17 hb18 hb19 hB17
  generalize w18.alloc (.cells #[.int .i64 0, .int .i64 0] 25) = W at *
  have fa0 : ∀ p : Bel W, p.W.cell? ⟨w5.heap.size, 0, none⟩ = some (.int .i64 1) := fun p => p.cell a0
  have fa1 : ∀ p : Bel W, p.W.cell? ⟨w5.heap.size, 1, none⟩ = some (.int .i64 1500) := fun p => p.cell a1
  have fb0 : ∀ p : Bel W, p.W.cell? ⟨w7.heap.size, 0, none⟩ = some (.int .i64 3) := fun p => p.cell b0
  have fb1 : ∀ p : Bel W, p.W.cell? ⟨w7.heap.size, 1, none⟩ = some (.int .i64 0) := fun p => p.cell b1
  clear a0 a1 b0 b1
  refine wp_region_grow (w := W) (fun i => match i with | 1 => some (fun u _ => u = .int .i64 0) | 3 => some (fun u _ => u = .int .i64 0) | 6 => some (fun u _ => u = .int .i64 0) | 11 => some (fun u _ => u = .agg #[.int .i64 1, .int .i64 1500]) | 16 => some (fun u _ => u = .agg #[.int .i64 3, .int .i64 0]) | 22 => some (fun u _ => u = .agg #[.int .i64 1, .int .i64 11]) | 23 => some (fun u _ => u = .agg #[.slice (some ⟨w7.heap.size + 1 + 1, 0, none⟩) 2 2, .int .i64 1, .int .i64 11]) | 24 => some (fun u W => Srs W u [⟨some ⟨w7.heap.size + 1 + 1, 0, none⟩, 2, 2, lvY, ⟨1, 11⟩⟩]) | 25 => some (fun u _ => u = .bool true) | 29 => some (fun u _ => u = .int .i64 100) | _ => none) ?_ (by kernel_rfl) (by kernel_rfl) ?_
  · intro i s hs v W W' h g
    dsimp only at hs; split at hs <;> cases hs <;> first | exact Sls.grow h g | exact h
  refine wpG_pure rfl rfl rfl rfl (fun K hK => ?_); go_big_quiet_op; refine hK _ ?_; clear hK K
  refine wpG_call (.int .i64 0) rfl rfl rfl (fun W hW => ?_) (fun K hK => ?_)
  · refine tell_fn #[.int .i64 0] rfl (by simp [Act.eval]) Tryz.func12 (by kernel_rfl) (by kernel_rfl) ?_
    refine (hn0 W).mono ?_
    rintro e w' ⟨h1, h2⟩
    exact ⟨_, h1, h2, rfl⟩
  go_big_quiet_op; refine hK _ ?_; clear hK K
  refine wpG_pure rfl rfl rfl rfl (fun K hK => ?_); go_big_quiet_op; refine hK _ ?_; clear hK K
  refine wpG_call (.int .i64 0) rfl rfl rfl (fun W hW => ?_) (fun K hK => ?_)
  · refine tell_fn #[.int .i64 0] rfl (by simp [Act.eval]) Tryz.func12 (by kernel_rfl) (by kernel_rfl) ?_
    refine (hn0 W).mono ?_
    rintro e w' ⟨h1, h2⟩
    exact ⟨_, h1, h2, rfl⟩
  go_big_quiet_op; refine hK _ ?_; clear hK K
  refine wpG_pure rfl rfl rfl rfl (fun K hK => ?_); go_big_quiet_op; refine hK _ ?_; clear hK K
  refine wpG_pure rfl rfl rfl rfl (fun K hK => ?_); go_big_quiet_op; refine hK _ ?_; clear hK K
  refine wpG_call (.int .i64 0) rfl rfl rfl (fun W hW => ?_) (fun K hK => ?_)
  · refine tell_fn #[.int .i64 0] rfl (by simp [Act.eval]) Tryz.func12 (by kernel_rfl) (by kernel_rfl) ?_
    refine (hn0 W).mono ?_
    rintro e w' ⟨h1, h2⟩
    exact ⟨_, h1, h2, rfl⟩
  go_big_quiet_op; refine hK _ ?_; clear hK K
  refine wpG_pure rfl rfl rfl rfl (fun K hK => ?_); go_big_quiet_op; refine hK _ ?_; clear hK K
  refine wpG_pure rfl rfl rfl rfl (fun K hK => ?_); go_big_quiet_op; refine hK _ ?_; clear hK K
  refine wpG_pure rfl rfl rfl rfl (fun K hK => ?_); go_big_quiet_op; refine hK _ ?_; clear hK K
  refine wpG_pure rfl rfl rfl rfl (fun K hK => ?_); go_big_quiet_op; refine hK _ ?_; clear hK K
  refine wpG_call (.agg #[.int .i64 1, .int .i64 1500]) rfl rfl rfl (fun W hW => ?_) (fun K hK => ?_)
  · refine tell_fn #[.int .i64 1500] rfl (by simp [Act.eval]) Tryz.func27 (by kernel_rfl) (by kernel_rfl) ?_
    refine (n6 W).mono ?_
    rintro e w' ⟨h1, h2⟩
    exact ⟨_, h1, h2, rfl⟩
  go_big_quiet_op; refine hK _ ?_; clear hK K
  refine wpG_pure rfl rfl rfl rfl (fun K hK => ?_); go_big_quiet_op; refine hK _ ?_; clear hK K
  refine wpG_pure rfl rfl rfl rfl (fun K hK => ?_); go_big_quiet_op; refine hK _ ?_; clear hK K
  refine wpG_pure rfl rfl rfl rfl (fun K hK => ?_); go_big_quiet_op; refine hK _ ?_; clear hK K
  refine wpG_pure rfl rfl rfl rfl (fun K hK => ?_); go_big_quiet_op; refine hK _ ?_; clear hK K
  refine wpG_call (.agg #[.int .i64 3, .int .i64 0]) rfl rfl rfl (fun W hW => ?_) (fun K hK => ?_)
  · refine tell_fn #[] rfl (by simp) Tryz.func29 (by kernel_rfl) (by kernel_rfl) ?_
    refine (nN W).mono ?_
    rintro e w' ⟨h1, h2⟩
    exact ⟨_, h1, h2, rfl⟩
  go_big_quiet_op; refine hK _ ?_; clear hK K
  refine wpG_pure rfl rfl rfl rfl (fun K hK => ?_); go_big_quiet_op; refine hK _ ?_; clear hK K
  refine wpG_pure rfl rfl rfl rfl (fun K hK => ?_); go_big_quiet_op; refine hK _ ?_; clear hK K
  refine wpG_pure rfl rfl rfl rfl (fun K hK => ?_); go_big_quiet_op; refine hK _ ?_; clear hK K
  refine wpG_pure rfl rfl rfl rfl (fun K hK => ?_); go_big_quiet_op; refine hK _ ?_; clear hK K
  refine wpG_pure rfl rfl rfl rfl (fun K hK => ?_); go_big_quiet_op; refine hK _ ?_; clear hK K
  refine wpG_call (.agg #[.int .i64 1, .int .i64 11]) rfl rfl rfl (fun W hW => ?_) (fun K hK => ?_)
  · refine tell_fn #[.int .i64 11] rfl (by simp [Act.eval]) Tryz.func27 (by kernel_rfl) (by kernel_rfl) ?_
    refine (n7 W).mono ?_
    rintro e w' ⟨h1, h2⟩
    exact ⟨_, h1, h2, rfl⟩
  go_big_quiet_op; refine hK _ ?_; clear hK K
  refine wpG_call (.agg #[.slice (some ⟨w7.heap.size + 1 + 1, 0, none⟩) 2 2, .int .i64 1, .int .i64 11]) rfl rfl rfl (fun W hW => ?_) (fun K hK => ?_)
  · exact tell_run _ W (by go_simp) (Gw.refl _) rfl
  go_big_quiet_op; refine hK _ ?_; clear hK K
  refine wpG_tell rfl rfl rfl (fun W hW => ?_) (fun x24 hx24 K hK => ?_)
  · exact tell_run (.slice (some ⟨W.heap.size, 0, none⟩) 1 1) (W.alloc (.cells #[.slice (some ⟨w7.heap.size + 1 + 1, 0, none⟩) 2 2, .int .i64 1, .int .i64 11] 49)) (by go_simp) ((Below.refl _ _).alloc (Nat.le_refl _) _) (hRb.out W _ 11)
  go_big_quiet_op; refine hK _ ?_; clear hK K
  refine wpG_call (.bool true) rfl rfl rfl (fun W' hW => ?_) (fun K hK => ?_)
  · refine tell_fn #[vo, x24] rfl (by simp [Act.eval]) Tryz.func21 (by kernel_rfl) (by kernel_rfl) ?_
    have hg := hW.1.gw
    have hlen : l.length ≤ 1000000 := (by have := congrArg List.length hsl.out; rw [List.length_map] at this; rw [this]; decide)
    refine (same_ser vo x24 l [⟨some ⟨w7.heap.size + 1 + 1, 0, none⟩, 2, 2, lvY, ⟨1, 11⟩⟩] W' (Sls.grow hl19.out hg) ((hW.2 24 _ rfl (by kernel_rfl)).2 rfl) (fun x hx => ⟨Sls.grow (hk19.out x hx) hg, ?_⟩) (fun x hx => ?_) hlen (by simp)).mono ?_
    · have h5 : serOf x ∈ l.map serOf := List.mem_map.2 ⟨x, hx, rfl⟩
      rw [hsl.out, List.mem_singleton] at h5
      rw [show x.labs = lvY from congrArg Series10.Sr.labels h5]
      decide
    · rw [List.mem_singleton.1 hx]
      exact ⟨Sls.grow hy19.out hg, by simp [lvY]⟩
    · rintro e w' ⟨h1, h2⟩
      rw [decide_eq_true (show SameS l [⟨some ⟨w7.heap.size + 1 + 1, 0, none⟩, 2, 2, lvY, ⟨1, 11⟩⟩] from hsl.out)] at h1
      exact ⟨_, h1, h2, rfl⟩
  go_big_quiet_op; refine hK _ ?_; clear hK K
  refine wpG_pure rfl rfl rfl rfl (fun K hK => ?_); go_big_quiet_op; refine hK _ ?_; clear hK K
  refine wpG_pure rfl rfl rfl rfl (fun K hK => ?_); go_big_quiet_op; refine hK _ ?_; clear hK K
  refine wpG_pure rfl rfl rfl rfl (fun K hK => ?_); go_big_quiet_op; refine hK _ ?_; clear hK K
  refine wpG_call (.int .i64 100) rfl rfl rfl (fun W hW => ?_) (fun K hK => ?_)
  · refine tell_fn #[.int .i64 100] rfl (by simp [Act.eval]) Tryz.func12 (by kernel_rfl) (by kernel_rfl) ?_
    refine (hn1 W).mono ?_
    rintro e w' ⟨h1, h2⟩
    exact ⟨_, h1, h2, rfl⟩
  go_big_quiet_op; refine hK _ ?_; clear hK K
  refine wpG_pure rfl rfl rfl rfl (fun K hK => ?_); go_big_quiet_op; refine hK _ ?_; clear hK K
  refine wpG_pure rfl rfl rfl rfl (fun K hK => ?_); go_big_quiet_op; refine hK _ ?_; clear hK K
  refine wpG_pure rfl rfl rfl rfl (fun K hK => ?_); go_big_quiet_op; refine hK _ ?_; clear hK K
  refine wpG_nil (fun W' hW hF => ?_)
  have hg := hW.gw
  have hb := hB19.out
  go_wp2
  go_ret
  exact ⟨rfl, hb.trans (hg.mono hb.size)⟩
end Go.Proofs.YtejdmielhaldaaaGreat
