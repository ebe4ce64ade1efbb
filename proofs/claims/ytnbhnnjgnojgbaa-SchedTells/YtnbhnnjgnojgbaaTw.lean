/- SchedTells: its walk, the sorts being one. -/
import Derived.Test.YtnbhnnjgnojgbaaSa
namespace Go.Proofs.Ytnbhnnjgnojgbaa
set_option linter.unusedVariables false
open Go.RowKit
set_option maxRecDepth 100000 in
set_option maxHeartbeats 4000000 in
theorem walkH (stb : ∀ D : List Jb, stbF D = D.foldl insD []) (now : Int) (v : Value) (l : List Jb) (w : World) (hnow : I64 now) (hv : Jbs w v l) (hj : ∀ p ∈ l, JobIn p) (hll : l.length ≤ 1954687338211) :
    Calls Try.prog 3 #[.int .i64 now, v] w fun e w' => e = .returned (.bool true) ∧ Below w.heap.size w w' := by
  obtain ⟨va, vc, rfl⟩ := hv.shape
  have hL : Hid (∀ W, Calls Try.prog 8 #[] W fun e w' => e = .returned (.bool true) ∧ Below W.heap.size W w') := fun W => live8 W
  have hsm := small7 _ l now w hv (JobIn.sz hj)
  cases h0 : smB l now with
  | false =>
    rw [h0] at hsm
    go_enter Try.func3, Try.ntmps3
    go_wp2_with (first
      | (go_at_call 7; refine hsm.mono ?_; rintro e w2 ⟨rfl, hb2⟩)
      | (go_at_call 8; refine (hL.out _).mono ?_; rintro e w3 ⟨rfl, hb3⟩))
    go_ret
    exact ⟨rfl, hb2.trans (hb3.mono hb2.size)⟩
  | true =>
    rw [h0] at hsm
    obtain ⟨hl60, hok, _, n0, n1⟩ := smB_yes h0
    have hw13 : Hid (∀ W u, Jbs W u l → Calls Try.prog 13 #[.int .i64 now, u] W fun e w' => e = .returned (.tuple #[.int .i64 (wkF now l).1, .bool (wkF now l).2]) ∧ Below W.heap.size W w') := fun W u hu => wake13 u l now W hu hok (by omega) (by omega) (by omega)
    have hw14 : Hid (∀ W, Below w.heap.size w W → Calls Try.prog 14 #[.int .i64 now, .slice va l.length vc] W fun e w' => e = .returned (.tuple #[.int .i64 (wkF now l).1, .bool (wkF now l).2]) ∧ Below W.heap.size W w') := fun W hW => rwake14 _ l now W (Sls.grow hv hW) hok (by omega) (by omega) (by omega)
    have hd16 : Hid (∀ W u, Jbs W u l → Calls Try.prog 16 #[.int .i64 now, u] W fun e w' => ∃ y, e = .returned y ∧ OwnS TJ w' W.heap.size y (rduL now l) ∧ Below W.heap.size W w') := fun W u hu => by
      have := due16 u l now W hu hok (by omega) (by omega) (by omega)
      rw [stb] at this
      exact this
    have hd17 : Hid (∀ W, Below w.heap.size w W → Calls Try.prog 17 #[.int .i64 now, .slice va l.length vc] W fun e w' => ∃ y, e = .returned y ∧ OwnS TJ w' W.heap.size y (rduL now l) ∧ Below W.heap.size W w') := fun W hW => rdue17 _ l now W (Sls.grow hv hW) hok (by omega) (by omega) (by omega)
    have hrl : (rduL now l).length ≤ 60 := by rw [rduL_len]; exact Nat.le_trans (dueL_len now l) hl60
    obtain ⟨R, hRd⟩ : ∃ R, R = rduL now l := ⟨_, rfl⟩
    rw [← hRd] at hd16 hd17 hrl
    clear hRd
    generalize wkF now l = r at *
    obtain ⟨t, ok⟩ := r
    simp only at hw13 hw14
    have hlL : ([] : List Jb).length + l.length ≤ 1000000000 := by rw [List.length_nil]; omega
    go_enter Try.func3, Try.ntmps3
    go_wp2_with (go_at_call 7; refine hsm.mono ?_; rintro e w2 ⟨rfl, hb2⟩)
    replace hb2 : Hid (Below w.heap.size w w2) := hb2
    clear hsm
    go_loopw [5] (fun iv wr => ∃ k : Nat, k ≤ l.length ∧ iv = .int .i64 k ∧ Hid (Below w.heap.size w wr)) (fun iv _ => l.length - (intOf iv).toNat)
    case atStart => exact ⟨0, Nat.zero_le _, rfl, hb2.out⟩
    case round =>
      obtain ⟨k, hk, rfl, hB⟩ := hrel
      by_cases hlt : k < l.length
      · have hki : (k : Int) < (l.length : Int) := by omega
        obtain ⟨b, o, rfl, hat⟩ := jb_at (Sls.grow hv hB.out) k hlt
        obtain ⟨y0, y1, y2, y3, y4, y5, y6⟩ := at_jb hat
        have hokj := hok _ (getD_mem l jb0 k hlt)
        clear hat
        generalize l.getD k jb0 = j at *
        have hla : -1 ≤ j.la ∧ j.la ≤ 4398046511104 := ⟨hokj.2.2.2.2.1, by have := hokj.2.2.2.2.2; omega⟩
        have q9a : ∀ p : Bel wr, _ := fun p => slot9 j now p.W hokj (by omega) (by omega)
        have q9b : ∀ p : Bel wr, _ := fun p => slot9 j j.la p.W hokj hla.1 hla.2
        have q10a : ∀ p : Bel wr, _ := fun p => rslot10 j now p.W hokj (by omega) (by omega)
        have q10b : ∀ p : Bel wr, _ := fun p => rslot10 j j.la p.W hokj hla.1 hla.2
        have q11 : ∀ p : Bel wr, _ := fun p => next11 j now p.W hokj (by omega) (by omega)
        have q12 : ∀ p : Bel wr, _ := fun p => rnext12 j now p.W hokj (by omega) (by omega)
        unfold encJ at q9a q9b q10a q10b q11 q12
        generalize slotF j now = s1 at *
        generalize slotF j j.la = s2 at *
        generalize nextF j now = s3 at *
        have e1 : (s1 != s1) = false := by simp
        have e2 : (s2 != s2) = false := by simp
        have e3 : (s3 != s3) = false := by simp
        have c0 : ∀ zz : Bel wr, zz.W.cell? ⟨b, o + k * 7, none⟩ = some (.string j.fo) := fun zz => zz.cell y0
        have c1 : ∀ zz : Bel wr, zz.W.cell? ⟨b, o + k * 7 + 1, none⟩ = some (.string j.gr) := fun zz => zz.cell y1
        have c2 : ∀ zz : Bel wr, zz.W.cell? ⟨b, o + k * 7 + 2, none⟩ = some (.int .i64 j.id) := fun zz => zz.cell y2
        have c3 : ∀ zz : Bel wr, zz.W.cell? ⟨b, o + k * 7 + 3, none⟩ = some (.int .i64 j.iv) := fun zz => zz.cell y3
        have c4 : ∀ zz : Bel wr, zz.W.cell? ⟨b, o + k * 7 + 4, none⟩ = some (.int .i64 j.off) := fun zz => zz.cell y4
        have c5 : ∀ zz : Bel wr, zz.W.cell? ⟨b, o + k * 7 + 5, none⟩ = some (.bool j.pa) := fun zz => zz.cell y5
        have c6 : ∀ zz : Bel wr, zz.W.cell? ⟨b, o + k * 7 + 6, none⟩ = some (.int .i64 j.la) := fun zz => zz.cell y6
        go_upto_region 6 with fail
        refine wp_region_bel (by kernel_rfl) (by kernel_rfl) ?_
        repeat (go_big_quiet_step (first | (go_at_call 9; with_reducible exact Calls.bel (q9a _)) | (go_at_call 9; with_reducible exact Calls.bel (q9b _)) | (go_at_call 10; with_reducible exact Calls.bel (q10a _)) | (go_at_call 10; with_reducible exact Calls.bel (q10b _)) | (go_at_call 11; with_reducible exact Calls.bel (q11 _)) | (go_at_call 12; with_reducible exact Calls.bel (q12 _))))
        refine wpQuiet_nil ?_
        rintro wq ⟨⟨wz, hq⟩, rfl⟩
        have hBq : Hid (Below w.heap.size w wq) := hB.out.trans (hq.mono hB.out.size)
        clear c0 c1 c2 c3 c4 c5 c6 q9a q9b q10a q10b q11 q12 hq
        go_wp2
        refine ⟨⟨k + 1, by omega, by go_num, hBq.out⟩, by simp [intOf]; omega⟩
      · obtain rfl : k = l.length := by omega
        have hki : ¬ (l.length : Int) < (l.length : Int) := by omega
        have hvr := Sls.grow hv hB.out
        have hBr := hB.out
        have t1 : True := trivial
        go_wp2_with (first
          | (at_builtin; have _t := t1; refine appR TJ rfl _ _ rfl wr.heap.size (.slice (some ⟨wr.heap.size, 0, none⟩) 0 0) (.slice va l.length vc) [] l rfl rfl (own_empty (T := TJ) wr wr.heap.size (Nat.le_refl _)) (Sls.alloc hvr _) (by simp) hlL ?_; clear t1; intro v4 w4 ho4 hg4; rw [List.nil_append] at ho4; have hb4 : Below wr.heap.size wr w4 := ((Below.refl _ wr).alloc (Nat.le_refl _) _).grown hg4 (by simp) (by intro q hq; cases hq; exact Nat.le_refl _); have hB4 : Below w.heap.size w w4 := hBr.trans (hb4.mono hBr.size))
          | (go_at_call 13; refine (hw13.out w4 v4 ho4.sls).mono ?_; rintro e w5 ⟨rfl, hb5⟩; have hB5 : Below w.heap.size w w5 := hB4.trans (hb5.mono hB4.size); have hw5 := hw14.out w5 hB5)
          | (go_at_call 14; refine hw5.mono ?_; rintro e w6 ⟨rfl, hb6⟩; have hB6 : Below w.heap.size w w6 := hB5.trans (hb6.mono hB5.size); have hv6 := Sls.grow hv hB6)
          | (at_builtin; refine appR TJ rfl _ _ rfl w6.heap.size (.slice (some ⟨w6.heap.size, 0, none⟩) 0 0) (.slice va l.length vc) [] l rfl rfl (own_empty (T := TJ) w6 w6.heap.size (Nat.le_refl _)) (Sls.alloc hv6 _) (by simp) hlL ?_; intro v7 w7 ho7 hg7; rw [List.nil_append] at ho7; have hb7 : Below w6.heap.size w6 w7 := ((Below.refl _ w6).alloc (Nat.le_refl _) _).grown hg7 (by simp) (by intro q hq; cases hq; exact Nat.le_refl _); have hB7 : Below w.heap.size w w7 := hB6.trans (hb7.mono hB6.size))
          | (go_at_call 16; refine (hd16.out w7 v7 ho7.sls).mono ?_; rintro e w8 ⟨y8, rfl, ho8, hb8⟩; have hB8 : Below w.heap.size w w8 := hB7.trans (hb8.mono hB7.size); have hd8 := hd17.out w8 hB8)
          | (go_at_call 17; refine hd8.mono ?_; rintro e w9 ⟨y9, rfl, ho9, hb9⟩; have hB9 : Below w.heap.size w w9 := hB8.trans (hb9.mono hB8.size); have hsa := same15 y8 y9 R w9 (Sls.grow ho8.sls hb9) ho9.sls (by omega))
          | (go_at_call 15; refine hsa.mono ?_; rintro e w10 ⟨rfl, hb10⟩; have hB10 : Below w.heap.size w w10 := hB9.trans (hb10.mono hB9.size))
          | (go_at_call 8; refine (hL.out _).mono ?_; rintro e w11 ⟨rfl, hb11⟩))
        go_ret
        exact ⟨rfl, hB10.trans (hb11.mono hB10.size)⟩
end Go.Proofs.Ytnbhnnjgnojgbaa
