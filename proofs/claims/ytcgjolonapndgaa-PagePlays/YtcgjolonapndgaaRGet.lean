/- The document's own Get. -/
import Derived.Test.YtcgjolonapndgaaRPut
import Derived.Lib.ConvBytes
namespace Go.Proofs.Ytcgjolonapndgaa
open Go.RowKit Go.Maps Go.ChangeMaps Go.MapKept
theorem str_size (bs : List Int) : (strOfNums bs).size = bs.length := by
  unfold strOfNums
  simp [ByteArray.size]
theorem str_get (bs : List Int) (hby : IsBytes bs) (k : Nat) (h : k < (strOfNums bs).size) : (((strOfNums bs)[k]).toNat : Int) = bs.getD k 0 := by
  have hk : k < bs.length := by rw [← str_size]; exact h
  have hb := hby _ (getD_mem bs 0 k hk)
  have e : (strOfNums bs)[k] = UInt8.ofNat (bs.getD k 0).toNat := by
    have h3 : (strOfNums bs).data[k]? = some (UInt8.ofNat (bs.getD k 0).toNat) := by
      unfold strOfNums
      simp [hk]
    exact (Array.getElem?_eq_some_iff.1 h3).2
  rw [e, UInt8.toNat_ofNat_of_lt' (by show _ < 256; omega)]
  omega
set_option maxRecDepth 100000 in
set_option maxHeartbeats 1000000 in
theorem rget_size (s : ByteArray) (w : World) (h : (s.size : Int) < 64 ∨ 8192 < (s.size : Int)) :
    Calls Try.prog 13 #[.string s] w fun e w' => e = .returned (.tuple #[.agg #[.int .u8 0, .int .u32 0, .slice none 0 0], .int .i64 30]) ∧ Below w.heap.size w w' := by
  go_enter Try.func13, Try.ntmps13
  go_wp2_with (first | (go_at_call 17; refine (rroom_bad _ _ h).mono ?_; rintro e w' ⟨rfl, hw'⟩; subst w'))
  exact bodyPost_ret (v := .tuple #[.agg #[.int .u8 0, .int .u32 0, .slice none 0 0], .int .i64 30]) (by simp [results, Try.results13, go_sem]) rfl ⟨rfl, (Below.refl _ _).alloc (Nat.le_refl _) _⟩
theorem strs_cut (bs : List Int) (i n : Nat) : (strOfNums bs).extract i (i + n) = strOfNums ((bs.drop i).take n) := by
  apply ByteArray.ext
  simp only [strOfNums, ByteArray.data_extract, List.map_take, List.map_drop, List.extract_toArray, List.extract_eq_take_drop]
  rw [show i + n - i = n by omega]
set_option maxRecDepth 100000 in
/-- []byte(s). -/
theorem bytes_of (w : World) (bs : List Int) (hby : IsBytes bs) : ∃ a c W, (convert 9 23 (.string (strOfNums bs))).run Try.prog w = .ok (.slice a bs.length c) W ∧ Bts W (.slice a bs.length c) bs ∧ Below w.heap.size w W ∧ (∀ k, (Value.slice a bs.length c).ownBlock = some k → w.heap.size ≤ k) := by
  have hr := Lib.run_convert_string_bytes (P := Try.prog) w 9 23 5 (strOfNums bs) Try.underlying9 Try.underlying23 Try.underlying5
  rw [str_size] at hr
  have hge := grownCap_ge w bs.length 0 5
  refine ⟨_, _, _, hr, ⟨_, _, rfl, ⟨(fun e => by cases e), hge⟩, .inr ⟨_, 0, rfl, fun t _ ht => ?_⟩⟩, ⟨rfl, rfl, rfl, ?_, fun k hk => Lib.bytesWorld_at_old w 5 _ k hk⟩, fun k hk => by cases hk; exact Nat.le_refl _⟩
  · rw [Nat.zero_add, Lib.bytesWorld_cell w 5 (strOfNums bs) t (by rw [str_size]; exact ht)]
    have hb := hby _ (getD_mem bs 0 t ht)
    congr 2
    have hx : (strOfNums bs).data.toList.getD t 0 = UInt8.ofNat (bs.getD t 0).toNat := by
      unfold strOfNums
      simp [ht]
    rw [hx, UInt8.toNat_ofNat_of_lt' (by show _ < 256; omega)]
    omega
  · rw [Lib.bytesWorld_size]; omega
theorem be_two (bs : List Int) (h : 7 ≤ bs.length) : ofBe ((bs.drop 5).take 2) = 256 * (bs.getD 5 0).toNat + (bs.getD 6 0).toNat := by
  have h1 := be_get (bs.drop 5) 1 (by simp; omega)
  have h0 := be_get (bs.drop 5) 0 (by simp; omega)
  rw [show (1 + 1) = 2 from rfl] at h1
  rw [h1, h0]
  simp [ofBe]
theorem setId {w : World} {x : Nat} {k : Int} {i i2 : Nat} {v : Value} (h : PageAt w x k i v) : PageAt (w.setCell ⟨x, 1, none⟩ (.int .u32 i2)) x k i2 v := by
  have h1 := block_setCell (i := 1) (u := .int .u32 i2) h
  unfold PageAt
  rw [h1]
  simp
theorem setLoad {w : World} {x : Nat} {k : Int} {i : Nat} {v v2 : Value} (h : PageAt w x k i v) : PageAt (w.setCell ⟨x, 2, none⟩ v2) x k i v2 := by
  have h1 := block_setCell (i := 2) (u := v2) h
  unfold PageAt
  rw [h1]
  simp
set_option maxRecDepth 100000 in
set_option maxHeartbeats 2000000 in
theorem rget_main (bs : List Int) (s : ByteArray) (hs : Hid (s = strOfNums bs)) (w : World) (hby : IsBytes bs) (h1 : 64 ≤ bs.length) (h2 : bs.length ≤ 8192) :
    Calls Try.prog 13 #[.string s] w fun e w' => (isPage bs = false → e = .returned (.tuple #[.agg #[.int .u8 0, .int .u32 0, .slice none 0 0], .int .i64 30])) ∧ (isPage bs = true → ∃ lv, e = .returned (.tuple #[.agg #[.int .u8 (kindOf bs), .int .u32 (idOf bs), lv], .int .i64 0]) ∧ Bts w' lv (loadOf bs) ∧ ∀ k, lv.ownBlock = some k → w.heap.size ≤ k) ∧ Below w.heap.size w w' := by
  have hsz : s.size = bs.length := by rw [hs.out]; exact str_size bs
  have hget : ∀ (k : Nat) (h : k < s.size), ((s[k]).toNat : Int) = bs.getD k 0 := by rw [hs.out]; exact fun k h => str_get bs hby k h
  have hg0 : ((s[0]'(by omega)).toNat : Int) = kindOf bs := hget 0 (by omega)
  have hPG : Hid (isPage bs = decide (lenOf bs + 11 ≤ bs.length ∧ kindOf bs ≠ 0 ∧ pageB bs.length (kindOf bs) (idOf bs) (loadOf bs) = bs)) := by
    show _ = _
    unfold isPage
    simp only [h1, h2, true_and]
  have hkb : 0 ≤ kindOf bs ∧ kindOf bs < 256 := hby _ (getD_mem bs 0 0 (by omega))
  have hLb : IsBytes (loadOf bs) := (hby.drop 7).take _
  have hI4 : Hid (idOf bs = ofBe ((bs.drop 1).take 4)) := rfl
  have hL2 : Hid (lenOf bs = ofBe ((bs.drop 5).take 2)) := rfl
  have hLd : Hid (loadOf bs = (bs.drop 7).take (lenOf bs)) := rfl
  have hit : idOf bs < 2 ^ 32 := by
    have h4 : ((bs.drop 1).take 4).length = 4 := by simp; omega
    have := ofBe_lt ((bs.drop 1).take 4) ((hby.drop 1).take 4)
    rw [h4] at this
    exact this
  generalize kindOf bs = K at *
  generalize idOf bs = I at *
  generalize loadOf bs = Ld at *
  generalize lenOf bs = L at *
  generalize isPage bs = PG at *
  have hs1 : (64 : Int) ≤ (bs.length : Int) := by omega
  have hs2 : (bs.length : Int) ≤ 8192 := by omega
  have hd0 : ((bs.length : Int) - 11 == 0) = false := by simp; omega
  replace hget : Hid _ := hget
  go_enter Try.func13, Try.ntmps13
  go_upto_region 4 with (first | (go_at_call 17; refine (rroom_ok _ _ hs1 hs2).mono ?_; rintro e w' ⟨rfl, hw'⟩; subst w'))
  have hx0 : PageAt ((w.alloc (.cells #[.int .u8 0, .int .u32 0, .slice none 0 0] 25)).alloc (.cells #[.int .u8 K, .int .u32 0, .slice none 0 0] 25)) (w.heap.size + 1) K 0 (.slice none 0 0) := heap2 w _ _
  have hr0 : PageAt ((w.alloc (.cells #[.int .u8 0, .int .u32 0, .slice none 0 0] 25)).alloc (.cells #[.int .u8 K, .int .u32 0, .slice none 0 0] 25)) w.heap.size 0 0 (.slice none 0 0) := heap2f w _ _
  have hB0 : Below w.heap.size w ((w.alloc (.cells #[.int .u8 0, .int .u32 0, .slice none 0 0] 25)).alloc (.cells #[.int .u8 K, .int .u32 0, .slice none 0 0] 25)) := ((Below.refl _ w).alloc (Nat.le_refl _) _).alloc (by simp) _
  generalize (w.alloc (.cells #[.int .u8 0, .int .u32 0, .slice none 0 0] 25)).alloc (.cells #[.int .u8 K, .int .u32 0, .slice none 0 0] 25) = W0 at *
  clear hg0
  go_wp2_with fail
  go_loopw [5] (fun i wr => ∃ k : Nat, 1 ≤ k ∧ k ≤ 5 ∧ i = .int .i64 k ∧ Hid (PageAt wr (w.heap.size + 1) K (ofBe ((bs.drop 1).take (k - 1))) (.slice none 0 0)) ∧ Hid (PageAt wr w.heap.size 0 0 (.slice none 0 0)) ∧ Below w.heap.size w wr) (fun i _ => 5 - (intOf i).toNat)
  case atStart => exact ⟨1, by omega, by omega, rfl, hx0, hr0, hB0⟩
  case round =>
    obtain ⟨k, hk1, hk5, rfl, hx, hr, hBr⟩ := hrel
    by_cases hlt : k < 5
    · have hlow : ofBe ((bs.drop 1).take (k - 1)) < 2 ^ 24 := by
        have h1 := ofBe_lt ((bs.drop 1).take (k - 1)) ((hby.drop 1).take _)
        have h2 : ((bs.drop 1).take (k - 1)).length ≤ 3 := by rw [List.length_take]; omega
        exact Nat.lt_of_lt_of_le h1 (Nat.pow_le_pow_right (n := 256) (by omega) h2)
      have hcb := hby _ (getD_mem bs 0 k (by omega))
      have hgk : ((s[k]'(by omega)).toNat : Int) = bs.getD k 0 := hget.out k (by omega)
      have hst : Hid (ofBe ((bs.drop 1).take (k + 1 - 1)) = 256 * ofBe ((bs.drop 1).take (k - 1)) + (bs.getD k 0).toNat) := by
        show _ = _
        have := be_get (bs.drop 1) (k - 1) (by simp; omega)
        rw [show k - 1 + 1 = k + 1 - 1 by omega] at this
        rw [this]
        congr 2
        rw [List.getD_eq_getElem?_getD, List.getD_eq_getElem?_getD, List.getElem?_drop, show 1 + (k - 1) = k by omega]
      obtain ⟨c0, c1, c2⟩ := PageAt.cells hx.out
      obtain ⟨f0, f1, f2⟩ := PageAt.frozen hx.out
      have hx2 := fun i2 => setId (i2 := i2) hx.out
      generalize ofBe ((bs.drop 1).take (k - 1)) = y at *
      generalize bs.getD k 0 = c at *
      have h8 := shl832 y hlow
      have ho := or_low32 y c hlow hcb
      have hkl : (k : Int) < (bs.length : Int) := by omega
      clear hx
      go_wp2_with fail
      go_region
      have hval : 256 * (y : Int) + max c 0 = ((256 * y + c.toNat : Nat) : Int) := by omega
      rw [hval]
      have hx3 := hx2 (256 * y + c.toNat)
      have hr3 := PageAt.keep hr.out (Below.heap_setCell wr ⟨w.heap.size + 1, 1, none⟩ (.int .u32 ((256 * y + c.toNat : Nat) : Int)) w.heap.size (by simp))
      have hB3 := hBr.setCell (p := ⟨w.heap.size + 1, 1, none⟩) (by simp) (.int .u32 ((256 * y + c.toNat : Nat) : Int))
      generalize wr.setCell ⟨w.heap.size + 1, 1, none⟩ (.int .u32 ((256 * y + c.toNat : Nat) : Int)) = W3 at *
      go_wp2_with fail
      go_roundw
      case rel => exact ⟨k + 1, by omega, by omega, by go_num, by rw [hst.out]; exact hx3, hr3, hB3.drew⟩
      case measure => simp [intOf]; omega
    · obtain rfl : k = 5 := by omega
      replace hx : Hid (PageAt wr (w.heap.size + 1) K I (.slice none 0 0)) := by rw [hI4.out]; exact hx.out
      have hc5 := hby _ (getD_mem bs 0 5 (by omega))
      have hc6 := hby _ (getD_mem bs 0 6 (by omega))
      have hg5 : ((s[5]'(by omega)).toNat : Int) = bs.getD 5 0 := hget.out 5 (by omega)
      have hg6 : ((s[6]'(by omega)).toNat : Int) = bs.getD 6 0 := hget.out 6 (by omega)
      have hLv : 256 * bs.getD 5 0 + bs.getD 6 0 = (L : Int) := by
        have := be_two bs (by omega)
        rw [hL2.out, this]; omega
      have hLm : L < 65536 := by omega
      generalize bs.getD 5 0 = c5 at *
      generalize bs.getD 6 0 = c6 at *
      have hn5 : (5 : Int) < (bs.length : Int) := by omega
      have hn6 : (6 : Int) < (bs.length : Int) := by omega
      obtain ⟨c0, c1, c2⟩ := PageAt.cells hx.out
      obtain ⟨f0, f1, f2⟩ := PageAt.frozen hx.out
      obtain ⟨r0, r1, r2⟩ := PageAt.cells hr.out
      obtain ⟨q0, q1, q2⟩ := PageAt.frozen hr.out
      go_wp2_with fail
      go_region
      by_cases hlong : bs.length < L + 11
      · have hP : PG = false := by rw [hPG.out]; simp; omega
        have hlo : (bs.length : Int) - 11 < (L : Int) := by omega
        go_wp2_with (first | (go_at_call 17; refine (rroom_ok _ _ hs1 hs2).mono ?_; rintro e w' ⟨rfl, hw'⟩; subst w'))
        refine bodyPost_ret (v := .tuple #[.agg #[.int .u8 0, .int .u32 0, .slice none 0 0], .int .i64 30]) (by simp [results, Try.results13, go_sem, r0, r1, r2]) rfl ⟨fun _ => rfl, fun h => ?_, (((hBr.drew).setCell (Nat.le_refl _) _).setCell (Nat.le_refl _) _).setCell (Nat.le_refl _) _⟩
        rw [hP] at h; cases h
      · have hlo : decide ((bs.length : Int) - 11 < (L : Int)) = false := by simp; omega
        have hcut : s.extract 7 (7 + L) = strOfNums Ld := by rw [hs.out, hLd.out]; exact strs_cut bs 7 L
        have hLl : Ld.length = L := by rw [hLd.out]; simp; omega
        obtain ⟨al, cl, W5, hcv, hbt5, hb5, hob⟩ := bytes_of wr.drew Ld hLb
        rw [hLl] at hcv hbt5 hob
        rw [← hcut] at hcv
        replace hcut : Hid _ := hcut
        have hB5 : Below w.heap.size w W5 := hBr.drew.trans (hb5.mono hBr.size)
        have hx5 : PageAt W5 (w.heap.size + 1) K I (.slice none 0 0) := PageAt.keep hx.out (hb5.block _ (PageAt.lt hx.out))
        have hr5 : PageAt W5 w.heap.size 0 0 (.slice none 0 0) := PageAt.keep hr.out (hb5.block _ (PageAt.lt hr.out))
        obtain ⟨c50, c51, c52⟩ := hx5.cells
        obtain ⟨f50, f51, f52⟩ := hx5.frozen
        have hx6 := setLoad (v2 := .slice al L cl) hx5
        have hr6 := hr5.keep (Below.heap_setCell W5 ⟨w.heap.size + 1, 2, none⟩ (.slice al L cl) w.heap.size (by simp))
        have hB6 := hB5.setCell (p := ⟨w.heap.size + 1, 2, none⟩) (by simp) (.slice al L cl)
        have hbt6 : Bts (W5.setCell ⟨w.heap.size + 1, 2, none⟩ (.slice al L cl)) (.slice al L cl) Ld := hbt5.keep (fun k hk => Below.heap_setCell _ _ _ _ (by have h7 : wr.heap.size ≤ k := hob k hk; have h8 := PageAt.lt hx.out; show k ≠ w.heap.size + 1; omega))
        go_upto_region 12 with (first | (go_at_call 17; refine (rroom_ok _ _ hs1 hs2).mono ?_; rintro e w' ⟨rfl, hw'⟩; subst w'))
        generalize W5.setCell ⟨w.heap.size + 1, 2, none⟩ (.slice al L cl) = W6 at *
        obtain ⟨c60, c61, c62⟩ := hx6.cells
        have hz6 := hB6.size
        by_cases hK0 : K = 0
        · subst hK0
          have hP : PG = false := by rw [hPG.out]; simp
          go_wp2_with (first | (go_at_call 11; refine (rput_kind _ _ _ _).mono ?_; rintro e w7 ⟨rfl, hb7⟩; have hr7 := hr6.keep (hb7.block _ hr6.lt); obtain ⟨x70, x71, x72⟩ := hr7.cells; obtain ⟨y70, y71, y72⟩ := hr7.frozen))
          have hB7 := hB6.trans (hb7.mono hz6)
          refine bodyPost_ret (v := .tuple #[.agg #[.int .u8 0, .int .u32 0, .slice none 0 0], .int .i64 30]) (by simp [results, Try.results13, go_sem, x70, x71, x72]) rfl ⟨fun _ => rfl, fun h => ?_, ((hB7.setCell (Nat.le_refl _) _).setCell (Nat.le_refl _) _).setCell (Nat.le_refl _) _⟩
          rw [hP] at h; cases h
        · have hput := rput_ok bs.length K I (.slice al L cl) Ld W6 h1 h2 ⟨by omega, hkb.2⟩ hit hbt6 hLb (by omega)
          have hPb := pageB_bytes bs.length K I Ld hkb hLb
          have hq : ((strOfNums (pageB bs.length K I Ld)).toList == s.toList) = decide (pageB bs.length K I Ld = bs) := by rw [hs.out]; exact str_beq hPb hby
          replace hLl : Hid _ := hLl
          generalize pageB bs.length K I Ld = PB at *
          generalize strOfNums PB = SP at *
          have hxl := PageAt.lt hx.out
          clear hcv hx5 hr5 c50 c51 c52 f50 f51 f52 hb5 hbt5 hx hr c0 c1 c2 f0 f1 f2 r0 r1 r2 q0 q1 q2 hlo hg5 hg6
          by_cases hE : PB = bs
          · have hP : PG = true := by rw [hPG.out]; simp [hE, hK0]; omega
            have hq1 : (SP.toList == s.toList) = true := by rw [hq]; simp [hE]
            clear hq
            go_wp2_with (first | (go_at_call 11; refine hput.mono ?_; rintro e w7 ⟨rfl, hb7⟩; have hr7 := hr6.keep (hb7.block _ hr6.lt); obtain ⟨x70, x71, x72⟩ := hr7.cells; obtain ⟨y70, y71, y72⟩ := hr7.frozen; have hx7 := hx6.keep (hb7.block _ hx6.lt); obtain ⟨z70, z71, z72⟩ := hx7.cells; have hbt7 := hbt6.grow hb7))
            have hB7 := hB6.trans (hb7.mono hz6)
            refine bodyPost_ret (v := .tuple #[.agg #[.int .u8 K, .int .u32 I, .slice al L cl], .int .i64 0]) (by simp [results, Try.results13, go_sem, x70, x71, x72]) rfl ⟨fun h => ?_, fun _ => ⟨_, rfl, hbt7.keep (fun k hk => setThree _ _ _ (by have h7 : wr.heap.size ≤ k := hob k hk; omega)), fun k hk => by have h7 : wr.heap.size ≤ k := hob k hk; omega⟩, ((hB7.setCell (Nat.le_refl _) _).setCell (Nat.le_refl _) _).setCell (Nat.le_refl _) _⟩
            rw [hP] at h; cases h
          · have hP : PG = false := by rw [hPG.out]; simp [hE]
            have hq1 : (SP.toList == s.toList) = false := by rw [hq]; simp [hE]
            clear hq
            go_wp2_with (first | (go_at_call 11; refine hput.mono ?_; rintro e w7 ⟨rfl, hb7⟩; have hr7 := hr6.keep (hb7.block _ hr6.lt); obtain ⟨x70, x71, x72⟩ := hr7.cells; obtain ⟨y70, y71, y72⟩ := hr7.frozen))
            have hB7 := hB6.trans (hb7.mono hz6)
            refine bodyPost_ret (v := .tuple #[.agg #[.int .u8 0, .int .u32 0, .slice none 0 0], .int .i64 30]) (by simp [results, Try.results13, go_sem, x70, x71, x72]) rfl ⟨fun _ => rfl, fun h => ?_, ((hB7.setCell (Nat.le_refl _) _).setCell (Nat.le_refl _) _).setCell (Nat.le_refl _) _⟩
            rw [hP] at h; cases h
theorem rget_no (bs : List Int) (w : World) (hby : IsBytes bs) (hl : bs.length ≤ 1000000) (h : isPage bs = false) :
    Calls Try.prog 13 #[.string (strOfNums bs)] w fun e w' => e = .returned (.tuple #[.agg #[.int .u8 0, .int .u32 0, .slice none 0 0], .int .i64 30]) ∧ Below w.heap.size w w' := by
  by_cases h1 : bs.length < 64 ∨ 8192 < bs.length
  · exact rget_size (strOfNums bs) w (by rw [str_size]; omega)
  · exact (rget_main bs _ rfl w hby (by omega) (by omega)).mono fun e w' hh => ⟨hh.1 h, hh.2.2⟩
theorem rget_yes (bs : List Int) (w : World) (hby : IsBytes bs) (h : isPage bs = true) :
    Calls Try.prog 13 #[.string (strOfNums bs)] w fun e w' => ∃ lv, e = .returned (.tuple #[.agg #[.int .u8 (kindOf bs), .int .u32 (idOf bs), lv], .int .i64 0]) ∧ Bts w' lv (loadOf bs) ∧ Below w.heap.size w w' := by
  have hp := h
  simp only [isPage, decide_eq_true_eq] at hp
  refine (rget_main bs _ rfl w hby hp.1 hp.2.1).mono fun e w' hh => ?_
  obtain ⟨lv, e1, e2, _⟩ := hh.2.1 h
  exact ⟨lv, e1, e2, hh.2.2⟩
/-- .. and where the load lies. -/
theorem rget_at (bs : List Int) (w : World) (hby : IsBytes bs) (h : isPage bs = true) :
    Calls Try.prog 13 #[.string (strOfNums bs)] w fun e w' => ∃ lv, e = .returned (.tuple #[.agg #[.int .u8 (kindOf bs), .int .u32 (idOf bs), lv], .int .i64 0]) ∧ Bts w' lv (loadOf bs) ∧ (∀ k, lv.ownBlock = some k → w.heap.size ≤ k) ∧ Below w.heap.size w w' := by
  have hp := h
  simp only [isPage, decide_eq_true_eq] at hp
  refine (rget_main bs _ rfl w hby hp.1 hp.2.1).mono fun e w' hh => ?_
  obtain ⟨lv, e1, e2, e3⟩ := hh.2.1 h
  exact ⟨lv, e1, e2, e3, hh.2.2⟩
/-- The document's Put, in one word. -/
theorem rput_bad (size k : Int) (id : Nat) (a : Option Addr) (n c : Nat) (w : World) (hk : 0 ≤ k) (h : putE size k n ≠ 0) :
    Calls Try.prog 11 #[.int .i64 size, .agg #[.int .u8 k, .int .u32 id, .slice a n c]] w fun e w' => e = .returned (.tuple #[.string ⟨#[]⟩, .int .i64 (putE size k n)]) ∧ Below w.heap.size w w' := by
  unfold putE at h ⊢
  by_cases h1 : size < 64 ∨ 8192 < size
  · rw [if_pos (by rcases h1 with h | h; exact .inl h; exact .inr (.inl h))]
    exact rput_size size k id _ w h1
  · by_cases h2 : k = 0
    · subst h2
      rw [if_pos (.inr (.inr rfl))]
      exact rput_kind size id _ w
    · rw [if_neg (by omega)] at h ⊢
      by_cases h3 : size - 11 < (n : Int)
      · rw [if_pos h3]
        exact rput_long size k id a n c w (by omega) (by omega) (by omega) h3
      · rw [if_neg h3] at h; exact absurd rfl h
end Go.Proofs.Ytcgjolonapndgaa
