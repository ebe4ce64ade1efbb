/- The document's big and told. -/
import Derived.Test.YtcgjolonapndgabDoorMBack
import Derived.Lib.ConvBytes
namespace Go.Proofs.YtcgjolonapndgabDoor
set_option linter.unusedVariables false
open Go.RowKit Go.Maps Go.ChangeMaps Go.MapKept
theorem str_size (bs : List Int) : (strOfNums bs).size = bs.length := by
  unfold strOfNums
  simp [ByteArray.size]
theorem str_get (bs : List Int) (hby : IsBytes bs) (k : Nat) (h : k < (strOfNums bs).size) : (((strOfNums bs)[k]).toNat : Int) = bs.getD k 0 := by
  have hk : k < bs.length := by rw [← str_size]; exact h
  have hb := hby _ (getD_mem bs 0 k hk)
  have e : (strOfNums bs)[k] = UInt8.ofNat (bs.getD k 0).toNat := by
    have h3 : (strOfNums bs).data[k]? = some (UInt8.ofNat (bs.getD k 0).toNat) := by
      unfold strOfNums
      simp [hk]
    exact (Array.getElem?_eq_some_iff.1 h3).2
  rw [e, UInt8.toNat_ofNat_of_lt' (by show _ < 256; omega)]
  omega
theorem strs_cut (bs : List Int) (i n : Nat) : (strOfNums bs).extract i (i + n) = strOfNums ((bs.drop i).take n) := by
  apply ByteArray.ext
  simp only [strOfNums, ByteArray.data_extract, List.map_take, List.map_drop, List.extract_toArray, List.extract_eq_take_drop]
  rw [show i + n - i = n by omega]
set_option maxRecDepth 100000 in
set_option maxHeartbeats 2000000 in
theorem told_any (bs : List Int) (s : ByteArray) (hs : Hid (s = strOfNums bs)) (w : World) (hby : IsBytes bs) (hlen : bs.length ≤ 8) :
    Calls Tryd.prog 34 #[.string s] w fun e w' => e = .returned (.int .u64 (ofBe bs)) ∧ w' = w := by
  have hsz : s.size = bs.length := by rw [hs.out]; exact str_size bs
  have hget : Hid (∀ (k : Nat) (h : k < s.size), ((s[k]).toNat : Int) = bs.getD k 0) := by
    show ∀ k, _
    rw [hs.out]; exact fun k h => str_get bs hby k h
  go_enter Tryd.func34, Tryd.ntmps34
  go_wp2
  go_loop [3, 4] (fun y i => ∃ k : Nat, k ≤ bs.length ∧ i = .int .i64 k ∧ y = .int .u64 ((ofBe (bs.take k) : Nat) : Int)) (fun _ i => bs.length - (intOf i).toNat)
  case atStart => exact ⟨0, Nat.zero_le _, rfl, rfl⟩
  case round =>
    obtain ⟨k, hk, rfl, rfl⟩ := hrel
    by_cases hlt : k < bs.length
    · have hcb := hby _ (getD_mem bs 0 k hlt)
      have hgk : ((s[k]'(by omega)).toNat : Int) = bs.getD k 0 := hget.out k (by omega)
      have hlow : ofBe (bs.take k) < 2 ^ 56 := by
        have h1 := ofBe_lt (bs.take k) (hby.take k)
        have h2 : (bs.take k).length ≤ 7 := by rw [List.length_take]; omega
        exact Nat.lt_of_lt_of_le h1 (Nat.pow_le_pow_right (n := 256) (by omega) h2)
      have hst : Hid (ofBe (bs.take (k + 1)) = 256 * ofBe (bs.take k) + (bs.getD k 0).toNat) := be_get bs k hlt
      have hkl : (k : Int) < (bs.length : Int) := by omega
      generalize ofBe (bs.take k) = y at hlow hst
      generalize bs.getD k 0 = x at hgk hcb hst
      have h8 := shl8 y hlow
      have ho := or_low y x hlow hcb
      clear hby
      go_wp2
      go_round
      case rel => exact ⟨k + 1, by omega, by go_num, by rw [hst.out]; congr 1; omega⟩
      case measure => simp [intOf]; omega
    · obtain rfl : k = bs.length := by omega
      rw [List.take_of_length_le (Nat.le_refl _)]
      go_wp2
      go_ret
      exact ⟨rfl, rfl⟩
theorem bts_one (W : World) (x : Int) : Bts (W.alloc (.cells #[.int .u8 x] 5)) (.slice (some ⟨W.heap.size, 0, none⟩) 1 1) [x] :=
  bts_block (W := W.alloc (.cells #[.int .u8 x] 5)) (g := W.heap.size) (fr := (0, 0)) [x] (heap_alloc_new W _)
theorem byte_at (n j : Nat) : (n : Int) / 2 ^ (8 * j) % 256 = (((n / 256 ^ j) % 256 : Nat) : Int) := by
  rw [Nat.pow_mul (a := 2) (m := 8) (n := j) |> fun h => (show (256 : Nat) ^ j = 2 ^ (8 * j) from h.symm)]
  simp
set_option maxRecDepth 100000 in
set_option maxHeartbeats 2000000 in
theorem big_any (base : Nat) (v : Value) (xs : List Int) (n many : Nat) (w : World) (hn : n < 2 ^ 64) (hm : many ≤ 8) (ho : Own w base v xs) (hbase : base ≤ w.heap.size) (hlen : xs.length ≤ 1000) :
    Calls Tryd.prog 37 #[v, .int .u64 n, .int .i64 many] w fun e w' => ∃ v', e = .returned v' ∧ Own w' base v' (xs ++ be many n) ∧ Below base w w' := by
  go_enter Tryd.func37, Tryd.ntmps37
  go_wp2
  go_loopw [0, 7] (fun y i wr => ∃ (k : Nat) (ys : List Int), k ≤ many ∧ i = .int .i64 ((k : Int) - 1) ∧ Hid (Own wr base y ys) ∧ Hid (ys ++ be k n = xs ++ be many n) ∧ Below base w wr) (fun _ i _ => (intOf i + 1).toNat)
  case atStart => exact ⟨many, xs, Nat.le_refl _, by go_num, ho, rfl, Below.refl _ _⟩
  case round =>
    obtain ⟨k, ys, hk, rfl, hy, he, hB⟩ := hrel
    rcases Nat.eq_zero_or_pos k with rfl | hpos
    · go_wp2
      go_ret
      refine ⟨_, rfl, ?_, hB⟩
      have := he.out
      simp [be] at this
      rw [← this]; exact hy.out
    · obtain ⟨j, rfl⟩ : ∃ j, k = j + 1 := ⟨k - 1, by omega⟩
      have hbc : Hid (be (j + 1) n = (((n / 256 ^ j) % 256 : Nat) : Int) :: be j n) := be_cons j n
      have hj : (0 : Int) ≤ ((j + 1 : Nat) : Int) - 1 := by omega
      have hj2 : ((j + 1 : Nat) : Int) - 1 = (j : Int) := by omega
      rw [hj2]
      have hyl : ys.length ≤ 1008 := by
        have := congrArg List.length he.out
        simp [be_len] at this
        omega
      have hx : Hid (ys ++ [(n : Int) / 2 ^ (8 * j) % 256] ++ be j n = xs ++ be many n) := by
        show _ = _
        rw [← he.out, hbc.out, List.append_assoc, byte_at]; rfl
      have hBa := hB.alloc (Nat.le_trans hbase hB.size) (.cells #[.int .u8 ((n : Int) / 2 ^ (8 * j) % 256)] 5)
      have hza : base ≤ (wr.alloc (.cells #[.int .u8 ((n : Int) / 2 ^ (8 * j) % 256)] 5)).heap.size := Nat.le_trans hbase hBa.size
      clear ho hbc he
      go_wp2_with (first | (at_builtin; refine appX rfl (.tmp 14) (.tmp 21) rfl base _ _ ys [(n : Int) / 2 ^ (8 * j) % 256] rfl rfl (Own.alloc hy.out _) (bts_one _ _) hza (by simp; omega) ?_; intro v' w' ho' hb' _))
      go_roundw
      case rel => exact ⟨j, _, by omega, by go_num, ho', hx, hBa.trans hb'⟩
      case measure => simp [intOf]
end Go.Proofs.YtcgjolonapndgabDoor
