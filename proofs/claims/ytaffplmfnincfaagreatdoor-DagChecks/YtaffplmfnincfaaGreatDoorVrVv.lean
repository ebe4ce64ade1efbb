/- Vr; Vs; Vu; Vv. -/
import Derived.Test.YtaffplmfnincfaaGreatDoorVpVw
import Derived.Test.YtaffplmfnincfaaGreatDoorShm
import Derived.Lib.AppendIntMem
import Derived.Lib.ItoaMem
import Derived.WalkSmall
/- Variables of the library that the calls lean on; the contract of strconv.FormatUint. -/
namespace Go.Proofs.YtaffplmfnincfaaGreatDoor
set_option linter.unusedVariables false
open Go.RowKit Go.Sort Go.Lib
/-- What the library's variables hold. -/
def G (w : World) : Prop := (∃ m, w.cell? ⟨3, 0, none⟩ = some (.int .i64 m)) ∧ Lib.TabIs Tryz.prog w "internal/strconv.uint64pow10" .u64 Lib.pow10Tab ∧
  (∃ tp p, w.var? Tryz.prog "strconv.ErrSyntax" = some #[.iface tp p]) ∧ ∃ tp p, w.var? Tryz.prog "strconv.ErrRange" = some #[.iface tp p]
theorem var_grow {P : Program} {w w' : World} {n : String} {cs : Array Value} (h : w.var? P n = some cs) (hb : Below w.heap.size w w') : w'.var? P n = some cs := by
  unfold World.var? at h ⊢
  cases hg : P.globalNamed n with
  | none => simp [hg] at h
  | some g =>
    simp only [hg, Option.bind_some] at h ⊢
    have hlt : g < w.heap.size := by
      by_cases hh : g < w.heap.size
      · exact hh
      · rw [Array.getElem?_eq_none (by omega)] at h; cases h
    rw [hb.block g hlt]; exact h
theorem G.grow {w w' : World} (h : G w) (hb : Below w.heap.size w w') : G w' := by
  obtain ⟨⟨m, h1⟩, h2, ⟨a, b, h3⟩, ⟨c, d, h4⟩⟩ := h
  exact ⟨⟨m, keepC h1 hb⟩, var_grow h2 hb, ⟨a, b, var_grow h3 hb⟩, ⟨c, d, var_grow h4 hb⟩⟩
/-- The text of a number's digits. -/
def digS (u : Nat) : ByteArray := ⟨(Lib.decDigits u).toArray⟩
set_option maxRecDepth 100000 in
set_option maxHeartbeats 2000000 in
theorem fmtIn_any (u : Nat) (hu : u < 18446744073709551616) (w : World) (hG : G w) : Calls Tryz.prog 208 #[.int .u64 u, .int .i64 10] w fun e w' => e = .returned (.string (digS u)) ∧ Below w.heap.size w w' := by
  have htab := hG.2.1
  by_cases h1 : u < 100
  · have hs := Tryz.internal_strconv_small u h1 w
    have e0 : (⟨(Lib.decDigits u).toArray⟩ : ByteArray) = digS u := rfl
    rw [e0] at hs
    generalize digS u = D at *
    clear e0 htab hG
    have h1i : (u : Int) < 100 := by omega
    go_enter Tryz.func208, Tryz.ntmps208
    go_wp2_with (go_at_call 243; refine hs.mono ?_; rintro e w1 ⟨rfl, hw⟩; subst w1)
    go_ret
    exact ⟨rfl, Below.refl _ _⟩
  · have h1i : ¬ (u : Int) < 100 := by omega
    have hu1 : 1 ≤ u := by omega
    have hnd20 : Lib.nDigits u ≤ 20 := by have := Lib.numDigits_eq u hu1 hu; split at this <;> omega
    have hn := Tryz.internal_strconv_numDigits u hu1 hu (w.alloc (.cells Lib.zeros24 238)) (Lib.tabIs_alloc htab _)
    have hH0 := Lib.holds_zero0 w 238 (Lib.nDigits u) (by omega)
    have hf := Tryz.internal_strconv_formatBase10 w.heap.size 0 24 u (Array.replicate (Lib.nDigits u) 0) (w.alloc (.cells Lib.zeros24 238)) hH0 (by rw [Array.size_replicate]; exact Lib.lt_pow_nDigits u) hu (by rw [Array.size_replicate]; omega)
    rw [Array.size_replicate] at hf
    have hdl := Lib.decDigits_length u
    obtain ⟨N, hN⟩ : ∃ N, Hid (N = Lib.nDigits u) := ⟨_, rfl⟩
    have hNl : Hid ((Lib.decDigits u).length = N) := by rw [hN.out]; exact hdl
    have hFn : Hid (∀ (v' : Nat) (dk : Array UInt8), FmtInv N u 0 v' dk → FmtInv (Lib.nDigits u) u 0 v' dk) := fun v' dk h => by rw [← hN.out]; exact h
    rw [← hN.out] at hn hf hnd20 hH0
    have hal : Tryz.prog.arrayLen 238 = 24 := by simp [Program.arrayLen, Tryz.underlying238]
    have hsl : ∀ W, (Instr.sliceAt 238 (.pointer (some ⟨w.heap.size, 0, none⟩)) none (some (.int .i64 (N : Int))) none).run Tryz.prog W = .ok (.slice (some ⟨w.heap.size, 0, none⟩) N 24) W := fun W => by
      rw [run_sliceAt_array_h W 238 ⟨w.heap.size, 0, none⟩ (by simp [Program.arrayLen, Program.elem, Tryz.underlying238]) .i64 (N : Int) (by omega) (by rw [hal]; omega)]
      go_simp
    have hcv : ∀ (dk : Array UInt8) (v' k : Nat), FmtInv N u 0 v' dk →
        (convert 233 9 (.slice (some ⟨w.heap.size, 0, none⟩) N 24)).run Tryz.prog ((putRow (fun (b : UInt8) => Value.int .u8 (b.toNat : Int)) (w.alloc (.cells Lib.zeros24 238)) w.heap.size 0 dk).drewN k) = .ok (.string (digS u)) ((putRow (fun (b : UInt8) => Value.int .u8 (b.toNat : Int)) (w.alloc (.cells Lib.zeros24 238)) w.heap.size 0 dk).drewN k) := fun dk v' k hF => by
      have h := run_convert_bytes_back (P := Tryz.prog) ((putRow (fun (b : UInt8) => Value.int .u8 (b.toNat : Int)) (w.alloc (.cells Lib.zeros24 238)) w.heap.size 0 dk).drewN k) 233 9 5 ⟨w.heap.size, 0, none⟩ 24 (Lib.decDigits u) Tryz.underlying233 Tryz.underlying5 Tryz.underlying9 (fun j hj => by
        rw [Lib.row_is_numeral (hFn.out _ _ hF) j hj, Lib.add_plain, World.cell?_drewN]
        exact cell?_putRow (fun (b : UInt8) => Value.int .u8 (b.toNat : Int)) _ w.heap.size 0 _ dk hH0 (by rw [hF.size, Array.size_replicate]) j (by rw [hF.size, ← hNl.out]; exact hj))
      rw [hNl.out] at h
      exact h
    have hbel : ∀ (dk : Array UInt8) (k : Nat), Below w.heap.size w ((putRow (fun (b : UInt8) => Value.int .u8 (b.toNat : Int)) (w.alloc (.cells Lib.zeros24 238)) w.heap.size 0 dk).drewN k) := fun dk k => by
      rw [alloc_eq_grow]
      obtain ⟨os', _, e⟩ := putRow_grow_new (fun (b : UInt8) => Value.int .u8 (b.toNat : Int)) w #[.cells Lib.zeros24 238] w.heap.size 0 dk (Nat.le_refl _)
      rw [e]
      exact below_grow _ w (Nat.le_refl _) k os'
    generalize digS u = D at *
    replace hH0 := Lib.hid hH0
    clear hal hG htab hdl
    go_enter Tryz.func208, Tryz.ntmps208
    go_wp2_with (first | (go_at_call 244; refine hn.mono ?_; rintro e w1 ⟨rfl, hw⟩; subst w1))
    go_at_call 245
    refine hf.mono ?_
    rintro e w1 ⟨rfl, k, v', dk, rfl, hF⟩
    have hc := hcv dk v' k hF
    have hb := hbel dk k
    go_wp2
    go_ret
    exact ⟨rfl, hb⟩
set_option maxRecDepth 100000 in
theorem fmt_any (u : Nat) (hu : u < 18446744073709551616) (w : World) (hG : G w) : Calls Tryz.prog 195 #[.int .u64 u, .int .i64 10] w fun e w' => e = .returned (.string (digS u)) ∧ Below w.heap.size w w' := by
  have h := fmtIn_any u hu w hG
  generalize digS u = D at *
  clear hG
  go_enter Tryz.func195, Tryz.ntmps195
  go_wp2_with (go_at_call 208; refine h.mono ?_; rintro e w1 ⟨rfl, hb⟩)
  go_ret
  exact ⟨rfl, hb⟩
end Go.Proofs.YtaffplmfnincfaaGreatDoor
/- Values' texts as bytes: digits, what TrimRight leaves, what Cut and ParseInt make of a value's text. -/
namespace Go.Proofs.YtaffplmfnincfaaGreatDoor
set_option linter.unusedVariables false
/-- Numbers as bytes. -/
def u8s (l : List Int) : List UInt8 := l.map fun c => UInt8.ofNat c.toNat
def bOf (l : List Int) : ByteArray := ⟨(u8s l).toArray⟩
theorem u8s_append (x y : List Int) : u8s (x ++ y) = u8s x ++ u8s y := by simp [u8s]
theorem bOf_append (x y : List Int) : bOf (x ++ y) = bOf x ++ bOf y := by
  unfold bOf
  rw [u8s_append]
  apply ByteArray.ext
  simp
theorem bOf_size (x : List Int) : (bOf x).size = x.length := by
  show (u8s x).toArray.size = _
  simp [u8s]
/-- Bytes, as numbers. -/
def Byts (l : List Int) : Prop := ∀ c ∈ l, 0 ≤ c ∧ c ≤ 255
theorem Byts.append {x y : List Int} (h : Byts x) (g : Byts y) : Byts (x ++ y) := fun c hc => by
  rcases List.mem_append.1 hc with h1 | h1
  · exact h c h1
  · exact g c h1
theorem Digs.byts {x : List Int} (h : Digs x) : Byts x := fun c hc => by have := h c hc; omega
theorem u8_inj {a b : Int} (ha : 0 ≤ a ∧ a ≤ 255) (hb : 0 ≤ b ∧ b ≤ 255) (h : UInt8.ofNat a.toNat = UInt8.ofNat b.toNat) : a = b := by
  have := congrArg UInt8.toNat h
  rw [UInt8.toNat_ofNat', UInt8.toNat_ofNat'] at this
  omega
theorem u8s_inj : ∀ {x y : List Int}, Byts x → Byts y → u8s x = u8s y → x = y
  | [], [], _, _, _ => rfl
  | [], _ :: _, _, _, h => by simp [u8s] at h
  | _ :: _, [], _, _, h => by simp [u8s] at h
  | a :: x, b :: y, hx, hy, h => by
    simp only [u8s, List.map_cons, List.cons.injEq] at h
    rw [u8_inj (hx a (by simp)) (hy b (by simp)) h.1, u8s_inj (fun c hc => hx c (by simp [hc])) (fun c hc => hy c (by simp [hc])) h.2]
theorem bOf_inj {x y : List Int} (hx : Byts x) (hy : Byts y) (h : bOf x = bOf y) : x = y := by
  refine u8s_inj hx hy ?_
  have := congrArg (fun b : ByteArray => b.data.toList) h
  simpa [bOf] using this
theorem dec_u8s (u : Nat) : Lib.decDigits u = u8s (dec u) := by
  induction u using Nat.strongRecOn with
  | _ u ih =>
    by_cases h : u < 10
    · rw [Lib.decDigits, dif_pos h, dec_lt h]
      have e : (48 + (u : Int)).toNat = 48 + u := by omega
      simp only [u8s, List.map_cons, List.map_nil, e]
    · rw [Lib.decDigits, dif_neg h, dec_ge (by omega), u8s_append, ih (u / 10) (by omega)]
      have e : (48 + ((u % 10 : Nat) : Int)).toNat = 48 + u % 10 := by omega
      simp only [u8s, List.map_cons, List.map_nil, e]
theorem digS_dec (u : Nat) : digS u = bOf (dec u) := by rw [digS, bOf, dec_u8s]
theorem tail_byts {r : Nat} (h : r < 1000) : Byts (tail r) := by
  unfold tail
  split
  · intro c hc; cases hc
  · intro c hc
    rcases List.mem_cons.1 hc with rfl | hc
    · omega
    · have := frac_digs h c hc; omega
theorem txtN_byts (n : Nat) : Byts (txtN n) := (dec_digs _).byts.append (tail_byts (Nat.mod_lt _ (by omega)))
theorem txt_byts (v : Vl) : Byts (txt v) := by
  unfold txt
  split
  · split
    · intro c hc
      rcases List.mem_cons.1 hc with rfl | hc
      · omega
      · exact txtN_byts _ c hc
    · exact txtN_byts _
  · split
    · intro c hc; simp at hc; omega
    · split
      · intro c hc; simp at hc; omega
      · split <;> (intro c hc; simp at hc; omega)
/-- A value's text. -/
def txtS (v : Vl) : ByteArray := bOf (txt v)
theorem txtS_inj {u v : Vl} (hu : IsV u) (hv : IsV v) (h : txtS u = txtS v) : u = v := txt_inj hu hv (bOf_inj (txt_byts u) (txt_byts v) h)
theorem u8s_digs3 (r : Nat) : u8s (digs3 r) = [UInt8.ofNat (48 + r / 100), UInt8.ofNat (48 + r / 10 % 10), UInt8.ofNat (48 + r % 10)] := by
  simp only [u8s, digs3, List.map_cons, List.map_nil]
  have e : ∀ k : Nat, (48 + (k : Int)).toNat = 48 + k := fun k => by omega
  rw [e, e, e]
theorem dig_eq {k : Nat} (h : k < 10) : (UInt8.ofNat (48 + k) == 48) = decide (k = 0) := by
  have : k = 0 ∨ k = 1 ∨ k = 2 ∨ k = 3 ∨ k = 4 ∨ k = 5 ∨ k = 6 ∨ k = 7 ∨ k = 8 ∨ k = 9 := by omega
  rcases this with rfl | rfl | rfl | rfl | rfl | rfl | rfl | rfl | rfl | rfl <;> decide
theorem trim3 (a b c : UInt8) (h : (c == 48) = false) : Lib.trimRightB [a, b, c] 48 = [a, b, c] := by simp [Lib.trimRightB, h]
theorem trim2 (a b : UInt8) (h : (b == 48) = false) : Lib.trimRightB [a, b, 48] 48 = [a, b] := by simp [Lib.trimRightB, List.dropWhile, h]
theorem trim1 (a : UInt8) (h : (a == 48) = false) : Lib.trimRightB [a, 48, 48] 48 = [a] := by simp [Lib.trimRightB, List.dropWhile, h]
/-- What TrimRight leaves of three digits. -/
theorem trim_frac {r : Nat} (h0 : r ≠ 0) (h : r < 1000) : Lib.trimRightB (u8s (digs3 r)) 48 = u8s (frac r) := by
  rw [u8s_digs3]
  have e : ∀ k : Nat, (48 + (k : Int)).toNat = 48 + k := fun k => by omega
  by_cases h1 : r % 100 = 0
  · have h2 : r % 10 = 0 := by omega
    have h3 : r / 10 % 10 = 0 := by omega
    have h4 : r / 100 ≠ 0 := by omega
    have d3 := dig_eq (k := r / 100) (by omega)
    rw [decide_eq_false h4] at d3
    rw [h2, h3, frac, if_pos h1]
    simp only [u8s, List.map_cons, List.map_nil, e]
    exact trim1 _ d3
  · by_cases h2 : r % 10 = 0
    · have h3 : r / 10 % 10 ≠ 0 := by omega
      have d2 := dig_eq (k := r / 10 % 10) (by omega)
      rw [decide_eq_false h3] at d2
      rw [h2, frac, if_neg h1, if_pos h2]
      simp only [u8s, List.map_cons, List.map_nil, e]
      exact trim2 _ _ d2
    · have d1 := dig_eq (k := r % 10) (by omega)
      rw [decide_eq_false h2] at d1
      rw [frac, if_neg h1, if_neg h2]
      simp only [u8s, List.map_cons, List.map_nil, e]
      exact trim3 _ _ _ d1
/-! ### Cut and ParseInt at a value's text -/
/-- No point among them. -/
def NoPt (l : List UInt8) : Prop := ∀ c ∈ l, c ≠ 46
theorem index_no : ∀ (l : List UInt8), NoPt l → Lib.index l [46] = -1
  | [], _ => rfl
  | b :: l, h => by
    have h1 : (46 == b) = false := by simpa using fun e => h b (by simp) e.symm
    have h2 := index_no l (fun c hc => h c (by simp [hc]))
    simp [Lib.index, List.isPrefixOf, h1, h2]
theorem index_at : ∀ (x y : List UInt8), NoPt x → Lib.index (x ++ 46 :: y) [46] = x.length
  | [], y, _ => by simp [Lib.index, List.isPrefixOf]
  | b :: l, y, h => by
    have h1 : (46 == b) = false := by simpa using fun e => h b (by simp) e.symm
    have h2 := index_at l y (fun c hc => h c (by simp [hc]))
    have h3 : ¬ ((l.length : Int) = -1) := by omega
    simp [Lib.index, List.isPrefixOf, h1, h2, h3]
theorem cut_no (l : List UInt8) (h : NoPt l) : Lib.cut l [46] = (l, [], false) := by
  simp [Lib.cut, index_no l h]
theorem cut_at (x y : List UInt8) (h : NoPt x) : Lib.cut (x ++ 46 :: y) [46] = (x, y, true) := by
  have : ((x ++ 46 :: y).drop (x.length + 1)) = y := by
    have e : x ++ 46 :: y = (x ++ [46]) ++ y := by simp
    rw [e]
    exact List.drop_left' (by simp)
  simp [Lib.cut, index_at x y h, this]
theorem parse_digs (M : Nat) (hM : M = 18446744073709551615) : ∀ (l : List Int) (acc : Nat), Digs l → undF acc l ≤ 1000000000000000 → Lib.parseUintM M acc (u8s l) = .ok (undF acc l).toNat
  | [], acc, _, _ => by simp [Lib.parseUintM, u8s, undF]
  | c :: l, acc, h, hb => by
    have hc := h c (by simp)
    have hu : undF acc (c :: l) = undF (10 * acc + (c - 48)) l := rfl
    have hn : (10 * (acc : Int) + (c - 48)) = ((acc * 10 + (c.toNat - 48) : Nat) : Int) := by omega
    rw [hu, hn] at hb ⊢
    have hl : Digs l := fun e he => h e (by simp [he])
    have key : ∀ (x : List Int) (a : Int), Digs x → 0 ≤ a → a ≤ undF a x := by
      intro x
      induction x with
      | nil => intro a _ _; exact Int.le_refl _
      | cons d l ih2 =>
        intro a hd ha
        have h1 := hd d (by simp)
        have := ih2 (10 * a + (d - 48)) (fun e he => hd e (by simp [he])) (by omega)
        have h2 : undF a (d :: l) = undF (10 * a + (d - 48)) l := rfl
        omega
    have h3 := key l ((acc * 10 + (c.toNat - 48) : Nat) : Int) hl (by omega)
    have ih := parse_digs M hM l (acc * 10 + (c.toNat - 48)) hl hb
    have hcn : (UInt8.ofNat c.toNat).toNat = c.toNat := by rw [UInt8.toNat_ofNat']; omega
    have e : u8s (c :: l) = UInt8.ofNat c.toNat :: u8s l := rfl
    rw [e, Lib.parseUintM, hcn, if_pos (by omega), if_neg (by omega), if_neg (by omega)]
    exact ih
/-- What thousandths hands to ParseInt. -/
def thouX (s : List UInt8) : List UInt8 := (Lib.cut s [46]).1 ++ ((Lib.cut s [46]).2.1 ++ [48, 48, 48]).take 3
/-- What thousandths tells. -/
def thou (s : List UInt8) : Int := match Lib.parseIntB 64 (thouX s) with
  | .ok v => v
  | _ => 0
theorem digs_noPt {l : List Int} (h : Digs l) : NoPt (u8s l) := fun c hc e => by
  obtain ⟨d, hd, rfl⟩ := List.mem_map.1 hc
  have := h d hd
  have h2 := congrArg UInt8.toNat e
  rw [UInt8.toNat_ofNat'] at h2
  have h3 : (46 : UInt8).toNat = 46 := rfl
  omega
theorem und_digs3 (a : Int) {r : Nat} (h : r < 1000) : undF a (digs3 r) = a * 1000 + r := by
  simp only [undF, digs3, List.foldl_cons, List.foldl_nil]; omega
theorem digs3_digs {r : Nat} (h : r < 1000) : Digs (digs3 r) := by
  intro c hc
  simp [digs3] at hc
  omega
theorem frac_pad {r : Nat} (h : r < 1000) : (u8s (frac r) ++ [48, 48, 48]).take 3 = u8s (digs3 r) := by
  rw [u8s_digs3]
  have e : ∀ k : Nat, (48 + (k : Int)).toNat = 48 + k := fun k => by omega
  unfold frac
  split
  · have h2 : r % 10 = 0 := by omega
    have h3 : r / 10 % 10 = 0 := by omega
    simp only [u8s, List.map_cons, List.map_nil, e, h2, h3]; rfl
  · split
    · next h2 => simp only [u8s, List.map_cons, List.map_nil, e, h2]; rfl
    · simp only [u8s, List.map_cons, List.map_nil, e]; rfl
/-- The digits, without a point. -/
theorem thouX_N (n : Nat) : thouX (u8s (txtN n)) = u8s (dec (n / 1000) ++ digs3 (n % 1000)) := by
  have hd := digs_noPt (dec_digs (n / 1000))
  by_cases h : n % 1000 = 0
  · rw [txtN, tail, if_pos h, List.append_nil, thouX, cut_no _ hd, u8s_append, h]; rfl
  · rw [txtN, tail, if_neg h, u8s_append]
    have e : u8s (46 :: frac (n % 1000)) = 46 :: u8s (frac (n % 1000)) := rfl
    rw [e, thouX, cut_at _ _ hd, u8s_append]
    simp only
    rw [frac_pad (Nat.mod_lt _ (by omega))]
theorem thouX_neg (l : List UInt8) : thouX (45 :: l) = 45 :: thouX l := by
  have hc : Lib.cut (45 :: l) [46] = (45 :: (Lib.cut l [46]).1, (Lib.cut l [46]).2) := by
    have hi : Lib.index (45 :: l) [46] = if Lib.index l [46] = -1 then -1 else Lib.index l [46] + 1 := by
      simp [Lib.index, List.isPrefixOf]
    unfold Lib.cut
    rw [hi]
    by_cases h1 : Lib.index l [46] = -1
    · rw [h1]; simp
    · have h2 : 0 ≤ Lib.index l [46] := by
        by_cases h : 0 ≤ Lib.index l [46]
        · exact h
        · exfalso
          have key : ∀ m : List UInt8, -1 ≤ Lib.index m [46] := by
            intro m
            induction m with
            | nil => simp [Lib.index]
            | cons b m ih =>
              simp only [Lib.index]
              split
              · omega
              · split
                · omega
                · omega
          have := key l
          omega
      have h3 : (Lib.index l [46] + 1).toNat = (Lib.index l [46]).toNat + 1 := by omega
      rw [if_neg h1, if_pos (by omega), if_pos h2, h3]
      simp
  simp [thouX, hc]
theorem thou_N (n : Nat) (hn : n ≤ 1000000000000000) : Lib.parseUintB 64 (thouX (u8s (txtN n))) = .ok n := by
  rw [thouX_N]
  have hd : Digs (dec (n / 1000) ++ digs3 (n % 1000)) := (dec_digs _).append (digs3_digs (Nat.mod_lt _ (by omega)))
  have hv : undF ((0 : Nat) : Int) (dec (n / 1000) ++ digs3 (n % 1000)) = n := by
    rw [undF_append, show (((0 : Nat) : Int)) = 0 from rfl, und_dec, und_digs3 _ (Nat.mod_lt _ (by omega))]; omega
  have hne : u8s (dec (n / 1000) ++ digs3 (n % 1000)) ≠ [] := by
    obtain ⟨c, r, e, _⟩ := dec_head (n / 1000)
    rw [e]; simp [u8s]
  rw [Lib.parseUintB, if_neg hne, parse_digs _ (by decide) _ _ hd (by rw [hv]; omega), hv]
  simp
theorem thou_txt {n : Int} (h1 : -1000000000000000 ≤ n) (h2 : n ≤ 1000000000000000) : thou (u8s (txt ⟨1, n⟩)) = n := by
  by_cases hn : n < 0
  · have e : u8s (txt ⟨1, n⟩) = 45 :: u8s (txtN n.natAbs) := by simp [txt, hn, u8s]
    have h := thou_N n.natAbs (by omega)
    unfold thou
    rw [e, thouX_neg, Lib.parseIntB]
    simp only [show ((45 : UInt8).toNat = 43 ∨ (45 : UInt8).toNat = 45) from .inr rfl, if_true, h]
    have e2 : ¬ (2 ^ (64 - 1) < n.natAbs) := by
      have : (2 : Nat) ^ (64 - 1) = 9223372036854775808 := rfl
      omega
    have e3 : (45 : UInt8).toNat = 45 := rfl
    simp only [e3, not_true_eq_false, false_and, if_false, true_and, e2, if_true]
    omega
  · have e : u8s (txt ⟨1, n⟩) = u8s (txtN n.natAbs) := by simp [txt, hn]
    have h := thou_N n.natAbs (by omega)
    unfold thou
    rw [e]
    have hx : ∃ c r, thouX (u8s (txtN n.natAbs)) = c :: r ∧ 48 ≤ c.toNat ∧ c.toNat ≤ 57 := by
      rw [thouX_N]
      obtain ⟨c, r, e, hc⟩ := dec_head (n.natAbs / 1000)
      refine ⟨UInt8.ofNat c.toNat, u8s (r ++ digs3 (n.natAbs % 1000)), by rw [e]; rfl, ?_, ?_⟩ <;> rw [UInt8.toNat_ofNat'] <;> omega
    obtain ⟨c, r, hcr, hc1, hc2⟩ := hx
    rw [hcr] at h ⊢
    have g1 : ¬ (c.toNat = 43 ∨ c.toNat = 45) := by omega
    have g2 : ¬ c.toNat = 45 := by omega
    have e2 : ¬ (2 ^ (64 - 1) ≤ n.natAbs) := by
      have : (2 : Nat) ^ (64 - 1) = 9223372036854775808 := rfl
      omega
    rw [Lib.parseIntB]
    rw [if_neg g1, h]
    simp only [g2, not_false_eq_true, true_and, e2, false_and, if_false]
    omega
end Go.Proofs.YtaffplmfnincfaaGreatDoor
/- Values: the contracts of printNum, Print. -/
namespace Go.Proofs.YtaffplmfnincfaaGreatDoor
set_option linter.unusedVariables false
open Go.RowKit
theorem bOf_cons (c : Int) (l : List Int) : bOf (c :: l) = bOf [c] ++ bOf l := bOf_append [c] l
theorem cut_from (B : ByteArray) : B.extract 1 B.size = ⟨(B.data.toList.drop 1).toArray⟩ := by
  apply ByteArray.ext
  rw [ByteArray.data_extract]
  have e : B.size = B.data.size := rfl
  rw [e]
  generalize B.data = A
  apply Array.ext'
  rw [Array.toList_extract, List.extract_eq_take_drop]
  show List.take (A.size - 1) (List.drop 1 A.toList) = List.drop 1 A.toList
  exact List.take_of_length_le (by simp)
theorem cut1 (c : Int) (l : List Int) : (bOf (c :: l)).extract 1 (bOf (c :: l)).size = bOf l := by
  rw [cut_from]
  simp [bOf, u8s]
set_option maxRecDepth 100000 in
set_option maxHeartbeats 1000000 in
theorem printNum_any (n : Int) (h1 : -1000000000000000 ≤ n) (h2 : n ≤ 1000000000000000) (w : World) (hG : G w) : Calls Tryz.prog 184 #[.int .i64 n] w fun e w' => e = .returned (.string (txtS ⟨1, n⟩)) ∧ Below w.heap.size w w' := by
  have hs : ∀ W, Calls Tryz.prog 196 #[.int .i64 n] W fun e w' => e = .returned (.int .u64 (n.natAbs : Int)) ∧ Below W.heap.size W w' := fun W => (size_any n W h1 h2).mono fun e w' ⟨h, hw⟩ => ⟨h, by rw [hw]; exact Below.refl _ _⟩
  obtain ⟨N, hN⟩ : ∃ N, Hid (N = n.natAbs) := ⟨_, rfl⟩
  rw [← hN.out] at hs
  have hNb : N ≤ 1000000000000000 := by rw [hN.out]; omega
  obtain ⟨q, hq⟩ : ∃ q, Hid (q = N / 1000) := ⟨_, rfl⟩
  obtain ⟨r, hr⟩ : ∃ r, Hid (r = N % 1000) := ⟨_, rfl⟩
  have eq : (N : Int) / 1000 = (q : Int) := by have := hq.out; omega
  have er : (N : Int) % 1000 = (r : Int) := by have := hr.out; omega
  have hqb : q ≤ 1000000000000 := by have := hq.out; omega
  have hrb : r < 1000 := by have := hr.out; omega
  have htx : Hid (txtS ⟨1, n⟩ = if n < 0 then bOf [45] ++ (bOf (dec q) ++ bOf (tail r)) else bOf (dec q) ++ bOf (tail r)) := by
    show txtS ⟨1, n⟩ = _
    unfold txtS
    by_cases hn : n < 0
    · simp only [txt, hn, if_true]
      rw [bOf_cons, txtN, bOf_append, ← hN.out, ← hq.out, ← hr.out]
    · simp only [txt, hn, if_false, if_true]
      rw [txtN, bOf_append, ← hN.out, ← hq.out, ← hr.out]
  have hf1 : ∀ W, Below w.heap.size w W → Calls Tryz.prog 195 #[.int .u64 (q : Int), .int .i64 10] W fun e w' => e = .returned (.string (bOf (dec q))) ∧ Below W.heap.size W w' := fun W hW => by
    rw [← digS_dec]; exact fmt_any q (by omega) W (hG.grow hW)
  obtain ⟨D1, eD1⟩ : ∃ D, Hid (D = bOf (dec q)) := ⟨_, rfl⟩
  have hD1 : D1.size ≤ 13 := by rw [eD1.out, bOf_size]; exact dec_len 12 q (by omega)
  rw [← eD1.out] at hf1 htx
  obtain ⟨TX, eTX⟩ : ∃ D, Hid (D = txtS ⟨1, n⟩) := ⟨_, rfl⟩
  rw [← eTX.out] at htx ⊢
  have hB : Below w.heap.size w w := Below.refl _ _
  by_cases hr0 : r = 0
  · subst hr0
    have et : bOf (tail 0) = ⟨#[]⟩ := rfl
    rw [et] at htx
    have hne : ((0 : Int) != 0) = false := rfl
    clear hG eq
    have eq : (N : Int) / 1000 = (q : Int) := by have := hq.out; omega
    by_cases hn : n < 0
    · obtain rfl : TX = bOf [45] ++ D1 := by rw [htx.out, if_pos hn]; apply ByteArray.ext; simp
      go_enter Tryz.func184, Tryz.ntmps184
      go_wp2_with (first | (go_at_call 196; refine (hs _).mono ?_; rintro e w2 ⟨rfl, hb2⟩; replace hB := hB.trans (hb2.mono hB.size)) | (go_at_call 195; refine (hf1 _ hB).mono ?_; rintro e w2 ⟨rfl, hb2⟩; replace hB := hB.trans (hb2.mono hB.size)))
      go_ret
      exact ⟨rfl, hB⟩
    · obtain rfl : TX = D1 := by rw [htx.out, if_neg hn]; apply ByteArray.ext; simp
      go_enter Tryz.func184, Tryz.ntmps184
      go_wp2_with (first | (go_at_call 196; refine (hs _).mono ?_; rintro e w2 ⟨rfl, hb2⟩; replace hB := hB.trans (hb2.mono hB.size)) | (go_at_call 195; refine (hf1 _ hB).mono ?_; rintro e w2 ⟨rfl, hb2⟩; replace hB := hB.trans (hb2.mono hB.size)))
      go_ret
      exact ⟨rfl, hB⟩
  · have hf2 : ∀ W, Below w.heap.size w W → Calls Tryz.prog 195 #[.int .u64 (1000 + (r : Int)), .int .i64 10] W fun e w' => e = .returned (.string (bOf (dec (1000 + r)))) ∧ Below W.heap.size W w' := fun W hW => by
      have e : (1000 + (r : Int)) = ((1000 + r : Nat) : Int) := by omega
      rw [← digS_dec, e]; exact fmt_any (1000 + r) (by omega) W (hG.grow hW)
    rw [dec_three hrb] at hf2
    have hsl := cut1 49 (digs3 r)
    have hsz : (bOf (49 :: digs3 r)).size = 4 := by rw [bOf_size]; rfl
    rw [hsz] at hsl
    have htr : ∀ W, Calls Tryz.prog 197 #[.string (bOf (digs3 r)), .string ⟨#[48]⟩] W fun e w' => e = .returned (.string (bOf (frac r))) ∧ Below W.heap.size W w' := fun W => by
      have h := Tryz.strings_TrimRight_one (bOf (digs3 r)) 48 (by decide) W (by rw [bOf_size]; simp [digs3])
      have e : (bOf (digs3 r)).data.toList = u8s (digs3 r) := by simp [bOf]
      rw [e, trim_frac hr0 hrb] at h
      exact h.mono fun e w' ⟨h, hw⟩ => ⟨h, by rw [hw]; exact Below.refl _ _⟩
    obtain ⟨F, eF⟩ : ∃ D, Hid (D = bOf (frac r)) := ⟨_, rfl⟩
    have hF : F.size ≤ 3 := by rw [eF.out, bOf_size]; exact (frac_len r).2
    rw [← eF.out] at htr
    have et : bOf (tail r) = ⟨#[46]⟩ ++ F := by rw [tail, if_neg hr0, bOf_cons, eF.out]; rfl
    rw [et] at htx
    generalize bOf (digs3 r) = E3 at *
    generalize bOf (49 :: digs3 r) = D4 at *
    have hne : ((r : Int) != 0) = true := by simpa using hr0
    clear hG et
    by_cases hn : n < 0
    · obtain rfl : TX = ⟨#[45]⟩ ++ (D1 ++ (⟨#[46]⟩ ++ F)) := by rw [htx.out, if_pos hn]; rfl
      go_enter Tryz.func184, Tryz.ntmps184
      go_wp2_with (first | (go_at_call 196; refine (hs _).mono ?_; rintro e w2 ⟨rfl, hb2⟩; replace hB := hB.trans (hb2.mono hB.size)) | (go_at_call 195; with_reducible refine (hf1 _ hB).mono ?_; rintro e w2 ⟨rfl, hb2⟩; replace hB := hB.trans (hb2.mono hB.size)) | (go_at_call 195; with_reducible refine (hf2 _ hB).mono ?_; rintro e w2 ⟨rfl, hb2⟩; replace hB := hB.trans (hb2.mono hB.size)) | (go_at_call 197; with_reducible refine (htr _).mono ?_; rintro e w2 ⟨rfl, hb2⟩; replace hB := hB.trans (hb2.mono hB.size)))
      go_ret
      exact ⟨rfl, hB⟩
    · obtain rfl : TX = D1 ++ (⟨#[46]⟩ ++ F) := by rw [htx.out, if_neg hn]
      go_enter Tryz.func184, Tryz.ntmps184
      go_wp2_with (first | (go_at_call 196; refine (hs _).mono ?_; rintro e w2 ⟨rfl, hb2⟩; replace hB := hB.trans (hb2.mono hB.size)) | (go_at_call 195; with_reducible refine (hf1 _ hB).mono ?_; rintro e w2 ⟨rfl, hb2⟩; replace hB := hB.trans (hb2.mono hB.size)) | (go_at_call 195; with_reducible refine (hf2 _ hB).mono ?_; rintro e w2 ⟨rfl, hb2⟩; replace hB := hB.trans (hb2.mono hB.size)) | (go_at_call 197; with_reducible refine (htr _).mono ?_; rintro e w2 ⟨rfl, hb2⟩; replace hB := hB.trans (hb2.mono hB.size)))
      go_ret
      exact ⟨rfl, hB⟩
/-- What Print tells. -/
def prS (v : Vl) : ByteArray := if IsV v then txtS v else ⟨#[]⟩
set_option maxRecDepth 100000 in
set_option maxHeartbeats 1000000 in
theorem print_any (v : Vl) (w : World) (hG : G w) : Calls Tryz.prog 157 #[vlV v] w fun e w' => e = .returned (.string (prS v)) ∧ Below w.heap.size w w' := by
  have ha := vlNew w v
  have hB : Below (w.alloc (vlO v)).heap.size (w.alloc (vlO v)) (w.alloc (vlO v)) := Below.refl _ _
  have hi := fun W => isValue_b v W
  by_cases hv : IsV v
  · rw [isB_of hv] at hi
    have e : prS v = txtS v := by rw [prS, if_pos hv]
    rw [e]; clear e
    rcases hv.cases with ⟨n, rfl, h1, h2⟩ | rfl | rfl | rfl | rfl
    · have hp : ∀ W, Below (w.alloc (vlO ⟨1, n⟩)).heap.size (w.alloc (vlO ⟨1, n⟩)) W → Calls Tryz.prog 184 #[.int .i64 n] W fun e w' => e = .returned (.string (txtS ⟨1, n⟩)) ∧ Below W.heap.size W w' := fun W h => printNum_any n h1 h2 W (hG.grow ((bW0 w _).trans (h.mono (bW0 w _).size)))
      generalize txtS ⟨1, n⟩ = T at *
      clear hv hG
      unfold vlV at *
      go_enter Tryz.func157, Tryz.ntmps157
      go_wp2_with (first | (go_at_call 160; with_reducible refine (hi _).mono ?_; rintro e w2 ⟨rfl, hb2⟩; replace hB := hB.trans (hb2.mono hB.size); obtain ⟨a0, a1⟩ := (ha.grow hB).cells) | (go_at_call 184; with_reducible refine (hp _ hB).mono ?_; rintro e w2 ⟨rfl, hb2⟩; replace hB := hB.trans (hb2.mono hB.size); obtain ⟨a0, a1⟩ := (ha.grow hB).cells))
      go_ret
      exact ⟨rfl, (bW0 w _).trans (hB.mono (by simp))⟩
    all_goals
      clear hv hG
      unfold vlV at *
      go_enter Tryz.func157, Tryz.ntmps157
      go_wp2_with (first | (go_at_call 160; with_reducible refine (hi _).mono ?_; rintro e w2 ⟨rfl, hb2⟩; replace hB := hB.trans (hb2.mono hB.size); obtain ⟨a0, a1⟩ := (ha.grow hB).cells))
      go_ret
      exact ⟨rfl, (bW0 w _).trans (hB.mono (by simp))⟩
  · have e : prS v = ⟨#[]⟩ := by rw [prS, if_neg hv]
    rw [e]; clear e
    have e2 : isB v = false := decide_eq_false hv
    rw [e2] at hi
    clear hv hG e2
    unfold vlV at *
    go_enter Tryz.func157, Tryz.ntmps157
    go_wp2_with (first | (go_at_call 160; with_reducible refine (hi _).mono ?_; rintro e w2 ⟨rfl, hb2⟩; replace hB := hB.trans (hb2.mono hB.size); obtain ⟨a0, a1⟩ := (ha.grow hB).cells))
    go_ret
    exact ⟨rfl, (bW0 w _).trans (hB.mono (by simp))⟩
theorem below_bytes (w : World) (t : ByteArray) : Below w.heap.size w (Lib.bytesWorld w 5 t) := Lib.bytesWorld_below w 5 t
theorem ba_len (s : ByteArray) : s.data.toList.length = s.size := Array.length_toList
theorem ba_of (l : List UInt8) : (⟨l.toArray⟩ : ByteArray).size = l.length := by show l.toArray.size = _; simp
theorem cut_len (s : List UInt8) : (Lib.cut s [46]).1.length ≤ s.length ∧ (Lib.cut s [46]).2.1.length ≤ s.length := by
  unfold Lib.cut
  split
  · simp; omega
  · simp
set_option maxRecDepth 100000 in
set_option maxHeartbeats 1000000 in
theorem thousandths_any (s : ByteArray) (w : World) (hG : G w) (hs : s.size ≤ 1000000) : Calls Tryz.prog 156 #[.string s] w fun e w' => e = .returned (.int .i64 (thou s.data.toList)) ∧ Below w.heap.size w w' := by
  obtain ⟨⟨m, hm⟩, _, ⟨t1, p1, hv1⟩, ⟨t2, p2, hv2⟩⟩ := id hG
  have hc : Calls Tryz.prog 182 #[.string s, .string ⟨#[46]⟩] w fun e w' => e = .returned (.tuple #[.string ⟨(Lib.cut s.data.toList [46]).1.toArray⟩, .string ⟨(Lib.cut s.data.toList [46]).2.1.toArray⟩, .bool (Lib.cut s.data.toList [46]).2.2]) ∧ Below w.heap.size w w' :=
    (Tryz.strings_Cut s ⟨#[46]⟩ m w (by omega) hm).mono fun e w' ⟨h, n, hw⟩ => ⟨h, by rw [hw]; exact below_drewN (Below.refl _ _) n⟩
  obtain ⟨l1, l2⟩ := cut_len s.data.toList
  have hsz := ba_len s
  rw [hsz] at l1 l2
  obtain ⟨X, hX⟩ : ∃ X : ByteArray, Hid (X.data.toList = thouX s.data.toList) := ⟨⟨(thouX s.data.toList).toArray⟩, by simp [Hid]⟩
  have hth : Hid (thou s.data.toList = match Lib.parseIntB 64 X.data.toList with
    | .ok v => v
    | _ => 0) := by rw [hX.out]; rfl
  obtain ⟨T, hT⟩ : ∃ T, Hid (T = thou s.data.toList) := ⟨_, rfl⟩
  rw [← hT.out] at hth ⊢
  obtain ⟨WH, eWH⟩ : ∃ x : ByteArray, Hid (x = ⟨(Lib.cut s.data.toList [46]).1.toArray⟩) := ⟨_, rfl⟩
  obtain ⟨RS, eRS⟩ : ∃ x : ByteArray, Hid (x = ⟨(Lib.cut s.data.toList [46]).2.1.toArray⟩) := ⟨_, rfl⟩
  have lW : WH.size ≤ s.size := by rw [eWH.out, ba_of]; exact l1
  have lR : RS.size ≤ s.size := by rw [eRS.out, ba_of]; exact l2
  rw [← eWH.out, ← eRS.out] at hc
  generalize (Lib.cut s.data.toList [46]).2.2 = B at hc
  have eX : WH ++ (RS ++ ⟨#[48, 48, 48]⟩).extract 0 3 = X := by
    have h : X = ⟨X.data.toList.toArray⟩ := by simp
    rw [h, hX.out, eWH.out, eRS.out]
    apply ByteArray.ext
    apply Array.ext'
    simp only [ByteArray.data_append, ByteArray.data_extract, Array.toList_append, Array.toList_extract, List.extract_eq_take_drop, thouX, List.drop_zero, Nat.sub_zero]
  have h6 : (RS ++ ⟨#[48, 48, 48]⟩).size = RS.size + 3 := ByteArray.size_append
  have hx3 : ((RS ++ ⟨#[48, 48, 48]⟩).extract 0 3).size = 3 := by
    rw [ByteArray.size_extract, h6]; omega
  have hXs : X.size ≤ 1000003 := by
    rw [← eX, ByteArray.size_append, hx3]; omega
  clear hX eWH eRS hT l1 l2 hsz
  cases hp : Lib.parseIntB 64 X.data.toList with
  | ok v =>
    rw [hp] at hth
    obtain rfl : T = v := hth.out
    have hpi : ∀ W, Below w.heap.size w W → Calls Tryz.prog 183 #[.string X, .int .i64 10, .int .i64 64] W fun e w' => e = .returned (.tuple #[.int .i64 T, .nilIface]) ∧ Below W.heap.size W w' := fun W hW =>
      (Tryz.strconv_ParseInt_10_at64_ok X (by omega) T hp W).mono fun e w' ⟨h, hw⟩ => ⟨h, by
        rcases hw with hw | ⟨t, hw⟩
        · rw [hw]; exact Below.refl _ _
        · rw [hw]; exact below_bytes W t⟩
    clear hp hth hG hm hv1 hv2
    go_enter Tryz.func156, Tryz.ntmps156
    go_wp2_with (first | (go_at_call 182; refine hc.mono ?_; rintro e w2 ⟨rfl, hb2⟩) | (go_at_call 183; refine (hpi _ hb2).mono ?_; rintro e w3 ⟨rfl, hb3⟩))
    go_ret
    exact ⟨rfl, hb2.trans (hb3.mono hb2.size)⟩
  | «syntax» =>
    rw [hp] at hth
    obtain rfl : T = 0 := hth.out
    have hpi : ∀ W, Below w.heap.size w W → Calls Tryz.prog 183 #[.string X, .int .i64 10, .int .i64 64] W fun e w' => ∃ N, e = .returned (.tuple #[.int .i64 0, .iface 222 (.pointer (some ⟨N, 0, none⟩))]) ∧ Below W.heap.size W w' := fun W hW =>
      (Tryz.strconv_ParseInt_10_at64_syntax_var X (by omega) hp t1 p1 W (var_grow hv1 hW)).mono fun e w' ⟨N, h, _, _, hb⟩ => ⟨N, h, hb⟩
    clear hp hth hG hm hv1 hv2
    go_enter Tryz.func156, Tryz.ntmps156
    go_wp2_with (first | (go_at_call 182; refine hc.mono ?_; rintro e w2 ⟨rfl, hb2⟩) | (go_at_call 183; refine (hpi _ hb2).mono ?_; rintro e w3 ⟨N, rfl, hb3⟩))
    go_ret
    exact ⟨rfl, hb2.trans (hb3.mono hb2.size)⟩
  | range =>
    rw [hp] at hth
    obtain rfl : T = 0 := hth.out
    obtain ⟨S, hS⟩ : ∃ S, Hid (S = Lib.intSat 64 X.data.toList) := ⟨_, rfl⟩
    have hpi : ∀ W, Below w.heap.size w W → Calls Tryz.prog 183 #[.string X, .int .i64 10, .int .i64 64] W fun e w' => ∃ N, e = .returned (.tuple #[.int .i64 S, .iface 222 (.pointer (some ⟨N, 0, none⟩))]) ∧ Below W.heap.size W w' := fun W hW => by
      rw [hS.out]
      exact (Tryz.strconv_ParseInt_10_at64_range_var X (by omega) hp t2 p2 W (var_grow hv2 hW)).mono fun e w' ⟨N, h, _, _, hb⟩ => ⟨N, h, hb⟩
    clear hp hth hG hm hv1 hv2
    go_enter Tryz.func156, Tryz.ntmps156
    go_wp2_with (first | (go_at_call 182; refine hc.mono ?_; rintro e w2 ⟨rfl, hb2⟩) | (go_at_call 183; refine (hpi _ hb2).mono ?_; rintro e w3 ⟨N, rfl, hb3⟩))
    go_ret
    exact ⟨rfl, hb2.trans (hb3.mono hb2.size)⟩
end Go.Proofs.YtaffplmfnincfaaGreatDoor
/- Values: the contract of Parse. -/
namespace Go.Proofs.YtaffplmfnincfaaGreatDoor
set_option linter.unusedVariables false
open Go.RowKit
theorem beq_str (a b : ByteArray) : (a.toList == b.toList) = decide (a = b) := by
  rw [Bool.eq_iff_iff, decide_eq_true_iff, beq_iff_eq, ByteArray.toList_eq, ByteArray.toList_eq]
  constructor
  · intro h
    apply ByteArray.ext
    exact Array.toList_inj.1 h
  · rintro rfl; rfl
open Classical in
/-- The value whose text it is. -/
noncomputable def parV (s : ByteArray) : Vl := if h : ∃ v, IsV v ∧ txtS v = s then h.choose else zer
open Classical in
noncomputable def parE (s : ByteArray) : Int := if ∃ v, IsV v ∧ txtS v = s then 0 else 80
theorem par_yes {s : ByteArray} {v : Vl} (hv : IsV v) (h : txtS v = s) : parV s = v ∧ parE s = 0 := by
  have he : ∃ v, IsV v ∧ txtS v = s := ⟨v, hv, h⟩
  refine ⟨?_, if_pos he⟩
  rw [parV, dif_pos he]
  have := he.choose_spec
  exact txtS_inj this.1 hv (this.2.trans h.symm)
theorem par_no {s : ByteArray} (h : ∀ v, IsV v → txtS v ≠ s) : parV s = zer ∧ parE s = 80 := by
  have he : ¬ ∃ v, IsV v ∧ txtS v = s := fun ⟨v, h1, h2⟩ => h v h1 h2
  exact ⟨by rw [parV, dif_neg he], if_neg he⟩
/-- What Parse looks at. -/
def parL (s : ByteArray) : List Vl := [nul, nan, pls, mns, num (thou s.data.toList)]
theorem parL_isV (s : ByteArray) : ∀ v ∈ parL s, IsV v := by
  intro v hv
  simp only [parL, List.mem_cons, List.not_mem_nil, or_false] at hv
  rcases hv with rfl | rfl | rfl | rfl | rfl
  · exact nul_isV
  · exact nan_isV
  · exact pls_isV
  · exact mns_isV
  · exact num_isV _
theorem parL_all (s : ByteArray) (v : Vl) (hv : IsV v) (h : txtS v = s) : v ∈ parL s := by
  rcases hv.cases with ⟨n, rfl, h1, h2⟩ | rfl | rfl | rfl | rfl
  · have e : s.data.toList = u8s (txt ⟨1, n⟩) := by rw [← h]; simp [txtS, bOf]
    simp [parL, e, thou_txt h1 h2, num_in h1 h2]
  all_goals simp [parL]
/-- Five values in a row. -/
theorem row5 (w : World) (a b c d e : Vl) : Vls (w.alloc (.cells #[.int .i64 a.kind, .int .i64 a.n, .int .i64 b.kind, .int .i64 b.n, .int .i64 c.kind, .int .i64 c.n, .int .i64 d.kind, .int .i64 d.n, .int .i64 e.kind, .int .i64 e.n] 34)) (.slice (some ⟨w.heap.size, 0, none⟩) 5 5) [a, b, c, d, e] := by
  refine ⟨_, _, rfl, .inr ⟨_, _, rfl, fun t ht => ?_⟩⟩
  have h : (w.alloc (.cells #[.int .i64 a.kind, .int .i64 a.n, .int .i64 b.kind, .int .i64 b.n, .int .i64 c.kind, .int .i64 c.n, .int .i64 d.kind, .int .i64 d.n, .int .i64 e.kind, .int .i64 e.n] 34)).heap[w.heap.size]? = some (.cells #[.int .i64 a.kind, .int .i64 a.n, .int .i64 b.kind, .int .i64 b.n, .int .i64 c.kind, .int .i64 c.n, .int .i64 d.kind, .int .i64 d.n, .int .i64 e.kind, .int .i64 e.n] 34) := by
    show (w.heap.push _)[w.heap.size]? = _; simp
  have ht5 : t = 0 ∨ t = 1 ∨ t = 2 ∨ t = 3 ∨ t = 4 := by simp at ht; omega
  unfold VAt World.cell?
  rw [h]
  rcases ht5 with rfl | rfl | rfl | rfl | rfl <;> simp
set_option maxRecDepth 100000 in
set_option maxHeartbeats 2000000 in
theorem parse_any (s : ByteArray) (w : World) (hG : G w) (hs : s.size ≤ 1000000) : Calls Tryz.prog 134 #[.string s] w fun e w' => e = .returned (.tuple #[vlV (parV s), .int .i64 (parE s)]) ∧ Below w.heap.size w w' := by
  have hr := vlNew w zer
  have hB : Below (w.alloc (vlO zer)).heap.size (w.alloc (vlO zer)) (w.alloc (vlO zer)) := Below.refl _ _
  have hth : ∀ W, Below (w.alloc (vlO zer)).heap.size (w.alloc (vlO zer)) W → Calls Tryz.prog 156 #[.string s] W fun e w' => e = .returned (.int .i64 (thou s.data.toList)) ∧ Below W.heap.size W w' := fun W h => thousandths_any s W (hG.grow ((bW0 w _).trans (h.mono (bW0 w _).size))) hs
  have hpr : Hid (∀ W, Below (w.alloc (vlO zer)).heap.size (w.alloc (vlO zer)) W → ∀ v ∈ parL s, Calls Tryz.prog 157 #[.agg #[.int .i64 v.kind, .int .i64 v.n]] W fun e w' => e = .returned (.string (txtS v)) ∧ Below W.heap.size W w') := fun W h v hv => by
    have := print_any v W (hG.grow ((bW0 w _).trans (h.mono (bW0 w _).size)))
    rw [prS, if_pos (parL_isV s v hv)] at this
    exact this
  obtain ⟨l, hl⟩ : ∃ l, Hid (l = parL s) := ⟨_, rfl⟩
  have hall : Hid (∀ v, IsV v → txtS v = s → v ∈ l) := fun v h1 h2 => by rw [hl.out]; exact parL_all s v h1 h2
  have hisv : Hid (∀ v ∈ l, IsV v) := fun v hv => parL_isV s v (by rw [← hl.out]; exact hv)
  rw [← hl.out] at hpr
  have hlen : Hid (l.length = 5) := by rw [hl.out]; rfl
  have hn := fun W => num_any (thou s.data.toList) W
  have h22 := fun W => null_b W
  have h24 := fun W => nan_b W
  have h26 := fun W => plus_b W
  have h28 := fun W => minus_b W
  have hrow : Hid (∀ W : World, Vls (W.alloc (.cells #[.int .i64 nul.kind, .int .i64 nul.n, .int .i64 nan.kind, .int .i64 nan.n, .int .i64 pls.kind, .int .i64 pls.n, .int .i64 mns.kind, .int .i64 mns.n, .int .i64 (num (thou s.data.toList)).kind, .int .i64 (num (thou s.data.toList)).n] 34)) (.slice (some ⟨W.heap.size, 0, none⟩) 5 5) l) := fun W => by
    rw [hl.out]; exact row5 W nul nan pls mns (num (thou s.data.toList))
  generalize num (thou s.data.toList) = u5 at *
  generalize thou s.data.toList = T5 at *
  clear hG hl
  obtain ⟨R, hR⟩ : ∃ R, Hid (R = parV s) := ⟨_, rfl⟩
  obtain ⟨E, hE⟩ : ∃ E, Hid (E = parE s) := ⟨_, rfl⟩
  rw [← hR.out, ← hE.out]
  unfold vlV at h22 h24 h26 h28 hn
  go_enter Tryz.func134, Tryz.ntmps134
  go_wp2_with (first | (go_at_call 135; with_reducible refine (h22 _).mono ?_; rintro e w2 ⟨rfl, hb2⟩; replace hB := hB.trans (hb2.mono hB.size)) | (go_at_call 136; with_reducible refine (h24 _).mono ?_; rintro e w2 ⟨rfl, hb2⟩; replace hB := hB.trans (hb2.mono hB.size)) | (go_at_call 137; with_reducible refine (h26 _).mono ?_; rintro e w2 ⟨rfl, hb2⟩; replace hB := hB.trans (hb2.mono hB.size)) | (go_at_call 154; with_reducible refine (h28 _).mono ?_; rintro e w2 ⟨rfl, hb2⟩; replace hB := hB.trans (hb2.mono hB.size)) | (go_at_call 156; with_reducible refine (hth _ hB).mono ?_; rintro e w2 ⟨rfl, hb2⟩; replace hB := hB.trans (hb2.mono hB.size)) | (go_at_call 155; with_reducible refine (hn _).mono ?_; rintro e w2 ⟨rfl, hb2⟩; replace hB := hB.trans (hb2.mono hB.size)))
  have hV := hrow.out w2
  have hB1 := hB.alloc hB.size (.cells #[.int .i64 nul.kind, .int .i64 nul.n, .int .i64 nan.kind, .int .i64 nan.n, .int .i64 pls.kind, .int .i64 pls.n, .int .i64 mns.kind, .int .i64 mns.n, .int .i64 u5.kind, .int .i64 u5.n] 34)
  clear hrow hb2 hB hth hn h22 h24 h26 h28
  generalize w2.alloc (.cells #[.int .i64 nul.kind, .int .i64 nul.n, .int .i64 nan.kind, .int .i64 nan.n, .int .i64 pls.kind, .int .i64 pls.n, .int .i64 mns.kind, .int .i64 mns.n, .int .i64 u5.kind, .int .i64 u5.n] 34) = W1 at hV hB1 ⊢
  generalize w2.heap.size = nb at hV ⊢
  have hgl : Hid (∀ W, Below W1.heap.size W1 W → Vls W (.slice (some ⟨nb, 0, none⟩) 5 5) l) := fun W h => hV.grow h
  clear hV
  go_loopw [15] (fun i wr => ∃ k : Nat, k ≤ 5 ∧ i = .int .i64 k ∧ Hid (∀ u ∈ l.take k, txtS u ≠ s) ∧ Below W1.heap.size W1 wr) (fun i _ => 5 - (intOf i).toNat)
  case atStart => exact ⟨0, Nat.zero_le _, rfl, (fun u hu => by simp at hu), Below.refl _ _⟩
  case round =>
    obtain ⟨k, hk, rfl, hrk, hb⟩ := hrel
    have hz := hb.size
    have hBw := hB1.trans (hb.mono hB1.size)
    have hvr := (hr.grow hBw)
    have hltr := hvr.lt
    by_cases hlt : k < 5
    · have hki : (k : Int) < 5 := by omega
      have hltl : k < l.length := by rw [hlen.out]; exact hlt
      obtain ⟨a', c', e, hcs⟩ := hgl.out wr hb
      have ea : some (⟨nb, 0, none⟩ : Addr) = a' := by
        have := e; simp at this; exact this.1
      subst ea
      rcases hcs with hcs | ⟨b, o, hbo, hcs⟩
      · rw [hcs] at hltl; simp at hltl
      obtain ⟨rfl, rfl⟩ : nb = b ∧ 0 = o := by simpa using hbo
      obtain ⟨x0, x1⟩ := hcs k hltl
      rw [Nat.zero_add] at x0 x1
      clear hcs e hbo
      have hmem : Hid (l.getD k zer ∈ l) := getD_mem l k hltl
      have htk : Hid (l.take (k + 1) = l.take k ++ [l.getD k zer]) := take_getD l k hltl
      generalize l.getD k zer = u at *
      have hp := hpr.out (wr.alloc (.cells #[.int .i64 u.kind, .int .i64 u.n] 34)) (hBw.alloc hBw.size _) u hmem.out
      have hiu : Hid (IsV u) := hisv.out u hmem.out
      obtain ⟨TU, hTU⟩ : ∃ T, Hid (T = txtS u) := ⟨_, rfl⟩
      rw [← hTU.out] at hp
      have hbe := beq_str TU s
      have hr2 : ∀ o, VlAt (wr.alloc o) w.heap.size zer := fun o => hvr.alloc o
      clear hgl hpr
      by_cases heq : TU = s
      · have hb2 : (TU.toList == s.toList) = true := by rw [hbe]; simpa using heq
        obtain ⟨y1, y2⟩ := par_yes hiu.out (hTU.out.symm.trans heq)
        have hRu : Hid (R = u) := hR.out.trans y1
        have hE0 : Hid (E = 0) := hE.out.trans y2
        clear hbe heq y1 y2
        go_wp2_with (go_at_call 157; refine hp.mono ?_; rintro e w3 ⟨rfl, hb3⟩; have hr3 := (hr2 _).grow hb3; obtain ⟨r0, r1⟩ := hr3.cells; obtain ⟨rf0, rf1⟩ := hr3.frozen; have hub := (vlNew wr u).grow hb3; obtain ⟨v0, v1⟩ := hub.cells)
        refine ret_cell2 (v := u) Tryz.results134 rfl (vlSet hr3) rfl ⟨by rw [hRu.out, hE0.out]; rfl, ?_⟩
        have hw3 : Below (w.alloc (vlO zer)).heap.size (w.alloc (vlO zer)) w3 := (hBw.alloc hBw.size _).trans (hb3.mono (hBw.alloc hBw.size _).size)
        exact belTwo _ _ ((bW0 w _).trans (hw3.mono (bW0 w _).size)) (Nat.le_refl _)
      · have hb2 : (TU.toList == s.toList) = false := by rw [hbe]; simpa using heq
        have hnew : Hid (∀ y ∈ l.take (k + 1), txtS y ≠ s) := by
          rw [htk.out]
          intro y hy
          rcases List.mem_append.1 hy with h | h
          · exact hrk.out y h
          · rw [List.mem_singleton.1 h, ← hTU.out]; exact heq
        clear hbe heq
        go_wp2_with (go_at_call 157; refine hp.mono ?_; rintro e w3 ⟨rfl, hb3⟩; have hub := (vlNew wr u).grow hb3; obtain ⟨v0, v1⟩ := hub.cells)
        have hb4 : Below W1.heap.size W1 w3 := (hb.alloc (by omega) _).trans (hb3.mono (by simp; omega))
        go_roundw
        case rel => exact ⟨k + 1, by omega, by go_num, hnew, hb4⟩
        case measure => simp [intOf]; omega
    · obtain rfl : k = 5 := by omega
      have hno : ∀ v, IsV v → txtS v ≠ s := fun v h1 h2 => by
        have h3 := hrk.out v (by rw [List.take_of_length_le (by rw [hlen.out]; omega)]; exact hall.out v h1 h2)
        exact h3 h2
      obtain ⟨y1, y2⟩ := par_no hno
      have hRu : Hid (R = zer) := hR.out.trans y1
      have hE0 : Hid (E = 80) := hE.out.trans y2
      obtain ⟨r0, r1⟩ := hvr.cells
      obtain ⟨rf0, rf1⟩ := hvr.frozen
      clear hgl hpr y1 y2 hno
      go_wp2
      refine ret_cell2 (v := zer) Tryz.results134 rfl (vlSet hvr) rfl ⟨by rw [hRu.out, hE0.out]; rfl, ?_⟩
      exact belTwo _ _ ((bW0 w _).trans (hBw.mono (bW0 w _).size)) (Nat.le_refl _)
end Go.Proofs.YtaffplmfnincfaaGreatDoor
