/- Lists of bytes handed over; the contracts of fit and joined. -/
import Derived.Test.YtcgjolonapndgaaOps
namespace Go.Proofs.Ytcgjolonapndgaa
open Go.RowKit Go.Maps Go.ChangeMaps Go.MapKept

/-- A slice value whose elements are slices of the bytes ls. -/
def Lists (w : World) (v : Value) (ls : List (List Int)) : Prop :=
  ∃ a c, v = .slice a ls.length c ∧ (ls = [] ∨ ∃ b o, a = some ⟨b, o, none⟩ ∧ ∀ t, t < ls.length → ∃ u, w.cell? ⟨b, o + t, none⟩ = some u ∧ Bts w u (ls.getD t []))

theorem Lists.grow {w w' : World} {v : Value} {ls : List (List Int)} (h : Lists w v ls) (hb : Below w.heap.size w w') : Lists w' v ls := by
  obtain ⟨a, c, rfl, h⟩ := h
  refine ⟨a, c, rfl, ?_⟩
  rcases h with h | ⟨b, o, rfl, h⟩
  · exact .inl h
  · refine .inr ⟨b, o, rfl, fun t ht => ?_⟩
    obtain ⟨u, h1, h2⟩ := h t ht
    exact ⟨u, (hb.cell (p := ⟨b, o + t, none⟩) (World.block_lt_of_cell? w _ h1)).trans h1, h2.grow hb⟩

theorem flatten_take (ls : List (List Int)) (k : Nat) (h : k < ls.length) : (ls.take (k + 1)).flatten = (ls.take k).flatten ++ ls.getD k [] := by
  rw [List.take_succ_eq_append_getElem h, List.flatten_append, List.getD_eq_getElem?_getD, List.getElem?_eq_getElem h]
  simp only [List.flatten_cons, List.flatten_nil, List.append_nil, Option.getD_some]
theorem flatten_le (ls : List (List Int)) (k : Nat) : (ls.take k).flatten.length ≤ ls.flatten.length := by
  conv => rhs; rw [← List.take_append_drop k ls, List.flatten_append, List.length_append]
  omega

/-- How many bytes there are in all. -/
def tot (ls : List (List Int)) : Nat := ls.flatten.length
theorem tot_take (ls : List (List Int)) (k : Nat) (h : k < ls.length) : tot (ls.take (k + 1)) = tot (ls.take k) + (ls.getD k []).length := by
  unfold tot; rw [flatten_take ls k h, List.length_append]
theorem tot_le (ls : List (List Int)) (k : Nat) : tot (ls.take k) ≤ tot ls := flatten_le ls k
theorem tot_all (ls : List (List Int)) : tot (ls.take ls.length) = tot ls := by rw [List.take_length]

set_option maxRecDepth 100000 in
set_option maxHeartbeats 1000000 in
theorem fit_some (size : Nat) (ls : List (List Int)) (b o c : Nat) (w : World) (hs : size ≤ 1000000) (hl : ls.length ≤ 9223372036854775807)
    (hcell : ∀ t, t < ls.length → ∃ u, w.cell? ⟨b, o + t, none⟩ = some u ∧ Bts w u (ls.getD t [])) :
    Calls Try.prog 53 #[.int .i64 size, .slice (some ⟨b, o, none⟩) ls.length c] w fun e w' => e = .returned (.bool (decide (tot ls ≤ size))) ∧ w' = w := by
  go_enter Try.func53, Try.ntmps53
  go_wp2
  go_loop [0, 9] (fun z i => ∃ k : Nat, k ≤ ls.length ∧ i = .int .i64 k ∧ tot (ls.take k) ≤ size ∧ z = .int .i64 ((size - tot (ls.take k) : Nat) : Int)) (fun _ i => ls.length - (intOf i).toNat)
  case atStart => exact ⟨0, Nat.zero_le _, rfl, by simp [tot], by simp [tot]⟩
  case round =>
    obtain ⟨k, hk, rfl, hle, rfl⟩ := hrel
    by_cases hlt : k < ls.length
    · obtain ⟨v, hv, hb⟩ := hcell k hlt
      have hFl : Hid (tot (ls.take (k + 1)) = tot (ls.take k) + (ls.getD k []).length) := tot_take ls k hlt
      have hF2 : Hid (tot (ls.take (k + 1)) ≤ tot ls) := tot_le ls (k + 1)
      obtain ⟨a1, c1, rfl, _, _⟩ := hb
      generalize (ls.getD k []).length = q at hv hFl
      generalize tot (ls.take k) = f at hle hFl
      clear hcell
      by_cases hq : size - f < q
      · have hx : ((size - f : Nat) : Int) < (q : Int) := by omega
        go_wp2
        go_ret
        refine ⟨?_, rfl⟩
        have := hFl.out; have := hF2.out
        have hn : decide (tot ls ≤ size) = false := by simp; omega
        rw [hn]; rfl
      · have hx : decide (((size - f : Nat) : Int) < (q : Int)) = false := by simp; omega
        have hsub : ((size - f : Nat) : Int) - (q : Int) = ((size - (f + q) : Nat) : Int) := by omega
        go_wp2
        go_round
        case rel => exact ⟨k + 1, by omega, by go_num, by rw [hFl.out]; omega, by rw [hFl.out, ← hsub]⟩
        case measure => simp [intOf]; omega
    · obtain rfl : k = ls.length := by omega
      rw [tot_all] at hle ⊢
      have hd : decide (tot ls ≤ size) = true := by simpa using hle
      go_wp2
      go_ret
      exact ⟨rfl, rfl⟩
set_option maxRecDepth 100000 in
theorem fit_none (size : Nat) (a : Option Addr) (c : Nat) (w : World) : Calls Try.prog 53 #[.int .i64 size, .slice a 0 c] w fun e w' => e = .returned (.bool true) ∧ w' = w := by
  go_enter Try.func53, Try.ntmps53
  go_wp2
  go_loop [9] (fun i => i = .int .i64 0) (fun _ => 0)
  case atStart => rfl
  case round =>
    subst hrel
    go_wp2
    go_ret
    exact ⟨rfl, rfl⟩
theorem fit_any (size : Nat) (ls : List (List Int)) (v : Value) (w : World) (hs : size ≤ 1000000) (hl : ls.length ≤ 9223372036854775807) (h : Lists w v ls) :
    Calls Try.prog 53 #[.int .i64 size, v] w fun e w' => e = .returned (.bool (decide (tot ls ≤ size))) ∧ w' = w := by
  obtain ⟨a, c, rfl, h⟩ := h
  rcases h with rfl | ⟨b, o, rfl, h⟩
  · exact (fit_none size a c w).mono fun e w' ⟨h1, h2⟩ => ⟨by rw [h1]; simp [tot], h2⟩
  · exact fit_some size ls b o c w hs hl h

/-- b[k:] of a slice of a block. -/
theorem cut_from (s g k : Nat) (hk : k ≤ s) : ∃ dp, (∀ W, (Instr.slice 23 (slV s g) (some (.int .i64 (k : Int))) none none).run Try.prog W = .ok (.slice dp (s - k) (s - k)) W) ∧ (k < s → dp = some ⟨g, k, none⟩) := by
  refine ⟨if s = k then some ⟨g, 0, none⟩ else some ⟨g, k, none⟩, fun W => ?_, fun h => if_neg (by omega)⟩
  unfold slV
  rw [run_slice_l W 23 (some ⟨g, 0, none⟩) s s elem33 .i64 k (by omega) (by omega), size5]
  simp only [Result.andThen, sliced, Int.toNat_natCast]
  split
  · rfl
  · simp [add_at]
/-- bytes and zeros behind them. -/
def padded (s : Nat) (bs : List Int) : List Int := bs ++ zeros (s - bs.length)
theorem padded_len (s : Nat) (bs : List Int) (h : bs.length ≤ s) : (padded s bs).length = s := by simp [padded, zeros]; omega
theorem padded_nil (s : Nat) : padded s [] = zeros s := by simp [padded]
theorem padded_full (s : Nat) (bs : List Int) (h : bs.length = s) : padded s bs = bs := by simp [padded, h, zeros]
theorem below_row {w w' : World} {g : Nat} (hb : Below w.heap.size w w') (h : w.heap.size = g) (hz : w'.heap.size = w.heap.size + 1) : w.grownBy w' none ∧ w'.heap.size = g + 1 := by
  subst h
  exact ⟨⟨hb.os, hb.tape, hb.output, hb.size, fun k hk _ => hb.block k hk⟩, hz⟩
theorem size_5 : (Try.prog.info? 5).map (·.size) = some 1 := by kernel_rfl
theorem makeZ (w : World) (s : Nat) (hs : s ≤ 1000000) : (Instr.makeSlice 23 (.int .i64 s) (.int .i64 s)).run Try.prog w = .ok (slV s w.heap.size) (w.alloc (.cells ((zeros s).map (Value.int .u8)).toArray 5)) := by
  obtain ⟨i0, hi, hz0, hz1, hz2⟩ := info_parts info5
  rw [run_make w 23 5 i0 (.int .u8 0) Try.underlying23 hi hz0 .i64 .i64 s s (by omega) (by omega) (by rw [hz2]; omega) (by omega), hz1]
  have e : madeCells (Value.int .u8 0).cells ((s : Int).toNat * 1) = ((zeros s).map (Value.int .u8)).toArray := by
    apply Array.ext_getElem?
    intro i
    by_cases hi' : i < s
    · simp [madeCells, zeros, Value.cells, hi', Nat.mod_one]
    · simp [madeCells, zeros, Value.cells, hi']
  rw [e]
  simp [slV]

/-- copy(dst, src): dst lies in a block of bytes from place off on, and has room. -/
theorem copyR {w w0 : World} {B : Nat} (dp sp : Option Addr) (dLen dCap sCap : Nat) (g off : Nat) (cur q : List Int) (hq : q.length ≤ dLen) (hrow : Row w g cur) (hb : Below B w0 w) (hBg : B ≤ g)
    (hdp : 0 < q.length → dp = some ⟨g, off, none⟩) (hfit : off + q.length ≤ cur.length) (hsrc : q = [] ∨ ∃ b o, sp = some ⟨b, o, none⟩ ∧ Rest w 0 q.length b o fun t => Value.int .u8 (q.getD t 0)) :
    ∃ w', (∀ ty, (Builtin.copy_ #[23, 23] ty #[.slice dp dLen dCap, .slice sp q.length sCap]).run Try.prog w = .ok (.int .i64 q.length) w') ∧ Row w' g (splice cur off q) ∧ Below B w0 w' ∧ w.grownBy w' (some g) := by
  have hmin : Nat.min q.length dLen = q.length := Nat.min_eq_left hq
  have hsp : (cur.map (Value.int .u8)).take off ++ (q.map (Value.int .u8) ++ (cur.map (Value.int .u8)).drop (off + q.length)) = (splice cur off q).map (Value.int .u8) := by simp [splice]
  by_cases h0 : q = []
  · subst h0
    refine ⟨w, fun ty => run_copy_none w 23 23 ty 5 dp sp dLen dCap 0 sCap Try.underlying23 size_5 (by simp), ?_, hb, ⟨rfl, rfl, rfl, Nat.le_refl _, fun _ _ _ => rfl⟩⟩
    simpa [splice] using hrow
  · have hpos : 0 < q.length := List.length_pos_iff.2 h0
    rcases hsrc with h | ⟨b, o, rfl, hr⟩
    · exact absurd h h0
    · rw [hdp hpos]
      have hsz : (q.map (Value.int .u8)).length = q.length := List.length_map _
      refine ⟨w.setRow g ((splice cur off q).map (Value.int .u8)).toArray, fun ty => ?_, setRow_heap w g _ _ 5 _ hrow, below_setRow hb hBg _, ⟨rfl, rfl, rfl, by simp [World.setRow], fun k _ hk => setRow_other w g k _ (fun e => hk (by rw [e]))⟩⟩
      · have := run_copy_row (P := Try.prog) w 23 23 ty 5 g off dLen dCap ⟨b, o, none⟩ q.length sCap (cur.map (Value.int .u8)).toArray 5 (q.map (Value.int .u8)) Try.underlying23 size_5 hrow (by rw [hsz, hmin]) (fun j y hj => ?_) (by simp; omega) (fun y hy => by obtain ⟨z, _, rfl⟩ := List.mem_map.1 hy; rfl)
        · rw [hsz] at this
          simp only [List.append_assoc, hsp] at this
          exact this
        · rw [List.getElem?_map] at hj
          have hjl : j < q.length := by
            rcases Nat.lt_or_ge j q.length with h | h
            · exact h
            · rw [List.getElem?_eq_none h] at hj; cases hj
          have := hr j (Nat.zero_le _) hjl
          rw [List.getElem?_eq_getElem hjl] at hj
          simp only [Option.map_some, Option.some.injEq] at hj
          subst hj
          rw [add_at, this]; simp [hjl]
theorem padded_splice' (s : Nat) (x y : List Int) (h : x.length + y.length ≤ s) : splice (padded s x) x.length y = padded s (x ++ y) := by
  unfold splice padded zeros
  simp only [List.length_append]
  rw [List.take_left' rfl, List.drop_append]
  rw [List.drop_eq_nil_of_le (by simp), List.nil_append, List.drop_replicate, List.append_assoc]
  congr 3
  omega

set_option maxRecDepth 100000 in
set_option maxHeartbeats 2000000 in
theorem joined_some (size : Nat) (ls : List (List Int)) (b o c : Nat) (w : World) (hs : size ≤ 1000000) (hl : ls.length ≤ 1000000) (hfit : tot ls ≤ size)
    (hcell : ∀ t, t < ls.length → ∃ u, w.cell? ⟨b, o + t, none⟩ = some u ∧ Bts w u (ls.getD t [])) :
    Calls Try.prog 54 #[.int .i64 size, .slice (some ⟨b, o, none⟩) ls.length c] w fun e w' => e = .returned (slV size w.heap.size) ∧ Row w' w.heap.size (padded size ls.flatten) ∧ Below w.heap.size w w' := by
  have hmk := makeZ w size hs
  go_enter Try.func54, Try.ntmps54
  go_wp2
  go_loopw [6, 13] (fun z i wr => ∃ k : Nat, k ≤ ls.length ∧ i = .int .i64 k ∧ z = .int .i64 (tot (ls.take k) : Nat) ∧ Hid (Row wr w.heap.size (padded size (ls.take k).flatten)) ∧ Below w.heap.size w wr) (fun _ i _ => ls.length - (intOf i).toNat)
  case atStart => exact ⟨0, Nat.zero_le _, rfl, by simp [tot], by simp [padded_nil]; exact (heap_alloc w _).1, (Below.refl _ w).alloc (Nat.le_refl _) _⟩
  case round =>
    obtain ⟨k, hk, rfl, rfl, hrow, hbe⟩ := hrel
    by_cases hlt : k < ls.length
    · obtain ⟨v, hv0, hb0⟩ := hcell k hlt
      have hv := (hbe.cell (p := ⟨b, o + k, none⟩) (World.block_lt_of_cell? w _ hv0)).trans hv0
      have hb := hb0.grow hbe
      have hFl := tot_take ls k hlt
      have hF2 := tot_le ls (k + 1)
      have HF : Hid ((ls.take (k + 1)).flatten = (ls.take k).flatten ++ ls.getD k []) := flatten_take ls k hlt
      have HT : Hid (tot (ls.take (k + 1)) = tot (ls.take k) + (ls.getD k []).length) := hFl
      have hX : Hid (tot (ls.take k) = (ls.take k).flatten.length) := rfl
      obtain ⟨dp, hcut, hdp⟩ := cut_from size w.heap.size (tot (ls.take k)) (by omega)
      rw [hFl] at hF2
      clear hFl hv0 hb0 hcell
      generalize ls.getD k [] = q at hb HF HT hF2
      generalize (ls.take k).flatten = x at hrow HF hX
      generalize tot (ls.take k) = f at HT hX hcut hdp hF2
      obtain ⟨a1, c1, rfl, _, hb1⟩ := hb
      obtain ⟨ql, hql⟩ : ∃ ql, ql = q.length := ⟨_, rfl⟩
      rw [← hql] at hv HT hF2
      replace hql : Hid _ := hql
      have hnl := hql.out
      obtain ⟨w2, hcp, hrow2, hbe2, _⟩ := copyR (w := wr) (w0 := w) (B := w.heap.size) dp a1 (size - f) (size - f) c1 w.heap.size f (padded size x) q (by rw [← hnl]; omega) hrow.out hbe (Nat.le_refl _) (fun h => hdp (by omega)) (by have := hX.out; rw [padded_len _ _ (by omega)]; omega) hb1
      rw [← hnl] at hcp
      rw [hX.out] at hrow2
      rw [padded_splice' _ _ _ (by rw [← hX.out, ← hnl]; omega)] at hrow2
      replace hrow2 : Hid _ := hrow2
      clear hb1 hrow hnl
      go_wp2
      go_round
      case rel => exact ⟨k + 1, by omega, by go_num, by rw [HT.out]; go_num, by rw [HF.out]; exact hrow2, hbe2⟩
      case measure => simp [intOf]; omega
    · obtain rfl : k = ls.length := by omega
      rw [List.take_length] at hrow
      go_wp2
      go_ret
      exact ⟨rfl, hrow.out, hbe⟩
set_option maxRecDepth 100000 in
set_option maxHeartbeats 1000000 in
theorem joined_none (size : Nat) (a : Option Addr) (c : Nat) (w : World) (hs : size ≤ 1000000) : Calls Try.prog 54 #[.int .i64 size, .slice a 0 c] w fun e w' => e = .returned (slV size w.heap.size) ∧ w' = w.alloc (.cells ((zeros size).map (Value.int .u8)).toArray 5) := by
  have hmk := makeZ w size hs
  generalize Obj.cells ((zeros size).map (Value.int .u8)).toArray 5 = O at hmk
  go_enter Try.func54, Try.ntmps54
  go_wp2
  go_loop [13] (fun i => i = .int .i64 0) (fun _ => 0)
  case atStart => rfl
  case round =>
    subst hrel
    go_wp2
    go_ret
    exact ⟨rfl, rfl⟩
theorem joined_any (size : Nat) (ls : List (List Int)) (v : Value) (w : World) (hs : size ≤ 1000000) (hl : ls.length ≤ 1000000) (hfit : tot ls ≤ size) (h : Lists w v ls) :
    Calls Try.prog 54 #[.int .i64 size, v] w fun e w' => e = .returned (slV size w.heap.size) ∧ Row w' w.heap.size (padded size ls.flatten) ∧ Below w.heap.size w w' := by
  obtain ⟨a, c, rfl, h⟩ := h
  rcases h with rfl | ⟨b, o, rfl, h⟩
  · refine (joined_none size a c w hs).mono fun e w' ⟨h1, h2⟩ => ⟨h1, ?_, ?_⟩
    · subst h2
      rw [List.flatten_nil, padded_nil]
      exact (heap_alloc w _).1
    · subst h2
      exact (Below.refl _ w).alloc (Nat.le_refl _) _
  · exact joined_some size ls b o c w hs hl hfit h
/-- b[:k] of a slice of a block. -/
theorem cut_to (s g k : Nat) (hk : k ≤ s) (h0 : 0 < s) (W : World) : (Instr.slice 23 (slV s g) none (some (.int .i64 (k : Int))) none).run Try.prog W = .ok (.slice (some ⟨g, 0, none⟩) k s) W := by
  unfold slV
  rw [run_slice_h W 23 (some ⟨g, 0, none⟩) s s elem33 .i64 k (by omega) (by omega), size5]
  simp only [Result.andThen, sliced, Int.toNat_natCast]
  split
  · omega
  · simp [add_at]
end Go.Proofs.Ytcgjolonapndgaa
