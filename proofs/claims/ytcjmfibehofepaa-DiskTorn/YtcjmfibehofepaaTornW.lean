/- The walk of DiskTorn. -/
import Derived.Test.YtcjmfibehofepaaBytes
namespace Go.Proofs.Ytcjmfibehofepaa
open Go.RowKit Go.Maps Go.ChangeMaps Go.MapKept

theorem write_ok (s : St) (n : Int) (ls : List (List Int)) (hn : 0 ≤ n ∧ n < s.sectors) (ht : tot ls ≤ s.size) (hl : s.live = true) : s.errWrite n ls = 0 ∧ s.write n ls = s.op.wrote n (padded s.size ls.flatten) := by
  unfold St.errWrite St.write
  rw [if_pos hn, if_pos hn, if_pos ht, if_pos ht, if_pos hl]
  exact ⟨by simp [St.errOp, hl], rfl⟩
section
variable (old now : List Int) (at' second : Int) (kept : Bool)
def t0 : St := St.new 4 64
def t1 : St := t0.write 2 [old]
def t2 : St := (t1 old).sync
def t3 : St := (t2 old).write 2 [now]
def keepOf : List Int := if kept then [1, 2] else [1]
def t4 : St := (t3 old now).crash (keepOf kept) [(2, at'), (2, second)]
def tk : Nat := if kept then 64 else (clamp 64 at').toNat
theorem tk_le : tk at' kept ≤ 64 := by
  unfold tk
  split
  · omega
  · have := clamp_in 64 at'; omega
variable {old now : List Int}
theorem torn1 (h : old.length ≤ 64) : t0.errWrite 2 [old] = 0 ∧ (t1 old) = { t0 with ops := 1, fresh := upd (fun _ => none) 2 (some (padded 64 old)) } := by
  have ht : tot [old] ≤ 64 := by simpa [tot] using h
  have e : t0.live = true := rfl
  unfold t1 St.errWrite St.write
  have hc : (0 : Int) ≤ 2 ∧ (2 : Int) < (t0.sectors : Int) := by decide
  have hs : tot [old] ≤ t0.size := ht
  rw [if_pos hc, if_pos hc, if_pos hs, if_pos hs, if_pos e]
  refine ⟨rfl, ?_⟩
  show t0.op.wrote 2 (padded 64 [old].flatten) = _
  rw [List.flatten_cons, List.flatten_nil, List.append_nil]
  rfl
theorem torn2 (h : old.length ≤ 64) : (t1 old).errOp = 0 ∧ t2 old = { t0 with ops := 2, safe := upd t0.safe 2 (padded 64 old) } := by
  have h1 := (torn1 h).2
  have e : (t1 old).live = true := by rw [h1]; rfl
  have hp := padded_len 64 old h
  unfold t2 St.sync
  rw [if_pos e]
  refine ⟨by simp [St.errOp, e], ?_⟩
  rw [h1]
  have hsafe : ∀ n, St.settled (St.op { t0 with ops := 1, fresh := upd (fun _ => none) 2 (some (padded 64 old)) }) (fun _ => 64) n = upd t0.safe 2 (padded 64 old) n := by
    intro n
    by_cases hn : n = 2
    · subst hn
      show over ((padded 64 old).take 64) (zeros 64) = _
      rw [List.take_of_length_le (by omega)]
      simp [over, hp, upd, zeros]
    · have hu : upd (fun _ => (none : Option (List Int))) 2 (some (padded 64 old)) n = none := by simp [upd, hn]
      unfold St.settled
      show (match upd (fun _ => (none : Option (List Int))) 2 (some (padded 64 old)) n with | some x => over (x.take 64) (t0.safe n) | none => t0.safe n) = _
      rw [hu]
      simp [upd, hn]
  have : St.settled (St.op { t0 with ops := 1, fresh := upd (fun _ => none) 2 (some (padded 64 old)) }) (fun _ => 64) = upd t0.safe 2 (padded 64 old) := funext hsafe
  unfold St.settle
  show ({ (St.op { t0 with ops := 1, fresh := upd (fun _ => none) 2 (some (padded 64 old)) }) with safe := St.settled (St.op { t0 with ops := 1, fresh := upd (fun _ => none) 2 (some (padded 64 old)) }) (fun _ => 64), fresh := fun _ => none } : St) = _
  rw [this]
  rfl
theorem torn3 (h : old.length ≤ 64) (h' : now.length ≤ 64) : (t2 old).errWrite 2 [now] = 0 ∧ t3 old now = { t0 with ops := 3, safe := upd t0.safe 2 (padded 64 old), fresh := upd (fun _ => none) 2 (some (padded 64 now)) } := by
  have h2 := (torn2 h).2
  have ht : tot [now] ≤ 64 := by simpa [tot] using h'
  have e1 : (t2 old).sectors = 4 := by rw [h2]; rfl
  have e2 : (t2 old).size = 64 := by rw [h2]; rfl
  have e3 : (t2 old).live = true := by rw [h2]; rfl
  obtain ⟨w1, w2⟩ := write_ok (t2 old) 2 [now] (by rw [e1]; decide) (by rw [e2]; exact ht) e3
  refine ⟨w1, ?_⟩
  unfold t3
  rw [w2, e2, h2, List.flatten_cons, List.flatten_nil, List.append_nil]
  rfl
theorem torn4 (h : old.length ≤ 64) (h' : now.length ≤ 64) : (t4 old now at' second kept).now 2 = (padded 64 now).take (tk at' kept) ++ (padded 64 old).drop (tk at' kept) ∧ (t4 old now at' second kept).dead = false ∧ (t4 old now at' second kept).sectors = 4 ∧ (t4 old now at' second kept).size = 64 := by
  have h3 := (torn3 h h').2
  have hp := padded_len 64 now h'
  have hk := tk_le at' kept
  have hl : lastN 64 (keepOf kept) [(2, at'), (2, second)] 2 = tk at' kept := by
    unfold lastN lastAt keepOf tk
    cases kept
    · simp [tornAt]
    · simp
  unfold t4
  rw [h3]
  refine ⟨?_, rfl, rfl, rfl⟩
  show over ((padded 64 now).take (lastN 64 (keepOf kept) [(2, at'), (2, second)] 2)) (padded 64 old) = _
  rw [hl]
  unfold over
  have : ((padded 64 now).take (tk at' kept)).length = tk at' kept := by simp; omega
  rw [this]
end
theorem ints_block {W : World} {g : Nat} {fr : Nat × Nat} {t : TypeId} (xs : List Int) (h : W.heap[g]? = some (.cells (xs.map (Value.int .i64)).toArray t fr)) : Ints W (.slice (some ⟨g, 0, none⟩) xs.length xs.length) xs :=
  ⟨_, xs.length, rfl, .inr ⟨g, 0, rfl, fun t ht => by simp [World.cell?, h, ht]⟩⟩
theorem torns2 {W : World} {g : Nat} (a b c d : Int) (h : W.heap[g]? = some (.cells #[.int .i64 a, .int .i64 b, .int .i64 c, .int .i64 d] 58 (0, 0))) : Torns W (.slice (some ⟨g, 0, none⟩) 2 2) [(a, b), (c, d)] := by
  refine ⟨_, 2, rfl, .inr ⟨g, 0, rfl, fun t ht => ?_⟩⟩
  match t, ht with
  | 0, _ => constructor <;> simp [World.cell?, h]
  | 1, _ => constructor <;> simp [World.cell?, h]
theorem heap2 (w : World) (a b : Obj) : ((w.alloc a).alloc b).heap[w.heap.size]? = some a ∧ ((w.alloc a).alloc b).heap[w.heap.size + 1]? = some b := by
  refine ⟨?_, ?_⟩
  · show ((w.heap.push a).push b)[w.heap.size]? = _
    simp only [Array.getElem?_push, Array.size_push]; rw [if_neg (by omega), if_pos trivial]
  · show ((w.heap.push a).push b)[w.heap.size + 1]? = _
    simp only [Array.getElem?_push, Array.size_push]; rw [if_pos trivial]
theorem torn_in {a b : Int} (ha : In64 a) (hb : In64 b) : ∀ t ∈ [((2 : Int), a), (2, b)], In64 t.1 ∧ In64 t.2 := by
  intro t ht
  have h2 : In64 2 := ⟨by decide, by decide⟩
  simp only [List.mem_cons, List.not_mem_nil, or_false] at ht
  rcases ht with rfl | rfl
  · exact ⟨h2, ha⟩
  · exact ⟨h2, hb⟩
/-- append([]byte{}, old...) and zeros behind it: all that the walk asks. -/
theorem zeros_behind {w W : World} {v : Value} {old : List Int} {n0 : Nat} (e0 : n0 = old.length) (h0 : n0 ≤ 64) (hown : Own W w.heap.size v old) (hv : v ≠ .slice none 0 0) (hle : w.heap.size ≤ W.heap.size) :
    ∃ v' w', (∀ ty, (Builtin.append_ #[33, 3] ty #[v, .int .i64 (64 - (n0 : Int))]).run Try.prog W = .ok v' w') ∧ Own w' w.heap.size v' (padded 64 old) ∧ Below w.heap.size W w' := by
  obtain ⟨v', w', h1, h2, h3, _⟩ := run_zeros hown hv (64 - n0) (by omega) hle
  have e : ((64 - n0 : Nat) : Int) = 64 - (n0 : Int) := by omega
  rw [e] at h1
  refine ⟨v', w', h1, by unfold padded; rw [← e0]; exact h2, (Below.refl _ W).grown h3 hle (fun k hk => (hown.lt k hk).1)⟩
theorem strOf_append (a b : List Int) : strOfNums (a ++ b) = strOfNums a ++ strOfNums b := by
  apply ByteArray.ext
  simp [strOfNums]
theorem keep_in (kept : Bool) : ∀ x ∈ keepOf kept, In64 x := by
  intro x hx
  unfold keepOf at hx
  unfold In64
  cases kept
  · simp at hx; omega
  · simp at hx; omega

set_option maxRecDepth 100000 in
set_option maxHeartbeats 8000000 in
theorem torn_false (old now : List Int) (a0 a1 : Option Addr) (n0 c0 n1 c1 : Nat) (e0 : Hid (n0 = old.length)) (e1 : Hid (n1 = now.length)) (w : World) (hb0 : Bts w (.slice a0 n0 c0) old) (hb1 : Bts w (.slice a1 n1 c1) now) (h0 : n0 ≤ 64) (h1 : n1 ≤ 64) (at' second : Int) (hat : In64 at') (hse : In64 second) (k : Nat) (hz : Hid (max 0 (min at' 64) = (k : Int))) (hkt : Hid (tk at' false = k)) :
    Calls Try.prog 6 #[.slice a0 n0 c0, .slice a1 n1 c1, .int .i64 at', .int .i64 second, .bool false] w fun e w' => e = .returned (.bool true) ∧ Below w.heap.size w w' := by
  have d0 : decide ((64 : Int) < (n0 : Int)) = false := by simp; omega
  have d1 : decide ((64 : Int) < (n1 : Int)) = false := by simp; omega
  have hnew := held_new (w := w) (W := w) 4 64 (by decide) (by decide) (by decide) (by decide) (Below.refl _ _)
  have hlo : old.length ≤ 64 := by rw [← e0.out]; exact h0
  have hln : now.length ≤ 64 := by rw [← e1.out]; exact h1
  replace hlo : Hid _ := hlo
  replace hln : Hid _ := hln
  have gr0 : ∀ W, Below w.heap.size w W → Bts W (.slice a0 n0 c0) old := fun W h => Bts.grow hb0 h
  have gr1 : ∀ W, Below w.heap.size w W → Bts W (.slice a1 n1 c1) now := fun W h => Bts.grow hb1 h
  have lt0 : old ≠ [] → ∀ k, (Value.slice a0 n0 c0).ownBlock = some k → k < w.heap.size := fun h => Bts.lt hb0 h
  have lt1 : now ≠ [] → ∀ k, (Value.slice a1 n1 c1).ownBlock = some k → k < w.heap.size := fun h => Bts.lt hb1 h
  clear hb0 hb1
  go_enter Try.func6, Try.ntmps6
  go_wp2_with (first | (go_at_call 10; refine hnew.mono ?_; rintro e w1 ⟨p, rfl, hh1, hx1⟩) | (go_at_call 12; refine (num_any _ _ (by omega) (by omega)).mono ?_; rintro e w2 ⟨rfl, hw2⟩; subst w2))
  refine (held_write (s := t0) (hh1.alloc _) (by decide) 2 _ [old] (listsB1 (gr0 _ hh1.below) (fun h => by have := (hh1.blocks _ h).2; omega) (fun h j hj hF => by have := lt0 h j hj; have := (hh1.blocks _ hF).1; omega)) (by simp) (by decide) (by decide)).mono ?_
  rintro e w2 ⟨rfl, F2, hh2, hf2, hF2⟩
  rw [(torn1 hlo.out).1]
  change Held w w2 p F2 (t1 old) at hh2
  clear hh1 hx1 hf2 hF2 hnew
  go_wp2_with (first | (go_at_call 12; refine (num_any _ _ (by omega) (by omega)).mono ?_; rintro e w3 ⟨rfl, hw3⟩; subst w3))
  refine (held_sync (s := t1 old) hh2 (by rw [(torn1 hlo.out).2]; show 1 < _; decide)).mono ?_
  rintro e w3 ⟨rfl, F3, hh3, hf3, hF3⟩
  rw [(torn2 hlo.out).1]
  change Held w w3 p F3 (t2 old) at hh3
  clear hh2 hf3 hF3
  go_wp2_with (first | (go_at_call 12; refine (num_any _ _ (by omega) (by omega)).mono ?_; rintro e w4 ⟨rfl, hw4⟩; subst w4))
  refine (held_write (s := t2 old) (hh3.alloc _) (by rw [(torn2 hlo.out).2]; show 2 < _; decide) 2 _ [now] (listsB1 (gr1 _ hh3.below) (fun h => by have := (hh3.blocks _ h).2; omega) (fun h j hj hF => by have := lt1 h j hj; have := (hh3.blocks _ hF).1; omega)) (by simp) (by decide) (by decide)).mono ?_
  rintro e w4 ⟨rfl, F4, hh4, hf4, hF4⟩
  rw [(torn3 hlo.out hln.out).1]
  change Held w w4 p F4 (t3 old now) at hh4
  clear hh3 hf4 hF4 lt0 lt1
  go_wp2_with (first | (go_at_call 12; refine (num_any _ _ (by omega) (by omega)).mono ?_; rintro e w5 ⟨rfl, hw5⟩; subst w5))
  obtain ⟨q0, q1⟩ := heap2 w4 (.cells #[.int .i64 1] 3) (.cells #[.int .i64 2, .int .i64 at', .int .i64 2, .int .i64 second] 58)
  refine (held_crash (s := t3 old now) ((hh4.alloc _).alloc _) (by rw [(torn3 hlo.out hln.out).2]; show 3 < _; decide) (keepOf false) [(2, at'), (2, second)] _ _ (ints_block [1] q0) (torns2 2 at' 2 second q1) (by decide) (by simp) (keep_in false) (torn_in hat hse)).mono ?_
  rintro e w5 ⟨rfl, F5, hh5, hf5, hF5⟩
  change Held w w5 p F5 (t4 old now at' second false) at hh5
  clear hh4 hf5 hF5 q0 q1
  obtain ⟨x1, x2, x3, x4⟩ := torn4 at' second false hlo.out hln.out
  go_wp2_with fail
  refine (read_ok hh5.disk 2 (by rw [x3]; decide) x2).mono ?_
  rintro e w6 ⟨g6, rfl, hg6, hrow6, hx6⟩
  have hB6 : Below w.heap.size w w6 := hh5.below.trans (hx6.mono hh5.le)
  rw [x1] at hrow6
  rw [x4]
  have hy6 := hrow6.bts
  have hl6 : ((padded 64 now).take (tk at' false) ++ (padded 64 old).drop (tk at' false)).length = 64 := by
    have := tk_le at' false
    have := padded_len 64 now hln.out
    have := padded_len 64 old hlo.out
    simp; omega
  rw [hl6, hkt.out] at hy6
  change Bts w6 (slV 64 g6) _ at hy6
  generalize slV 64 g6 = v6 at hy6
  replace x1 : Hid _ := x1
  clear hh5 hx6 x2 x3 x4 hrow6
  have tokA : True := trivial
  have tokB : True := trivial
  have tokC : True := trivial
  have tokD : True := trivial
  have s6 := hB6.size
  have hk64 : k ≤ 64 := by rw [← hkt.out]; exact tk_le at' false
  have fin : ∀ wB wD vB vD, Own wB w6.heap.size vB (padded 64 old) → Below w6.heap.size w6 wB → Own wD wB.heap.size vD (padded 64 now) → Below wB.heap.size wB wD →
      ∃ vY vX sY sX, sY.size + sX.size ≤ 1000 ∧ (∀ W, (Instr.slice 33 vD none (some (.int .i64 (max 0 (min at' 64)))) none).run Try.prog W = .ok vY W) ∧ (∀ W, (Instr.slice 33 vB (some (.int .i64 (max 0 (min at' 64)))) none none).run Try.prog W = .ok vX W) ∧
        Hid (∀ W, OkW wD W → (convert 33 9 v6).run Try.prog W = .ok (.string (sY ++ sX)) W ∧ (convert 33 9 vY).run Try.prog W = .ok (.string sY) W ∧ (convert 33 9 vX).run Try.prog W = .ok (.string sX) W) ∧ Below w.heap.size w wD := by
    intro wB wD vB vD hoB hb1 hoD hb2
    have hs1 := hb1.size
    have hs2 := hb2.size
    have hp1 := padded_len 64 now hln.out
    have hp2 := padded_len 64 old hlo.out
    obtain ⟨vY, r1, b1⟩ := slice_toI hoD.bts k (by rw [hp1]; exact hk64)
    obtain ⟨vX, r2, b2, _⟩ := slice_from (hoB.bts.grow hb2) k (by rw [hp2]; exact hk64)
    rw [← hz.out] at r1 r2
    have b0 := (hy6.grow hb1).grow hb2
    refine ⟨vY, vX, strOfNums ((padded 64 now).take k), strOfNums ((padded 64 old).drop k), (by rw [strOfNums_size, strOfNums_size, List.length_take, List.length_drop]; omega), r1, r2, ?_, hB6.trans ((hb1.mono s6).trans (hb2.mono (by omega)))⟩
    show ∀ W, _ → _
    intro W hW
    refine ⟨?_, conv_str (b1.grow hW), conv_str (b2.grow hW)⟩
    rw [← strOf_append]
    exact conv_str (b0.grow hW)
  go_wp2_with (first
    | (at_builtin; have _t := tokA; refine appX rfl _ _ rfl w6.heap.size _ _ [] old rfl rfl (own_empty w6) (gr0 _ (hB6.alloc s6 _)) (by simp) (by have := hlo.out; simp; omega) ?_; clear tokA; intro vA wA hoA hbA hnA; have sA : w6.heap.size ≤ wA.heap.size := (by have := hbA.size; simp at this; omega); obtain ⟨vB, wB, hrB, hoB, hbB⟩ := zeros_behind e0.out h0 hoA (by intro h; have := (hnA.1 h).1; cases this) sA; have sB := hbB.size; have hB7 : Below w.heap.size w wB := (((hB6.alloc s6 _).trans (hbA.mono s6)).trans (hbB.mono s6)); clear hoA hnA)
    | (at_builtin; have _t := tokB; refine Lib.wpList_append_run _ rfl _ _ 33 3 rfl vA (.int .i64 (64 - (n0 : Int))) rfl rfl vB wB (hrB _) ?_; clear tokB hrB)
    | (at_builtin; have _t := tokC; refine appX rfl _ _ rfl wB.heap.size _ _ [] now rfl rfl (own_empty wB) (gr1 _ (hB7.alloc (by omega) _)) (by simp) (by have := hln.out; simp; omega) ?_; clear tokC; intro vC wC hoC hbC hnC; have sC : wB.heap.size ≤ wC.heap.size := (by have := hbC.size; simp at this; omega); obtain ⟨vD, wD, hrD, hoD, hbD⟩ := zeros_behind e1.out h1 hoC (by intro h; have := (hnC.1 h).1; cases this) sC; have sD := hbD.size; clear hoC hnC)
    | (at_builtin; have _t := tokD; refine Lib.wpList_append_run _ rfl _ _ 33 3 rfl vC (.int .i64 (64 - (n1 : Int))) rfl rfl vD wD (hrD _) ?_; clear tokD hrD))
  obtain ⟨vY, vX, sY, sX, hsz, r1, r2, r3, hBD⟩ := fin wB wD vB vD hoB (((Below.refl _ w6).alloc (Nat.le_refl _) _).trans (hbA.trans hbB)) hoD (((Below.refl _ wB).alloc (Nat.le_refl _) _).trans (hbC.trans hbD))
  clear fin hoB hoD hbA hbB hbC hbD
  obtain ⟨p1, p2, p3⟩ := r3.out wD (OkW.refl wD)
  have hS : ∀ W, OkW wD W → OkW wD W ∧ (convert 33 9 v6).run Try.prog W = .ok (.string (sY ++ sX)) W ∧ (convert 33 9 vY).run Try.prog W = .ok (.string sY) W ∧ (convert 33 9 vX).run Try.prog W = .ok (.string sX) W := fun W hW => ⟨hW, r3.out W hW⟩
  replace hS : Hid _ := hS
  have hok : OkW wD wD := OkW.refl wD
  have hadd : ∀ W, (Op.stringOp .add sY sX).run Try.prog W = .ok (.string (sY ++ sX)) W := fun W => run_string_add W sY sX (by omega) (by omega)
  have hadd2 : ¬ (9223372036854775807 < sY.size + sX.size) := by omega
  clear r3
  go_region_held3 (fun W => OkW wD W ∧ (convert 33 9 v6).run Try.prog W = .ok (.string (sY ++ sX)) W ∧ (convert 33 9 vY).run Try.prog W = .ok (.string sY) W ∧ (convert 33 9 vX).run Try.prog W = .ok (.string sX) W) (first | assumption | (exact ⟨hok, p1, p2, p3⟩) | (exact hS.out _ hok.drew) | (exact hS.out _ (OkW.drew (And.left (by assumption)))) | (exact hS.out _ (And.left (by assumption)))) (first | (go_at_call 12; refine (num_any _ _ (by omega) (by omega)).mono ?_; rintro e w7 ⟨rfl, hw7⟩; subst w7) | (go_at_call 9; refine (live_any _).mono ?_; rintro e w9 ⟨rfl, hb9⟩; have hok9 : OkW wD w9 := Below.trans (And.left (by assumption)) (hb9.mono (Below.size (And.left (by assumption)))); have hs9 := hS.out w9 hok9))
  go_wp2
  go_ret
  exact ⟨rfl, hBD.trans (Below.mono hok9 hBD.size)⟩
set_option maxRecDepth 100000 in
set_option maxHeartbeats 8000000 in
theorem torn_true (old now : List Int) (a0 a1 : Option Addr) (n0 c0 n1 c1 : Nat) (e0 : Hid (n0 = old.length)) (e1 : Hid (n1 = now.length)) (w : World) (hb0 : Bts w (.slice a0 n0 c0) old) (hb1 : Bts w (.slice a1 n1 c1) now) (h0 : n0 ≤ 64) (h1 : n1 ≤ 64) (at' second : Int) (hat : In64 at') (hse : In64 second) (k : Nat) (hz : Hid ((64 : Int) = (k : Int))) (hkt : Hid (tk at' true = k)) :
    Calls Try.prog 6 #[.slice a0 n0 c0, .slice a1 n1 c1, .int .i64 at', .int .i64 second, .bool true] w fun e w' => e = .returned (.bool true) ∧ Below w.heap.size w w' := by
  have d0 : decide ((64 : Int) < (n0 : Int)) = false := by simp; omega
  have d1 : decide ((64 : Int) < (n1 : Int)) = false := by simp; omega
  have hnew := held_new (w := w) (W := w) 4 64 (by decide) (by decide) (by decide) (by decide) (Below.refl _ _)
  have hlo : old.length ≤ 64 := by rw [← e0.out]; exact h0
  have hln : now.length ≤ 64 := by rw [← e1.out]; exact h1
  replace hlo : Hid _ := hlo
  replace hln : Hid _ := hln
  have gr0 : ∀ W, Below w.heap.size w W → Bts W (.slice a0 n0 c0) old := fun W h => Bts.grow hb0 h
  have gr1 : ∀ W, Below w.heap.size w W → Bts W (.slice a1 n1 c1) now := fun W h => Bts.grow hb1 h
  have lt0 : old ≠ [] → ∀ k, (Value.slice a0 n0 c0).ownBlock = some k → k < w.heap.size := fun h => Bts.lt hb0 h
  have lt1 : now ≠ [] → ∀ k, (Value.slice a1 n1 c1).ownBlock = some k → k < w.heap.size := fun h => Bts.lt hb1 h
  clear hb0 hb1
  go_enter Try.func6, Try.ntmps6
  go_wp2_with (first | (go_at_call 10; refine hnew.mono ?_; rintro e w1 ⟨p, rfl, hh1, hx1⟩) | (go_at_call 12; refine (num_any _ _ (by omega) (by omega)).mono ?_; rintro e w2 ⟨rfl, hw2⟩; subst w2))
  refine (held_write (s := t0) (hh1.alloc _) (by decide) 2 _ [old] (listsB1 (gr0 _ hh1.below) (fun h => by have := (hh1.blocks _ h).2; omega) (fun h j hj hF => by have := lt0 h j hj; have := (hh1.blocks _ hF).1; omega)) (by simp) (by decide) (by decide)).mono ?_
  rintro e w2 ⟨rfl, F2, hh2, hf2, hF2⟩
  rw [(torn1 hlo.out).1]
  change Held w w2 p F2 (t1 old) at hh2
  clear hh1 hx1 hf2 hF2 hnew
  go_wp2_with (first | (go_at_call 12; refine (num_any _ _ (by omega) (by omega)).mono ?_; rintro e w3 ⟨rfl, hw3⟩; subst w3))
  refine (held_sync (s := t1 old) hh2 (by rw [(torn1 hlo.out).2]; show 1 < _; decide)).mono ?_
  rintro e w3 ⟨rfl, F3, hh3, hf3, hF3⟩
  rw [(torn2 hlo.out).1]
  change Held w w3 p F3 (t2 old) at hh3
  clear hh2 hf3 hF3
  go_wp2_with (first | (go_at_call 12; refine (num_any _ _ (by omega) (by omega)).mono ?_; rintro e w4 ⟨rfl, hw4⟩; subst w4))
  refine (held_write (s := t2 old) (hh3.alloc _) (by rw [(torn2 hlo.out).2]; show 2 < _; decide) 2 _ [now] (listsB1 (gr1 _ hh3.below) (fun h => by have := (hh3.blocks _ h).2; omega) (fun h j hj hF => by have := lt1 h j hj; have := (hh3.blocks _ hF).1; omega)) (by simp) (by decide) (by decide)).mono ?_
  rintro e w4 ⟨rfl, F4, hh4, hf4, hF4⟩
  rw [(torn3 hlo.out hln.out).1]
  change Held w w4 p F4 (t3 old now) at hh4
  clear hh3 hf4 hF4 lt0 lt1
  go_wp2_with (first | (go_at_call 12; refine (num_any _ _ (by omega) (by omega)).mono ?_; rintro e w5 ⟨rfl, hw5⟩; subst w5))
  obtain ⟨_, q0, q1⟩ := heap3 w4 (.cells #[.int .i64 1] 3) (.cells #[.int .i64 1, .int .i64 2] 3) (.cells #[.int .i64 2, .int .i64 at', .int .i64 2, .int .i64 second] 58)
  refine (held_crash (s := t3 old now) (((hh4.alloc _).alloc _).alloc _) (by rw [(torn3 hlo.out hln.out).2]; show 3 < _; decide) (keepOf true) [(2, at'), (2, second)] _ _ (ints_block [1, 2] q0) (torns2 2 at' 2 second q1) (by decide) (by simp) (keep_in true) (torn_in hat hse)).mono ?_
  rintro e w5 ⟨rfl, F5, hh5, hf5, hF5⟩
  change Held w w5 p F5 (t4 old now at' second true) at hh5
  clear hh4 hf5 hF5 q0 q1
  obtain ⟨x1, x2, x3, x4⟩ := torn4 at' second true hlo.out hln.out
  go_wp2_with fail
  refine (read_ok hh5.disk 2 (by rw [x3]; decide) x2).mono ?_
  rintro e w6 ⟨g6, rfl, hg6, hrow6, hx6⟩
  have hB6 : Below w.heap.size w w6 := hh5.below.trans (hx6.mono hh5.le)
  rw [x1] at hrow6
  rw [x4]
  have hy6 := hrow6.bts
  have hl6 : ((padded 64 now).take (tk at' true) ++ (padded 64 old).drop (tk at' true)).length = 64 := by
    have := tk_le at' true
    have := padded_len 64 now hln.out
    have := padded_len 64 old hlo.out
    simp; omega
  rw [hl6, hkt.out] at hy6
  change Bts w6 (slV 64 g6) _ at hy6
  generalize slV 64 g6 = v6 at hy6
  replace x1 : Hid _ := x1
  clear hh5 hx6 x2 x3 x4 hrow6
  have tokA : True := trivial
  have tokB : True := trivial
  have tokC : True := trivial
  have tokD : True := trivial
  have s6 := hB6.size
  have hk64 : k ≤ 64 := by rw [← hkt.out]; exact tk_le at' true
  have fin : ∀ wB wD vB vD, Own wB w6.heap.size vB (padded 64 old) → Below w6.heap.size w6 wB → Own wD wB.heap.size vD (padded 64 now) → Below wB.heap.size wB wD →
      ∃ vY vX sY sX, sY.size + sX.size ≤ 1000 ∧ (∀ W, (Instr.slice 33 vD none (some (.int .i64 64)) none).run Try.prog W = .ok vY W) ∧ (∀ W, (Instr.slice 33 vB (some (.int .i64 64)) none none).run Try.prog W = .ok vX W) ∧
        Hid (∀ W, OkW wD W → (convert 33 9 v6).run Try.prog W = .ok (.string (sY ++ sX)) W ∧ (convert 33 9 vY).run Try.prog W = .ok (.string sY) W ∧ (convert 33 9 vX).run Try.prog W = .ok (.string sX) W) ∧ Below w.heap.size w wD := by
    intro wB wD vB vD hoB hb1 hoD hb2
    have hs1 := hb1.size
    have hs2 := hb2.size
    have hp1 := padded_len 64 now hln.out
    have hp2 := padded_len 64 old hlo.out
    obtain ⟨vY, r1, b1⟩ := slice_toI hoD.bts k (by rw [hp1]; exact hk64)
    obtain ⟨vX, r2, b2, _⟩ := slice_from (hoB.bts.grow hb2) k (by rw [hp2]; exact hk64)
    rw [← hz.out] at r1 r2
    have b0 := (hy6.grow hb1).grow hb2
    refine ⟨vY, vX, strOfNums ((padded 64 now).take k), strOfNums ((padded 64 old).drop k), (by rw [strOfNums_size, strOfNums_size, List.length_take, List.length_drop]; omega), r1, r2, ?_, hB6.trans ((hb1.mono s6).trans (hb2.mono (by omega)))⟩
    show ∀ W, _ → _
    intro W hW
    refine ⟨?_, conv_str (b1.grow hW), conv_str (b2.grow hW)⟩
    rw [← strOf_append]
    exact conv_str (b0.grow hW)
  go_wp2_with (first
    | (at_builtin; have _t := tokA; refine appX rfl _ _ rfl w6.heap.size _ _ [] old rfl rfl (own_empty w6) (gr0 _ (hB6.alloc s6 _)) (by simp) (by have := hlo.out; simp; omega) ?_; clear tokA; intro vA wA hoA hbA hnA; have sA : w6.heap.size ≤ wA.heap.size := (by have := hbA.size; simp at this; omega); obtain ⟨vB, wB, hrB, hoB, hbB⟩ := zeros_behind e0.out h0 hoA (by intro h; have := (hnA.1 h).1; cases this) sA; have sB := hbB.size; have hB7 : Below w.heap.size w wB := (((hB6.alloc s6 _).trans (hbA.mono s6)).trans (hbB.mono s6)); clear hoA hnA)
    | (at_builtin; have _t := tokB; refine Lib.wpList_append_run _ rfl _ _ 33 3 rfl vA (.int .i64 (64 - (n0 : Int))) rfl rfl vB wB (hrB _) ?_; clear tokB hrB)
    | (at_builtin; have _t := tokC; refine appX rfl _ _ rfl wB.heap.size _ _ [] now rfl rfl (own_empty wB) (gr1 _ (hB7.alloc (by omega) _)) (by simp) (by have := hln.out; simp; omega) ?_; clear tokC; intro vC wC hoC hbC hnC; have sC : wB.heap.size ≤ wC.heap.size := (by have := hbC.size; simp at this; omega); obtain ⟨vD, wD, hrD, hoD, hbD⟩ := zeros_behind e1.out h1 hoC (by intro h; have := (hnC.1 h).1; cases this) sC; have sD := hbD.size; clear hoC hnC)
    | (at_builtin; have _t := tokD; refine Lib.wpList_append_run _ rfl _ _ 33 3 rfl vC (.int .i64 (64 - (n1 : Int))) rfl rfl vD wD (hrD _) ?_; clear tokD hrD))
  obtain ⟨vY, vX, sY, sX, hsz, r1, r2, r3, hBD⟩ := fin wB wD vB vD hoB (((Below.refl _ w6).alloc (Nat.le_refl _) _).trans (hbA.trans hbB)) hoD (((Below.refl _ wB).alloc (Nat.le_refl _) _).trans (hbC.trans hbD))
  clear fin hoB hoD hbA hbB hbC hbD
  obtain ⟨p1, p2, p3⟩ := r3.out wD (OkW.refl wD)
  have hS : ∀ W, OkW wD W → OkW wD W ∧ (convert 33 9 v6).run Try.prog W = .ok (.string (sY ++ sX)) W ∧ (convert 33 9 vY).run Try.prog W = .ok (.string sY) W ∧ (convert 33 9 vX).run Try.prog W = .ok (.string sX) W := fun W hW => ⟨hW, r3.out W hW⟩
  replace hS : Hid _ := hS
  have hok : OkW wD wD := OkW.refl wD
  have hadd : ∀ W, (Op.stringOp .add sY sX).run Try.prog W = .ok (.string (sY ++ sX)) W := fun W => run_string_add W sY sX (by omega) (by omega)
  have hadd2 : ¬ (9223372036854775807 < sY.size + sX.size) := by omega
  clear r3
  go_region_held3 (fun W => OkW wD W ∧ (convert 33 9 v6).run Try.prog W = .ok (.string (sY ++ sX)) W ∧ (convert 33 9 vY).run Try.prog W = .ok (.string sY) W ∧ (convert 33 9 vX).run Try.prog W = .ok (.string sX) W) (first | assumption | (exact ⟨hok, p1, p2, p3⟩) | (exact hS.out _ hok.drew) | (exact hS.out _ (OkW.drew (And.left (by assumption)))) | (exact hS.out _ (And.left (by assumption)))) (first | (go_at_call 12; refine (num_any _ _ (by omega) (by omega)).mono ?_; rintro e w7 ⟨rfl, hw7⟩; subst w7) | (go_at_call 9; refine (live_any _).mono ?_; rintro e w9 ⟨rfl, hb9⟩; have hok9 : OkW wD w9 := Below.trans (And.left (by assumption)) (hb9.mono (Below.size (And.left (by assumption)))); have hs9 := hS.out w9 hok9))
  go_wp2
  go_ret
  exact ⟨rfl, hBD.trans (Below.mono hok9 hBD.size)⟩
theorem torn_main (old now : List Int) (a0 a1 : Option Addr) (n0 c0 n1 c1 : Nat) (e0 : n0 = old.length) (e1 : n1 = now.length) (w : World) (hb0 : Bts w (.slice a0 n0 c0) old) (hb1 : Bts w (.slice a1 n1 c1) now) (h0 : n0 ≤ 64) (h1 : n1 ≤ 64) (at' second : Int) (hat : In64 at') (hse : In64 second) (kept : Bool) :
    Calls Try.prog 6 #[.slice a0 n0 c0, .slice a1 n1 c1, .int .i64 at', .int .i64 second, .bool kept] w fun e w' => e = .returned (.bool true) ∧ Below w.heap.size w w' := by
  cases kept
  · refine torn_false old now a0 a1 n0 c0 n1 c1 e0 e1 w hb0 hb1 h0 h1 at' second hat hse (tk at' false) ?_ rfl
    show _ = _
    have := clamp_in 64 at'
    simp only [tk, clamp, Bool.false_eq_true, if_false] at this ⊢
    omega
  · exact torn_true old now a0 a1 n0 c0 n1 c1 e0 e1 w hb0 hb1 h0 h1 at' second hat hse 64 rfl rfl
end Go.Proofs.Ytcjmfibehofepaa
