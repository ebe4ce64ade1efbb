/- A sector of a meta's first bytes and the other ones of an elder meta: the mathematics; bytes of the call's own. -/
import Derived.Test.YtcgjolonapndgabDoorMTurn
import Derived.Lib.AppendZeros
import Derived.Deep.RegionLaw
import Derived.Laws.AppendOwn
namespace Go.Proofs.YtcgjolonapndgabDoor
open Go.RowKit Go.Maps Go.ChangeMaps Go.MapKept
theorem split8 (l : List Int) : l = l.take 8 ++ l.drop 8 := (List.take_append_drop 8 l).symm
theorem split3 (l : List Int) : l = l.take 28 ++ ((l.drop 28).take 8 ++ l.drop 36) := by
  rw [show l.drop 36 = (l.drop 28).drop 8 by rw [List.drop_drop], List.take_append_drop, List.take_append_drop]
/-- What a torn sector may be. -/
theorem torn_is (P N : List Int) (s n cut : Nat) (_hP : P.length = 64) (hN : N.length = 64) (hs : s < 2 ^ 64) (hn : n < 2 ^ 64) (hne : n ≠ s) (hcut : cut ≤ 64)
    (p1 : P.take 8 = be 8 s) (p2 : (P.drop 28).take 8 = be 8 s) (n1 : N.take 8 = be 8 n) (n2 : (N.drop 28).take 8 = be 8 n) (he : P.drop 36 = N.drop 36)
    (h : isMeta (N.take cut ++ P.drop cut) = true) : N.take cut ++ P.drop cut = P ∨ N.take cut ++ P.drop cut = N := by
  have hl : (N.take cut).length = cut := by rw [List.length_take, hN]; omega
  have f1 := isMeta_first h
  have f2 := isMeta_last h
  have inj : ∀ a b : Nat, a < 2 ^ 64 → b < 2 ^ 64 → be 8 a = be 8 b → a = b := fun a b ha hb e => be_inj 8 a b ha hb e
  have hq : seqOf (N.take cut ++ P.drop cut) < 2 ^ 64 := by
    have hb : IsBytes ((N.take cut ++ P.drop cut).take 8) := by rw [f1]; exact be_bytes _ _
    have h1 := ofBe_lt _ hb
    have h2 : ((N.take cut ++ P.drop cut).take 8).length ≤ 8 := List.length_take_le _ _
    exact Nat.lt_of_lt_of_le h1 (Nat.pow_le_pow_right (n := 256) (by omega) h2)
  have d36 : cut ≤ 36 → (N.take cut ++ P.drop cut).drop 36 = N.drop 36 := fun hc => by
    rw [List.drop_append, hl, List.drop_eq_nil_of_le (by omega), List.nil_append, List.drop_drop, show cut + (36 - cut) = 36 by omega, he]
  by_cases c1 : 36 ≤ cut
  · right
    have e1 : N.take cut = N.take 36 ++ (N.drop 36).take (cut - 36) := by
      rw [List.take_drop, show 36 + (cut - 36) = cut by omega]
      have := (List.take_append_drop 36 (N.take cut)).symm
      rw [List.take_take, Nat.min_eq_left c1] at this
      exact this
    have e2 : P.drop cut = (N.drop 36).drop (cut - 36) := by
      rw [← he, List.drop_drop, show 36 + (cut - 36) = cut by omega]
    rw [e1, e2, List.append_assoc, List.take_append_drop, List.take_append_drop]
  by_cases c2 : 28 ≤ cut
  · right
    have t8 : (N.take cut ++ P.drop cut).take 8 = N.take 8 := by rw [List.take_append_of_le_length (by omega), List.take_take, Nat.min_eq_left (by omega)]
    have t28 : (N.take cut ++ P.drop cut).take 28 = N.take 28 := by rw [List.take_append_of_le_length (by omega), List.take_take, Nat.min_eq_left (by omega)]
    rw [t8, n1] at f1
    have e := inj _ _ hn hq f1
    rw [← e, ← n2] at f2
    rw [split3 (N.take cut ++ P.drop cut), t28, f2, d36 (by omega), ← split3]
  have d28 : (N.take cut ++ P.drop cut).drop 28 = P.drop 28 := by
    rw [List.drop_append, hl, List.drop_eq_nil_of_le (by omega), List.nil_append, List.drop_drop, show cut + (28 - cut) = 28 by omega]
  rw [d28, p2] at f2
  have e := inj _ _ hs hq f2
  by_cases c3 : 8 ≤ cut
  · exfalso
    have t8 : (N.take cut ++ P.drop cut).take 8 = N.take 8 := by rw [List.take_append_of_le_length (by omega), List.take_take, Nat.min_eq_left (by omega)]
    rw [t8, n1] at f1
    have e' := inj _ _ hn hq f1
    omega
  · left
    have d8 : (N.take cut ++ P.drop cut).drop 8 = P.drop 8 := by
      rw [List.drop_append, hl, List.drop_eq_nil_of_le (by omega), List.nil_append, List.drop_drop, show cut + (8 - cut) = 8 by omega]
    rw [split8 (N.take cut ++ P.drop cut), d8, f1, ← e, ← p1, ← split8]
theorem be_zero (n : Nat) : be n 0 = zeros n := by
  induction n with
  | zero => rfl
  | succ n ih => rw [be, ih]; simp [zeros, List.replicate_succ']
/-- A meta's bytes and 28 bytes 0. -/
theorem sec_first (q : Nat) (r k d : Int) (X : List Int) : (metaB q r k d ++ X).take 8 = be 8 q := by rw [metaB_split, List.take_left' (be_len _ _)]
theorem sec_last (q : Nat) (r k d : Int) (X : List Int) : ((metaB q r k d ++ X).drop 28).take 8 = be 8 q := by
  unfold metaB
  rw [List.append_assoc, List.drop_left' (by simp [mhead_len, mk_len]), List.take_left' (be_len _ _)]
theorem sec_rest (q : Nat) (r k d : Int) (X : List Int) : (metaB q r k d ++ X).drop 36 = X := List.drop_left' (metaB_len _ _ _ _)
theorem zeros_first : (zeros 64).take 8 = be 8 0 := by rw [be_zero]; rfl
theorem zeros_last : ((zeros 64).drop 28).take 8 = be 8 0 := by rw [be_zero]; rfl
theorem zeros_rest : (zeros 64).drop 36 = zeros 28 := rfl
/-- A block of bytes is the call's own. -/
theorem own_row {w : World} {base g : Nat} {xs : List Int} (h : Row w g xs) (hb : base ≤ g) (hl : xs.length ≤ 1000000) : Own w base (.slice (some ⟨g, 0, none⟩) xs.length xs.length) xs := by
  unfold Own
  refine ⟨by simp, .inr ⟨g, xs.length, _, rfl, hb, h, Nat.le_refl _, by unfold maxLen; omega, by simp, by simp [List.take_of_length_le]⟩⟩
/-- v[:k], v[k:] of a slice that is not nil: not nil. -/
theorem to_some {w : World} {ad : Addr} {n c : Nat} {bs : List Int} (hb : Bts w (.slice (some ad) n c) bs) (k : Nat) (hk : k ≤ bs.length) :
    ∃ ad2 m2 c2, (∀ W, (Instr.slice 25 (.slice (some ad) n c) none (some (.int .i64 (k : Int))) none).run Tryd.prog W = .ok (.slice (some ad2) m2 c2) W) ∧ Bts w (.slice (some ad2) m2 c2) (bs.take k) := by
  obtain ⟨v2, h1, h2⟩ := slice_toI hb k hk
  obtain ⟨a, c', e, ⟨_, hc⟩, _⟩ := hb
  cases e
  have h3 := h1 w
  rw [run_slice_h w 25 (some ad) bs.length c elem33 .i64 k (by omega) (by omega), size5] at h3
  simp only [Result.andThen, sliced, Option.map_some] at h3
  split at h3
  · cases h3; exact ⟨_, _, _, h1, h2⟩
  · cases h3; exact ⟨_, _, _, h1, h2⟩
theorem from_some {w : World} {ad : Addr} {n c : Nat} {bs : List Int} (hb : Bts w (.slice (some ad) n c) bs) (k : Nat) (hk : k ≤ bs.length) :
    ∃ ad2 m2 c2, (∀ W, (Instr.slice 25 (.slice (some ad) n c) (some (.int .i64 (k : Int))) none none).run Tryd.prog W = .ok (.slice (some ad2) m2 c2) W) ∧ Bts w (.slice (some ad2) m2 c2) (bs.drop k) := by
  obtain ⟨v2, h1, h2, _⟩ := slice_from hb k hk
  obtain ⟨a, c', e, ⟨_, hc⟩, _⟩ := hb
  cases e
  have h3 := h1 w
  rw [run_slice_l w 25 (some ad) bs.length c elem33 .i64 k (by omega) (by omega), size5] at h3
  simp only [Result.andThen, sliced, Option.map_some] at h3
  split at h3
  · cases h3; exact ⟨_, _, _, h1, h2⟩
  · cases h3; exact ⟨_, _, _, h1, h2⟩
/-- append onto bytes of the call's own, as a step of a drawn region. -/
theorem stepApp {ops : Array Oper} {o : Oper} {a : Act} {w : World} {K : Act → World → Prop} {Q : Exit → Act → World → Prop} {E : Prop} (hg : o.guard = none) (s x : Operand)
    (hop : o.op = Op.call { callee := Callee.builtin Builtin.append, args := #[s, x], argTypes := #[25, 25] }) (base : Nat) (v : Value) (ad : Addr) (m c : Nat) (xs bs : List Int) (hs : a.eval s = v) (hx : a.eval x = .slice (some ad) m c)
    (hown : Own w base v xs) (hb : Bts w (.slice (some ad) m c) bs) (hbase : base ≤ w.heap.size) (hlen : xs.length + bs.length ≤ 1000000)
    (h : ∀ v' w', Own w' base v' (xs ++ bs) → Below base w w' → w.grownBy w' v.ownBlock → K (a.put o.dst v') w') : if Region.wanted o (yielded ops a.tmps) = true then Oper.wp Tryd.prog o a w K Q else E := by
  have hw : Region.wanted o (yielded ops a.tmps) = true := by simp [Region.wanted, hg]
  rw [if_pos hw]
  obtain ⟨i0, hi, hz0, hz1, hz2⟩ := info_parts info5
  obtain ⟨a', c', e, hnil, hcell⟩ := hb
  cases e
  refine wp_append_own w s x 25 hop base 5 i0 (.int .u8 0) 1 1 Tryd.underlying25 hi hz0 hz1 hz2 rfl (by decide) v xs.length (xs.map (Value.int .u8)) hs hown ad bs.length c (bs.map (Value.int .u8)) hx (by simp) ?_ (ints_oneCell _ _) (by unfold maxLen; omega) (by omega) hbase ?_
  · intro j y hj
    rcases hcell with rfl | ⟨b, o, e, hr⟩
    · simp at hj
    · cases e
      rw [List.getElem?_map] at hj
      have hjl : j < bs.length := by
        rcases Nat.lt_or_ge j bs.length with h | h
        · exact h
        · rw [List.getElem?_eq_none h] at hj; cases hj
      have := hr j (Nat.zero_le _) hjl
      rw [List.getElem?_eq_getElem hjl] at hj
      simp only [Option.map_some, Option.some.injEq] at hj
      subst hj
      rw [add_at, this]; simp [hjl]
  · intro v' w' h1 h2 _
    refine h v' w' ?_ ?_ h2
    · unfold Own; simpa using h1
    · exact (Below.refl base w).grown h2 hbase (fun k hk => (hown.lt k hk).1)
theorem own0 {W : World} {g base : Nat} (h : W.heap[g]? = some (.cells #[] 5 (0, 0))) (hb : base ≤ g) : Own W base (.slice (some ⟨g, 0, none⟩) 0 0) [] := by
  unfold Own
  exact ⟨by simp, .inr ⟨g, 0, _, rfl, hb, h, Nat.le_refl _, by simp, by simp, by simp⟩⟩
theorem bel2d (w : World) (a b : Obj) : Below w.heap.size w ((w.alloc a).alloc b).drew := (((Below.refl _ w).alloc (Nat.le_refl _) a).alloc (by simp) b).drew
theorem meta_grown {w w' : World} {xb base q : Nat} {r k d : Int} {v : Value} {xs : List Int} (hx : MetaAt w xb q r k d) (ho : Own w base v xs) (hg : w.grownBy w' v.ownBlock) : MetaAt w' xb q r k d := by
  refine hx.keep (hg.block _ hx.lt fun e => ?_)
  obtain ⟨_, h⟩ := ho
  rcases h with ⟨rfl, _⟩ | ⟨g, cap, cur, rfl, _, hc, _⟩
  · cases e
  · have := own_slice e.symm
    subst this
    unfold MetaAt at hx
    rw [hx] at hc
    simp at hc
/-- What meta.Get tells. -/
def getM (bs : List Int) : Mt := if isMeta bs = true then mtOf bs else Mt.zero
def getE (bs : List Int) : Int := if isMeta bs = true then 0 else 40
theorem mget_any (v : Value) (bs : List Int) (w : World) (hb : Bts w v bs) (hby : IsBytes bs) :
    Calls Tryd.prog 10 #[v] w fun e w' => e = .returned (.tuple #[.agg #[.int .u64 (getM bs).q, .int .i64 (getM bs).r, .int .i64 (getM bs).k, .int .i64 (getM bs).d], .int .i64 (getE bs)]) ∧ Below w.heap.size w w' := by
  unfold getM getE
  cases h : isMeta bs with
  | true => exact mget_yes v bs w hb hby h
  | false => exact mget_no v bs w hb hby h
end Go.Proofs.YtcgjolonapndgabDoor
