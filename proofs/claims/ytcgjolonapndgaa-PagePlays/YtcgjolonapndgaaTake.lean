/- Put and Get in one word each; the operations of a drawn region, one by one. -/
import Derived.Test.YtcgjolonapndgaaArgs
namespace Go.Proofs.Ytcgjolonapndgaa
open Go.RowKit Go.Maps Go.ChangeMaps Go.MapKept
/-- Put's error. -/
def putE (size : Int) (k : Int) (n : Nat) : Int := if size < 64 ∨ 8192 < size ∨ k = 0 then 2 else if size - 11 < (n : Int) then 1 else 0
theorem putE_in (size k : Int) (n : Nat) : 0 ≤ putE size k n ∧ putE size k n ≤ 2 := by
  unfold putE; split <;> (try split) <;> omega
theorem put_bad (size k : Int) (id : Nat) (a : Option Addr) (n c : Nat) (w : World) (hk : 0 ≤ k) (h : putE size k n ≠ 0) :
    Calls Try.prog 10 #[.int .i64 size, .agg #[.int .u8 k, .int .u32 id, .slice a n c]] w fun e w' => e = .returned (.tuple #[.slice none 0 0, .int .i64 (putE size k n)]) ∧ Below w.heap.size w w' := by
  unfold putE at h ⊢
  by_cases h1 : size < 64 ∨ 8192 < size
  · rw [if_pos (by rcases h1 with h | h; exact .inl h; exact .inr (.inl h))]
    exact put_size size k id _ w h1
  · by_cases h2 : k = 0
    · subst h2
      rw [if_pos (.inr (.inr rfl))]
      exact put_kind size id _ w
    · rw [if_neg (by omega)] at h ⊢
      by_cases h3 : size - 11 < (n : Int)
      · rw [if_pos h3]
        exact put_long size k id a n c w (by omega) (by omega) (by omega) h3
      · rw [if_neg h3] at h; exact absurd rfl h
theorem putE_zero {size k : Int} {n : Nat} (h : putE size k n = 0) : 64 ≤ size ∧ size ≤ 8192 ∧ k ≠ 0 ∧ (n : Int) ≤ size - 11 := by
  unfold putE at h
  split at h
  · cases h
  · split at h
    · cases h
    · omega
/-- Get, whatever it answers. -/
theorem get_some (v : Value) (bs : List Int) (w : World) (hb : Bts w v bs) (hby : IsBytes bs) :
    Calls Try.prog 12 #[v] w fun e w' => ∃ (k : Int) (i : Nat) (a : Option Addr) (n c : Nat) (x : Int), e = .returned (.tuple #[.agg #[.int .u8 k, .int .u32 i, .slice a n c], .int .i64 x]) ∧ (bs.length < 64 → x = 30) ∧ (0 ≤ x ∧ x ≤ 30) ∧ Below w.heap.size w w' := by
  by_cases h : isPage bs = true
  · refine (get_yes v bs w hb hby h).mono ?_
    rintro e w' ⟨lv, rfl, ⟨base, _, ho⟩, hB⟩
    obtain ⟨a, c, rfl⟩ := ho.bts.split
    simp only [isPage, decide_eq_true_eq] at h
    exact ⟨_, _, _, _, _, _, rfl, fun hl => by omega, by omega, hB⟩
  · refine (get_no v bs w hb hby (by simpa using h)).mono ?_
    rintro e w' ⟨rfl, hB⟩
    exact ⟨0, 0, none, 0, 0, 30, rfl, fun _ => rfl, by omega, hB⟩
theorem np {Q : Exit → Act → World → Prop} (d : Option Tmp) (v : Value) : ∀ c a w, NoPanic Q (.panic c) (a.put d v) w → NoPanic Q (.panic c) a w := fun _ _ _ h => False.elim h
section
variable {P : Program} {ops : Array Oper} {Q : Exit → Act → World → Prop} {md : Region.Mode} {S : World → Prop}
/-- An operation of a drawn region that yields in every world that meets S. -/
theorem takeW {i : Nat} {oi : Oper} {v : Value} {fuel : Nat} {listed : Array Bool} {a : Act} {w : World} (d : Option Tmp) (hi : ops[i]? = some oi) (hd : oi.dst = d)
    (hs : Region.noSelect ops = true) (hf : Region.free md ops listed i = true) (hr : (Region.ready md ops listed).contains i = true)
    (hw : Region.wanted oi (yielded ops a.tmps) = true) (hS : S w) (hy : ∀ w, S w → (execOp a.eval oi).run P w = .ok (.value v) w)
    (h : wpAnyH P md ops (NoPanic Q) S fuel (listed.setIfInBounds i true) (a.put d v) w) : wpAnyH P md ops (NoPanic Q) S (fuel + 1) listed a w := by
  subst hd
  exact wpAnyH_take hi hs hf hr (np _ _) (Or.inl ⟨hw, hy⟩) hS h
/-- An operation of a drawn region whose guard shuts it out. -/
theorem skipW {i : Nat} {oi : Oper} {fuel : Nat} {listed : Array Bool} {a : Act} {w : World} (d : Option Tmp) (hi : ops[i]? = some oi) (hd : oi.dst = d)
    (hs : Region.noSelect ops = true) (hf : Region.free md ops listed i = true) (hr : (Region.ready md ops listed).contains i = true)
    (hw : Region.wanted oi (yielded ops a.tmps) = false) (hS : S w)
    (h : wpAnyH P md ops (NoPanic Q) S fuel (listed.setIfInBounds i true) (a.put d undef) w) : wpAnyH P md ops (NoPanic Q) S (fuel + 1) listed a w := by
  subst hd
  exact wpAnyH_take hi hs hf hr (np _ _) (Or.inr ⟨hw, rfl⟩) hS h
end
end Go.Proofs.Ytcgjolonapndgaa
