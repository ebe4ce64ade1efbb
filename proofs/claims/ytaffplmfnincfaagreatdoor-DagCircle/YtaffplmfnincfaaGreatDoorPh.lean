/- DagCircle: what Check, Order and Needs tell of its nodes. -/
import Derived.Test.YtaffplmfnincfaaGreatDoorPf
import Derived.Test.YtaffplmfnincfaaGreatDoorPd
namespace Go.Proofs.YtaffplmfnincfaaGreatDoor
set_option linter.unusedVariables false
open Go.RowKit
/-- The line of nodes, the f-th of which reads the t-th besides. -/
def gT (f t i : Nat) : Nd := if i = f then ndT f t else ndK i
theorem gT_at (f t : Nat) : gT f t f = ndT f t := if_pos rfl
theorem gT_ne {f t i : Nat} (h : i ≠ f) : gT f t i = ndK i := if_neg h
theorem gT_ref (f t : Nat) : ∀ i, (gT f t i).ref = nmK i := fun i => by
  by_cases h : i = f
  · subst h; rw [gT_at]; rfl
  · rw [gT_ne h]; rfl
theorem gT_may {f t : Nat} (ht : t < 10) : ∀ i, i < 10 → mayB (gT f t i) = true := fun i hi => by
  by_cases h : i = f
  · subst h; rw [gT_at]; exact mayT hi ht
  · rw [gT_ne h]; exact mayK hi
theorem gT_in {f t i : Nat} (hi : i < 10) (ht : t < 10) {r : ByteArray} : r ∈ inpN (gT f t i) ↔ (i ≠ 0 ∧ r = nmK (i - 1)) ∨ (i = f ∧ r = nmK t) := by
  by_cases h : i = f
  · subst h
    rw [gT_at, inT hi ht]
    simp
  · rw [gT_ne h, inK hi]
    constructor
    · exact .inl
    · rintro (g | ⟨g, _⟩)
      · exact g
      · exact absurd g h
theorem nd_shK {i : Nat} (hi : i < 10) : NdS (ndK i) := ⟨by show (nmK i).size ≤ _; exact Nat.le_trans (Nat.le_of_eq rfl) (by decide : 1 ≤ 1000000), by show (⟨#[]⟩ : ByteArray).size ≤ 1000000; decide, by have := txK_len i hi; show (txK i).size ≤ _; omega⟩
theorem nd_shT {i t : Nat} (hi : i < 10) : NdS (ndT i t) := ⟨by show (nmK i).size ≤ _; exact Nat.le_trans (Nat.le_of_eq rfl) (by decide : 1 ≤ 1000000), by show (⟨#[]⟩ : ByteArray).size ≤ 1000000; decide, by have := txT_len (t := t) hi; show (txT i t).size ≤ _; omega⟩
theorem K_sh {n : Nat} (hn : n ≤ 10) : ShA ((List.range n).map ndK) := fun x hx => by
  obtain ⟨i, hi, rfl⟩ := List.mem_map.1 hx
  exact nd_shK (by have := List.mem_range.1 hi; omega)
theorem T_sh {n f t : Nat} (hn : n ≤ 10) : ShA ((List.range n).map (gT f t)) := fun x hx => by
  obtain ⟨i, hi, rfl⟩ := List.mem_map.1 hx
  have := List.mem_range.1 hi
  by_cases h : i = f
  · subst h; rw [gT_at]; exact nd_shT (by omega)
  · rw [gT_ne h]; exact nd_shK (by omega)
theorem K_dup {n : Nat} (hn : n ≤ 10) : (((List.range n).map ndK).map (·.ref)).Nodup := gl_nodup (g := ndK) (fun _ => rfl) hn
theorem K_chk {n : Nat} (h0 : 0 < n) (hn : n ≤ 10) : chkN (nmK (n - 1)) ((List.range n).map ndK) = 0 := by
  have ho := gl_order (g := ndK) (fun _ => rfl) hn (fun i hi r hr => by
    obtain ⟨h1, h2⟩ := (inK (by omega)).1 hr
    exact ⟨i - 1, by omega, h2⟩)
  rw [gl_chk (g := ndK) (fun _ => rfl) hn (fun i hi => mayK (by omega)) (fun i hi r hr => by
    obtain ⟨h1, h2⟩ := (inK (by omega)).1 hr
    exact ⟨i - 1, by omega, h2⟩) h0 ho]
  rfl
theorem T_ord {n f t : Nat} (hn : n ≤ 10) (hf : f < n) (ht : t < n) (h : t < f) : OrdT ((List.range n).map (gT f t)) (some ((List.range n).map nmK)) :=
  gl_order (gT_ref f t) hn fun i hi r hr => by
    rcases (gT_in (by omega) (by omega)).1 hr with ⟨h1, h2⟩ | ⟨h1, h2⟩
    · exact ⟨i - 1, by omega, h2⟩
    · exact ⟨t, by omega, h2⟩
theorem T_cyc {n f t : Nat} (hn : n ≤ 10) (hf : f < n) (ht : t < n) (h : f ≤ t) : OrdT ((List.range n).map (gT f t)) none :=
  gl_cycle (gT_ref f t) hn h ht (fun i h1 h2 => (gT_in (by omega) (by omega)).2 (.inl ⟨by omega, rfl⟩)) ((gT_in (by omega) (by omega)).2 (.inr ⟨rfl, rfl⟩))
theorem T_chk {n f t : Nat} (hn : n ≤ 10) (hf : f < n) (ht : t < n) {r : Option (List ByteArray)} (ho : OrdT ((List.range n).map (gT f t)) r) : chkN (nmK (n - 1)) ((List.range n).map (gT f t)) = if r = none then 121 else 0 :=
  gl_chk (gT_ref f t) hn (fun i hi => gT_may (by omega) i (by omega)) (fun i hi r hr => by
    rcases (gT_in (by omega) (by omega)).1 hr with ⟨h1, h2⟩ | ⟨h1, h2⟩
    · exact ⟨i - 1, by omega, h2⟩
    · exact ⟨t, by omega, h2⟩) (by omega) ho
theorem T_one {n f t : Nat} (hn : n ≤ 10) (hf : f < n) (ht : t < n) (h : f ≤ t) : chkN (nmK (n - 1)) ((List.range n).map (gT f t)) = 121 ∧ ordE ((List.range n).map (gT f t)) = 121 ∧ ordL ((List.range n).map (gT f t)) = [] := by
  have ho := T_cyc hn hf ht h
  have hd := gl_nodup (gT_ref f t) hn
  refine ⟨by rw [T_chk hn hf ht ho]; rfl, ?_, ?_⟩
  · rw [ordE_d hd, ordN_is ho]; exact if_pos rfl
  · rw [ordL_d hd, ordN_is ho]; rfl
theorem T_two {n f t : Nat} (hn : n ≤ 10) (hf : f < n) (ht : t < n) (h : t < f) : chkN (nmK (n - 1)) ((List.range n).map (gT f t)) = 0 ∧ ordE ((List.range n).map (gT f t)) = 0 ∧ ordL ((List.range n).map (gT f t)) = (List.range n).map nmK := by
  have ho := T_ord hn hf ht h
  have hd := gl_nodup (gT_ref f t) hn
  refine ⟨by rw [T_chk hn hf ht ho]; rfl, ?_, ?_⟩
  · rw [ordE_d hd, ordN_is ho]; exact if_neg (by simp)
  · rw [ordL_d hd, ordN_is ho]; rfl
theorem flatN_set (xs : List Nd) (j : Nat) (x : Nd) (s : ByteArray) (hj : xs[j]? = some x) : (flat encN xs).set (j * 11 + 10) (.string s) = flat encN (xs.set j { x with text := s }) := by
  induction xs generalizing j with
  | nil => cases hj
  | cons a r ih =>
    cases j with
    | zero => cases hj; rfl
    | succ j =>
      show (encN.arr a ++ flat encN r).set ((j + 1) * 11 + 10) (.string s) = encN.arr a ++ flat encN (r.set j _)
      rw [← ih j hj, List.set_append_right _ _ (by show 11 ≤ _; omega)]
      congr 2
      show (j + 1) * 11 + 10 - 11 = _
      omega
theorem K_set {n f t : Nat} (hf : f < n) : ((List.range n).map ndK).set f { ndK f with text := txT f t } = (List.range n).map (gT f t) := by
  apply List.ext_getElem?
  intro i
  rw [List.getElem?_set]
  by_cases h : f = i
  · subst h
    rw [if_pos rfl, if_pos (by simpa using hf)]
    simp [hf, gT_at, ndK, ndT]
  · rw [if_neg h]
    by_cases hi : i < n
    · simp [hi, gT_ne (t := t) (fun e => h e.symm)]
    · simp [hi]
theorem own_text {w : World} {base g n cap f t : Nat} (hf : f < n) (h : OwnN w base (.slice (some ⟨g, 0, none⟩) n cap) ((List.range n).map ndK)) : OwnN (w.setCell ⟨g, f * 11 + 10, none⟩ (.string (txT f t))) base (.slice (some ⟨g, 0, none⟩) n cap) ((List.range n).map (gT f t)) ∧ w.grownBy (w.setCell ⟨g, f * 11 + 10, none⟩ (.string (txT f t))) (some g) := by
  have e : ((List.range n).map ndK).length = n := by simp
  have h0 : w.ownsRow base TN.et encN.k (.slice (some ⟨g, 0, none⟩) n cap) n (flat encN ((List.range n).map ndK)) := by
    have := h
    unfold OwnN OwnS at this
    rw [e] at this
    exact this
  obtain ⟨h1, h2⟩ := World.ownsRow.stored h0 (f * 11 + 10) (.string (txT f t))
  rw [flatN_set _ f (ndK f) (txT f t) (by simp [hf]), K_set hf] at h1
  refine ⟨?_, h2⟩
  unfold OwnN OwnS
  rw [show ((List.range n).map (gT f t)).length = n by simp]
  exact h1
theorem own_some {w : World} {base n c : Nat} {a : Option Addr} {l : List Nd} (h : OwnN w base (.slice a n c) l) (h0 : 0 < l.length) : ∃ g, a = some ⟨g, 0, none⟩ ∧ l.length = n ∧ base ≤ g := by
  have hl := h.sls.len
  rcases h.2 with ⟨_, h1⟩ | ⟨g, cap, cur, e, h1, _⟩
  · omega
  · cases e
    exact ⟨g, rfl, rfl, h1⟩
theorem need_len {n : Nat} (hn : n ≤ 10) (h0 : 0 < n) (a : Option Addr) (c : Nat) (w : World) (hG : G w ∧ SignsAt w) (hv : Sls encN w (.slice a n c) ((List.range n).map ndK)) : Calls Tryz.prog 17 #[.string (nmK (n - 1)), .slice a n c] w fun e w' => ∃ a' c', e = .returned (.slice a' n c') ∧ Below w.heap.size w w' := by
  refine (needs17q (nmK (n - 1)) a n c _ w hG.1 hG.2 hv (by simp; omega) (K_sh hn).sh (K_dup hn)).mono ?_
  rintro e w' ⟨a', n', c', L, rfl, h⟩
  obtain ⟨q, hx, hb⟩ := h.out
  have h1 := need_K hn h0 q
  have h2 := hx.len
  rw [srt_len, h1] at h2
  subst h2
  exact ⟨a', c', rfl, hb⟩
end Go.Proofs.YtaffplmfnincfaaGreatDoor
