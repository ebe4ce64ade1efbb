/- Boards, without memory: rising lists by labels; what an evaluation does to them. -/
import Derived.Test.YtiajafljgfpdcaaGreatLs
import Derived.Test.YtiajafljgfpdcaaGreatSMa
namespace Go.Proofs.YtiajafljgfpdcaaGreat
set_option linter.unusedVariables false
open Go.RowKit
theorem cmpS_self (l : List Lb) : cmpS l l = 0 := cmpS_eq.2 rfl
theorem cmpS_trans : ∀ {a b c : List Lb}, cmpS a b = -1 → cmpS b c = -1 → cmpS a c = -1
  | [], [], c, h, _ => by simp [cmpS] at h
  | [], _ :: _, [], _, g => by simp [cmpS] at g
  | [], _ :: _, _ :: _, _, _ => by simp [cmpS]
  | _ :: _, [], _, h, _ => by simp [cmpS] at h
  | _ :: _, _ :: _, [], _, g => by simp [cmpS] at g
  | x :: a, y :: b, z :: c, h, g => by
    rw [cmpS] at h g ⊢
    by_cases h1 : cmpB x y = 0
    · rw [if_pos h1] at h
      obtain rfl := cmpB_eq.1 h1
      by_cases h2 : cmpB x z = 0
      · rw [if_pos h2] at g ⊢
        exact cmpS_trans h g
      · rw [if_neg h2] at g ⊢
        exact g
    · rw [if_neg h1] at h
      by_cases h2 : cmpB y z = 0
      · obtain rfl := cmpB_eq.1 h2
        rw [if_neg h1]; exact h
      · rw [if_neg h2] at g
        have := cmpB_trans h g
        rw [if_neg (by rw [this]; decide)]
        exact this
section
variable {α : Type} (f : α → List Lb)
/-- Rising by labels. -/
def RiseG (L : List α) : Prop := L.Pairwise fun x y => cmpS (f x) (f y) = -1
/-- The entry with these labels. -/
def getG (L : List α) (k : List Lb) : Option α := L.find? fun x => decide (f x = k)
/-- The list with s, at the place of its labels. -/
def putG (s : α) : List α → List α
  | [] => [s]
  | t :: L => if cmpS (f s) (f t) = 0 then s :: L else if cmpS (f s) (f t) = -1 then s :: t :: L else t :: putG s L
variable {f}
theorem RiseG.nil : RiseG f ([] : List α) := List.Pairwise.nil
theorem cmp_gt {a b : List Lb} (h0 : ¬ cmpS a b = 0) (h1 : ¬ cmpS a b = -1) : cmpS b a = -1 := by
  rw [cmpS_neg]
  rcases cmpS_in a b with h | h | h
  · exact absurd h h1
  · exact absurd h h0
  · rw [h]
theorem mem_putG {s t : α} : ∀ {L : List α}, RiseG f L → (t ∈ putG f s L ↔ t = s ∨ (t ∈ L ∧ f t ≠ f s))
  | [], _ => by simp [putG]
  | x :: L, h => by
    have hx := List.pairwise_cons.1 h
    unfold putG
    split
    · rename_i h0
      have e := cmpS_eq.1 h0
      rw [List.mem_cons, List.mem_cons]
      constructor
      · rintro (rfl | hm)
        · exact .inl rfl
        · refine .inr ⟨.inr hm, fun e2 => ?_⟩
          have := hx.1 t hm
          rw [e2, e, cmpS_self] at this
          exact absurd this (by decide)
      · rintro (rfl | ⟨rfl | hm, hne⟩)
        · exact .inl rfl
        · exact absurd e.symm hne
        · exact .inr hm
    · split
      · rename_i h0 h1
        rw [List.mem_cons]
        constructor
        · rintro (rfl | hm)
          · exact .inl rfl
          · refine .inr ⟨hm, fun e2 => ?_⟩
            rcases List.mem_cons.1 hm with rfl | hm2
            · rw [e2, cmpS_self] at h0; exact h0 rfl
            · have := cmpS_trans h1 (hx.1 t hm2)
              rw [e2, cmpS_self] at this
              exact absurd this (by decide)
        · rintro (rfl | ⟨hm, _⟩)
          · exact .inl rfl
          · exact .inr hm
      · rename_i h0 h1
        rw [List.mem_cons, mem_putG hx.2, List.mem_cons]
        constructor
        · rintro (rfl | rfl | ⟨hm, hne⟩)
          · exact .inr ⟨.inl rfl, fun e2 => h0 (by rw [e2, cmpS_self])⟩
          · exact .inl rfl
          · exact .inr ⟨.inr hm, hne⟩
        · rintro (rfl | ⟨rfl | hm, hne⟩)
          · exact .inr (.inl rfl)
          · exact .inl rfl
          · exact .inr (.inr ⟨hm, hne⟩)
theorem rise_putG {s : α} : ∀ {L : List α}, RiseG f L → RiseG f (putG f s L)
  | [], _ => by unfold putG RiseG; exact List.pairwise_singleton _ _
  | x :: L, h => by
    have hx := List.pairwise_cons.1 h
    unfold putG
    split
    · rename_i h0
      have e := cmpS_eq.1 h0
      refine List.pairwise_cons.2 ⟨fun t ht => ?_, hx.2⟩
      rw [e]; exact hx.1 t ht
    · split
      · rename_i h0 h1
        refine List.pairwise_cons.2 ⟨fun t ht => ?_, h⟩
        rcases List.mem_cons.1 ht with rfl | hm
        · exact h1
        · exact cmpS_trans h1 (hx.1 t hm)
      · rename_i h0 h1
        refine List.pairwise_cons.2 ⟨fun t ht => ?_, rise_putG hx.2⟩
        rcases (mem_putG hx.2).1 ht with rfl | ⟨hm, _⟩
        · exact cmp_gt h0 h1
        · exact hx.1 t hm
theorem getG_some {L : List α} {k : List Lb} {x : α} (h : getG f L k = some x) : x ∈ L ∧ f x = k :=
  ⟨List.mem_of_find?_eq_some h, by simpa using List.find?_some h⟩
theorem getG_of {L : List α} (h : RiseG f L) {x : α} (hx : x ∈ L) : getG f L (f x) = some x := by
  induction L with
  | nil => cases hx
  | cons y L ih =>
    have hy := List.pairwise_cons.1 h
    unfold getG
    rw [List.find?_cons]
    rcases List.mem_cons.1 hx with rfl | hm
    · simp
    · have : decide (f y = f x) = false := by
        rw [decide_eq_false_iff_not]
        intro e
        have := hy.1 x hm
        rw [e, cmpS_self] at this
        exact absurd this (by decide)
      rw [this]
      exact ih hy.2 hm
theorem getG_none {L : List α} {k : List Lb} : getG f L k = none ↔ ∀ x ∈ L, f x ≠ k := by
  unfold getG
  rw [List.find?_eq_none]
  simp
theorem getG_put {s : α} {L : List α} (h : RiseG f L) (k : List Lb) : getG f (putG f s L) k = if f s = k then some s else getG f L k := by
  split
  · rename_i e
    rw [← e]
    exact getG_of (rise_putG h) ((mem_putG h).2 (.inl rfl))
  · rename_i hne
    cases hg : getG f L k with
    | none =>
      rw [getG_none] at hg ⊢
      intro x hx e
      rcases (mem_putG h).1 hx with rfl | ⟨hm, _⟩
      · exact hne e
      · exact hg x hm e
    | some y =>
      obtain ⟨hm, e⟩ := getG_some hg
      rw [← e]
      exact getG_of (rise_putG h) ((mem_putG h).2 (.inr ⟨hm, fun e2 => hne (e2 ▸ e)⟩))
theorem len_putG {s : α} : ∀ {L : List α}, RiseG f L → (putG f s L).length = if (getG f L (f s)).isSome then L.length else L.length + 1
  | [], _ => by simp [putG, getG]
  | x :: L, h => by
    have hx := List.pairwise_cons.1 h
    have hgx : getG f (x :: L) (f s) = if f x = f s then some x else getG f L (f s) := by
      unfold getG
      rw [List.find?_cons]
      by_cases e : f x = f s
      · simp [e]
      · simp [e]
    rw [hgx]
    unfold putG
    split
    · rename_i h0
      rw [if_pos (cmpS_eq.1 h0).symm]
      simp
    · rename_i h0
      have hne : ¬ f x = f s := fun e => h0 (by rw [e, cmpS_self])
      rw [if_neg hne]
      split
      · rename_i h1
        have : getG f L (f s) = none := by
          rw [getG_none]
          intro y hy e
          have := cmpS_trans h1 (hx.1 y hy)
          rw [e, cmpS_self] at this
          exact absurd this (by decide)
        rw [this]; simp
      · rename_i h1
        rw [List.length_cons, len_putG hx.2]
        split <;> simp
theorem map_putG {β : Type} {g : β → List Lb} (e : α → β) (he : ∀ x, g (e x) = f x) (s : α) : ∀ L : List α, (putG f s L).map e = putG g (e s) (L.map e)
  | [] => rfl
  | x :: L => by
    rw [List.map_cons]
    unfold putG
    rw [he, he]
    split
    · rfl
    · split
      · rfl
      · rw [List.map_cons, map_putG e he s L]
theorem map_getG {β : Type} {g : β → List Lb} (e : α → β) (he : ∀ x, g (e x) = f x) (k : List Lb) (L : List α) : getG g (L.map e) k = (getG f L k).map e := by
  unfold getG
  induction L with
  | nil => rfl
  | cons x L ih =>
    rw [List.map_cons, List.find?_cons, List.find?_cons, he]
    cases decide (f x = k) with
    | true => rfl
    | false => exact ih
theorem rise_map {β : Type} {g : β → List Lb} (e : α → β) (he : ∀ x, g (e x) = f x) {L : List α} : RiseG g (L.map e) ↔ RiseG f L := by
  unfold RiseG
  rw [List.pairwise_map]
  constructor <;> intro h <;> refine h.imp ?_ <;> intro a b hab
  · rw [he, he] at hab; exact hab
  · rw [he, he]; exact hab
/-- Two rising lists of the same entries are one. -/
theorem rise_ext {L M : List α} (hL : RiseG f L) (hM : RiseG f M) (h : ∀ x, x ∈ L ↔ x ∈ M) : L = M := by
  have irr : ∀ {K : List α}, RiseG f K → K.Nodup := fun hK => hK.imp fun {a b} hab e => by
    rw [e, cmpS_self] at hab; exact absurd hab (by decide)
  have hp : L.Perm M := (List.perm_ext_iff_of_nodup (irr hL) (irr hM)).2 h
  refine hp.eq_of_pairwise (le := fun x y => cmpS (f x) (f y) = -1) ?_ hL hM
  intro a b _ _ h1 h2
  have := cmpS_trans h1 h2
  rw [cmpS_self] at this
  exact absurd this (by decide)
theorem RiseG.nodup {K : List α} (hK : RiseG f K) : K.Nodup := hK.imp fun {a b} hab e => by
  rw [e, cmpS_self] at hab; exact absurd hab (by decide)
end
/-- An entry, in an evaluation: its labels, its instance, its State ahead, and whether it was stepped. -/
structure Ae where
  ls : List Lb
  x : S.Inst
  ah : Int
  sp : Bool
/-- A result. -/
structure Rt where
  ls : List Lb
  k : Int
  vk : Int
  vn : Int
/-- A change. -/
structure Cg where
  ls : List Lb
  fr : Int
  to : Int
  vk : Int
  vn : Int
open Classical in
/-- What Make tells, as a function. -/
noncomputable def mkF (l : List Lb) : List Lb × Int := if h : ∃ p : List Lb × Int, MkQ l p.1 p.2 then Classical.choose h else ([], 0)
theorem mkF_of {l out : List Lb} {e : Int} (h : MkQ l out e) : mkF l = (out, e) := by
  have hx : ∃ p : List Lb × Int, MkQ l p.1 p.2 := ⟨(out, e), h⟩
  unfold mkF
  rw [dif_pos hx]
  have := Classical.choose_spec hx
  obtain ⟨h1, h2⟩ := this.one h
  exact Prod.ext h1 h2
/-- The entry behind its step. -/
def stpA (h : S.Hd) (now : Int) (r : Rt) (s : Ae) : Ae := { s with x := S.stepI s.x h r.k r.vk r.vn now, sp := true }
/-- A new entry. -/
def newA (now : Int) (ls : List Lb) : Ae := ⟨ls, S.newI now, 1, false⟩
/-- What a result does. -/
noncomputable def hearL (h : S.Hd) (own : List Lb) (now : Int) (r : Rt) (L : List Ae) : List Ae :=
  if (mkF (withL r.ls own)).2 = 0 then
    match getG Ae.ls L (mkF (withL r.ls own)).1 with
    | some s => if s.sp = true then L else putG Ae.ls (stpA h now r s) L
    | none => if L.length < 100 then putG Ae.ls (stpA h now r (newA now (mkF (withL r.ls own)).1)) L else L
  else L
/-- Is it said of all? -/
def allB (n : Nat) (l : List Rt) : Bool := decide (0 < n) && match l with | [r] => decide (r.ls = []) && (decide (r.k = 3) || decide (r.k = 4)) | _ => false
/-- Is it taken away? -/
def overB (iv now : Int) (s : Ae) : Bool := !s.sp && decide (2 * iv ≤ now - s.x.seen)
/-- A board's entries at an evaluation's beginning. -/
def beginA (p : List Lb × S.Inst) : Ae := ⟨p.1, p.2, p.2.st, false⟩
/-- The entries behind what was said. -/
noncomputable def heardL (h : S.Hd) (own : List Lb) (now : Int) (l : List Rt) (b : List (List Lb × S.Inst)) : List Ae :=
  if allB b.length l = true then (b.map beginA).map (stpA h now (l.headD ⟨[], 0, 0, 0⟩)) else l.foldl (fun L r => hearL h own now r L) (b.map beginA)
/-- The board that is left. -/
def leftL (iv now : Int) (L : List Ae) : List (List Lb × S.Inst) := (L.filter fun s => !overB iv now s).map fun s => (s.ls, s.x)
/-- What is told of an entry. -/
def tellA (iv now : Int) (s : Ae) : List Cg :=
  if overB iv now s = true then (if s.ah = 1 then [] else [⟨s.ls, s.ah, 1, 2, 0⟩]) else (if s.x.st = s.ah then [] else [⟨s.ls, s.ah, s.x.st, s.x.vk, s.x.vn⟩])
def toldL (iv now : Int) (L : List Ae) : List Cg := (L.map (tellA iv now)).flatten
end Go.Proofs.YtiajafljgfpdcaaGreat
