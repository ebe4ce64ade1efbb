/- A region that draws its order, whose operations may lay blocks: walked once, in the text's order; what an operation yields is told by a predicate that growing worlds keep, so that no order is written out. -/
import Derived.BigQuiet
import Derived.Below
import Derived.RowKit
namespace Go.Proofs.Ytcfhpndoaiknhaa.Gq
set_option linter.unusedVariables false
open Go.RowKit
/-- How worlds grow. -/
structure Grow where
  R : World → World → Prop
  refl : ∀ w, R w w
  trans : ∀ {a b c}, R a b → R b c → R a c
/-- A world that has grown out of w. -/
structure Out (G : Grow) (w : World) where
  W : World
  h : G.R w W
instance (G : Grow) (w : World) : Nonempty (Out G w) := ⟨⟨w, G.refl _⟩⟩
def Cw (G : Grow) (w : World) (W : World) : Prop := ∃ p : Out G w, W = p.W
theorem Cw.gw {G : Grow} {w W : World} (h : Cw G w W) : G.R w W := let ⟨p, e⟩ := h; e ▸ p.h
theorem cw_of {G : Grow} {w W : World} (h : G.R w W) : Cw G w W := ⟨⟨W, h⟩, rfl⟩
theorem Cw.grow {G : Grow} {w W W' : World} (h : Cw G w W) (g : G.R W W') : Cw G w W' := cw_of (G.trans h.gw g)
/-- Whatever lay there lies there unturned. -/
def growB : Grow := ⟨fun w w' => Below w.heap.size w w', fun _ => Below.refl _ _, fun h g => Below.trans h (Below.mono g h.size)⟩
section
variable (G : Grow) (P : Program) (ops : Array Oper) (w0 : World) (S : Nat → Option (Array Value → Value → World → Prop))
/-- What the operation yields in the world W: a value, in a world that has grown, of which s speaks. -/
def tellUpon (W : World) (s : Value → World → Prop) : Result Next → Prop
  | .ok (.value u) w' => G.R W w' ∧ s u w'
  | .ok .skip w' => G.R W w' ∧ s undef w'
  | .ok (.enter f args) w' => w' = W ∧ Calls P f args W (fun e w'' => ∃ v, e = .returned v ∧ G.R W w'' ∧ s v w'')
  | _ => False
def tellAt (o : Oper) (a : Act) (W : World) (s : Value → World → Prop) : Prop := tellUpon G P W s ((execOp a.eval o).run P W)
/-- It yields u, in every world of the class, and leaves it alone. -/
def stillAt (o : Oper) (a : Act) (W : World) (u : Value) : Prop := (execOp a.eval o).run P W = .ok (.value u) W ∨ ((execOp a.eval o).run P W = .ok .skip W ∧ u = undef)
/-- What is told of operation i: what the prover says, or its value in every world of the class. -/
def eff (i : Nat) (o : Oper) (a : Act) (u : Value) (W : World) : Prop := match S i with
  | some s => s (o.op.operands.map a.eval) u W
  | none => ∀ X, Cw G w0 X → stillAt P o a X u
/-- Facts, by the operation's number. -/
abbrev Facts := Nat → World → Prop
def Facts.add (F : Facts) (i : Nat) (s : World → Prop) : Facts := fun k W => F k W ∧ (k = i → s W)
def cls (F : Facts) (o : Oper) (W : World) : Prop := Cw G w0 W ∧ ∀ k ok, ops[k]? = some ok → ok.apart ops o = false → F k W
def Sat (F : Facts) : Prop := ∃ W, Cw G w0 W ∧ ∀ k, F k W
def Stab (F : Facts) : Prop := ∀ k W W', F k W → G.R W W' → F k W'
def gOp (i : Nat) (K : Act → Facts → Prop) (a : Act) (F : Facts) : Prop :=
  match ops[i]? with
  | none => K a F
  | some o => if Region.wanted o (yielded ops a.tmps) then
      (∀ W, cls G ops w0 F o W → tellAt G P o a W (eff G P w0 S i o a)) ∧ ∀ v, Sat G w0 (F.add i (eff G P w0 S i o a v)) → K (a.put o.dst v) (F.add i (eff G P w0 S i o a v))
    else K (a.put o.dst undef) F
def wpAnyG (md : Region.Mode) (Q : Act → Facts → Prop) : Nat → Array Bool → Act → Facts → Prop
  | 0, listed, a, F => Region.ready md ops listed = [] ∧ Q a F
  | fuel + 1, listed, a, F => (Region.ready md ops listed = [] → Q a F) ∧ ∀ i ∈ Region.ready md ops listed, gOp G P ops w0 S i (wpAnyG md Q fuel (listed.setIfInBounds i true)) a F
/-- The walk in the text's order. -/
def wpG (Q : Act → Facts → Prop) : List Oper → Nat → Act → Facts → Prop
  | [], _, a, F => Q a F
  | _ :: rest, k, a, F => gOp G P ops w0 S k (wpG Q rest (k + 1)) a F
end
section
variable {G : Grow} {P : Program} {ops : Array Oper} {w0 : World} {S : Nat → Option (Array Value → Value → World → Prop)} {md : Region.Mode}
/-- What the prover says is kept by growing worlds. -/
def Keeps (G : Grow) (S : Nat → Option (Array Value → Value → World → Prop)) : Prop := ∀ i s, S i = some s → ∀ vs v W W', s vs v W → G.R W W' → s vs v W'
theorem eff_keeps (hS : Keeps G S) (i : Nat) (o : Oper) (a : Act) (v : Value) (W W' : World) (h : eff G P w0 S i o a v W) (g : G.R W W') : eff G P w0 S i o a v W' := by
  unfold eff at *
  split
  · rename_i s hs; simp only [hs] at h; exact hS i s hs _ _ _ _ h g
  · rename_i hs; simp only [hs] at h; exact h
theorem Facts.add_comm (F : Facts) {i j : Nat} (s t : World → Prop) : (F.add i s).add j t = (F.add j t).add i s := by
  funext k W; unfold Facts.add; apply propext; constructor <;> rintro ⟨⟨h1, h2⟩, h3⟩ <;> exact ⟨⟨h1, h3⟩, h2⟩
theorem Stab.add {F : Facts} (h : Stab G F) {i : Nat} {s : World → Prop} (hs : ∀ W W', s W → G.R W W' → s W') : Stab G (F.add i s) := fun k W W' ⟨h1, h2⟩ g => ⟨h k _ _ h1 g, fun e => hs _ _ (h2 e) g⟩
theorem apart_comm {x y : Oper} (h : x.apart ops y = true) : y.apart ops x = true := by
  unfold Oper.apart at *
  cases hx : x.dst <;> cases hy : y.dst <;> simp only [hx, hy, Bool.and_eq_true, Bool.true_and, Bool.and_true] at h ⊢
  · exact ⟨h, by simp⟩
  · exact h.1
  · obtain ⟨⟨h1, h2⟩, h3⟩ := h
    refine ⟨⟨h3, ?_⟩, h1⟩
    simp at h2 ⊢
    exact fun e => h2 e.symm
theorem cls_add {F : Facts} {o oi : Oper} {i : Nat} {s : World → Prop} {W : World} (hi : ops[i]? = some oi) (hap : oi.apart ops o = true) : cls G ops w0 (F.add i s) o W ↔ cls G ops w0 F o W := by
  unfold cls
  refine and_congr_right fun _ => ⟨fun h k ok h1 h2 => (h k ok h1 h2).1, fun h k ok h1 h2 => ⟨h k ok h1 h2, fun e => ?_⟩⟩
  subst e
  rw [hi] at h1
  cases h1
  rw [hap] at h2
  cases h2
theorem Sat.of_add {F : Facts} {i : Nat} {s : World → Prop} (h : Sat G w0 (F.add i s)) : Sat G w0 F := let ⟨W, h1, h2⟩ := h; ⟨W, h1, fun k => (h2 k).1⟩
theorem Sat.swap {F : Facts} {i j : Nat} {s t : World → Prop} (h : Sat G w0 ((F.add i s).add j t)) : Sat G w0 (F.add j t) := by
  rw [Facts.add_comm] at h; exact h.of_add
theorem tell_witness {o : Oper} {a : Act} {W : World} {s : Value → World → Prop} (h : tellAt G P o a W s) : ∃ v W', G.R W W' ∧ s v W' := by
  unfold tellAt at h
  generalize (execOp a.eval o).run P W = r at h
  cases r with
  | ok n w' =>
    cases n <;> simp only [tellUpon] at h
    · exact ⟨_, _, h⟩
    · exact ⟨_, _, h⟩
    · obtain ⟨_, hc⟩ := h
      obtain ⟨e, w'', fr, ⟨v, _, h1, h2⟩, _⟩ := hc []
      exact ⟨v, w'', h1, h2⟩
  | halt x w' => exact h.elim
theorem sat_step {F : Facts} {i : Nat} {o : Oper} {s : Value → World → Prop} {a : Act} (hF : Sat G w0 F) (hst : Stab G F) (h : ∀ W, cls G ops w0 F o W → tellAt G P o a W s) : ∃ v, Sat G w0 (F.add i (s v)) := by
  obtain ⟨W, h1, h2⟩ := hF
  obtain ⟨v, W', g, hv⟩ := tell_witness (h W ⟨h1, fun k _ _ _ => h2 k⟩)
  exact ⟨v, W', h1.grow g, fun k => ⟨hst k _ _ (h2 k) g, fun _ => hv⟩⟩
theorem gOp_mono (hS : Keeps G S) {i : Nat} {a : Act} {F : Facts} {K K' : Act → Facts → Prop} (hF : Sat G w0 F) (hst : Stab G F) (h : ∀ a F, Sat G w0 F → Stab G F → K a F → K' a F) (hh : gOp G P ops w0 S i K a F) : gOp G P ops w0 S i K' a F := by
  unfold gOp at *
  split
  · rename_i ho; simp only [ho] at hh; exact h _ _ hF hst hh
  · rename_i o ho
    simp only [ho] at hh
    split
    · rename_i hw; simp only [hw, if_true] at hh
      exact ⟨hh.1, fun v hv => h _ _ hv (hst.add fun W W' h1 g => eff_keeps hS _ _ _ _ _ _ h1 g) (hh.2 v hv)⟩
    · rename_i hw; simp only [hw] at hh; exact h _ _ hF hst hh
theorem tellAt_put {o : Oper} {a : Act} {W : World} {s : Value → World → Prop} {d : Option Tmp} {v : Value} (he : execOp (a.put d v).eval o = execOp a.eval o) : tellAt G P o (a.put d v) W s = tellAt G P o a W s := by
  unfold tellAt; rw [he]
theorem eff_put {i : Nat} {o : Oper} {a : Act} {d : Option Tmp} {v : Value} (he : execOp (a.put d v).eval o = execOp a.eval o) (hm : o.op.operands.map (a.put d v).eval = o.op.operands.map a.eval) : eff G P w0 S i o (a.put d v) = eff G P w0 S i o a := by
  funext u W; unfold eff stillAt; rw [he, hm]
theorem operands_put (o : Oper) (a : Act) (dst : Option Tmp) (v : Value) (h : ∀ d, dst = some d → d ∉ o.looksAt ops) : o.op.operands.map (a.put dst v).eval = o.op.operands.map a.eval := by
  apply Array.map_congr_left
  intro x hx
  exact Act.eval_put fun d hd hxd => h d hd (by
    subst hxd
    exact List.mem_append_left _ (List.mem_filterMap.2 ⟨.tmp d, by simpa using hx, rfl⟩))
theorem gOp_swap {i j : Nat} {oi oj : Oper} (hi : ops[i]? = some oi) (hj : ops[j]? = some oj) (hap : oi.apart ops oj = true)
    (hsi : ∀ cs b, oi.op ≠ .select cs b) (hsj : ∀ cs b, oj.op ≠ .select cs b) {K : Act → Facts → Prop} {a : Act} {F : Facts} (hF : Sat G w0 F) (hst : Stab G F)
    (h : gOp G P ops w0 S i (gOp G P ops w0 S j K) a F) : gOp G P ops w0 S j (gOp G P ops w0 S i K) a F := by
  obtain ⟨p1, p2, p3⟩ := Oper.apart_spec hap
  have hap' := apart_comm hap
  have wj : ∀ v, Region.wanted oj (yielded ops (a.put oi.dst v).tmps) = Region.wanted oj (yielded ops a.tmps) := fun v => wanted_put oj a oi.dst v p1
  have wi : ∀ v, Region.wanted oi (yielded ops (a.put oj.dst v).tmps) = Region.wanted oi (yielded ops a.tmps) := fun v => wanted_put oi a oj.dst v p3
  have ej : ∀ v, execOp (a.put oi.dst v).eval oj = execOp a.eval oj := fun v => execOp_put oj hsj a oi.dst v p1
  have ei : ∀ v, execOp (a.put oj.dst v).eval oi = execOp a.eval oi := fun v => execOp_put oi hsi a oj.dst v p3
  have mj : ∀ v, oj.op.operands.map (a.put oi.dst v).eval = oj.op.operands.map a.eval := fun v => operands_put oj a oi.dst v p1
  have mi : ∀ v, oi.op.operands.map (a.put oj.dst v).eval = oi.op.operands.map a.eval := fun v => operands_put oi a oj.dst v p3
  unfold gOp at *
  simp only [hi, hj] at h ⊢
  by_cases h1 : Region.wanted oi (yielded ops a.tmps) = true
  · simp only [h1, if_true, wj, wi] at h ⊢
    obtain ⟨ti, ni⟩ := h
    obtain ⟨v0, hv0⟩ := sat_step (i := i) hF hst ti
    by_cases h2 : Region.wanted oj (yielded ops a.tmps) = true
    · simp only [h2, if_true] at ni ⊢
      refine ⟨fun W hW => ?_, fun u hu => ⟨fun W hW => ?_, fun v hv => ?_⟩⟩
      · have := (ni v0 hv0).1 W ((cls_add hi hap).2 hW)
        rwa [tellAt_put (ej v0), eff_put (ej v0) (mj v0)] at this
      · rw [tellAt_put (ei u), eff_put (ei u) (mi u)]
        exact ti W ((cls_add hj hap').1 hW)
      · rw [eff_put (ei u) (mi u)] at hv ⊢
        have h3 := hv.swap
        have h4 := (ni v h3).2 u
        rw [eff_put (ej v) (mj v), Facts.add_comm, Act.put_comm a v u p2] at h4
        exact h4 hv
    · simp only [h2] at ni ⊢
      refine ⟨fun W hW => ?_, fun v hv => ?_⟩
      · rw [tellAt_put (ei undef), eff_put (ei undef) (mi undef)]; exact ti W hW
      · rw [eff_put (ei undef) (mi undef)] at hv ⊢
        have := ni v hv
        rw [Act.put_comm a v undef p2] at this
        exact this
  · simp only [h1, wj, wi] at h ⊢
    by_cases h2 : Region.wanted oj (yielded ops a.tmps) = true
    · simp only [h2, if_true] at h ⊢
      refine ⟨fun W hW => ?_, fun u hu => ?_⟩
      · have := h.1 W hW
        rwa [tellAt_put (ej undef), eff_put (ej undef) (mj undef)] at this
      · have := h.2 u
        rw [eff_put (ej undef) (mj undef), Act.put_comm a undef u p2] at this
        exact this hu
    · simp only [h2] at h ⊢
      rw [Act.put_comm a undef undef p2] at h
      exact h
theorem wpAnyG_first (hS : Keeps G S) {Q : Act → Facts → Prop} {i : Nat} {oi : Oper} (hi : ops[i]? = some oi) (hsel : ∀ (j : Nat) (o : Oper) cs b, ops[j]? = some o → o.op ≠ .select cs b) :
    ∀ (fuel : Nat) (listed : Array Bool) (a : Act) (F : Facts), Sat G w0 F → Stab G F →
      (∀ j oj, ops[j]? = some oj → j ≠ i → listed.getD j true = false → (∀ e ∈ oj.after, Region.binds md e = true → e.on ≠ i) → oi.apart ops oj = true) →
      i ∈ Region.ready md ops listed → gOp G P ops w0 S i (wpAnyG G P ops w0 S md Q fuel (listed.setIfInBounds i true)) a F → wpAnyG G P ops w0 S md Q (fuel + 1) listed a F := by
  intro fuel
  induction fuel with
  | zero =>
    intro listed a F hF hst _ hr H
    refine ⟨fun h => (by rw [h] at hr; cases hr), fun j hj => ?_⟩
    by_cases hji : j = i
    · subst hji; exact H
    · have h5 := ready_mono hj hji
      have : Region.ready md ops (listed.setIfInBounds i true) = [] := by
        unfold gOp at H
        simp only [hi] at H
        split at H
        · obtain ⟨v0, hv0⟩ := sat_step (i := i) hF hst H.1
          exact (H.2 v0 hv0).1
        · exact H.1
      rw [this] at h5
      cases h5
  | succ fuel ih =>
    intro listed a F hF hst hfree hr H
    refine ⟨fun h => (by rw [h] at hr; cases hr), fun j hj => ?_⟩
    by_cases hji : j = i
    · subst hji; exact H
    · obtain ⟨hjun, oj, hoj, hall⟩ := mem_ready.1 hj
      have hnot : ∀ e ∈ oj.after, Region.binds md e = true → e.on ≠ i := fun e he hb heq => by
        have h1 := hall e he hb
        have h0 := (mem_ready.1 hr).1
        rw [heq] at h1
        rcases Nat.lt_or_ge i listed.size with h' | h'
        · simp [h'] at h0 h1; rw [h0] at h1; cases h1
        · simp [Array.getElem?_eq_none h'] at h1
      have h1 := gOp_mono hS hF hst (fun a F _ _ h => h.2 j (ready_mono hj hji)) H
      have h2 := gOp_swap hi hoj (hfree j oj hoj hji hjun hnot) (fun cs b => hsel i oi cs b hi) (fun cs b => hsel j oj cs b hoj) hF hst h1
      have hfree' : ∀ k ok, ops[k]? = some ok → k ≠ i → (listed.setIfInBounds j true).getD k true = false →
          (∀ e ∈ ok.after, Region.binds md e = true → e.on ≠ i) → oi.apart ops ok = true := fun k ok hk hki hun hno => by
        refine hfree k ok hk hki ?_ hno
        by_cases hjk : j = k
        · subst hjk; exact hjun
        · rw [getD_set_ne true hjk] at hun; exact hun
      refine gOp_mono hS hF hst (fun a' F' hF' hst' h3 => ih (listed.setIfInBounds j true) a' F' hF' hst' hfree' (ready_mono hr (Ne.symm hji)) ?_) h2
      rw [Array.setIfInBounds_comm _ _ hji]
      exact h3
theorem wpAnyG_lex (hS : Keeps G S) {Q : Act → Facts → Prop} (hs : Region.noSelect ops = true) : ∀ (l : List Oper) (k : Nat) (listed : Array Bool) (a : Act) (F : Facts), Sat G w0 F → Stab G F → (∀ j, l[j]? = ops[k + j]?) →
    Region.lexFrom md ops l.length k listed = true → wpG G P ops w0 S Q l k a F → wpAnyG G P ops w0 S md Q l.length listed a F
  | [], _, _, _, _, _, _, _, hB, h => ⟨by simpa [Region.lexFrom] using hB, h⟩
  | o :: l, k, listed, a, F, hF, hst, hl, hB, h => by
    have h0 : ops[k]? = some o := by simpa using (hl 0).symm
    simp only [List.length_cons, Region.lexFrom, Bool.and_eq_true] at hB
    obtain ⟨⟨hr, hf⟩, hB'⟩ := hB
    exact wpAnyG_first hS h0 (Region.noSelect_spec hs) l.length listed a F hF hst (Region.free_spec h0 hf) (by simpa using hr)
      (gOp_mono hS hF hst (fun a' F' hF' hst' h' => wpAnyG_lex hS hs l (k + 1) _ a' F' hF' hst' (fun j => by have := hl (j + 1); simpa [Nat.add_assoc, Nat.add_comm 1 j] using this) hB' h') h)
theorem wpAny_of_G (hS : Keeps G S) {Q : Act → Facts → Prop} {Q' : Exit → Act → World → Prop} (hQ : ∀ a F W, Cw G w0 W → (∀ k, F k W) → Q a F → Q' .normal a W) : ∀ (fuel : Nat) (listed : Array Bool) (a : Act) (F : Facts) (W : World), Cw G w0 W → (∀ k, F k W) → Stab G F →
    wpAnyG G P ops w0 S md Q fuel listed a F → wpAny P md ops Q' fuel listed a W
  | 0, _, _, _, _, hw, hF, _, h => ⟨h.1, hQ _ _ _ hw hF h.2⟩
  | fuel + 1, listed, a, F, W, hw, hF, hst, h => ⟨fun h0 => hQ _ _ _ hw hF (h.1 h0), fun i hi => by
    have h1 := h.2 i hi
    unfold gOp at h1
    unfold wpOp
    split
    · rename_i ho; simp only [ho] at h1; exact wpAny_of_G hS hQ fuel _ a F W hw hF hst h1
    · rename_i o ho
      simp only [ho] at h1
      split
      · rename_i hwt; simp only [hwt, if_true] at h1
        refine .inl ?_
        have h2 := h1.1 W ⟨hw, fun k _ _ _ => hF k⟩
        have key : ∀ v W', G.R W W' → eff G P w0 S i o a v W' → wpAny P md ops Q' fuel (listed.setIfInBounds i true) (a.put o.dst v) W' := fun v W' g hv => by
          have hF' : ∀ k, (F.add i (eff G P w0 S i o a v)) k W' := fun k => ⟨hst k _ _ (hF k) g, fun _ => hv⟩
          exact wpAny_of_G hS hQ fuel _ _ _ W' (hw.grow g) hF' (hst.add fun X X' e g => eff_keeps hS _ _ _ _ _ _ e g) (h1.2 v ⟨W', hw.grow g, hF'⟩)
        unfold tellAt at h2
        unfold Oper.wp
        generalize (execOp a.eval o).run P W = r at h2
        cases r with
        | ok n w' =>
          cases n <;> simp only [tellUpon] at h2 <;> simp only [Oper.upon]
          · exact key _ _ h2.1 h2.2
          · exact key _ _ h2.1 h2.2
          · obtain ⟨e1, hc⟩ := h2
            rw [e1]
            exact hc.mono fun e w'' ⟨v, he, g, hv⟩ => by subst he; exact key _ _ g hv
        | halt x w' => exact h2.elim
      · rename_i hwt; simp only [hwt] at h1; exact wpAny_of_G hS hQ fuel _ _ F W hw hF hst h1⟩
/-- What is asked behind the region. -/
def QE (G : Grow) (w : World) (Q : Exit → Act → World → Prop) (a : Act) (F : Facts) : Prop := ∀ W, Cw G w W → (∀ k, F k W) → Q .normal a W
/-- One walk in the text's order serves every order. -/
theorem wp_region_grow {id : Nat} {Q : Exit → Act → World → Prop} {a : Act} {w : World} {l : List Oper} (G : Grow) (hd : G.R w w.drew) (S : Nat → Option (Array Value → Value → World → Prop)) (hS : Keeps G S) (hm : P.follows .mixedOrders = true) (hB : Region.lexB .any l.toArray = true)
    (h : wpG G P l.toArray w S (QE G w Q) l 0 a fun _ _ => True) : (Code.region id l.toArray true).wp P Q a w := by
  simp only [Region.lexB, Bool.and_eq_true] at hB
  have hd : Cw G w w.drew := cw_of hd
  refine wp_region_any hm (wpAny_of_G (w0 := w) (Q := QE G w Q) hS (fun a' F W h1 h2 h3 => h3 W h1 h2) _ _ _ (fun _ _ => True) _ hd (fun _ => trivial) (fun _ _ _ _ _ => trivial) ?_)
  have := wpAnyG_lex (w0 := w) (md := .any) hS hB.1 l 0 (Array.replicate l.toArray.size false) a (fun _ _ => True) ⟨w, cw_of (G.refl w), fun _ => trivial⟩ (fun _ _ _ _ _ => trivial) (by simp) (by simpa using hB.2) h
  simpa using this
theorem wpG_more {Q : Exit → Act → World → Prop} : ∀ {l : List Oper} {k : Nat} {a : Act} {F F' : Facts}, (∀ k W, F' k W → F k W) → wpG G P ops w0 S (QE G w0 Q) l k a F → wpG G P ops w0 S (QE G w0 Q) l k a F'
  | [], _, _, _, _, hF, h => fun W h1 h2 => h W h1 fun k => hF k W (h2 k)
  | o :: l, k, a, F, F', hF, h => by
    unfold wpG gOp at *
    split
    · rename_i ho; simp only [ho] at h; exact wpG_more hF h
    · rename_i o ho
      simp only [ho] at h
      split
      · rename_i hw; simp only [hw, if_true] at h
        refine ⟨fun W hW => h.1 W ⟨hW.1, fun k ok h1 h2 => hF _ _ (hW.2 k ok h1 h2)⟩, fun v hv => ?_⟩
        have hh : ∀ j W, (F'.add k (eff G P w0 S k o a v)) j W → (F.add k (eff G P w0 S k o a v)) j W := fun j W ⟨h1, h2⟩ => ⟨hF _ _ h1, h2⟩
        exact wpG_more hh (h.2 v (let ⟨W, g1, g2⟩ := hv; ⟨W, g1, fun j => hh j W (g2 j)⟩))
      · rename_i hw; simp only [hw] at h; exact wpG_more hF h
/-- Operations that enter nothing. -/
def pureOp : Op → Bool
  | .move _ | .assign _ | .pick .. | .load .. | .binOp .. | .unOp .. | .convert .. | .fieldAddr .. | .field .. | .indexAddr .. | .index .. | .extract .. | .slice .. | .lookup .. => true
  | _ => false
theorem value_no_enter (s : Sem Value) (W w' : World) (f : FuncId) (args : Array Value) : ((do pure (.value (← s)) : Sem Next)).run P W ≠ .ok (.enter f args) w' := by
  simp [go_sem, Result.andThen]
  cases s.run P W <;> simp
theorem pure_no_enter {o : Oper} (ρ : Operand → Value) (W w' : World) (f : FuncId) (args : Array Value) (h : pureOp o.op = true) : (execOp ρ o).run P W ≠ .ok (.enter f args) w' := by
  cases ho : o.op <;> rw [ho] at h <;> first | (cases h; done) | (simp only [execOp, ho]; first | exact value_no_enter _ _ _ _ _ | (simp [go_sem]; done) | (simp only [go_sem]; simp; generalize Sem.run P _ W = r; cases r <;> simp [Result.andThen]))
section
variable {Q : Exit → Act → World → Prop} {rest : List Oper} {k : Nat} {a : Act} {F : Facts} {dst : Option Tmp} {op : Op}
theorem wpG_nil (h : ∀ W, Cw G w0 W → (∀ k, F k W) → Q .normal a W) : wpG G P ops w0 S (QE G w0 Q) [] k a F := h
/-- A guard shuts it out. -/
theorem wpG_skip {o : Oper} (ho : ops[k]? = some o) (hw : Region.wanted o (yielded ops a.tmps) = false)
    (h : ∀ K : Act → Prop, (∀ a', wpG G P ops w0 S (QE G w0 Q) rest (k + 1) a' F → K a') → Oper.quiet P { o with op := .move (.const undef) } a (fun w' => ∃ p : Out G w0, w' = p.W) K) : wpG G P ops w0 S (QE G w0 Q) (o :: rest) k a F := by
  unfold wpG gOp
  simp only [ho, hw]
  obtain ⟨v, h1, h2⟩ := h _ fun _ h => h
  have h3 := h1 w0 (cw_of (G.refl _))
  unfold Oper.quietAt at h3
  rw [BigFrame.run_move (.const undef) rfl] at h3
  obtain ⟨_, e⟩ := h3
  subst e
  exact h2
/-- It yields the same value in every world of the class, and leaves it alone. -/
theorem wpG_pure {o : Oper} (ho : ops[k]? = some o) (hw : Region.wanted o (yielded ops a.tmps) = true) (hS : S k = none) (hp : pureOp o.op = true)
    (h : ∀ K : Act → Prop, (∀ a', wpG G P ops w0 S (QE G w0 Q) rest (k + 1) a' F → K a') → Oper.quiet P o a (fun w' => ∃ p : Out G w0, w' = p.W) K) : wpG G P ops w0 S (QE G w0 Q) (o :: rest) k a F := by
  obtain ⟨v, h1, h2⟩ := h _ fun _ h => h
  have hv : ∀ W, Cw G w0 W → stillAt P o a W v := fun W hW => by
    have h3 := h1 W hW
    unfold Oper.quietAt at h3
    unfold stillAt
    generalize hr : (execOp a.eval o).run P W = r at h3
    cases r with
    | ok n w' =>
      cases n <;> simp only [Oper.quietUpon] at h3
      · exact .inl (by rw [h3.1, h3.2])
      · exact .inr ⟨by rw [h3.1], h3.2⟩
      · exact absurd hr (pure_no_enter _ _ _ _ _ hp)
    | halt x w' => exact h3.elim
  have he : ∀ u W, eff G P w0 S k o a u W ↔ ∀ X, Cw G w0 X → stillAt P o a X u := fun u W => by unfold eff; rw [hS]
  unfold wpG gOp
  simp only [ho, hw, if_true]
  refine ⟨fun W hW => ?_, fun u hu => ?_⟩
  · unfold tellAt
    rcases hv W hW.1 with e | ⟨e, e'⟩
    · rw [e]; exact ⟨G.refl _, (he _ _).2 hv⟩
    · rw [e]; exact ⟨G.refl _, (he _ _).2 (e' ▸ hv)⟩
  · obtain ⟨W, g1, g2⟩ := hu
    have hu := (he _ _).1 ((g2 k).2 rfl) W g1
    have e : u = v := by
      rcases hv W g1 with e | ⟨e, e'⟩ <;> rcases hu with f | ⟨f, f'⟩ <;> rw [e] at f
      · injection f with f1 f2; injection f1 with f1; exact f1.symm
      · injection f with f1 f2; cases f1
      · injection f with f1 f2; cases f1
      · rw [e', f']
    subst e
    exact wpG_more (fun j X h => h.1) h2
/-- It yields a value of which s speaks. -/
theorem wpG_tell {o : Oper} {s : Array Value → Value → World → Prop} (vs : Array Value) (ho : ops[k]? = some o) (hw : Region.wanted o (yielded ops a.tmps) = true) (hS : S k = some s) (hvs : o.op.operands.map a.eval = vs) (ht : ∀ W, cls G ops w0 F o W → tellAt G P o a W (s vs))
    (h : ∀ v, (∃ W, Cw G w0 W ∧ (∀ k, F k W) ∧ s vs v W) → ∀ K : Act → Prop, (∀ a', wpG G P ops w0 S (QE G w0 Q) rest (k + 1) a' (F.add k (s vs v)) → K a') → Oper.quiet P { o with op := .move (.const v) } a (fun w' => ∃ p : Out G w0, w' = p.W) K) : wpG G P ops w0 S (QE G w0 Q) (o :: rest) k a F := by
  have he : eff G P w0 S k o a = s vs := by funext u W; unfold eff; rw [hS, hvs]
  unfold wpG gOp
  simp only [ho, hw, if_true, he]
  refine ⟨ht, fun v hv => ?_⟩
  obtain ⟨W, g1, g2⟩ := hv
  obtain ⟨u, h1, h2⟩ := h v ⟨W, g1, fun j => (g2 j).1, (g2 k).2 rfl⟩ _ fun _ h => h
  have h3 := h1 w0 (cw_of (G.refl _))
  unfold Oper.quietAt at h3
  rw [BigFrame.run_move (.const v) rfl] at h3
  obtain ⟨_, e⟩ := h3
  subst e
  exact h2
/-- It yields c, whatever world it leaves. -/
theorem wpG_call {o : Oper} (c : Value) (ho : ops[k]? = some o) (hw : Region.wanted o (yielded ops a.tmps) = true) (hS : S k = some fun _ u _ => u = c) (ht : ∀ W, cls G ops w0 F o W → tellAt G P o a W fun u _ => u = c)
    (h : ∀ K : Act → Prop, (∀ a', wpG G P ops w0 S (QE G w0 Q) rest (k + 1) a' F → K a') → Oper.quiet P { o with op := .move (.const c) } a (fun w' => ∃ p : Out G w0, w' = p.W) K) : wpG G P ops w0 S (QE G w0 Q) (o :: rest) k a F :=
  wpG_tell _ ho hw hS rfl ht fun v ⟨W, _, _, e⟩ K hK => by subst e; exact h K fun a' h => hK a' (wpG_more (fun j X h => h.1) h)
end
/-- An operation that lays memory. -/
theorem tell_run {o : Oper} {a : Act} {W : World} {s : Value → World → Prop} (u : Value) (W' : World) (h : (execOp a.eval o).run P W = .ok (.value u) W') (hg : G.R W W') (hs : s u W') : tellAt G P o a W s := by
  unfold tellAt; rw [h]; exact ⟨hg, hs⟩
/-- An operation that stores. -/
theorem tell_skip {o : Oper} {a : Act} {W : World} {s : Value → World → Prop} (W' : World) (h : (execOp a.eval o).run P W = .ok .skip W') (hg : G.R W W') (hs : s undef W') : tellAt G P o a W s := by
  unfold tellAt; rw [h]; exact ⟨hg, hs⟩
/-- A function of the program's own is entered. -/
theorem enter_fn {f : FuncId} {fn : Func} {vs : Array Value} {W : World} (h : P.funcs[f]? = some fn) (h1 : (fn.name == "runtime.NumGoroutine") = false) (h2 : fn.body.isNone = false) : (callFunc f vs).run P W = .ok (.enter f vs) W := by
  simp only [beq_eq_false_iff_ne, ne_eq, Option.isNone_eq_false_iff] at h1 h2
  simp [callFunc, h, h1, go_sem]
  intro e
  rw [e] at h2
  cases h2
/-- A call of a function of the program's own. -/
theorem tell_fn {o : Oper} {a : Act} {W : World} {s : Value → World → Prop} {f : FuncId} {fn : Func} {args : Array Operand} {tys : Array TypeId} (vs : Array Value) (hop : o.op = .call { callee := .value (.func f), args := args, argTypes := tys }) (hv : args.map a.eval = vs)
    (h0 : P.funcs[f]? = some fn) (h1 : (fn.name == "runtime.NumGoroutine") = false) (h2 : fn.body.isNone = false) (h : Calls P f vs W fun e w'' => ∃ v, e = .returned v ∧ G.R W w'' ∧ s v w'') : tellAt G P o a W s := by
  unfold tellAt
  have hf := enter_fn (vs := vs) (W := W) h0 h1 h2
  have he : (execOp a.eval o).run P W = .ok (.enter f vs) W := by
    simp [execOp, hop, resolve, invoke, Deferred.ofValue, Act.eval, hv, hf, go_sem]
  rw [he]
  exact ⟨rfl, h⟩
end
end Go.Proofs.Ytcfhpndoaiknhaa.Gq
