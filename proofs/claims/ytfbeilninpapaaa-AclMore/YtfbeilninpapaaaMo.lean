/- AclMore's mathematics: levels of lists that are put together, or turned; append in a region that draws. -/
import Derived.Test.YtfbeilninpapaaaAr
namespace Go.Proofs.Ytfbeilninpapaaa
set_option linter.unusedVariables false
open Go.RowKit
theorem lv_max (n r : ByteArray) (ts : List ByteArray) (l : List Gr) : ∀ a b : Int, l.foldl (lvS n r ts) (max a b) = max a (l.foldl (lvS n r ts) b) := by
  induction l with
  | nil => intro a b; rfl
  | cons g l ih =>
    intro a b
    simp only [List.foldl_cons]
    rw [← ih]
    congr 1
    unfold lvS
    split
    · omega
    · rfl
theorem lvF_nn (n r : ByteArray) (ts : List ByteArray) (l : List Gr) : 0 ≤ lvF n r ts l := by
  have := lv_max n r ts l 0 0
  unfold lvF
  rw [show (max (0 : Int) 0) = 0 from rfl] at this
  omega
theorem lvF_app (n r : ByteArray) (ts : List ByteArray) (l m : List Gr) : lvF n r ts (l ++ m) = max (lvF n r ts l) (lvF n r ts m) := by
  have h0 := lvF_nn n r ts l
  have := lv_max n r ts m (lvF n r ts l) 0
  unfold lvF at *
  rw [List.foldl_append, ← this, Int.max_eq_left h0]
/-- A list turned by s. -/
def rotG (l : List Gr) (s : Nat) : List Gr := l.drop s ++ l.take s
theorem lvF_rot (n r : ByteArray) (ts : List ByteArray) (l : List Gr) (s : Nat) : lvF n r ts (rotG l s) = lvF n r ts l := by
  unfold rotG
  rw [lvF_app, Int.max_comm, ← lvF_app, List.take_append_drop]
theorem lvL_rot (n r : ByteArray) (ts : List ByteArray) (l : List Gr) (s : Nat) : lvL n r ts (rotG l s) = lvL n r ts l := by
  unfold lvL; rw [lvF_rot]
theorem lvL_more (n r : ByteArray) (ts : List ByteArray) (l : List Gr) (g : Gr) : lvL n r ts l ≤ lvL n r ts (l ++ [g]) := by
  unfold lvL
  split
  · exact Int.le_refl _
  · rw [lvF_app]; omega
theorem rotG_len (l : List Gr) (s : Nat) : (rotG l s).length = l.length := by unfold rotG; simp; omega
theorem rotG_at (l : List Gr) (s k : Nat) (hs : s < l.length) (hk : k < l.length) : (rotG l s).getD k gr0 = l.getD ((k + s) % l.length) gr0 := by
  unfold rotG
  rw [List.getD_eq_getElem?_getD, List.getD_eq_getElem?_getD]
  congr 1
  by_cases h : k + s < l.length
  · rw [List.getElem?_append_left (by simp; omega), List.getElem?_drop, Nat.mod_eq_of_lt h, Nat.add_comm]
  · rw [List.getElem?_append_right (by simp; omega), List.length_drop, List.getElem?_take_of_lt (by omega)]
    have : (k + s) % l.length = k - (l.length - s) := by
      rw [Nat.mod_eq_sub_mod (by omega), Nat.mod_eq_of_lt (by omega)]
      omega
    rw [this]
theorem rotG_take (l : List Gr) (s k : Nat) (hs : s < l.length) (hk : k < l.length) : (rotG l s).take (k + 1) = (rotG l s).take k ++ [l.getD ((k + s) % l.length) gr0] := by
  rw [take_getD _ gr0 k (by rw [rotG_len]; exact hk), rotG_at l s k hs hk]
theorem rotG_mem {l : List Gr} {s : Nat} {g : Gr} (h : g ∈ rotG l s) : g ∈ l := by
  unfold rotG at h
  rcases List.mem_append.1 h with h | h
  · exact List.mem_of_mem_drop h
  · exact List.mem_of_mem_take h
/-- A grant of one's name is not above the level. -/
theorem lvF_ge (n r : ByteArray) (ts : List ByteArray) (l : List Gr) (k : Nat) (hk : k < l.length) (h1 : ((l.getD k gr0).kind == 1) = true) (h2 : ((l.getD k gr0).name.toList == n.toList) = true) : (l.getD k gr0).level ≤ lvF n r ts l := by
  have e : lvF n r ts l = max (lvF n r ts (l.take (k + 1))) (lvF n r ts (l.drop (k + 1))) := by rw [← lvF_app, List.take_append_drop]
  have h3 : ofB n r ts (l.getD k gr0) = true := by unfold ofB; rw [h1, if_pos rfl]; exact h2
  have h4 := lvF_take n r ts l k hk
  unfold lvS at h4
  rw [h3, if_pos rfl] at h4
  omega
section
variable {α : Type} {E : Enc α}
theorem Sls.kept {w w' : World} {g o n c : Nat} {r : Option Nat} {l : List α} (h : Sls E w (.slice (some ⟨g, o, none⟩) n c) l) (hg : w.grownBy w' r) (hne : some g ≠ r) : Sls E w' (.slice (some ⟨g, o, none⟩) n c) l := by
  obtain ⟨a, c', e, hn, h⟩ := h
  refine ⟨a, c', e, hn, ?_⟩
  rcases h with h | ⟨b, o', e2, h⟩
  · exact .inl h
  · cases e
    cases e2
    refine .inr ⟨g, o, rfl, fun t ht i u hu => ?_⟩
    have h1 := h t ht i u hu
    have hlt := World.block_lt_of_cell? w _ h1
    rw [← h1]
    simp only [World.cell?, hg.block g hlt hne]
/-- append(s, x...) inside a region that draws, for rows up to the reach. -/
theorem stepNb (T : RowTy E) {ops : Array Oper} {o : Oper} {a : Act} {w : World} {K : Act → World → Prop} {Q : Exit → Act → World → Prop} {F : Prop} (hg : o.guard = none) (s x : Operand)
    (hop : o.op = Op.call { callee := Callee.builtin Builtin.append, args := #[s, x], argTypes := #[T.st, T.st] }) (base : Nat) (v u : Value) (l m : List α) (hs : a.eval s = v) (hx : a.eval x = u)
    (hown : OwnS T w base v l) (hm : Sls E w u m) (hbase : base ≤ w.heap.size) (hlen : l.length + m.length ≤ 4398046511104) (hbb : (l.length + m.length) * T.bytes ≤ 140737488355328)
    (h : ∀ v' w', OwnS T w' base v' (l ++ m) → w.grownBy w' v.ownBlock → K (a.put o.dst v') w') : if Region.wanted o (yielded ops a.tmps) = true then Oper.wp Try.prog o a w K Q else F := by
  obtain ⟨ad, c, rfl, hnil, hcell⟩ := hm
  cases ad with
  | none =>
    have hms : m = [] := by
      rcases hcell with hcell | ⟨_, _, e, _⟩
      · exact hcell
      · cases e
    subst hms
    obtain rfl := hnil.1 rfl
    have hw : Region.wanted o (yielded ops a.tmps) = true := by simp [Region.wanted, hg]
    rw [if_pos hw]
    obtain ⟨i0, hi, hz0, hz1, hz2⟩ := info_parts T.hi
    have hrun := run_append_owned_none (P := Try.prog) (w := w) base T.st o.type T.et i0 E.k T.hu hi v l.length (flat E l) hown
    have hx' : a.eval x = .slice none 0 0 := hx
    unfold Oper.wp
    simp [execOp, hop, resolve, invoke, builtin, hs, hx', hrun, Result.andThen]
    exact h v w (by simpa using hown) (grown_refl _ _)
  | some ad => exact stepRb T hg s x hop base v ad m.length c l m hs hx hown ⟨_, _, rfl, hnil, hcell⟩ hbase hlen hbb h
end
end Go.Proofs.Ytfbeilninpapaaa
