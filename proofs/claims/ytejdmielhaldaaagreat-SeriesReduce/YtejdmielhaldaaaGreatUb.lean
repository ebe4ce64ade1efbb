/- The document's Reduce. -/
import Derived.Test.YtejdmielhaldaaaGreatUa
namespace Go.Proofs.YtejdmielhaldaaaGreat
set_option linter.unusedVariables false
open Go.RowKit
def six : List ByteArray := [⟨#[108, 97, 115, 116]⟩, ⟨#[109, 105, 110]⟩, ⟨#[109, 97, 120]⟩, ⟨#[115, 117, 109]⟩, ⟨#[109, 101, 97, 110]⟩, ⟨#[99, 111, 117, 110, 116]⟩]
abbrev sixO : Obj := .cells #[.string ⟨#[108, 97, 115, 116]⟩, .string ⟨#[109, 105, 110]⟩, .string ⟨#[109, 97, 120]⟩, .string ⟨#[115, 117, 109]⟩, .string ⟨#[109, 101, 97, 110]⟩, .string ⟨#[99, 111, 117, 110, 116]⟩] 9
theorem six_txs (w : World) : Txs (w.alloc sixO) (.slice (some ⟨w.heap.size, 0, none⟩) 6 6) six := by
  refine ⟨_, 6, rfl, ⟨(fun e => by cases e), Nat.le_refl _⟩, .inr ⟨w.heap.size, 0, rfl, fun t ht i u hu => ?_⟩⟩
  have h : (w.alloc sixO).heap[w.heap.size]? = some sixO := by show (w.heap.push _)[w.heap.size]? = _; simp
  unfold World.cell?
  rw [h]
  have ht6 : t < 6 := ht
  have hi : i = 0 := by
    have hh : encS.arr (six.getD t encS.d) = [.string (six.getD t encS.d)] := rfl
    rw [hh] at hu
    rcases i with _ | i
    · rfl
    · simp at hu
  subst hi
  rcases t with _ | _ | _ | _ | _ | _ | t
  all_goals first | (exact hu) | omega
theorem bts_eq {a c : ByteArray} {L : List UInt8} (hc : c.toList = L) : decide (c = a) = (a.toList == L) := by
  by_cases h : c = a
  · subst h; rw [hc]; simp
  · have h2 := toList_ne h
    rw [decide_eq_false h]
    symm
    rw [beq_eq_false_iff_ne]
    rw [hc] at h2
    first | exact fun e => h2 e.symm | exact fun e => by simp [e] at h2
theorem six_how (s : ByteArray) : inB six s = howB s := by
  unfold inB six howB
  simp only [List.any_cons, List.any_nil, Bool.or_false]
  rw [bts_eq (L := [108, 97, 115, 116]) (by decide +kernel), bts_eq (L := [109, 105, 110]) (by decide +kernel), bts_eq (L := [109, 97, 120]) (by decide +kernel), bts_eq (L := [115, 117, 109]) (by decide +kernel), bts_eq (L := [109, 101, 97, 110]) (by decide +kernel), bts_eq (L := [99, 111, 117, 110, 116]) (by decide +kernel)]
  simp only [Bool.or_assoc]
/-- Those that Reduce takes. -/
def keepL (b : Bool) (l : List Pn) : List Pn := l.filter fun p => b || knwB p
theorem keepL_is (b : Bool) (l : List Pn) : keepL b l = if b = true then l else knownL l := by
  cases b <;> simp [keepL, knownL]
theorem take_pn (l : List Pn) (k : Nat) (h : k < l.length) : l.take (k + 1) = l.take k ++ [l.getD k pn0] := by
  rw [List.take_succ_eq_append_getElem h, List.getD_eq_getElem?_getD, List.getElem?_eq_getElem h]; rfl
theorem keepL_take (b : Bool) (l : List Pn) (k : Nat) (h : k < l.length) : keepL b (l.take (k + 1)) = keepL b (l.take k) ++ (if (b || knwB (l.getD k pn0)) = true then [l.getD k pn0] else []) := by
  rw [take_pn l k h]
  unfold keepL
  rw [List.filter_append, List.filter_cons, List.filter_nil]
theorem keepL_len (b : Bool) (l : List Pn) : (keepL b l).length ≤ l.length := List.length_filter_le _ _
end Go.Proofs.YtejdmielhaldaaaGreat
