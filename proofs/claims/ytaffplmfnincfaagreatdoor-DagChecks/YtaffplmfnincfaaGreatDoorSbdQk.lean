/- Sbd; Qd; Qg; Qh; Qi; Qj; Qk. -/
import Derived.Test.YtaffplmfnincfaaGreatDoorProg
import Derived.Shelf.Strings.BuilderK
import Derived.Test.YtaffplmfnincfaaGreatDoorQmQq
import Derived.Test.YtaffplmfnincfaaGreatDoorPxQc
/- strings.Builder.WriteString at this program: the library's contract, laid. -/
/- math.Print: its parts. -/
namespace Go.Proofs.YtaffplmfnincfaaGreatDoor
set_option linter.unusedVariables false
open Go.RowKit
/-- A builder of the call's own, and its bytes. -/
def Bd (B b : Nat) (l : List UInt8) (w : World) : Prop := Lib.IsBuilderF 75 5 B b (Lib.byteCells l) w
/-- What a writer leaves. -/
structure Wr (B b : Nat) (w w' : World) : Prop where
  low : Below B w w'
  oth : Lib.OthersKept 5 (some b) w w'
theorem ExV.low {B : Nat} {w w' : World} {t : Ex} {u : Value} (h : ExV w (fun q => q < B) t u) (hb : Below B w w') : ExV w' (fun q => q < B) t u := by
  obtain ⟨K, h1, h2⟩ := h
  exact ⟨K, h1, kidsV.keep (fun b hb1 _ => hb.block b hb1) hb.size (fun _ h _ => h) _ _ h2⟩
/-- A value of a tree. -/
def NumV (v : Vl) : Prop := v = nul ∨ v = nan ∨ v = pls ∨ ∃ n, v = ⟨1, n⟩
end Go.Proofs.YtaffplmfnincfaaGreatDoor
/- math.Print: the writers. -/
namespace Go.Proofs.YtaffplmfnincfaaGreatDoor
set_option linter.unusedVariables false
open Go.RowKit
/-- What a writer does. -/
def WrC (f : Nat) (w0 : World) (B b : Nat) (x : Ex) (t : List UInt8) : Prop := ∀ (w : World) (k : Int) (n : ByteArray) (vk vn : Int) (a : Option Addr) (m c : Nat) (l : List UInt8), Below w0.heap.size w0 w → ExV w (fun q => q < B) x (.agg #[.int .i64 k, .string n, .int .i64 vk, .int .i64 vn, .slice a m c]) → Bd B b l w → B ≤ w.heap.size → l.length + t.length ≤ 1000000000 →
  Calls Tryz.prog f #[.pointer (some ⟨b, 0, none⟩), .agg #[.int .i64 k, .string n, .int .i64 vk, .int .i64 vn, .slice a m c]] w fun e w' => e = .returned (.tuple #[]) ∧ Bd B b (l ++ t) w' ∧ Wr B b w w'
theorem ExV.parts {w : World} {A : Nat → Prop} {x : Ex} {k : Int} {n : ByteArray} {vk vn : Int} {a : Option Addr} {m c : Nat} (h : ExV w A x (.agg #[.int .i64 k, .string n, .int .i64 vk, .int .i64 vn, .slice a m c])) : k = x.kind ∧ n = x.name ∧ vk = x.v.kind ∧ vn = x.v.n ∧ m = x.kids.length := by
  obtain ⟨K, h1, h2⟩ := h
  obtain ⟨a', c', rfl⟩ := h2.shape
  injection h1 with h1
  have e2 := congrArg Array.toList h1
  simp only [List.cons.injEq, and_true, Value.int.injEq, true_and, Value.string.injEq, Value.slice.injEq] at e2
  exact ⟨e2.1, e2.2.1, e2.2.2.1, e2.2.2.2.1, e2.2.2.2.2.2.1⟩
/-- Five cells. -/
structure At5 (w : World) (q o : Nat) (k : Int) (n : ByteArray) (vk vn : Int) (a : Option Addr) (m c : Nat) : Prop where
  c0 : w.cell? ⟨q, o, none⟩ = some (.int .i64 k)
  c1 : w.cell? ⟨q, o + 1, none⟩ = some (.string n)
  c2 : w.cell? ⟨q, o + 2, none⟩ = some (.int .i64 vk)
  c3 : w.cell? ⟨q, o + 3, none⟩ = some (.int .i64 vn)
  c4 : w.cell? ⟨q, o + 4, none⟩ = some (.slice a m c)
theorem At5.low {B : Nat} {w w' : World} {q o : Nat} {k : Int} {n : ByteArray} {vk vn : Int} {a : Option Addr} {m c : Nat} (h : At5 w q o k n vk vn a m c) (hb : Below B w w') (hq : q < B) : At5 w' q o k n vk vn a m c := by
  have e : ∀ i, w'.cell? ⟨q, i, none⟩ = w.cell? ⟨q, i, none⟩ := fun i => by simp only [World.cell?, hb.block q hq]
  exact ⟨by rw [e]; exact h.c0, by rw [e]; exact h.c1, by rw [e]; exact h.c2, by rw [e]; exact h.c3, by rw [e]; exact h.c4⟩
theorem exAt.open {w : World} {A : Nat → Prop} {x : Ex} {q o : Nat} (h : exAt w A x q o) : ∃ k n vk vn a m c, At5 w q o k n vk vn a m c ∧ ExV w A x (.agg #[.int .i64 k, .string n, .int .i64 vk, .int .i64 vn, .slice a m c]) := by
  obtain ⟨k, n, v, l⟩ := x
  unfold exAt at h
  obtain ⟨h0, h1, h2, h3, K, h4, h5⟩ := h
  obtain ⟨a, c, rfl⟩ := h5.shape
  exact ⟨k, n, v.kind, v.n, a, l.length, c, ⟨h0, h1, h2, h3, h4⟩, _, rfl, h5⟩
end Go.Proofs.YtaffplmfnincfaaGreatDoor
/- math.Print: operands, calls, trees. -/
namespace Go.Proofs.YtaffplmfnincfaaGreatDoor
set_option linter.unusedVariables false
open Go.RowKit
end Go.Proofs.YtaffplmfnincfaaGreatDoor
/- math.Print: calls of one, trees. -/
namespace Go.Proofs.YtaffplmfnincfaaGreatDoor
set_option linter.unusedVariables false
open Go.RowKit
end Go.Proofs.YtaffplmfnincfaaGreatDoor
/- math.Print; Same of trees. -/
namespace Go.Proofs.YtaffplmfnincfaaGreatDoor
set_option linter.unusedVariables false
open Go.RowKit
/-! ### How long a text is -/
mutual
def nodes : Ex → Nat
  | .mk k n v l => 1 + nodesK l
def nodesK : List Ex → Nat
  | [] => 0
  | t :: r => nodes t + nodesK r
end
theorem nodes_n (v : Vl) : nodes (exN v) = 1 := by unfold exN; rw [nodes, nodesK]
theorem nodes_r (n : ByteArray) : nodes (exR n) = 1 := by unfold exR; rw [nodes, nodesK]
theorem nodes_1 (n : ByteArray) (x : Ex) : nodes (exC n [x]) = 1 + nodes x := by unfold exC; rw [nodes, nodesK, nodesK]; rfl
theorem nodes_2 (n : ByteArray) (x y : Ex) : nodes (exC n [x, y]) = 1 + nodes x + nodes y := by unfold exC; rw [nodes, nodesK, nodesK, nodesK]; omega
/-- A tree has no more nodes than tokens. -/
theorem RL.nodes {J : JK} {L L' : List Tk} {x : Ex} (h : RL J L x L') : nodes x + L'.length ≤ L.length + (match J with | .lp _ y => Go.Proofs.YtaffplmfnincfaaGreatDoor.nodes y | _ => 0) := by
  induction h with
  | top h ih => exact ih
  | opLp _ _ _ ih1 ih2 => simp only at ih1 ih2 ⊢; omega
  | lpEnd => simp only; omega
  | lpRel _ _ ih => simp only [List.length_cons, nodes_2] at ih ⊢; omega
  | lpMore _ _ _ _ _ ih1 ih2 => simp only [List.length_cons, nodes_2] at ih1 ih2 ⊢; omega
  | odBr _ _ ih => simp only [List.length_cons] at ih ⊢; omega
  | odNum => simp only [List.length_cons, nodes_n]; omega
  | odRef => simp only [List.length_cons, nodes_r]; omega
  | odFn _ _ _ _ ih => simp only [List.length_cons, nodes_1] at ih ⊢; omega
  | odSg _ _ _ _ _ _ ih => simp only [List.length_cons, nodes_1] at ih ⊢; omega
  | br _ _ _ ih => simp only [List.length_cons] at ih ⊢; omega
theorem TkSt.len {s : ByteArray} : ∀ (C : List Tk) (i : Nat) (e : Tk), TkSt parC s i (C ++ [e]) → (∀ t ∈ C, Says t) → i ≤ s.size → C.length + i ≤ s.size := by
  intro C
  induction C with
  | nil => intro i e _ _ hi; simpa using hi
  | cons t C ih =>
    intro i e h hC hi
    have ht := h.head
    have h1 := nxt_more s i hi (by rw [ht]; exact hC t (by simp))
    have := ih _ e (h.tail (by simp)) (fun u hu => hC u (by simp [hu])) h1.2
    simp only [List.length_cons]
    omega
theorem Whole.nodes {s : ByteArray} {x : Ex} (h : Whole (par := parC) s x) : Go.Proofs.YtaffplmfnincfaaGreatDoor.nodes x ≤ s.size ∧ WF parC x := by
  obtain ⟨C, e, h1, he, hl, hS, hR, hW⟩ := h.toks
  refine ⟨?_, hW⟩
  have h2 := (hR [e] (by simp) hl).nodes
  have h3 := TkSt.len C _ e h1 hS (skipB_le s 0 (Nat.zero_le _)).2
  simp only [List.length_append, List.length_singleton] at h2
  omega
/-! ### Print -/
end Go.Proofs.YtaffplmfnincfaaGreatDoor
/- Trees: kids one by one; Same of a tree with itself; Texts. -/
namespace Go.Proofs.YtaffplmfnincfaaGreatDoor
set_option linter.unusedVariables false
open Go.RowKit
def ex0 : Ex := exR ⟨#[]⟩
theorem kidsF_at {w : World} {A : Nat → Prop} : ∀ (l : List Ex) (b o i : Nat), kidsF w A l b o → i < l.length → exAt w A (l.getD i ex0) b (o + i * 5)
  | [], _, _, _, _, h => absurd h (by simp)
  | t :: r, b, o, 0, h, _ => by unfold kidsF at h; simpa using h.1
  | t :: r, b, o, i + 1, h, hi => by
    unfold kidsF at h
    have := kidsF_at r b (o + 5) i h.2 (by simpa using hi)
    have e : o + 5 + i * 5 = o + (i + 1) * 5 := by omega
    rw [e] at this
    simpa using this
theorem kids_at {w : World} {A : Nat → Prop} {l : List Ex} {a : Option Addr} {m c : Nat} (h : kidsV w A l (.slice a m c)) (i : Nat) (hi : i < l.length) : ∃ b o, a = some ⟨b, o, none⟩ ∧ A b ∧ b < w.heap.size ∧ exAt w A (l.getD i ex0) b (o + i * 5) := by
  cases l with
  | nil => simp at hi
  | cons t r =>
    unfold kidsV at h
    obtain ⟨b, o, c', e, hA, hb, h1, h2⟩ := h
    injection e with e1 e2 e3
    refine ⟨b, o, e1, hA, hb, ?_⟩
    exact kidsF_at (t :: r) b o i (by unfold kidsF; exact ⟨h1, h2⟩) hi
theorem ExV.kids {w : World} {A : Nat → Prop} {x : Ex} {k : Int} {n : ByteArray} {vk vn : Int} {a : Option Addr} {m c : Nat} (h : ExV w A x (.agg #[.int .i64 k, .string n, .int .i64 vk, .int .i64 vn, .slice a m c])) : kidsV w A x.kids (.slice a m c) := by
  obtain ⟨K, h1, h2⟩ := h
  injection h1 with h1
  have e2 := congrArg Array.toList h1
  simp only [List.cons.injEq, and_true] at e2
  rw [e2.2.2.2.2]
  exact h2
theorem ExV.kid {w : World} {A : Nat → Prop} {x : Ex} {k : Int} {n : ByteArray} {vk vn : Int} {a : Option Addr} {m c : Nat} (h : ExV w A x (.agg #[.int .i64 k, .string n, .int .i64 vk, .int .i64 vn, .slice a m c])) (i : Nat) (hi : i < m) : ∃ b o, a = some ⟨b, o, none⟩ ∧ A b ∧ ∃ k' n' vk' vn' a' m' c', At5 w b (o + i * 5) k' n' vk' vn' a' m' c' ∧ ExV w A (x.kids.getD i ex0) (.agg #[.int .i64 k', .string n', .int .i64 vk', .int .i64 vn', .slice a' m' c']) := by
  have hm := h.parts.2.2.2.2
  obtain ⟨b, o, h1, h2, h3, h4⟩ := kids_at h.kids i (by rw [← hm]; exact hi)
  exact ⟨b, o, h1, h2, h4.open⟩
end Go.Proofs.YtaffplmfnincfaaGreatDoor
