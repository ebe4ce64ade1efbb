/- The loop of page.Write: what stands between two rounds, and where one leaves. -/
import Derived.Test.YtcgjolonapndgaaPChk
import Derived.Test.YtcgjolonapndgaaPWri
namespace Go.Proofs.Ytcgjolonapndgaa
set_option linter.unusedVariables false
open Go.RowKit Go.Maps Go.ChangeMaps Go.MapKept Go.Shelf
theorem putFrom_go {s : St} {n : Int} {b : List Int} {z k P : Nat} (hk : k < P) (he : s.errWrite (n + k) [part b z k] = 0) : putFrom s n b z k (P - k) = putFrom (s.write (n + k) [part b z k]) n b z (k + 1) (P - (k + 1)) := by
  obtain ⟨m, hm⟩ : ∃ m, P - k = m + 1 := ⟨P - k - 1, by omega⟩
  rw [hm, show P - (k + 1) = m by omega]
  show (if _ then _ else _) = _
  rw [if_pos he]
theorem putFrom_stop {s : St} {n : Int} {b : List Int} {z k P : Nat} (hk : k < P) (he : s.errWrite (n + k) [part b z k] ≠ 0) : putFrom s n b z k (P - k) = (s.write (n + k) [part b z k], s.errWrite (n + k) [part b z k]) := by
  obtain ⟨m, hm⟩ : ∃ m, P - k = m + 1 := ⟨P - k - 1, by omega⟩
  rw [hm]
  show (if _ then _ else _) = _
  rw [if_neg he]
theorem snoc_range {pre : List Nat} {x : Nat} (h : pre ++ [x] = List.range (pre ++ [x]).length) : pre = List.range pre.length ∧ x = pre.length := by
  rw [List.length_append, List.length_singleton, List.range_succ] at h
  obtain ⟨h1, h2⟩ := List.append_inj' h rfl
  exact ⟨h1, by simpa using h2⟩
theorem keepC_t {sb nb : Nat} {A B C : World} (h : KeepC sb nb A B) (k : KeepC sb nb B C) : KeepC sb nb A C := ⟨k.1.trans h.1, k.2.trans h.2⟩
theorem keepC_b {sb nb : Nat} {w : World} (h1 : sb < w.heap.size) (h2 : nb < w.heap.size) (W : World) (l : Nat) (o o' : Obj) (hl : w.heap.size ≤ l) (_ : W.heap[l]? = some o) (_ : o.isCells = false) (_ : o.isWalk = false) : KeepC sb nb W (W.putObj l o') :=
  ⟨World.putObj_heap_other (by omega), World.putObj_heap_other (by omega)⟩
section
variable {W0 : World} {p : Nat} {F0 : Nat → Prop} {bs bf nb rb z ops f P : Nat} {PB : List Int} {R : St × Int} {s : St}
/-- Between two rounds. -/
def LoopA (W0 : World) (p : Nat) (F0 : Nat → Prop) (bs bf nb rb z ops f : Nat) (PB : List Int) (P : Nat) (R : St × Int) (pre : List Nat) (W : World) : Prop :=
  ∃ (s' : St) (m : Nat), m = f + pre.length ∧ LoopI W0 p F0 bs bf nb rb z ops W pre.length s' ∧ Bx W nb (.int .i64 (m : Int)) 3 ∧ Bx W rb (.int .i64 0) 27 ∧ (pre = List.range pre.length → putFrom s' f PB z pre.length (P - pre.length) = R)
/-- A round has left. -/
def LoopX (W0 : World) (p : Nat) (F0 : Nat → Prop) (bs bf nb rb z ops f : Nat) (PB : List Int) (P : Nat) (R : St × Int) (c : Code) (pre : List Nat) (W : World) : Prop :=
  c = .ret ∧ ∃ (s' : St) (er : Int), LoopI W0 p F0 bs bf nb rb z ops W pre.length s' ∧ Bx W rb (.int .i64 er) 27 ∧ (pre = List.range pre.length → R = (s', er))
theorem Bx.own {A W : World} {b : Nat} {v : Value} {t : TypeId} {row : Option Nat} (h : Bx A b v t) (hg : A.grownBy W row) (hr : ∀ r, row = some r → ∃ o : Obj, A.heap[r]? = some o ∧ o.isCells = false) : Bx W b v t :=
  (hg.block b h.lt (fun e => by
    obtain ⟨o, ho, hi⟩ := hr b e.symm
    unfold Bx at h
    rw [h] at ho
    cases ho
    cases hi)).trans h
theorem loopA_own (h1 : bs < W0.heap.size) (h2 : bf < W0.heap.size) : OwnFrom W0.heap.size (LoopA W0 p F0 bs bf nb rb z ops f PB P R) := by
  rintro pre W W' row ⟨s', m, e, hL, hn, hr, hs⟩ hg hrow
  exact ⟨s', m, e, hL.own h1 h2 hg hrow, hn.own hg (fun r e => (hrow r e).2), hr.own hg (fun r e => (hrow r e).2), hs⟩
theorem loopX_own (h1 : bs < W0.heap.size) (h2 : bf < W0.heap.size) (c : Code) : OwnFrom W0.heap.size (LoopX W0 p F0 bs bf nb rb z ops f PB P R c) := by
  rintro pre W W' row ⟨hc, s', er, hL, hr, hs⟩ hg hrow
  exact ⟨hc, s', er, hL.own h1 h2 hg hrow, hr.own hg (fun r e => (hrow r e).2), hs⟩
theorem loopA_start (hd : IsDB W0 p F0 s bs bf) (hz : s.size = z) (hn : Bx W0 nb (.int .i64 (f : Int)) 3) (hr : Bx W0 rb (.int .i64 0) 27) (hR : R = putFrom s f PB z 0 P) : LoopA W0 p F0 bs bf nb rb z s.ops f PB P R [] W0 :=
  ⟨s, f, rfl, ⟨⟨F0, hd, fun j hj => .inl hj⟩, Frm.refl _ _, hz, Nat.le_refl _⟩, hn, hr, fun _ => hR.symm⟩
/-- Behind the loop. -/
theorem loop_fin {w W : World} {F : Nat → Prop} {k : Nat} (hL : LoopI W0 p F0 bs bf nb rb z ops W k s) (hb : Below w.heap.size w W0) (hF0 : ∀ j, F0 j → F j ∧ j < w.heap.size) (h1 : w.heap.size ≤ nb) (h2 : w.heap.size ≤ rb) : Turned w p F s W := by
  obtain ⟨⟨F', hd, hF⟩, hf, _⟩ := hL
  obtain ⟨F2, hd2, hF2, _⟩ := hd.tighten
  refine ⟨F2, hd2.isD, (Frm.of_below hb F).trans hf (fun j hj => ?_), fun j hj => ⟨?_, (hF2 j hj).2⟩⟩
  · rcases hj with h | rfl | rfl
    · exact .inl (hF0 j h).1
    · exact .inr h1
    · exact .inr h2
  · rcases hF j (hF2 j hj).1 with h | h
    · exact .inl (hF0 j h).1
    · exact .inr (Nat.le_trans hb.size h)
end
end Go.Proofs.Ytcgjolonapndgaa
