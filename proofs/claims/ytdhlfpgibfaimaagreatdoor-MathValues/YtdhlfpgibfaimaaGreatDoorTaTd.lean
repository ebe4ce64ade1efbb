/- Ta; Tb; Tc; Td. -/
import Derived.Deep.RegionLaw
import Derived.Test.YtdhlfpgibfaimaaGreatDoorSxSy
import Derived.Test.YtdhlfpgibfaimaaGreatDoorCpAr
import Derived.ChangeOld
/- own: series with all that is theirs in new memory. -/
namespace Go.Proofs.YtdhlfpgibfaimaaGreatDoor
set_option linter.unusedVariables false
open Go.RowKit
end Go.Proofs.YtdhlfpgibfaimaaGreatDoor
/- small. -/
namespace Go.Proofs.YtdhlfpgibfaimaaGreatDoor
set_option linter.unusedVariables false
open Go.RowKit
/-- What small tells: at most 60 series. -/
def SmallQ (n : Nat) (w : World) (e : Ending) (w' : World) : Prop := ∃ B, e = .returned (.bool B) ∧ (B = true → n ≤ 60) ∧ Below w.heap.size w w'
end Go.Proofs.YtdhlfpgibfaimaaGreatDoor
/- Lists of series and of points that came in. -/
namespace Go.Proofs.YtdhlfpgibfaimaaGreatDoor
set_option linter.unusedVariables false
open Go.RowKit Go.ChangeShapes Go.WideShapes Go.ChangeAt Go.Deep
section
variable {H : Type} {enc : TypeId × Value → H} {W : World} {n : Nat}
set_option maxRecDepth 100000 in
/-- A value's cells, read. -/
theorem vl_cells {cs : List Value} {x : DataW H × List MemPlace} (hl : cs.length = 2) (h : DataW.trod enc Tryz.prog W 0 (fun _ => true) true n 24 cs = some x) : ∃ v : Vl, cs = [.int .i64 v.kind, .int .i64 v.n] := by
  match cs, hl with
  | [v0, v1], _ =>
    obtain ⟨xs, k, _, _, _, hxl, hf⟩ := DataW.trod_struct Tryz.underlying24 h
    have g0 : DataW.trod enc Tryz.prog W 0 (fun _ => true) true k 3 (([v0, v1].drop 0).take (Tryz.prog.cellsOf 3)) = xs[0]? := hf 0 _ rfl
    have g1 : DataW.trod enc Tryz.prog W 0 (fun _ => true) true k 2 (([v0, v1].drop 1).take (Tryz.prog.cellsOf 2)) = xs[1]? := hf 1 _ rfl
    have k3 : Tryz.prog.cellsOf 3 = 1 := by kernel_rfl
    have k2 : Tryz.prog.cellsOf 2 = 1 := by kernel_rfl
    simp only [k3, k2, List.drop_zero, List.drop_succ_cons, List.take_succ_cons, List.take_zero] at g0 g1
    match xs, hxl with
    | [y0, y1], _ =>
      simp at g0 g1
      obtain ⟨a0, h01, _, h03⟩ := DataW.trod_int Tryz.underlying3 g0
      obtain ⟨a1, h11, _, h13⟩ := DataW.trod_int Tryz.underlying2 g1
      simp at h01 h11
      subst h01 h11
      exact ⟨⟨a0, a1⟩, rfl⟩
/-- What is told of a series that came in. -/
def SeIn (W : World) (x : Se) : Prop := Lbs W (.slice x.a x.n x.c) x.labs ∧ LbsR x.labs ∧ x.labs.length ≤ 4398046511104
end
end Go.Proofs.YtdhlfpgibfaimaaGreatDoor
/- Lists of series by what they are: own, Sort, Map, Join and the document's Same in these words. -/
namespace Go.Proofs.YtdhlfpgibfaimaaGreatDoor
set_option linter.unusedVariables false
open Go.RowKit
/-- A slice of n series that are F. -/
def IsSer (w : World) (a : Option Addr) (n c : Nat) (F : List Series10.Sr) : Prop := ∃ l : List Se, n = l.length ∧ Srs w (.slice a n c) l ∧ (∀ x ∈ l, Lbs w (.slice x.a x.n x.c) x.labs) ∧ l.map serOf = F
/-- Labels as long as they can come in. -/
def FR (F : List Series10.Sr) : Prop := ∀ s ∈ F, LbsR s.labels ∧ s.labels.length ≤ 4398046511104
theorem IsSer.grow {w w' : World} {a : Option Addr} {n c : Nat} {F : List Series10.Sr} (h : IsSer w a n c F) (hb : Below w.heap.size w w') : IsSer w' a n c F := by
  obtain ⟨l, h1, h2, h3, h4⟩ := h
  exact ⟨l, h1, Sls.grow h2 hb, fun x hx => Sls.grow (h3 x hx) hb, h4⟩
theorem IsSer.len {w : World} {a : Option Addr} {n c : Nat} {F : List Series10.Sr} (h : IsSer w a n c F) : n = F.length := by
  obtain ⟨l, h1, _, _, h4⟩ := h
  rw [h1, ← h4, List.length_map]
theorem FR.of {l : List Se} (h : FR (l.map serOf)) : ∀ x ∈ l, LbsR x.labs ∧ x.labs.length ≤ 4398046511104 := fun x hx => h (serOf x) (List.mem_map.2 ⟨x, hx, rfl⟩)
theorem FR.frame {F : List Series10.Sr} (h : Series10.IsFrame F) : FR F := fun s hs => ⟨lbsR_of (h.1 s hs), by have := (h.1 s hs).2.2; omega⟩
/-- Each value reckoned. -/
def mapF (op : ByteArray) (F : List Series10.Sr) : List Series10.Sr := F.map fun s => ⟨s.labels, doV op [s.value]⟩
/-- The document's Same. -/
theorem sameF {w : World} {a a2 : Option Addr} {n n2 c c2 : Nat} {F F2 : List Series10.Sr} (h : IsSer w a n c F) (h' : IsSer w a2 n2 c2 F2) (hF : FR F) (hF2 : FR F2) (hs : ∀ s ∈ F, s.labels.length ≤ 1000000) (hs2 : ∀ s ∈ F2, s.labels.length ≤ 1000000) (hl : n ≤ 1000000) (hl2 : n2 ≤ 1000000) :
    Calls Tryz.prog 22 #[.slice a n c, .slice a2 n2 c2] w fun e w' => e = .returned (.bool (decide (F = F2))) ∧ Below w.heap.size w w' := by
  obtain ⟨l, rfl, h2, h3, rfl⟩ := h
  obtain ⟨m, rfl, h4, h5, rfl⟩ := h'
  refine (same_ser _ _ l m w h2 h4 (fun x hx => ⟨h3 x hx, hs _ (List.mem_map.2 ⟨x, hx, rfl⟩)⟩) (fun x hx => ⟨h5 x hx, hs2 _ (List.mem_map.2 ⟨x, hx, rfl⟩)⟩) hl hl2).mono ?_
  rintro e w' ⟨rfl, hb⟩
  refine ⟨?_, hb⟩
  by_cases hh : l.map serOf = m.map serOf
  · rw [decide_eq_true hh, decide_eq_true (show SameS l m from hh)]
  · rw [decide_eq_false hh, decide_eq_false (show ¬ SameS l m from hh)]
/-- Join. -/
theorem joinF {op : ByteArray} {w : World} {a a2 : Option Addr} {n n2 c c2 : Nat} {F F2 out : List Series10.Sr} {er : Int} (h : IsSer w a n c F) (h' : IsSer w a2 n2 c2 F2) (hF : FR F) (hF2 : FR F2) (hl : n ≤ 1000000) (hl2 : n2 ≤ 1000000) (hj : JoinT op F F2 out er) :
    Calls Tryz.prog 75 #[.string op, .slice a n c, .slice a2 n2 c2] w fun e w' => ∃ a' n' c', e = .returned (.tuple #[.slice a' n' c', .int .i64 er]) ∧ Hid (IsSer w' a' n' c' out ∧ Below w.heap.size w w') := by
  obtain ⟨l, rfl, h2, h3, rfl⟩ := h
  obtain ⟨m, rfl, h4, h5, rfl⟩ := h'
  refine (join_ser op _ _ l m w h2 h4 h3 h5 (FR.of hF) (FR.of hF2) hl hl2).mono ?_
  rintro e w' ⟨vo, o, er', rfl, hj', ho, hok, hb⟩
  obtain ⟨h6, rfl⟩ := hj'.one hj
  obtain ⟨a', c', rfl⟩ := ho.shape
  exact ⟨a', _, c', rfl, ⟨o, rfl, ho.sls, hok, h6⟩, hb⟩
end Go.Proofs.YtdhlfpgibfaimaaGreatDoor

