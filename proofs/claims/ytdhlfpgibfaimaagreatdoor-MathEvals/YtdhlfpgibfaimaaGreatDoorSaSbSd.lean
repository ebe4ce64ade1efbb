/- Sa;SbSd. -/
import Derived.Test.YtdhlfpgibfaimaaGreatDoorSm
import Derived.Test.YtdhlfpgibfaimaaGreatDoorNmQb
import Derived.BigQuiet
import Derived.Test.YtdhlfpgibfaimaaGreatDoorVoVpVw
import Derived.Test.YtdhlfpgibfaimaaGreatDoorRmRp
import Derived.Laws.OwnMore
import Derived.Laws.MakeOwn
import Derived.Deep.OwnRows

set_option maxRecDepth 100000
set_option maxHeartbeats 2000000
set_option linter.unusedVariables false
namespace Go.Proofs.YtdhlfpgibfaimaaGreatDoor
open Go.RowKit
structure Pn where
 at' : Int
 v : Vl
def pn0 : Pn:=⟨0,zer⟩
def encP : Enc Pn where
 arr a:=[.int .i64 a.at',.int .i64 a.v.kind,.int .i64 a.v.n]
 d:=pn0
 k:=3
 len _:=rfl
 one _ u hu:=by simp at hu;rcases hu with rfl | rfl | rfl <;> rfl
 pos:=by decide
abbrev Pns:=Sls encP
def howB (s : ByteArray) : Bool:=s.toList == [108,97,115,116] || s.toList == [109,105,110] || s.toList == [109,97,120] || s.toList == [115,117,109] || s.toList == [109,101,97,110] || s.toList == [99,111,117,110,116]
theorem sdo_any (op : ByteArray) (v : Value) (l : List Vl) (w : World) (hv : Vls w v l) (hl : l.length ≤ 1000000000) :
 Calls Tryz.prog 118 #[.string op,v] w fun e w'=>e = .returned (vlV (doV op l))∧Below w.heap.size w w':=by
 have hO : Below w.heap.size w (w.alloc (vlO zer)):=(Below.refl _ _).alloc (Nat.le_refl _) _
 have hd:=do_any op v l (w.alloc (vlO zer)) (hv.grow hO) hl
 generalize doV op l = R at *
 generalize doE op l = E at *
 have h4 : VlAt (w.alloc (vlO zer)) w.heap.size zer:=vlNew w zer
 unfold vlO zer vlV at *
 go_enter Tryz.func118,Tryz.ntmps118
 go_wp2_with (first
  | (go_at_call 117;refine hd.mono ?_;rintro e w1 ⟨rfl,hb1⟩;have hB1:=hO.trans (hb1.mono hO.size);have k4:=h4.grow hb1;have hz : w.heap.size < w1.heap.size:=k4.lt;obtain ⟨c0,c1⟩:=k4.cells;obtain ⟨f0,f1⟩:=k4.frozen))
 refine ret_cell (v:=R) Tryz.results118 rfl ((vlSet k4).alloc _) ⟨rfl,?_⟩
 exact (belTwo _ _ hB1 (Nat.le_refl _)).alloc (belTwo _ _ hB1 (Nat.le_refl _)).size _
def unkB (p : Pn) : Bool:=decide (p.v = nul) || decide (p.v = nan)
end Go.Proofs.YtdhlfpgibfaimaaGreatDoor

set_option linter.unusedVariables false
namespace Go.Proofs.YtdhlfpgibfaimaaGreatDoor
open Go.RowKit
theorem row2V (w : World) (a b : Vl) : Vls (w.alloc (.cells #[.int .i64 a.kind,.int .i64 a.n,.int .i64 b.kind,.int .i64 b.n] 24)) (.slice (some ⟨w.heap.size,0,none⟩) 2 2) [a,b]:=by
 refine ⟨_,_,rfl,.inr ⟨_,_,rfl,fun t ht=>?_⟩⟩
 have h : (w.alloc (.cells #[.int .i64 a.kind,.int .i64 a.n,.int .i64 b.kind,.int .i64 b.n] 24)).heap[w.heap.size]? = some (.cells #[.int .i64 a.kind,.int .i64 a.n,.int .i64 b.kind,.int .i64 b.n] 24):=by
  show (w.heap.push _)[w.heap.size]? = _;simp
 have ht2 : t = 0 ∨ t = 1:=by simp at ht;omega
 unfold VAt World.cell?
 rw [h]
 rcases ht2 with rfl | rfl <;> simp
def plusV (t : Vl) (p : Pn) : Vl:=doV ⟨#[43]⟩ [t,p.v]
def sumV : List Pn→Vl
 | []=>zer
 | p :: r=>r.foldl plusV p.v
section
variable {w w' : World} {x : Nat} {p q : Pn}
end
def later (f p : Pn) : Pn:=if f.at' ≤ p.at' then p else f
def lastP (l : List Pn) : Pn:=l.foldl later (l.getD 0 pn0)
end Go.Proofs.YtdhlfpgibfaimaaGreatDoor
namespace Go.Proofs.YtdhlfpgibfaimaaGreatDoor
open Go.RowKit
def utP (op : ByteArray) (f : Vl) (p : Pn) : Vl:=if truB (doV op [p.v,f]) = true then p.v else f
def utV (op : ByteArray) (l : List Pn) : Vl:=l.foldl (utP op) (l.getD 0 pn0).v
section
variable {α : Type} {E : Enc α}
theorem flat_getAt (l : List α) (j : Nat) (hj : j < l.length * E.k) : (flat E l)[j]? = (E.arr (l.getD (j / E.k) E.d))[j % E.k]?:=by
 have h1 : j / E.k < l.length:=(Nat.div_lt_iff_lt_mul E.pos).2 hj
 have h2:=flat_get (E:=E) l (j / E.k) (j % E.k) h1 (Nat.mod_lt _ E.pos)
 rw [Nat.div_add_mod' j E.k] at h2
 exact h2
theorem made_flat (z : Value) (n : Nat) (hz : E.arr E.d = z.cells.toList) : (madeCells z.cells (n * E.k)).toList = flat E (List.replicate n E.d):=by
 have hk : z.cells.size = E.k:=by rw [← Array.length_toList,← hz,E.len]
 apply List.ext_getElem?
 intro j
 by_cases hj : j < n * E.k
 · rw [flat_getAt _ j (by rw [List.length_replicate];exact hj)]
   have hm : j % E.k < z.cells.size:=by rw [hk];exact Nat.mod_lt _ E.pos
   have hd : (List.replicate n E.d).getD (j / E.k) E.d = E.d:=by
    rw [List.getD_eq_getElem?_getD,List.getElem?_replicate]
    split <;> rfl
   rw [hd,hz]
   simp [madeCells,hj,hk]
   rw [Array.getElem?_eq_getElem hm]
   congr 1
   exact getElem!_pos z.cells (j % E.k) hm
 · rw [List.getElem?_eq_none (by simp [madeCells];omega),List.getElem?_eq_none (by rw [flat_len,List.length_replicate];omega)]
theorem run_makeR (T : RowTy E) (n : Nat) (hn : n ≤ 1000000000) (w : World) : (Instr.makeSlice T.st (.int .i64 (n : Int)) (.int .i64 (n : Int))).run Tryz.prog w = .ok (.slice (some ⟨w.heap.size,0,none⟩) n n) (w.alloc (.cells (madeCells T.z.cells (n * E.k)) T.et)):=by
 obtain ⟨i0,hi,hz0,hz1,hz2⟩:=info_parts T.hi
 have hb : T.bytes * n ≤ 64 * 1000000000:=Nat.mul_le_mul T.hb hn
 have:=run_make (P:=Tryz.prog) w T.st T.et i0 T.z T.hu hi hz0 .i64 .i64 (n : Int) (n : Int) (by omega) (Int.le_refl _) (by rw [hz2,← Int.natCast_mul];omega) (by omega)
 rw [hz1] at this
 simpa using this
theorem own_madeR (T : RowTy E) (hz : E.arr E.d = T.z.cells.toList) (w : World) (n : Nat) (hn : n ≤ 1000000000) : OwnS T (w.alloc (.cells (madeCells T.z.cells (n * E.k)) T.et)) w.heap.size (.slice (some ⟨w.heap.size,0,none⟩) n n) (List.replicate n E.d):=by
 have h:=World.ownsRow_lit w (base:=w.heap.size) (e:=T.et) (size:=E.k) (madeCells T.z.cells (n * E.k)) n (Nat.le_refl _) (by unfold maxLen;omega) (size_madeCells _ _)
 unfold OwnS
 rw [List.length_replicate,← made_flat T.z n hz]
 exact h
theorem OwnS.cellR {T : RowTy E} {w : World} {base g n cap : Nat} {xs : List α} (h : OwnS T w base (.slice (some ⟨g,0,none⟩) n cap) xs) (hn : n = xs.length) (t i : Nat) (ht : t < n) (hi : i < E.k) : w.cell? ⟨g,t * E.k + i,none⟩ = (E.arr (xs.getD t E.d))[i]?∧w.frozen? ⟨g,t * E.k + i,none⟩ = false:=by
 subst hn
 refine ⟨?_,World.ownsRow.frozenAt h _⟩
 have h2 : t * E.k + i < xs.length * E.k:=by
  have:=Nat.mul_le_mul_right E.k (Nat.succ_le_of_lt ht)
  rw [Nat.succ_mul] at this
  omega
 rw [World.ownsRow.cellAt h _ h2]
 exact flat_get xs t i ht hi
end
def encV : Enc Vl where
 arr v:=[.int .i64 v.kind,.int .i64 v.n]
 d:=zer
 k:=2
 len _:=rfl
 one _ u hu:=by simp at hu;rcases hu with rfl | rfl <;> rfl
 pos:=by decide
def TV : RowTy encV where
 st:=50
 et:=24
 z:=.agg #[.int .i64 0,.int .i64 0]
 bytes:=16
 hu:=Tryz.underlying50
 hi:=by kernel_rfl
 hz:=rfl
 hb:=by decide
def valsP (l : List Pn) : List Vl:=l.map (·.v)
def padP (m : List Pn) (k : Nat) : List Vl:=valsP (m.take k) ++ List.replicate (m.length - k) zer
end Go.Proofs.YtdhlfpgibfaimaaGreatDoor
