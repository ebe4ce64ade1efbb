import Derived.Deep.RegionLaw
import Derived.Test.YtdhlfpgibfaimaaGreatDoorSxSy
import Derived.Test.YtdhlfpgibfaimaaGreatDoorCpAr
import Derived.ChangeOld
set_option maxRecDepth 100000
set_option linter.unusedVariables false
namespace Go.Proofs.YtdhlfpgibfaimaaGreatDoor
open Go.RowKit
def SmallQ (n : Nat) (w : World) (e : Ending) (w' : World) : Prop:=∃ B,e = .returned (.bool B)∧(B = true→n ≤ 60)∧Below w.heap.size w w'
end Go.Proofs.YtdhlfpgibfaimaaGreatDoor
namespace Go.Proofs.YtdhlfpgibfaimaaGreatDoor
open Go.RowKit Go.ChangeShapes Go.WideShapes Go.ChangeAt Go.Deep
section
variable {H : Type} {enc : TypeId × Value→H} {W : World} {n : Nat}
theorem rows_of_trodb {α : Type} {E : Enc α} (T : RowTy E) (good : α→Prop) (hk : Tryz.prog.cellsOf T.et = E.k) (hbt : Tryz.prog.bytesOf T.et = T.bytes) (hb0 : 0 < T.bytes)
 (elem : ∀ (m : Nat) (cs : List Value) (x : DataW H × List MemPlace),cs.length = E.k→DataW.trod enc Tryz.prog W 0 (fun _=>true) true m T.et cs = some x→Fits x.1 T.et→∃ p,cs = E.arr p∧good p)
 {v : Value} {x : DataW H × List MemPlace} (h : DataW.trod enc Tryz.prog W 0 (fun _=>true) true n T.st [v] = some x) (hF : Fits x.1 T.st) : ∃ l,Sls E W v l∧(∀ p ∈ l,good p)∧l.length * T.bytes ≤ reachBytes:=by
 rcases open_slice T.hu h with ⟨hcs,_⟩ | ⟨a,len,cap,m,k,D,Pl,hcs,_,hl,hm,hmm,hxx,hx⟩
 · simp at hcs
   subst hcs
   exact ⟨[],sls_nil _,(fun p hp=>by cases hp),by simp⟩
 · simp at hcs hmm
   subst hcs hmm
   rw [hk] at hx
   have hlr : len * T.bytes ≤ reachBytes:=by
    have:=hF ((len + (m - len)) * Tryz.prog.bytesOf T.et) (by rw [hxx];simp [DataW.weights,T.hu])
    rw [hbt] at this
    have h2 : len * T.bytes ≤ (len + (m - len)) * T.bytes:=Nat.mul_le_mul_right _ (by omega)
    omega
   by_cases h0 : len = 0
   · subst h0
     exact ⟨[],⟨some a,m,rfl,⟨(fun e=>by cases e),by simp⟩,.inl rfl⟩,(fun p hp=>by cases hp),by simp⟩
   · obtain ⟨b,o,spot⟩:=a
     obtain ⟨cs0,hc0,_⟩:=hx 0 (by omega)
     obtain ⟨_,hlen0,hcell0⟩:=World.cells?_some hc0
     have hc00:=hcell0 0 E.pos
     rw [List.getElem?_eq_getElem (by rw [hlen0];exact E.pos)] at hc00
     have hspot : spot = none:=by simpa [Addr.add] using World.cell?_spot hc00
     subst hspot
     have hv : ∀ i,i < len→∃ q : α,At E W b (o + i * E.k) q∧good q:=fun i hi=>by
      obtain ⟨cs,h1,h2⟩:=hx i (by omega)
      rw [ladd_at] at h1
      obtain ⟨hcl,hcc⟩:=cells_at h1
      obtain ⟨p,rfl,hg⟩:=elem _ _ _ hcl h2 (fun q hq=>hF q (by
       rw [hxx]
       simp only [DataW.weights,T.hu,List.mem_cons,List.mem_append]
       exact .inr (.inl (weightsAll_in (List.mem_map.2 ⟨i,List.mem_range.2 hi,rfl⟩) q hq))))
      exact ⟨p,fun j u hu=>hcc j u hu,hg⟩
     obtain ⟨q,hq⟩ : ∃ q : Nat→α,∀ i,i < len→At E W b (o + i * E.k) (q i)∧good (q i):=by
      refine ⟨fun i=>if hi : i < len then Classical.choose (hv i hi) else E.d,fun i hi=>?_⟩
      simp only [hi,dif_pos]
      exact Classical.choose_spec (hv i hi)
     refine ⟨(List.range len).map q,⟨some ⟨b,o,none⟩,m,by simp,⟨(fun e=>by cases e),by simpa using hl⟩,.inr ⟨b,o,rfl,fun t ht=>?_⟩⟩,?_,by simpa using hlr⟩
     · have ht' : t < len:=by simpa using ht
       have eg : ((List.range len).map q).getD t E.d = q t:=by simp [ht']
       rw [eg]
       exact (hq t ht').1
     · intro y hy
       obtain ⟨i,hi,rfl⟩:=List.mem_map.1 hy
       exact (hq i (List.mem_range.1 hi)).2
theorem lbs_of_trodb {v : Value} {x : DataW H × List MemPlace} (h : DataW.trod enc Tryz.prog W 0 (fun _=>true) true n 84 [v] = some x) (hF : Fits x.1 84) : ∃ l,Lbs W v l∧LbsR l∧l.length ≤ 4398046511104:=by
 obtain ⟨l,h1,h2,h3⟩:=rows_of_trodb TL LbR (by kernel_rfl) (by kernel_rfl) (by decide) (fun _ _ _ hl h hF=>lb_of_trod hl h hF) h hF
 refine ⟨l,h1,h2,?_⟩
 replace h3 : l.length * 32 ≤ 140737488351232:=h3
 omega
theorem vl_cells {cs : List Value} {x : DataW H × List MemPlace} (hl : cs.length = 2) (h : DataW.trod enc Tryz.prog W 0 (fun _=>true) true n 24 cs = some x) : ∃ v : Vl,cs = [.int .i64 v.kind,.int .i64 v.n]:=by
 match cs,hl with
 | [v0,v1],_ =>
  obtain ⟨xs,k,_,_,_,hxl,hf⟩:=DataW.trod_struct Tryz.underlying24 h
  have g0 : DataW.trod enc Tryz.prog W 0 (fun _=>true) true k 3 (([v0,v1].drop 0).take (Tryz.prog.cellsOf 3)) = xs[0]?:=hf 0 _ rfl
  have g1 : DataW.trod enc Tryz.prog W 0 (fun _=>true) true k 2 (([v0,v1].drop 1).take (Tryz.prog.cellsOf 2)) = xs[1]?:=hf 1 _ rfl
  have k3 : Tryz.prog.cellsOf 3 = 1:=by kernel_rfl
  have k2 : Tryz.prog.cellsOf 2 = 1:=by kernel_rfl
  simp only [k3,k2,List.drop_zero,List.drop_succ_cons,List.take_succ_cons,List.take_zero] at g0 g1
  match xs,hxl with
  | [y0,y1],_ =>
   simp at g0 g1
   obtain ⟨a0,h01,_,h03⟩:=DataW.trod_int Tryz.underlying3 g0
   obtain ⟨a1,h11,_,h13⟩:=DataW.trod_int Tryz.underlying2 g1
   simp at h01 h11
   subst h01 h11
   exact ⟨⟨a0,a1⟩,rfl⟩
def SeIn (W : World) (x : Se) : Prop:=Lbs W (.slice x.a x.n x.c) x.labs∧LbsR x.labs∧x.labs.length ≤ 4398046511104
theorem se_of_trod {cs : List Value} {x : DataW H × List MemPlace} (hl : cs.length = 3) (h : DataW.trod enc Tryz.prog W 0 (fun _=>true) true n 86 cs = some x) (hF : Fits x.1 86) : ∃ p : Se,cs = encR.arr p∧SeIn W p:=by
 match cs,hl with
 | [v0,v1,v2],_ =>
  obtain ⟨xs,k,_,hxx,_,hxl,hf⟩:=DataW.trod_struct Tryz.underlying86 h
  have g0 : DataW.trod enc Tryz.prog W 0 (fun _=>true) true k 84 (([v0,v1,v2].drop 0).take (Tryz.prog.cellsOf 84)) = xs[0]?:=hf 0 _ rfl
  have g1 : DataW.trod enc Tryz.prog W 0 (fun _=>true) true k 24 (([v0,v1,v2].drop 1).take (Tryz.prog.cellsOf 24)) = xs[1]?:=hf 1 _ rfl
  have k25 : Tryz.prog.cellsOf 24 = 2:=by kernel_rfl
  have k47 : Tryz.prog.cellsOf 84 = 1:=by kernel_rfl
  simp only [k25,k47,List.drop_zero,List.drop_succ_cons,List.take_succ_cons,List.take_zero] at g0 g1
  match xs,hxl with
  | [y0,y1],_ =>
   simp at g0 g1
   have hw : ∀ q ∈ DataW.weightsEach Tryz.prog [84,24] [y0.1,y1.1],q ∈ x.1.weights Tryz.prog 86:=fun q hq=>by
    rw [hxx];simp only [DataW.weights,Tryz.underlying86];exact hq
   obtain ⟨l,h1,h2,h3⟩:=lbs_of_trodb g0 (fits_field (j:=0) hF hw rfl rfl)
   obtain ⟨a,c,rfl⟩:=h1.shape
   obtain ⟨u,hu⟩:=vl_cells (by simp) g1
   simp only [List.cons.injEq,and_true] at hu
   obtain ⟨rfl,rfl⟩:=hu
   exact ⟨⟨a,l.length,c,l,u⟩,rfl,h1,h2,h3⟩
theorem srs_of_trod {v : Value} {x : DataW H × List MemPlace} (h : DataW.trod enc Tryz.prog W 0 (fun _=>true) true n 43 [v] = some x) (hF : Fits x.1 43) : ∃ l,Srs W v l∧(∀ p ∈ l,SeIn W p)∧l.length ≤ 4398046511104:=by
 obtain ⟨l,h1,h2,h3⟩:=rows_of_trodb TR (SeIn W) (by kernel_rfl) (by kernel_rfl) (by decide) (fun _ _ _ hl h hF=>se_of_trod hl h hF) h hF
 refine ⟨l,h1,h2,?_⟩
 replace h3 : l.length * 40 ≤ 140737488351232:=h3
 omega
end
end Go.Proofs.YtdhlfpgibfaimaaGreatDoor
namespace Go.Proofs.YtdhlfpgibfaimaaGreatDoor
open Go.RowKit
def IsSer (w : World) (a : Option Addr) (n c : Nat) (F : List Series10.Sr) : Prop:=∃ l : List Se,n = l.length∧Srs w (.slice a n c) l∧(∀ x ∈ l,Lbs w (.slice x.a x.n x.c) x.labs)∧l.map serOf = F
def FR (F : List Series10.Sr) : Prop:=∀ s ∈ F,LbsR s.labels∧s.labels.length ≤ 4398046511104
theorem IsSer.grow {w w' : World} {a : Option Addr} {n c : Nat} {F : List Series10.Sr} (h : IsSer w a n c F) (hb : Below w.heap.size w w') : IsSer w' a n c F:=by
 obtain ⟨l,h1,h2,h3,h4⟩:=h
 exact ⟨l,h1,Sls.grow h2 hb,fun x hx=>Sls.grow (h3 x hx) hb,h4⟩
theorem IsSer.len {w : World} {a : Option Addr} {n c : Nat} {F : List Series10.Sr} (h : IsSer w a n c F) : n = F.length:=by
 obtain ⟨l,h1,_,_,h4⟩:=h
 rw [h1,← h4,List.length_map]
theorem FR.of {l : List Se} (h : FR (l.map serOf)) : ∀ x ∈ l,LbsR x.labs∧x.labs.length ≤ 4398046511104:=fun x hx=>h (serOf x) (List.mem_map.2 ⟨x,hx,rfl⟩)
theorem FR.frame {F : List Series10.Sr} (h : Series10.IsFrame F) : FR F:=fun s hs=>⟨lbsR_of (h.1 s hs),by have:=(h.1 s hs).2.2;omega⟩
theorem isSer_in {w : World} {a : Option Addr} {n c : Nat} {l : List Se} (h : Srs w (.slice a n c) l) (hi : ∀ p ∈ l,SeIn w p) : IsSer w a n c (l.map serOf)∧FR (l.map serOf):=by
 obtain ⟨a',c',e⟩:=h.shape
 injection e with e1 e2 e3
 exact ⟨⟨l,e2,h,fun x hx=>(hi x hx).1,rfl⟩,fun s hs=>by obtain ⟨x,hx,rfl⟩:=List.mem_map.1 hs;exact (hi x hx).2⟩
def mapF (op : ByteArray) (F : List Series10.Sr) : List Series10.Sr:=F.map fun s=>⟨s.labels,doV op [s.value]⟩
theorem sameF {w : World} {a a2 : Option Addr} {n n2 c c2 : Nat} {F F2 : List Series10.Sr} (h : IsSer w a n c F) (h' : IsSer w a2 n2 c2 F2) (hF : FR F) (hF2 : FR F2) (hs : ∀ s ∈ F,s.labels.length ≤ 1000000) (hs2 : ∀ s ∈ F2,s.labels.length ≤ 1000000) (hl : n ≤ 1000000) (hl2 : n2 ≤ 1000000) :
 Calls Tryz.prog 22 #[.slice a n c,.slice a2 n2 c2] w fun e w'=>e = .returned (.bool (decide (F = F2)))∧Below w.heap.size w w':=by
 obtain ⟨l,rfl,h2,h3,rfl⟩:=h
 obtain ⟨m,rfl,h4,h5,rfl⟩:=h'
 refine (same_ser _ _ l m w h2 h4 (fun x hx=>⟨h3 x hx,hs _ (List.mem_map.2 ⟨x,hx,rfl⟩)⟩) (fun x hx=>⟨h5 x hx,hs2 _ (List.mem_map.2 ⟨x,hx,rfl⟩)⟩) hl hl2).mono ?_
 rintro e w' ⟨rfl,hb⟩
 refine ⟨?_,hb⟩
 by_cases hh : l.map serOf = m.map serOf
 · rw [decide_eq_true hh,decide_eq_true (show SameS l m from hh)]
 · rw [decide_eq_false hh,decide_eq_false (show ¬ SameS l m from hh)]
theorem joinF {op : ByteArray} {w : World} {a a2 : Option Addr} {n n2 c c2 : Nat} {F F2 out : List Series10.Sr} {er : Int} (h : IsSer w a n c F) (h' : IsSer w a2 n2 c2 F2) (hF : FR F) (hF2 : FR F2) (hl : n ≤ 1000000) (hl2 : n2 ≤ 1000000) (hj : JoinT op F F2 out er) :
 Calls Tryz.prog 75 #[.string op,.slice a n c,.slice a2 n2 c2] w fun e w'=>∃ a' n' c',e = .returned (.tuple #[.slice a' n' c',.int .i64 er])∧Hid (IsSer w' a' n' c' out∧Below w.heap.size w w'):=by
 obtain ⟨l,rfl,h2,h3,rfl⟩:=h
 obtain ⟨m,rfl,h4,h5,rfl⟩:=h'
 refine (join_ser op _ _ l m w h2 h4 h3 h5 (FR.of hF) (FR.of hF2) hl hl2).mono ?_
 rintro e w' ⟨vo,o,er',rfl,hj',ho,hok,hb⟩
 obtain ⟨h6,rfl⟩:=hj'.one hj
 obtain ⟨a',c',rfl⟩:=ho.shape
 exact ⟨a',_,c',rfl,⟨o,rfl,ho.sls,hok,h6⟩,hb⟩
end Go.Proofs.YtdhlfpgibfaimaaGreatDoor
