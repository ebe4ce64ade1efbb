import Derived.Test.YtdhlfpgibfaimaaGreatDoorProg
import Derived.Shelf.Strings.BuilderK
import Derived.Test.YtdhlfpgibfaimaaGreatDoorQmQq
import Derived.Test.YtdhlfpgibfaimaaGreatDoorPxQc
set_option maxRecDepth 100000
set_option maxHeartbeats 8000000
set_option linter.unusedVariables false
namespace Go.Proofs
def Tryz.wsRen : Go.Shelf.Ren:=⟨fun | 166=>67 | 240=>94 | 276=>141 | n=>n,fun | 72=>75 | 70=>72 | 37=>73 | 75=>106 | 80=>77 | 164=>166 | n=>n,fun | n=>n⟩
theorem Tryz.ws166 : Go.Proofs.Lays.n166 Tryz.prog Tryz.wsRen:={
 mixed:=by kernel_rfl
 f166:=Tryz.func67.trans (congrArg some (by kernel_rfl))
 f240:=Tryz.func94.trans (congrArg some (by kernel_rfl))
 f276:=Tryz.func141.trans (congrArg some (by kernel_rfl))
 t0:=Tryz.underlying0
 a0:=Tryz.isAgg0
 z0:=Tryz.sizeOf0
 v0:=Tryz.zeroValue0
 t3:=Tryz.underlying3
 a3:=Tryz.isAgg3
 z3:=Tryz.sizeOf3
 v3:=Tryz.zeroValue3
 t4:=Tryz.underlying4
 a4:=Tryz.isAgg4
 z4:=Tryz.sizeOf4
 v4:=Tryz.zeroValue4
 t9:=Tryz.underlying9
 a9:=Tryz.isAgg9
 z9:=Tryz.sizeOf9
 v9:=Tryz.zeroValue9
 t20:=Tryz.underlying20
 a20:=Tryz.isAgg20
 z20:=Tryz.sizeOf20
 v20:=Tryz.zeroValue20
 t37:=Tryz.underlying73
 a37:=Tryz.isAgg73
 z37:=Tryz.sizeOf73
 v37:=Tryz.zeroValue73
 t70:=Tryz.underlying72
 a70:=Tryz.isAgg72
 z70:=Tryz.sizeOf72
 v70:=Tryz.zeroValue72
 t72:=Tryz.underlying75
 a72:=Tryz.isAgg75
 z72:=Tryz.sizeOf75
 v72:=Tryz.zeroValue75
 t75:=Tryz.underlying106
 a75:=Tryz.isAgg106
 z75:=Tryz.sizeOf106
 v75:=Tryz.zeroValue106
 t164:=Tryz.underlying166
 a164:=Tryz.isAgg166
 z164:=Tryz.sizeOf166
 v164:=Tryz.zeroValue166
}
theorem Tryz.ws_extra : Builder.Extra Tryz.prog Tryz.wsRen:={
 sizeBuilder:=by kernel_rfl
 liesBuilder:=by kernel_rfl
 t5:=Tryz.underlying5
 a5:=Tryz.isAgg5
 z5:=Tryz.sizeOf5
 v5:=Tryz.zeroValue5
 infoByte:=by kernel_rfl
 cellsByte:=by kernel_rfl
 sizeByte:=by kernel_rfl
 neB5:=by decide
}
open Go.RowKit in
theorem Tryz.writeString_k (B b : Nat) (bs : List Value) (s : ByteArray) (w : World) (h : Lib.IsBuilderF 75 5 B b bs w) (hlen : bs.length + s.size ≤ 140737488355328) (hBw : B ≤ w.heap.size) :
 Calls Tryz.prog 67 #[.pointer (some ⟨b,0,none⟩),.string s] w fun e w'=>e = .returned (.tuple #[.int .i64 s.size,.nilIface])∧(Lib.BuilderAtF 75 5 B b (.pointer (some ⟨b,0,none⟩)) (bs ++ Lib.strCells s) w'∧Below B w w'∧Lib.OthersKept 5 (some b) w w'):=Any.Builder_WriteString_k Tryz.ws166 Tryz.ws_extra B b bs s w h hlen hBw
end Go.Proofs
namespace Go.Proofs.YtdhlfpgibfaimaaGreatDoor
open Go.RowKit
def Bd (B b : Nat) (l : List UInt8) (w : World) : Prop:=Lib.IsBuilderF 75 5 B b (Lib.byteCells l) w
structure Wr (B b : Nat) (w w' : World) : Prop where
 low : Below B w w'
 oth : Lib.OthersKept 5 (some b) w w'
theorem Wr.trans {B b : Nat} {w w' w'' : World} (h : Wr B b w w') (g : Wr B b w' w'') : Wr B b w w'':=⟨h.low.trans g.low,h.oth.trans g.oth⟩
theorem Wr.new {B b : Nat} (w : World) (hB : B ≤ w.heap.size) (o : Obj) : Wr B b w (w.alloc o):=⟨(Below.refl _ w).alloc hB o,(Lib.OthersKept.refl _ _ w).alloc o⟩
theorem Wr.of {B b : Nat} {w w' : World} (h : Below w.heap.size w w') (hB : B ≤ w.heap.size) : Wr B b w w':=⟨h.mono hB,fun k o hk _ _=>(h.block k (Array.getElem?_eq_some_iff.1 hk).1).trans hk⟩
theorem Wr.box {B b q : Nat} {w w' : World} {u0 u1 u2 u3 u4 : Value} (h : Wr B b w w') (hq : Bx w q 27 u0 u1 u2 u3 u4) (hne : q ≠ b) : Bx w' q 27 u0 u1 u2 u3 u4 :=
 h.oth q _ hq (fun e=>hne (Option.some.inj e)) (fun c fz e=>by cases e)
theorem Wr.le {B b : Nat} {w w' : World} (h : Wr B b w w') (hB : B ≤ w.heap.size) : B ≤ w'.heap.size:=Nat.le_trans hB h.low.size
theorem Bd.alloc {B b : Nat} {l : List UInt8} {w : World} (h : Bd B b l w) (o : Obj) : Bd B b l (w.alloc o):=Lib.IsBuilderF.alloc h o
theorem Bd.lt {B b : Nat} {l : List UInt8} {w : World} (h : Bd B b l w) : b < w.heap.size:=by
 rcases h with ⟨_,v,hb,_⟩ | ⟨_,v,hb,_⟩
 · exact (Array.getElem?_eq_some_iff.1 hb).1
 · exact (Array.getElem?_eq_some_iff.1 hb).1
theorem ExV.low {B : Nat} {w w' : World} {t : Ex} {u : Value} (h : ExV w (fun q=>q < B) t u) (hb : Below B w w') : ExV w' (fun q=>q < B) t u:=by
 obtain ⟨K,h1,h2⟩:=h
 exact ⟨K,h1,kidsV.keep (fun b hb1 _=>hb.block b hb1) hb.size (fun _ h _=>h) _ _ h2⟩
theorem ws_any (B b : Nat) (l : List UInt8) (s : ByteArray) (w : World) (h : Bd B b l w) (hlen : l.length + s.size ≤ 1000000000) (hB : B ≤ w.heap.size) :
 Calls Tryz.prog 67 #[.pointer (some ⟨b,0,none⟩),.string s] w fun e w'=>e = .returned (.tuple #[.int .i64 (s.size : Nat),.nilIface])∧Bd B b (l ++ s.data.toList) w'∧Wr B b w w':=by
 refine (Tryz.writeString_k B b _ s w h (by rw [Lib.byteCells_length];omega) hB).mono ?_
 rintro e w' ⟨rfl,h1,h2,h3⟩
 refine ⟨rfl,.inr ?_,h2,h3⟩
 have : Lib.byteCells (l ++ s.data.toList) = Lib.byteCells l ++ Lib.strCells s:=by unfold Lib.byteCells Lib.strCells;rw [List.map_append]
 rw [this]
 exact h1
def NumV (v : Vl) : Prop:=v = nul ∨ v = nan ∨ v = pls ∨ ∃ n,v = ⟨1,n⟩
theorem text_any (v : Vl) (hv : NumV v) (w : World) (hG : G w) : Calls Tryz.prog 68 #[.agg #[.int .i64 v.kind,.int .i64 v.n]] w fun e w'=>e = .returned (.string (bB (txtE v)))∧Below w.heap.size w w':=by
 have hb0:=bW0 w (vlO v)
 have h1:=null_b (w.alloc (vlO v))
 have h2:=fun W=>nan_b W
 have h3:=fun W=>plus_b W
 have h4:=fun W (h : Below w.heap.size w W)=>print_any v W (hG.grow h)
 unfold vlV at h1 h2 h3 h4
 rcases hv with rfl | rfl | rfl | ⟨n,rfl⟩
 · have e : Hid (bB (txtE nul) = ⟨#[110,117,108,108]⟩):=rfl
   rw [e.out]
   unfold vlO nul nan pls at *
   simp only at *
   go_enter Tryz.func68,Tryz.ntmps68
   go_wp2_with (first | (go_at_call 95;refine h1.mono ?_;rintro e w1 ⟨rfl,hb1⟩))
   go_ret
   exact ⟨rfl,hb0.trans (hb1.mono hb0.size)⟩
 · have e : Hid (bB (txtE nan) = ⟨#[110,97,110]⟩):=rfl
   rw [e.out]
   unfold vlO nul nan pls at *
   simp only at *
   go_enter Tryz.func68,Tryz.ntmps68
   go_wp2_with (first | (go_at_call 95;refine h1.mono ?_;rintro e w1 ⟨rfl,hb1⟩;have hb1:=hb0.trans (hb1.mono hb0.size)) | (go_at_call 96;refine (h2 _).mono ?_;rintro e w2 ⟨rfl,hb2⟩;have hb2:=hb1.trans (hb2.mono hb1.size)))
   go_ret
   exact ⟨rfl,hb2⟩
 · have e : Hid (bB (txtE pls) = ⟨#[105,110,102]⟩):=rfl
   rw [e.out]
   unfold vlO nul nan pls at *
   simp only at *
   go_enter Tryz.func68,Tryz.ntmps68
   go_wp2_with (first | (go_at_call 95;refine h1.mono ?_;rintro e w1 ⟨rfl,hb1⟩;have hb1:=hb0.trans (hb1.mono hb0.size)) | (go_at_call 96;refine (h2 _).mono ?_;rintro e w2 ⟨rfl,hb2⟩;have hb2:=hb1.trans (hb2.mono hb1.size)) | (go_at_call 97;refine (h3 _).mono ?_;rintro e w3 ⟨rfl,hb3⟩;have hb3:=hb2.trans (hb3.mono hb2.size)))
   go_ret
   exact ⟨rfl,hb3⟩
 · have e : bB (txtE ⟨1,n⟩) = prS ⟨1,n⟩:=by
    unfold txtE nul nan pls
    rw [if_neg (by simp),if_neg (by simp),if_neg (by simp)]
    exact bB_list _
   rw [e]
   generalize prS ⟨1,n⟩ = R at *
   clear e
   unfold vlO nul nan pls at *
   simp only at *
   have hq : VlAt (w.alloc (.cells #[.int .i64 1,.int .i64 n] 24)) w.heap.size ⟨1,n⟩:=vlNew w ⟨1,n⟩
   go_enter Tryz.func68,Tryz.ntmps68
   go_wp2_with (first | (go_at_call 95;refine h1.mono ?_;rintro e w1 ⟨rfl,hb1⟩;have hq:=hq.grow hb1;have hb1:=hb0.trans (hb1.mono hb0.size)) | (go_at_call 96;refine (h2 _).mono ?_;rintro e w2 ⟨rfl,hb2⟩;have hq:=hq.grow hb2;have hb2:=hb1.trans (hb2.mono hb1.size)) | (go_at_call 97;refine (h3 _).mono ?_;rintro e w3 ⟨rfl,hb3⟩;have hq:=hq.grow hb3;have hb3:=hb2.trans (hb3.mono hb2.size);obtain ⟨q0,q1⟩:=hq.cells) | (go_at_call 98;refine (h4 _ hb3).mono ?_;rintro e w4 ⟨rfl,hb4⟩;have hb4:=hb3.trans (hb4.mono hb3.size)))
   go_ret
   exact ⟨rfl,hb4⟩
def WrC (f : Nat) (w0 : World) (B b : Nat) (x : Ex) (t : List UInt8) : Prop:=∀ (w : World) (k : Int) (n : ByteArray) (vk vn : Int) (a : Option Addr) (m c : Nat) (l : List UInt8),Below w0.heap.size w0 w→ExV w (fun q=>q < B) x (.agg #[.int .i64 k,.string n,.int .i64 vk,.int .i64 vn,.slice a m c])→Bd B b l w→B ≤ w.heap.size→l.length + t.length ≤ 1000000000 →
 Calls Tryz.prog f #[.pointer (some ⟨b,0,none⟩),.agg #[.int .i64 k,.string n,.int .i64 vk,.int .i64 vn,.slice a m c]] w fun e w'=>e = .returned (.tuple #[])∧Bd B b (l ++ t) w'∧Wr B b w w'
theorem ExV.parts {w : World} {A : Nat→Prop} {x : Ex} {k : Int} {n : ByteArray} {vk vn : Int} {a : Option Addr} {m c : Nat} (h : ExV w A x (.agg #[.int .i64 k,.string n,.int .i64 vk,.int .i64 vn,.slice a m c])) : k = x.kind∧n = x.name∧vk = x.v.kind∧vn = x.v.n∧m = x.kids.length:=by
 obtain ⟨K,h1,h2⟩:=h
 obtain ⟨a',c',rfl⟩:=h2.shape
 injection h1 with h1
 have e2:=congrArg Array.toList h1
 simp only [List.cons.injEq,and_true,Value.int.injEq,true_and,Value.string.injEq,Value.slice.injEq] at e2
 exact ⟨e2.1,e2.2.1,e2.2.2.1,e2.2.2.2.1,e2.2.2.2.2.2.1⟩
structure At5 (w : World) (q o : Nat) (k : Int) (n : ByteArray) (vk vn : Int) (a : Option Addr) (m c : Nat) : Prop where
 c0 : w.cell? ⟨q,o,none⟩ = some (.int .i64 k)
 c1 : w.cell? ⟨q,o + 1,none⟩ = some (.string n)
 c2 : w.cell? ⟨q,o + 2,none⟩ = some (.int .i64 vk)
 c3 : w.cell? ⟨q,o + 3,none⟩ = some (.int .i64 vn)
 c4 : w.cell? ⟨q,o + 4,none⟩ = some (.slice a m c)
theorem At5.low {B : Nat} {w w' : World} {q o : Nat} {k : Int} {n : ByteArray} {vk vn : Int} {a : Option Addr} {m c : Nat} (h : At5 w q o k n vk vn a m c) (hb : Below B w w') (hq : q < B) : At5 w' q o k n vk vn a m c:=by
 have e : ∀ i,w'.cell? ⟨q,i,none⟩ = w.cell? ⟨q,i,none⟩:=fun i=>by simp only [World.cell?,hb.block q hq]
 exact ⟨by rw [e];exact h.c0,by rw [e];exact h.c1,by rw [e];exact h.c2,by rw [e];exact h.c3,by rw [e];exact h.c4⟩
theorem exAt.open {w : World} {A : Nat→Prop} {x : Ex} {q o : Nat} (h : exAt w A x q o) : ∃ k n vk vn a m c,At5 w q o k n vk vn a m c∧ExV w A x (.agg #[.int .i64 k,.string n,.int .i64 vk,.int .i64 vn,.slice a m c]):=by
 obtain ⟨k,n,v,l⟩:=x
 unfold exAt at h
 obtain ⟨h0,h1,h2,h3,K,h4,h5⟩:=h
 obtain ⟨a,c,rfl⟩:=h5.shape
 exact ⟨k,n,v.kind,v.n,a,l.length,c,⟨h0,h1,h2,h3,h4⟩,_,rfl,h5⟩
theorem kid1 {w : World} {A : Nat→Prop} {x : Ex} {N n : ByteArray} {k vk vn : Int} {a : Option Addr} {m c : Nat} (h : ExV w A (exC N [x]) (.agg #[.int .i64 k,.string n,.int .i64 vk,.int .i64 vn,.slice a m c])) :
 k = 3∧n = N∧m = 1∧∃ q o,a = some ⟨q,o,none⟩∧A q∧∃ k' n' vk' vn' a' m' c',At5 w q o k' n' vk' vn' a' m' c'∧ExV w A x (.agg #[.int .i64 k',.string n',.int .i64 vk',.int .i64 vn',.slice a' m' c']):=by
 obtain ⟨p1,p2,p3,p4,p5⟩:=h.parts
 refine ⟨p1,p2,p5,?_⟩
 obtain ⟨K,h1,h2⟩:=h
 unfold exC Ex.kids kidsV at h2
 obtain ⟨q,o,c',e,hA,hq,h3,_⟩:=h2
 subst e
 injection h1 with h1
 have e2:=congrArg Array.toList h1
 simp only [List.cons.injEq,and_true,Value.int.injEq,true_and,Value.string.injEq,Value.slice.injEq] at e2
 obtain ⟨k',n',vk',vn',a',m',c',h5,h6⟩:=h3.open
 exact ⟨q,o,e2.2.2.2.2.1,hA,k',n',vk',vn',a',m',c',h5,h6⟩
theorem kid2 {w : World} {A : Nat→Prop} {x y : Ex} {N n : ByteArray} {k vk vn : Int} {a : Option Addr} {m c : Nat} (h : ExV w A (exC N [x,y]) (.agg #[.int .i64 k,.string n,.int .i64 vk,.int .i64 vn,.slice a m c])) :
 k = 3∧n = N∧m = 2∧∃ q o,a = some ⟨q,o,none⟩∧A q∧(∃ k' n' vk' vn' a' m' c',At5 w q o k' n' vk' vn' a' m' c'∧ExV w A x (.agg #[.int .i64 k',.string n',.int .i64 vk',.int .i64 vn',.slice a' m' c'])) ∧
  (∃ k' n' vk' vn' a' m' c',At5 w q (o + 5) k' n' vk' vn' a' m' c'∧ExV w A y (.agg #[.int .i64 k',.string n',.int .i64 vk',.int .i64 vn',.slice a' m' c'])):=by
 obtain ⟨p1,p2,p3,p4,p5⟩:=h.parts
 refine ⟨p1,p2,p5,?_⟩
 obtain ⟨K,h1,h2⟩:=h
 unfold exC Ex.kids kidsV at h2
 obtain ⟨q,o,c',e,hA,hq,h3,h4⟩:=h2
 subst e
 injection h1 with h1
 have e2:=congrArg Array.toList h1
 simp only [List.cons.injEq,and_true,Value.int.injEq,true_and,Value.string.injEq,Value.slice.injEq] at e2
 unfold kidsF at h4
 exact ⟨q,o,e2.2.2.2.2.1,hA,h3.open,h4.1.open⟩
theorem two_any (k : Int) (n : ByteArray) (vk vn : Int) (a : Option Addr) (m c : Nat) (w : World) : Calls Tryz.prog 99 #[.agg #[.int .i64 k,.string n,.int .i64 vk,.int .i64 vn,.slice a m c]] w fun e w'=>e = .returned (.bool (decide (k = 3) && decide (m = 2)))∧Below w.heap.size w w':=by
 have hb:=bW0 w (.cells #[.int .i64 k,.string n,.int .i64 vk,.int .i64 vn,.slice a m c] 27)
 obtain ⟨R,hR⟩ : ∃ R,Hid (R = (decide (k = 3) && decide (m = 2))):=⟨_,rfl⟩
 rw [← hR.out]
 by_cases h3 : k = 3
 · have hk : (k == 3) = true:=by simp [h3]
   by_cases h2 : m = 2
   · have hm : ((m : Int) == 2) = true:=by rw [beq_iff_eq];omega
     obtain rfl : R = true:=by rw [hR.out,decide_eq_true h3,decide_eq_true h2];rfl
     clear h3 h2 hR
     go_enter Tryz.func99,Tryz.ntmps99
     go_wp2
     go_ret
     exact ⟨rfl,hb⟩
   · have hm : ((m : Int) == 2) = false:=by rw [beq_eq_false_iff_ne];omega
     obtain rfl : R = false:=by rw [hR.out,decide_eq_true h3,decide_eq_false h2];rfl
     clear h3 h2 hR
     go_enter Tryz.func99,Tryz.ntmps99
     go_wp2
     go_ret
     exact ⟨rfl,hb⟩
 · have hk : (k == 3) = false:=by rw [beq_eq_false_iff_ne];exact h3
   obtain rfl : R = false:=by rw [hR.out,decide_eq_false h3];rfl
   clear h3 hR
   go_enter Tryz.func99,Tryz.ntmps99
   go_wp2
   go_ret
   exact ⟨rfl,hb⟩
theorem inB_any {w0 : World} {B b : Nat} {x : Ex} {t : List UInt8} (h0 : w0.heap.size ≤ B) (hx : WrC 37 w0 B b x t) : WrC 102 w0 B b x (inBr t):=by
 intro w k n vk vn a m c l hb0 hv hbd hB hlen
 have hr0:=Wr.new (b:=b) w hB (.cells #[.int .i64 k,.string n,.int .i64 vk,.int .i64 vn,.slice a m c] 27)
 have hbx:=bxNew w 27 (.int .i64 k) (.string n) (.int .i64 vk) (.int .i64 vn) (.slice a m c)
 have hbd0:=hbd.alloc (.cells #[.int .i64 k,.string n,.int .i64 vk,.int .i64 vn,.slice a m c] 27)
 have hne : w.heap.size ≠ b:=by have:=hbd.lt;omega
 have hl1 : l.length + (inBr t).length = l.length + t.length + 2:=by unfold inBr;simp;omega
 have hA:=ws_any B b l ⟨#[40]⟩ _ hbd0 (by show l.length + 1 ≤ _;omega) (hr0.le hB)
 have hC : Hid (∀ w1,Bd B b (l ++ [40]) w1→Wr B b (w.alloc (.cells #[.int .i64 k,.string n,.int .i64 vk,.int .i64 vn,.slice a m c] 27)) w1→Calls Tryz.prog 37 #[.pointer (some ⟨b,0,none⟩),.agg #[.int .i64 k,.string n,.int .i64 vk,.int .i64 vn,.slice a m c]] w1 fun e w'=>e = .returned (.tuple #[])∧Bd B b ((l ++ [40]) ++ t) w'∧Wr B b w1 w'):=fun w1 h1 h2=>by
  have h3:=hr0.trans h2
  exact hx w1 k n vk vn a m c (l ++ [40]) (hb0.trans (h3.low.mono h0)) (hv.low h3.low) h1 (h3.le hB) (by simp;omega)
 have hD : Hid (∀ w2,Bd B b ((l ++ [40]) ++ t) w2→Wr B b w w2→Calls Tryz.prog 67 #[.pointer (some ⟨b,0,none⟩),.string ⟨#[41]⟩] w2 fun e w'=>e = .returned (.tuple #[.int .i64 1,.nilIface])∧Bd B b (l ++ inBr t) w'∧Wr B b w2 w'):=fun w2 h1 h2=>by
  have:=ws_any B b ((l ++ [40]) ++ t) ⟨#[41]⟩ w2 h1 (by show _ + 1 ≤ _;simp;omega) (h2.le hB)
  have e : (l ++ [40]) ++ t ++ (⟨#[41]⟩ : ByteArray).data.toList = l ++ inBr t:=by unfold inBr;simp
  rw [e] at this
  exact this
 clear hx hbd hbd0 hl1
 go_enter Tryz.func102,Tryz.ntmps102
 go_wp2_with (first
  | (go_at_call 67;(with_reducible refine hA.mono ?_);clear hA;rintro e w1 ⟨rfl,hd1,hr1⟩;have hbx1:=hr1.box hbx hne;obtain ⟨x0,x1,x2,x3,x4⟩:=hbx1.cells;have hca:=hC.out w1 hd1 hr1;clear hC)
  | (go_at_call 37;refine hca.mono ?_;clear hca;rintro e w2 ⟨rfl,hd2,hr2⟩;have hcb:=hD.out w2 hd2 ((hr0.trans hr1).trans hr2);clear hD)
  | (go_at_call 67;(with_reducible refine hcb.mono ?_);clear hcb;rintro e w3 ⟨rfl,hd3,hr3⟩))
 go_end0
 exact ⟨rfl,hd3,((hr0.trans hr1).trans hr2).trans hr3⟩
theorem Bd.grow {B b : Nat} {l : List UInt8} {w w' : World} (h : Bd B b l w) (hb : Below w.heap.size w w') : Bd B b l w':=by
 have hg : w.grownBy w' none:=⟨hb.os,hb.tape,hb.output,hb.size,fun k hk _=>hb.block k hk⟩
 rcases h with ⟨g1,v,g2,g3,g4⟩ | ⟨g1,v,g2,g3,g4⟩
 · exact .inl ⟨g1,v,(hb.block b (Array.getElem?_eq_some_iff.1 g2).1).trans g2,g3.kept hg (by cases hv : v.ownBlock <;> simp),g4⟩
 · exact .inr ⟨g1,v,(hb.block b (Array.getElem?_eq_some_iff.1 g2).1).trans g2,g3.kept hg (by cases hv : v.ownBlock <;> simp),g4⟩
theorem opd_any {w0 : World} {B b : Nat} {x : Ex} {t : List UInt8} (h0 : w0.heap.size ≤ B) (hx : WrC 37 w0 B b x t) : WrC 100 w0 B b x (opT x t):=by
 have hxb:=inB_any h0 hx
 intro w k n vk vn a m c l hb0 hv hbd hB hlen
 obtain ⟨p1,p2,p3,p4,p5⟩:=hv.parts
 have hr0:=Wr.new (b:=b) w hB (.cells #[.int .i64 k,.string n,.int .i64 vk,.int .i64 vn,.slice a m c] 27)
 have hbx:=bxNew w 27 (.int .i64 k) (.string n) (.int .i64 vk) (.int .i64 vn) (.slice a m c)
 have hbd0:=hbd.alloc (.cells #[.int .i64 k,.string n,.int .i64 vk,.int .i64 vn,.slice a m c] 27)
 have htw:=two_any k n vk vn a m c (w.alloc (.cells #[.int .i64 k,.string n,.int .i64 vk,.int .i64 vn,.slice a m c] 27))
 have ht : (decide (k = 3) && decide (m = 2)) = isTwo x:=by unfold isTwo;rw [← p1,← p5]
 rw [ht] at htw
 have hbB : ∀ W,Below (w.alloc (.cells #[.int .i64 k,.string n,.int .i64 vk,.int .i64 vn,.slice a m c] 27)).heap.size (w.alloc (.cells #[.int .i64 k,.string n,.int .i64 vk,.int .i64 vn,.slice a m c] 27)) W→Wr B b w W∧Bd B b l W∧Bx W w.heap.size 27 (.int .i64 k) (.string n) (.int .i64 vk) (.int .i64 vn) (.slice a m c):=fun W h=>by
  have h1:=Wr.of (b:=b) h (hr0.le hB)
  refine ⟨hr0.trans h1,?_,hbx.grow h⟩
  exact hbd0.grow h
 cases hi : isTwo x with
 | true =>
  have hoT : opT x t = inBr t:=by unfold opT;rw [hi];rfl
  rw [hi] at htw
  rw [hoT] at hlen ⊢
  have hC : Hid (∀ W,Wr B b w W→Bd B b l W→Calls Tryz.prog 102 #[.pointer (some ⟨b,0,none⟩),.agg #[.int .i64 k,.string n,.int .i64 vk,.int .i64 vn,.slice a m c]] W fun e w'=>e = .returned (.tuple #[])∧Bd B b (l ++ inBr t) w'∧Wr B b W w'):=fun W h1 h2=>hxb W k n vk vn a m c l (hb0.trans (h1.low.mono h0)) (hv.low h1.low) h2 (h1.le hB) hlen
  replace hbB : Hid _:=hbB
  clear hx hxb hoT ht p1 p2 p3 p4 p5 hi
  go_enter Tryz.func100,Tryz.ntmps100
  go_wp2_with (first
   | (go_at_call 99;refine htw.mono ?_;clear htw;rintro e w1 ⟨rfl,hb1⟩;obtain ⟨hr1,hd1,hx1⟩:=hbB.out w1 hb1;obtain ⟨x0,x1,x2,x3,x4⟩:=hx1.cells;have hca:=hC.out w1 hr1 hd1)
   | (go_at_call 102;refine hca.mono ?_;clear hca;rintro e w2 ⟨rfl,hd2,hr2⟩))
  refine bodyPost_ret (v:=.tuple #[]) (by simp [results,Tryz.results100]) rfl ?_
  exact ⟨rfl,hd2,hr1.trans hr2⟩
 | false =>
  have hoT : opT x t = t:=by unfold opT;rw [hi];rfl
  rw [hi] at htw
  rw [hoT] at hlen ⊢
  have hC : Hid (∀ W,Wr B b w W→Bd B b l W→Calls Tryz.prog 37 #[.pointer (some ⟨b,0,none⟩),.agg #[.int .i64 k,.string n,.int .i64 vk,.int .i64 vn,.slice a m c]] W fun e w'=>e = .returned (.tuple #[])∧Bd B b (l ++ t) w'∧Wr B b W w'):=fun W h1 h2=>hx W k n vk vn a m c l (hb0.trans (h1.low.mono h0)) (hv.low h1.low) h2 (h1.le hB) hlen
  replace hbB : Hid _:=hbB
  clear hx hxb hoT ht p1 p2 p3 p4 p5 hi
  go_enter Tryz.func100,Tryz.ntmps100
  go_wp2_with (first
   | (go_at_call 99;refine htw.mono ?_;clear htw;rintro e w1 ⟨rfl,hb1⟩;obtain ⟨hr1,hd1,hx1⟩:=hbB.out w1 hb1;obtain ⟨x0,x1,x2,x3,x4⟩:=hx1.cells;have hca:=hC.out w1 hr1 hd1)
   | (go_at_call 37;refine hca.mono ?_;clear hca;rintro e w2 ⟨rfl,hd2,hr2⟩))
  go_end0
  exact ⟨rfl,hd2,hr1.trans hr2⟩
theorem call2_any {w0 : World} {B b : Nat} {x y : Ex} {N : ByteArray} {tx ty : List UInt8} (h0 : w0.heap.size ≤ B) (hx : WrC 100 w0 B b x tx) (hy : WrC 100 w0 B b y ty) (hN : N.size ≤ 1000) : WrC 69 w0 B b (exC N [x,y]) (tx ++ 32 :: (N.data.toList ++ 32 :: ty)):=by
 intro w k n vk vn a m c l hb0 hv hbd hB hlen
 obtain ⟨rfl,rfl,rfl,q,o,rfl,hq,⟨k1,n1,vk1,vn1,a1,m1,c1,hA1,hV1⟩,k2,n2,vk2,vn2,a2,m2,c2,hA2,hV2⟩:=kid2 hv
 have hr0:=Wr.new (b:=b) w hB (.cells #[.int .i64 3,.string n,.int .i64 vk,.int .i64 vn,.slice (some ⟨q,o,none⟩) 2 c] 27)
 have hbx:=bxNew w 27 (.int .i64 3) (.string n) (.int .i64 vk) (.int .i64 vn) (.slice (some ⟨q,o,none⟩) 2 c)
 have hbd0:=hbd.alloc (.cells #[.int .i64 3,.string n,.int .i64 vk,.int .i64 vn,.slice (some ⟨q,o,none⟩) 2 c] 27)
 have hne : w.heap.size ≠ b:=by have:=hbd.lt;omega
 have hle1:=hr0.le hB
 have htw:=two_any 3 n vk vn (some ⟨q,o,none⟩) 2 c (w.alloc (.cells #[.int .i64 3,.string n,.int .i64 vk,.int .i64 vn,.slice (some ⟨q,o,none⟩) 2 c] 27))
 have htw' : Hid ((decide ((3 : Int) = 3) && decide (2 = 2)) = true):=rfl
 rw [htw'.out] at htw
 have hlenN : l.length + tx.length + n.size + ty.length + 2 ≤ 1000000000:=by
  have : n.data.toList.length = n.size:=Array.length_toList
  simp at hlen
  rw [← this];simp
  omega
 have hK1 : Hid (∀ W,Wr B b (w.alloc (.cells #[.int .i64 3,.string n,.int .i64 vk,.int .i64 vn,.slice (some ⟨q,o,none⟩) 2 c] 27)) W→Bd B b l W→Calls Tryz.prog 100 #[.pointer (some ⟨b,0,none⟩),.agg #[.int .i64 k1,.string n1,.int .i64 vk1,.int .i64 vn1,.slice a1 m1 c1]] W fun e w'=>e = .returned (.tuple #[])∧Bd B b (l ++ tx) w'∧Wr B b W w'):=fun W h1 h2=>by
  have h3:=hr0.trans h1
  exact hx W k1 n1 vk1 vn1 a1 m1 c1 l (hb0.trans (h3.low.mono h0)) (hV1.low h3.low) h2 (h3.le hB) (by omega)
 have hWS : Hid (∀ W,Wr B b (w.alloc (.cells #[.int .i64 3,.string n,.int .i64 vk,.int .i64 vn,.slice (some ⟨q,o,none⟩) 2 c] 27)) W→Bd B b (l ++ tx) W→Calls Tryz.prog 67 #[.pointer (some ⟨b,0,none⟩),.string (⟨#[32]⟩ ++ n ++ ⟨#[32]⟩)] W fun e w'=>(∃ i : Int,e = .returned (.tuple #[.int .i64 i,.nilIface]))∧Bd B b (l ++ tx ++ (32 :: (n.data.toList ++ [32]))) w'∧Wr B b W w'):=fun W h1 h2=>by
  have h3:=hr0.trans h1
  have hz : (⟨#[32]⟩ ++ n ++ ⟨#[32]⟩ : ByteArray).size = n.size + 2:=by rw [ByteArray.size_append,ByteArray.size_append];show 1 + n.size + 1 = _;omega
  have:=ws_any B b (l ++ tx) (⟨#[32]⟩ ++ n ++ ⟨#[32]⟩) W h2 (by rw [hz];simp;omega) (h3.le hB)
  have e : (⟨#[32]⟩ ++ n ++ ⟨#[32]⟩ : ByteArray).data.toList = 32 :: (n.data.toList ++ [32]):=by simp
  rw [e] at this
  exact this.mono fun e w' h=>⟨⟨_,h.1⟩,h.2⟩
 have hK2 : Hid (∀ W,Wr B b (w.alloc (.cells #[.int .i64 3,.string n,.int .i64 vk,.int .i64 vn,.slice (some ⟨q,o,none⟩) 2 c] 27)) W→Bd B b (l ++ tx ++ (32 :: (n.data.toList ++ [32]))) W→Calls Tryz.prog 100 #[.pointer (some ⟨b,0,none⟩),.agg #[.int .i64 k2,.string n2,.int .i64 vk2,.int .i64 vn2,.slice a2 m2 c2]] W fun e w'=>e = .returned (.tuple #[])∧Bd B b (l ++ (tx ++ 32 :: (n.data.toList ++ 32 :: ty))) w'∧Wr B b W w'):=fun W h1 h2=>by
  have h3:=hr0.trans h1
  have hnn : n.data.toList.length = n.size:=Array.length_toList
  have:=hy W k2 n2 vk2 vn2 a2 m2 c2 _ (hb0.trans (h3.low.mono h0)) (hV2.low h3.low) h2 (h3.le hB) (by rw [List.length_append,List.length_append,List.length_cons,List.length_append,hnn];simp;omega)
  have e : l ++ tx ++ (32 :: (n.data.toList ++ [32])) ++ ty = l ++ (tx ++ 32 :: (n.data.toList ++ 32 :: ty)):=by simp
  rw [e] at this
  exact this
 have hcells : Hid (∀ W,Wr B b (w.alloc (.cells #[.int .i64 3,.string n,.int .i64 vk,.int .i64 vn,.slice (some ⟨q,o,none⟩) 2 c] 27)) W→Bx W w.heap.size 27 (.int .i64 3) (.string n) (.int .i64 vk) (.int .i64 vn) (.slice (some ⟨q,o,none⟩) 2 c)∧At5 W q o k1 n1 vk1 vn1 a1 m1 c1∧At5 W q (o + 5) k2 n2 vk2 vn2 a2 m2 c2):=fun W h=>⟨h.box hbx hne,hA1.low (hr0.low.trans h.low) hq,hA2.low (hr0.low.trans h.low) hq⟩
 clear hx hy hV1 hV2 hA1 hA2 hv hlen hlenN htw'
 go_enter Tryz.func69,Tryz.ntmps69
 go_wp2_with (first
  | (go_at_call 99;refine htw.mono ?_;clear htw;rintro e w1 ⟨rfl,hb1⟩;have hr1:=Wr.of (b:=b) hb1 hle1;have hd1:=hbd0.grow hb1;obtain ⟨hx1,hp1,hp2⟩:=hcells.out w1 hr1;obtain ⟨x0,x1,x2,x3,x4⟩:=hx1.cells;obtain ⟨e0,e1,e2,e3,e4⟩:=hp1;have hca:=hK1.out w1 hr1 hd1;clear hK1)
  | (go_at_call 100;(with_reducible refine hca.mono ?_);clear hca x0 x1 x2 x3 x4 e0 e1 e2 e3 e4;rintro e w2 ⟨rfl,hd2,hr2⟩;have hr2:=hr1.trans hr2;obtain ⟨hx1,hp1,hp2⟩:=hcells.out w2 hr2;obtain ⟨x0,x1,x2,x3,x4⟩:=hx1.cells;have hcb:=hWS.out w2 hr2 hd2;clear hWS)
  | (go_at_call 67;refine hcb.mono ?_;clear hcb x0 x1 x2 x3 x4;rintro e w3 ⟨⟨i,rfl⟩,hd3,hr3⟩;have hr3:=hr2.trans hr3;obtain ⟨hx1,hp1,hp2⟩:=hcells.out w3 hr3;obtain ⟨x0,x1,x2,x3,x4⟩:=hx1.cells;obtain ⟨e0,e1,e2,e3,e4⟩:=hp2;have hcc:=hK2.out w3 hr3 hd3;clear hK2)
  | (go_at_call 100;(with_reducible refine hcc.mono ?_);clear hcc;rintro e w4 ⟨rfl,hd4,hr4⟩))
 go_end0
 exact ⟨rfl,hd4,(hr0.trans hr3).trans hr4⟩
theorem callT {w0 : World} {B b : Nat} {x : Ex} {N : ByteArray} {tx : List UInt8} (h0 : w0.heap.size ≤ B) (hx : WrC 100 w0 B b x tx) (hN : N.size ≤ 1000) (hT : turnB N = true) : WrC 69 w0 B b (exC N [x]) (N.data.toList ++ tx):=by
 intro w k n vk vn a m c l hb0 hv hbd hB hlen
 obtain ⟨rfl,rfl,rfl,q,o,rfl,hq,k1,n1,vk1,vn1,a1,m1,c1,hA1,hV1⟩:=kid1 hv
 have hr0:=Wr.new (b:=b) w hB (.cells #[.int .i64 3,.string n,.int .i64 vk,.int .i64 vn,.slice (some ⟨q,o,none⟩) 1 c] 27)
 have hbx:=bxNew w 27 (.int .i64 3) (.string n) (.int .i64 vk) (.int .i64 vn) (.slice (some ⟨q,o,none⟩) 1 c)
 have hbd0:=hbd.alloc (.cells #[.int .i64 3,.string n,.int .i64 vk,.int .i64 vn,.slice (some ⟨q,o,none⟩) 1 c] 27)
 have hne : w.heap.size ≠ b:=by have:=hbd.lt;omega
 have hle1:=hr0.le hB
 have htw:=two_any 3 n vk vn (some ⟨q,o,none⟩) 1 c (w.alloc (.cells #[.int .i64 3,.string n,.int .i64 vk,.int .i64 vn,.slice (some ⟨q,o,none⟩) 1 c] 27))
 have htw' : Hid ((decide ((3 : Int) = 3) && decide (1 = 2)) = false):=rfl
 rw [htw'.out] at htw
 have htn:=fun W=>turns_any n W
 have hT' : (decide (n = ⟨#[45]⟩) || decide (n = ⟨#[33]⟩)) = true:=hT
 rw [hT'] at htn
 have hlenN : l.length + n.size + tx.length ≤ 1000000000:=by
  have : n.data.toList.length = n.size:=Array.length_toList
  simp at hlen
  rw [← this];simp
  omega
 have hWS : Hid (∀ W,Wr B b (w.alloc (.cells #[.int .i64 3,.string n,.int .i64 vk,.int .i64 vn,.slice (some ⟨q,o,none⟩) 1 c] 27)) W→Bd B b l W→Calls Tryz.prog 67 #[.pointer (some ⟨b,0,none⟩),.string n] W fun e w'=>(∃ i : Int,e = .returned (.tuple #[.int .i64 i,.nilIface]))∧Bd B b (l ++ n.data.toList) w'∧Wr B b W w'):=fun W h1 h2=>by
  have h3:=hr0.trans h1
  exact (ws_any B b l n W h2 (by omega) (h3.le hB)).mono fun e w' h=>⟨⟨_,h.1⟩,h.2⟩
 have hK1 : Hid (∀ W,Wr B b (w.alloc (.cells #[.int .i64 3,.string n,.int .i64 vk,.int .i64 vn,.slice (some ⟨q,o,none⟩) 1 c] 27)) W→Bd B b (l ++ n.data.toList) W→Calls Tryz.prog 100 #[.pointer (some ⟨b,0,none⟩),.agg #[.int .i64 k1,.string n1,.int .i64 vk1,.int .i64 vn1,.slice a1 m1 c1]] W fun e w'=>e = .returned (.tuple #[])∧Bd B b (l ++ (n.data.toList ++ tx)) w'∧Wr B b W w'):=fun W h1 h2=>by
  have h3:=hr0.trans h1
  have hnn : n.data.toList.length = n.size:=Array.length_toList
  have:=hx W k1 n1 vk1 vn1 a1 m1 c1 (l ++ n.data.toList) (hb0.trans (h3.low.mono h0)) (hV1.low h3.low) h2 (h3.le hB) (by rw [List.length_append,hnn];omega)
  rw [List.append_assoc] at this
  exact this
 have hcells : Hid (∀ W,Wr B b (w.alloc (.cells #[.int .i64 3,.string n,.int .i64 vk,.int .i64 vn,.slice (some ⟨q,o,none⟩) 1 c] 27)) W→Bx W w.heap.size 27 (.int .i64 3) (.string n) (.int .i64 vk) (.int .i64 vn) (.slice (some ⟨q,o,none⟩) 1 c)∧At5 W q o k1 n1 vk1 vn1 a1 m1 c1):=fun W h=>⟨h.box hbx hne,hA1.low (hr0.low.trans h.low) hq⟩
 clear hx hV1 hA1 hv hlen hlenN htw' hT hT'
 go_enter Tryz.func69,Tryz.ntmps69
 go_wp2_with (first
  | (go_at_call 99;refine htw.mono ?_;clear htw;rintro e w1 ⟨rfl,hb1⟩;have hr1:=Wr.of (b:=b) hb1 hle1;have hd1:=hbd0.grow hb1;obtain ⟨hx1,hp1⟩:=hcells.out w1 hr1;obtain ⟨x0,x1,x2,x3,x4⟩:=hx1.cells;have hcb:=hWS.out w1 hr1 hd1;clear hWS)
  | (go_at_call 101;refine (htn _).mono ?_;clear htn;rintro e wx ⟨rfl,hwx⟩;subst wx)
  | (go_at_call 67;refine hcb.mono ?_;clear hcb x0 x1 x2 x3 x4;rintro e w3 ⟨⟨i,rfl⟩,hd3,hr3⟩;have hr3:=hr1.trans hr3;obtain ⟨hx1,hp1⟩:=hcells.out w3 hr3;obtain ⟨x0,x1,x2,x3,x4⟩:=hx1.cells;obtain ⟨e0,e1,e2,e3,e4⟩:=hp1;have hca:=hK1.out w3 hr3 hd3;clear hK1)
  | (go_at_call 100;refine hca.mono ?_;clear hca;rintro e w4 ⟨rfl,hd4,hr4⟩))
 go_end0
 exact ⟨rfl,hd4,(hr0.trans hr3).trans hr4⟩
theorem callF {w0 : World} {B b : Nat} {x : Ex} {N : ByteArray} {tx : List UInt8} (h0 : w0.heap.size ≤ B) (hx : WrC 102 w0 B b x tx) (hN : N.size ≤ 1000) (hT : turnB N = false) : WrC 69 w0 B b (exC N [x]) (N.data.toList ++ tx):=by
 intro w k n vk vn a m c l hb0 hv hbd hB hlen
 obtain ⟨rfl,rfl,rfl,q,o,rfl,hq,k1,n1,vk1,vn1,a1,m1,c1,hA1,hV1⟩:=kid1 hv
 have hr0:=Wr.new (b:=b) w hB (.cells #[.int .i64 3,.string n,.int .i64 vk,.int .i64 vn,.slice (some ⟨q,o,none⟩) 1 c] 27)
 have hbx:=bxNew w 27 (.int .i64 3) (.string n) (.int .i64 vk) (.int .i64 vn) (.slice (some ⟨q,o,none⟩) 1 c)
 have hbd0:=hbd.alloc (.cells #[.int .i64 3,.string n,.int .i64 vk,.int .i64 vn,.slice (some ⟨q,o,none⟩) 1 c] 27)
 have hne : w.heap.size ≠ b:=by have:=hbd.lt;omega
 have hle1:=hr0.le hB
 have htw:=two_any 3 n vk vn (some ⟨q,o,none⟩) 1 c (w.alloc (.cells #[.int .i64 3,.string n,.int .i64 vk,.int .i64 vn,.slice (some ⟨q,o,none⟩) 1 c] 27))
 have htw' : Hid ((decide ((3 : Int) = 3) && decide (1 = 2)) = false):=rfl
 rw [htw'.out] at htw
 have htn:=fun W=>turns_any n W
 have hT' : (decide (n = ⟨#[45]⟩) || decide (n = ⟨#[33]⟩)) = false:=hT
 rw [hT'] at htn
 have hlenN : l.length + n.size + tx.length ≤ 1000000000:=by
  have : n.data.toList.length = n.size:=Array.length_toList
  simp at hlen
  rw [← this];simp
  omega
 have hWS : Hid (∀ W,Wr B b (w.alloc (.cells #[.int .i64 3,.string n,.int .i64 vk,.int .i64 vn,.slice (some ⟨q,o,none⟩) 1 c] 27)) W→Bd B b l W→Calls Tryz.prog 67 #[.pointer (some ⟨b,0,none⟩),.string n] W fun e w'=>(∃ i : Int,e = .returned (.tuple #[.int .i64 i,.nilIface]))∧Bd B b (l ++ n.data.toList) w'∧Wr B b W w'):=fun W h1 h2=>by
  have h3:=hr0.trans h1
  exact (ws_any B b l n W h2 (by omega) (h3.le hB)).mono fun e w' h=>⟨⟨_,h.1⟩,h.2⟩
 have hK1 : Hid (∀ W,Wr B b (w.alloc (.cells #[.int .i64 3,.string n,.int .i64 vk,.int .i64 vn,.slice (some ⟨q,o,none⟩) 1 c] 27)) W→Bd B b (l ++ n.data.toList) W→Calls Tryz.prog 102 #[.pointer (some ⟨b,0,none⟩),.agg #[.int .i64 k1,.string n1,.int .i64 vk1,.int .i64 vn1,.slice a1 m1 c1]] W fun e w'=>e = .returned (.tuple #[])∧Bd B b (l ++ (n.data.toList ++ tx)) w'∧Wr B b W w'):=fun W h1 h2=>by
  have h3:=hr0.trans h1
  have hnn : n.data.toList.length = n.size:=Array.length_toList
  have:=hx W k1 n1 vk1 vn1 a1 m1 c1 (l ++ n.data.toList) (hb0.trans (h3.low.mono h0)) (hV1.low h3.low) h2 (h3.le hB) (by rw [List.length_append,hnn];omega)
  rw [List.append_assoc] at this
  exact this
 have hcells : Hid (∀ W,Wr B b (w.alloc (.cells #[.int .i64 3,.string n,.int .i64 vk,.int .i64 vn,.slice (some ⟨q,o,none⟩) 1 c] 27)) W→Bx W w.heap.size 27 (.int .i64 3) (.string n) (.int .i64 vk) (.int .i64 vn) (.slice (some ⟨q,o,none⟩) 1 c)∧At5 W q o k1 n1 vk1 vn1 a1 m1 c1):=fun W h=>⟨h.box hbx hne,hA1.low (hr0.low.trans h.low) hq⟩
 clear hx hV1 hA1 hv hlen hlenN htw' hT hT'
 go_enter Tryz.func69,Tryz.ntmps69
 go_wp2_with (first
  | (go_at_call 99;refine htw.mono ?_;clear htw;rintro e w1 ⟨rfl,hb1⟩;have hr1:=Wr.of (b:=b) hb1 hle1;have hd1:=hbd0.grow hb1;obtain ⟨hx1,hp1⟩:=hcells.out w1 hr1;obtain ⟨x0,x1,x2,x3,x4⟩:=hx1.cells;have hcb:=hWS.out w1 hr1 hd1;clear hWS)
  | (go_at_call 101;refine (htn _).mono ?_;clear htn;rintro e wx ⟨rfl,hwx⟩;subst wx)
  | (go_at_call 67;refine hcb.mono ?_;clear hcb x0 x1 x2 x3 x4;rintro e w3 ⟨⟨i,rfl⟩,hd3,hr3⟩;have hr3:=hr1.trans hr3;obtain ⟨hx1,hp1⟩:=hcells.out w3 hr3;obtain ⟨x0,x1,x2,x3,x4⟩:=hx1.cells;obtain ⟨e0,e1,e2,e3,e4⟩:=hp1;have hca:=hK1.out w3 hr3 hd3;clear hK1)
  | (go_at_call 102;refine hca.mono ?_;clear hca;rintro e w4 ⟨rfl,hd4,hr4⟩))
 go_end0
 exact ⟨rfl,hd4,(hr0.trans hr3).trans hr4⟩
theorem wrN {w0 : World} {B b : Nat} {v : Vl} (hn : NumV v) (hg : G w0) (h0 : w0.heap.size ≤ B) : WrC 37 w0 B b (exN v) (txtE v):=by
 intro w k n vk vn a m c l hb0 hv hbd hB hlen
 obtain ⟨p1,p2,p3,p4,p5⟩:=hv.parts
 have hr0:=Wr.new (b:=b) w hB (.cells #[.int .i64 k,.string n,.int .i64 vk,.int .i64 vn,.slice a m c] 27)
 have hbd0:=hbd.alloc (.cells #[.int .i64 k,.string n,.int .i64 vk,.int .i64 vn,.slice a m c] 27)
 have hle1:=hr0.le hB
 have e1 : k = 1:=p1
 have e3 : vk = v.kind:=p3
 have e4 : vn = v.n:=p4
 subst e1 e3 e4
 have hbw : Below w0.heap.size w0 (w.alloc (.cells #[.int .i64 1,.string n,.int .i64 v.kind,.int .i64 v.n,.slice a m c] 27)):=hb0.trans (hr0.low.mono h0)
 have htx:=text_any v hn (w.alloc (.cells #[.int .i64 1,.string n,.int .i64 v.kind,.int .i64 v.n,.slice a m c] 27)) (hg.grow hbw)
 have hz : (bB (txtE v)).size = (txtE v).length:=bB_size _
 have hWS : Hid (∀ W,Below (w.alloc (.cells #[.int .i64 1,.string n,.int .i64 v.kind,.int .i64 v.n,.slice a m c] 27)).heap.size (w.alloc (.cells #[.int .i64 1,.string n,.int .i64 v.kind,.int .i64 v.n,.slice a m c] 27)) W→Calls Tryz.prog 67 #[.pointer (some ⟨b,0,none⟩),.string (bB (txtE v))] W fun e w'=>(∃ i : Int,e = .returned (.tuple #[.int .i64 i,.nilIface]))∧Bd B b (l ++ txtE v) w'∧Wr B b w w'):=fun W h1=>by
  have h2:=Wr.of (b:=b) h1 hle1
  exact (ws_any B b l (bB (txtE v)) W (hbd0.grow h1) (by rw [hz];omega) (h2.le hle1)).mono fun e w' h=>⟨⟨_,h.1⟩,h.2.1,(hr0.trans h2).trans h.2.2⟩
 generalize bB (txtE v) = T at *
 clear p1 p2 p3 p4 p5 hv hz hlen hn
 go_enter Tryz.func37,Tryz.ntmps37
 go_wp2_with (first
  | (go_at_call 68;refine htx.mono ?_;clear htx;rintro e w1 ⟨rfl,hb1⟩;have hca:=hWS.out w1 hb1;clear hWS)
  | (go_at_call 67;refine hca.mono ?_;clear hca;rintro e w2 ⟨⟨i,rfl⟩,hd2,hr2⟩))
 go_end0
 exact ⟨rfl,hd2,hr2⟩
theorem wrR {w0 : World} {B b : Nat} {N : ByteArray} (h0 : w0.heap.size ≤ B) : WrC 37 w0 B b (exR N) (36 :: N.data.toList):=by
 intro w k n vk vn a m c l hb0 hv hbd hB hlen
 obtain ⟨p1,p2,p3,p4,p5⟩:=hv.parts
 have hr0:=Wr.new (b:=b) w hB (.cells #[.int .i64 k,.string n,.int .i64 vk,.int .i64 vn,.slice a m c] 27)
 have hbd0:=hbd.alloc (.cells #[.int .i64 k,.string n,.int .i64 vk,.int .i64 vn,.slice a m c] 27)
 have hle1:=hr0.le hB
 have e1 : k = 2:=p1
 have e2 : n = N:=p2
 subst e1 e2
 have hns : n.size ≤ 1000000000:=by rw [List.length_cons,show n.data.toList.length = n.size from Array.length_toList] at hlen;omega
 have hz : (⟨#[36]⟩ ++ n : ByteArray).size = n.size + 1:=by rw [ByteArray.size_append];show 1 + n.size = _;omega
 have hnn : n.data.toList.length = n.size:=Array.length_toList
 have hWS : Hid (Calls Tryz.prog 67 #[.pointer (some ⟨b,0,none⟩),.string (⟨#[36]⟩ ++ n)] (w.alloc (.cells #[.int .i64 2,.string n,.int .i64 vk,.int .i64 vn,.slice a m c] 27)) fun e w'=>(∃ i : Int,e = .returned (.tuple #[.int .i64 i,.nilIface]))∧Bd B b (l ++ 36 :: n.data.toList) w'∧Wr B b w w'):=by
  have:=ws_any B b l (⟨#[36]⟩ ++ n) (w.alloc (.cells #[.int .i64 2,.string n,.int .i64 vk,.int .i64 vn,.slice a m c] 27)) hbd0 (by rw [hz];rw [List.length_cons,hnn] at hlen;omega) hle1
  have e : (⟨#[36]⟩ ++ n : ByteArray).data.toList = 36 :: n.data.toList:=by simp
  rw [e] at this
  exact this.mono fun e w' h=>⟨⟨_,h.1⟩,h.2.1,hr0.trans h.2.2⟩
 clear p1 p2 p3 p4 p5 hv hz hlen hnn
 go_enter Tryz.func37,Tryz.ntmps37
 go_wp2_with (first
  | (go_at_call 67;refine hWS.out.mono ?_;rintro e w2 ⟨⟨i,rfl⟩,hd2,hr2⟩))
 go_end0
 exact ⟨rfl,hd2,hr2⟩
theorem wrC {w0 : World} {B b : Nat} {N : ByteArray} {kids : List Ex} {t : List UInt8} (hc : WrC 69 w0 B b (exC N kids) t) (h0 : w0.heap.size ≤ B) : WrC 37 w0 B b (exC N kids) (t):=by
 intro w k n vk vn a m c l hb0 hv hbd hB hlen
 obtain ⟨p1,p2,p3,p4,p5⟩:=hv.parts
 have hr0:=Wr.new (b:=b) w hB (.cells #[.int .i64 k,.string n,.int .i64 vk,.int .i64 vn,.slice a m c] 27)
 have hbd0:=hbd.alloc (.cells #[.int .i64 k,.string n,.int .i64 vk,.int .i64 vn,.slice a m c] 27)
 have hle1:=hr0.le hB
 have e1 : k = 3:=p1
 subst e1
 have hca:=hc (w.alloc (.cells #[.int .i64 3,.string n,.int .i64 vk,.int .i64 vn,.slice a m c] 27)) 3 n vk vn a m c l (hb0.trans (hr0.low.mono h0)) (hv.low hr0.low) hbd0 hle1 hlen
 clear p1 p2 p3 p4 p5 hv hlen hc
 go_enter Tryz.func37,Tryz.ntmps37
 go_wp2_with (first
  | (go_at_call 69;refine hca.mono ?_;clear hca;rintro e w2 ⟨rfl,hd2,hr2⟩))
 go_end0
 exact ⟨rfl,hd2,hr0.trans hr2⟩
theorem wv_num {v : Vl} (h : WV parC v) : NumV v:=by
 rcases h with rfl | rfl | rfl | ⟨c,r,hd,hn,hs⟩
 · exact .inl rfl
 · exact .inr (.inl rfl)
 · exact .inr (.inr (.inl rfl))
 · have h1:=List.find?_some hs
   have h2 : txtS v = bB (c :: r):=of_decide_eq_true h1
   have hv:=(parC_yes hs).1
   have hno : ∀ (u : Vl) (a : UInt8) (b : List UInt8),txtS u = bB (a :: b)→dg a = false→v ≠ u:=fun u a b hu ha e=>by
    subst e
    rw [h2] at hu
    have:=bB_inj hu
    injection this with e1 _
    rw [e1,ha] at hd;cases hd
   rcases hv.cases with ⟨n,rfl,_⟩ | rfl | rfl | rfl | rfl
   · exact .inr (.inr (.inr ⟨n,rfl⟩))
   · exact absurd rfl (hno nul 110 [117,108,108] rfl (by decide))
   · exact absurd rfl (hno nan 78 [97,78] rfl (by decide))
   · exact absurd rfl (hno pls 43 [73,110,102] rfl (by decide))
   · exact absurd rfl (hno mns 45 [73,110,102] rfl (by decide))
theorem lev_size {n : ByteArray} {l : Nat} (hl : l < 5) (h : levOf n = (l : Int)) : n.size ≤ 1000:=by
 rcases lev_in hl h with rfl | rfl | rfl | rfl | rfl | rfl | rfl | rfl | rfl | rfl | rfl | rfl <;> decide
theorem fn_size {n : ByteArray} (h : n ∈ fnL) : n.size ≤ 1000:=by
 simp only [fnL,List.mem_cons,List.not_mem_nil,or_false] at h
 rcases h with rfl | rfl | rfl | rfl | rfl | rfl <;> decide
theorem turn_size {n : ByteArray} (h : turnB n = true) : n.size ≤ 1000:=by
 unfold turnB at h
 simp only [Bool.or_eq_true,decide_eq_true_eq] at h
 rcases h with rfl | rfl <;> decide
theorem write_any {w0 : World} {B b : Nat} (h0 : w0.heap.size ≤ B) (hg : G w0) {x : Ex} (h : WF parC x) : WrC 37 w0 B b x (prL x):=by
 induction h with
 | @n v hv =>
  have hp : prL (exN v) = txtE v:=by unfold exN;rw [prL,if_pos rfl]
  rw [hp]
  exact wrN (wv_num hv) hg h0
 | @r n hn =>
  have hp : prL (exR n) = 36 :: n.data.toList:=by unfold exR;rw [prL,if_neg (by decide),if_pos rfl]
  rw [hp]
  exact wrR h0
 | @t n x hn hx ih =>
  have hp : prL (exC n [x]) = n.data.toList ++ opT x (prL x):=by unfold exC;rw [prL,if_neg (by decide),if_neg (by decide),if_pos rfl,prK,prK1,if_pos hn]
  rw [hp]
  exact wrC (callT h0 (opd_any h0 ih) (turn_size hn) hn) h0
 | @f n x hn hx ih =>
  have h2:=(fn_str (par:=parC) hn).2.1
  have hp : prL (exC n [x]) = n.data.toList ++ inBr (prL x):=by unfold exC;rw [prL,if_neg (by decide),if_neg (by decide),if_pos rfl,prK,prK1,if_neg (by rw [h2];decide)]
  rw [hp]
  exact wrC (callF h0 (inB_any h0 ih) (fn_size hn) h2) h0
 | @o n x y l hl hv hx hy ih1 ih2 =>
  have hp : prL (exC n [x,y]) = opT x (prL x) ++ 32 :: (n.data.toList ++ 32 :: opT y (prL y)):=by unfold exC;rw [prL,if_neg (by decide),if_neg (by decide),if_pos rfl,prK,prK1,if_pos (by rfl)]
  rw [hp]
  exact wrC (call2_any h0 (opd_any h0 ih1) (opd_any h0 ih2) (lev_size hl hv)) h0
mutual
def nodes : Ex→Nat
 | .mk k n v l=>1 + nodesK l
def nodesK : List Ex→Nat
 | []=>0
 | t :: r=>nodes t + nodesK r
end
theorem nodes_n (v : Vl) : nodes (exN v) = 1:=by unfold exN;rw [nodes,nodesK]
theorem nodes_r (n : ByteArray) : nodes (exR n) = 1:=by unfold exR;rw [nodes,nodesK]
theorem nodes_1 (n : ByteArray) (x : Ex) : nodes (exC n [x]) = 1 + nodes x:=by unfold exC;rw [nodes,nodesK,nodesK];rfl
theorem nodes_2 (n : ByteArray) (x y : Ex) : nodes (exC n [x,y]) = 1 + nodes x + nodes y:=by unfold exC;rw [nodes,nodesK,nodesK,nodesK];omega
theorem opT_len (x : Ex) (t : List UInt8) : (opT x t).length ≤ t.length + 2:=by
 unfold opT inBr
 split
 · simp
 · omega
theorem txtE_len {v : Vl} (h : WV parC v) : (txtE v).length ≤ 18:=by
 rcases wv_num h with rfl | rfl | rfl | ⟨n,rfl⟩
 · decide
 · decide
 · decide
 · unfold txtE nul nan pls
   rw [if_neg (by simp),if_neg (by simp),if_neg (by simp)]
   unfold prS
   split
   · rename_i hv
     unfold txtS bOf u8s
     have:=txt_len hv
     simpa using this
   · simp
theorem bl (n : ByteArray) : n.data.toList.length = n.size:=Array.length_toList
theorem wf_len {x : Ex} (h : WF parC x) : (prL x).length + 6 ≤ 30 * nodes x:=by
 induction h with
 | @n v hv =>
  have hp : prL (exN v) = txtE v:=by unfold exN;rw [prL,if_pos rfl]
  rw [hp,nodes_n]
  have:=txtE_len hv
  omega
 | @r n hn =>
  have hp : prL (exR n) = 36 :: n.data.toList:=by unfold exR;rw [prL,if_neg (by decide),if_pos rfl]
  rw [hp,nodes_r,List.length_cons,bl]
  unfold refB at hn
  simp only [Bool.and_eq_true,decide_eq_true_eq] at hn
  omega
 | @t n x hn hx ih =>
  have hp : prL (exC n [x]) = n.data.toList ++ opT x (prL x):=by unfold exC;rw [prL,if_neg (by decide),if_neg (by decide),if_pos rfl,prK,prK1,if_pos hn]
  rw [hp,nodes_1,List.length_append,bl]
  have h1:=opT_len x (prL x)
  have h2 : n.size ≤ 1:=by
   unfold turnB at hn
   simp only [Bool.or_eq_true,decide_eq_true_eq] at hn
   rcases hn with rfl | rfl <;> decide
  omega
 | @f n x hn hx ih =>
  have h2:=(fn_str (par:=parC) hn).2.1
  have hp : prL (exC n [x]) = n.data.toList ++ inBr (prL x):=by unfold exC;rw [prL,if_neg (by decide),if_neg (by decide),if_pos rfl,prK,prK1,if_neg (by rw [h2];decide)]
  rw [hp,nodes_1,List.length_append,bl]
  have h1 : (inBr (prL x)).length = (prL x).length + 2:=by unfold inBr;simp
  have h3 : n.size ≤ 9:=by
   simp only [fnL,List.mem_cons,List.not_mem_nil,or_false] at hn
   rcases hn with rfl | rfl | rfl | rfl | rfl | rfl <;> decide
  omega
 | @o n x y l hl hv hx hy ih1 ih2 =>
  have hp : prL (exC n [x,y]) = opT x (prL x) ++ 32 :: (n.data.toList ++ 32 :: opT y (prL y)):=by unfold exC;rw [prL,if_neg (by decide),if_neg (by decide),if_pos rfl,prK,prK1,if_pos (by rfl)]
  rw [hp,nodes_2,List.length_append,List.length_cons,List.length_append,List.length_cons,bl]
  have h1:=opT_len x (prL x)
  have h2:=opT_len y (prL y)
  have h3 : n.size ≤ 2:=by
   rcases lev_in hl hv with rfl | rfl | rfl | rfl | rfl | rfl | rfl | rfl | rfl | rfl | rfl | rfl <;> decide
  omega
theorem prt_any (w : World) (hG : G w) {x : Ex} (hW : WF parC x) (hl : (prL x).length ≤ 1000000) (k : Int) (n : ByteArray) (vk vn : Int) (a : Option Addr) (m c : Nat) (hv : ExV w (fun q=>q < w.heap.size) x (.agg #[.int .i64 k,.string n,.int .i64 vk,.int .i64 vn,.slice a m c])) :
 Calls Tryz.prog 14 #[.agg #[.int .i64 k,.string n,.int .i64 vk,.int .i64 vn,.slice a m c]] w fun e w'=>e = .returned (.string (bB (prL x)))∧Below w.heap.size w w':=by
 have hb0:=bW0 w (.cells #[.int .i64 k,.string n,.int .i64 vk,.int .i64 vn,.slice a m c] 27)
 have hsz : (w.alloc (.cells #[.int .i64 k,.string n,.int .i64 vk,.int .i64 vn,.slice a m c] 27)).heap.size = w.heap.size + 1:=by simp
 have hb1:=bW0 (w.alloc (.cells #[.int .i64 k,.string n,.int .i64 vk,.int .i64 vn,.slice a m c] 27)) (.cells #[.pointer none,.slice none 0 0] 75)
 have hb2 : Below w.heap.size w ((w.alloc (.cells #[.int .i64 k,.string n,.int .i64 vk,.int .i64 vn,.slice a m c] 27)).alloc (.cells #[.pointer none,.slice none 0 0] 75)):=hb0.trans (hb1.mono hb0.size)
 have hbd : Bd w.heap.size (w.heap.size + 1) [] ((w.alloc (.cells #[.int .i64 k,.string n,.int .i64 vk,.int .i64 vn,.slice a m c] 27)).alloc (.cells #[.pointer none,.slice none 0 0] 75)):=by
  refine .inl ⟨by omega,.slice none 0 0,?_,⟨rfl,.inl ⟨rfl,rfl⟩⟩,by simp [Value.ownBlock]⟩
  show ((w.alloc (.cells #[.int .i64 k,.string n,.int .i64 vk,.int .i64 vn,.slice a m c] 27)).heap.push _)[w.heap.size + 1]? = _
  rw [← hsz,Array.getElem?_push_size]
 have hwr:=write_any (w0:=w) (B:=w.heap.size) (b:=w.heap.size + 1) (Nat.le_refl _) hG hW _ k n vk vn a m c [] hb2 (hv.low hb2) hbd hb2.size (by simp;omega)
 have hst : Hid (∀ W,Bd w.heap.size (w.heap.size + 1) (prL x) W→Below w.heap.size w W→Calls Tryz.prog 38 #[.pointer (some ⟨w.heap.size + 1,0,none⟩)] W fun e w'=>e = .returned (.string (bB (prL x)))∧Below w.heap.size w w'):=fun W h1 h2 =>
  (Any.Builder_String_any_k Tryz.lays169 Tryz.Builder_Extra_169 w.heap.size (w.heap.size + 1) (prL x) W h1 h2.size).mono fun e w' h=>⟨h.1,h2.trans h.2.2.1⟩
 rw [List.nil_append] at hwr
 generalize bB (prL x) = T at *
 generalize prL x = t at *
 clear hsz hb1 hbd hv hl
 go_enter Tryz.func14,Tryz.ntmps14
 go_wp2_with (first
  | (go_at_call 37;refine hwr.mono ?_;clear hwr;rintro e w1 ⟨rfl,hd1,hr1⟩;have hca:=hst.out w1 hd1 (hb2.trans hr1.low))
  | (go_at_call 38;refine hca.mono ?_;rintro e w2 ⟨rfl,hb3⟩))
 go_ret
 exact ⟨rfl,hb3⟩
def ex0 : Ex:=exR ⟨#[]⟩
theorem kidsF_at {w : World} {A : Nat→Prop} : ∀ (l : List Ex) (b o i : Nat),kidsF w A l b o→i < l.length→exAt w A (l.getD i ex0) b (o + i * 5)
 | [],_,_,_,_,h=>absurd h (by simp)
 | t :: r,b,o,0,h,_=>by unfold kidsF at h;simpa using h.1
 | t :: r,b,o,i + 1,h,hi=>by
  unfold kidsF at h
  have:=kidsF_at r b (o + 5) i h.2 (by simpa using hi)
  have e : o + 5 + i * 5 = o + (i + 1) * 5:=by omega
  rw [e] at this
  simpa using this
theorem kids_at {w : World} {A : Nat→Prop} {l : List Ex} {a : Option Addr} {m c : Nat} (h : kidsV w A l (.slice a m c)) (i : Nat) (hi : i < l.length) : ∃ b o,a = some ⟨b,o,none⟩∧A b∧b < w.heap.size∧exAt w A (l.getD i ex0) b (o + i * 5):=by
 cases l with
 | nil=>simp at hi
 | cons t r =>
  unfold kidsV at h
  obtain ⟨b,o,c',e,hA,hb,h1,h2⟩:=h
  injection e with e1 e2 e3
  refine ⟨b,o,e1,hA,hb,?_⟩
  exact kidsF_at (t :: r) b o i (by unfold kidsF;exact ⟨h1,h2⟩) hi
theorem At5.grow {w w' : World} {q o : Nat} {k : Int} {n : ByteArray} {vk vn : Int} {a : Option Addr} {m c : Nat} (h : At5 w q o k n vk vn a m c) (hb : Below w.heap.size w w') : At5 w' q o k n vk vn a m c:=by
 have hq : q < w.heap.size:=World.block_lt_of_cell? w _ h.c0
 exact h.low hb hq
def SmC (x : Ex) : Prop:=∀ (w : World) (A A' : Nat→Prop) (k : Int) (n : ByteArray) (vk vn : Int) (a a' : Option Addr) (m c c' : Nat),ExV w A x (.agg #[.int .i64 k,.string n,.int .i64 vk,.int .i64 vn,.slice a m c])→ExV w A' x (.agg #[.int .i64 k,.string n,.int .i64 vk,.int .i64 vn,.slice a' m c']) →
 Calls Tryz.prog 10 #[.agg #[.int .i64 k,.string n,.int .i64 vk,.int .i64 vn,.slice a m c],.agg #[.int .i64 k,.string n,.int .i64 vk,.int .i64 vn,.slice a' m c']] w fun e w'=>e = .returned (.bool true)∧Below w.heap.size w w'
theorem ExV.kids {w : World} {A : Nat→Prop} {x : Ex} {k : Int} {n : ByteArray} {vk vn : Int} {a : Option Addr} {m c : Nat} (h : ExV w A x (.agg #[.int .i64 k,.string n,.int .i64 vk,.int .i64 vn,.slice a m c])) : kidsV w A x.kids (.slice a m c):=by
 obtain ⟨K,h1,h2⟩:=h
 injection h1 with h1
 have e2:=congrArg Array.toList h1
 simp only [List.cons.injEq,and_true] at e2
 rw [e2.2.2.2.2]
 exact h2
theorem ExV.kid {w : World} {A : Nat→Prop} {x : Ex} {k : Int} {n : ByteArray} {vk vn : Int} {a : Option Addr} {m c : Nat} (h : ExV w A x (.agg #[.int .i64 k,.string n,.int .i64 vk,.int .i64 vn,.slice a m c])) (i : Nat) (hi : i < m) : ∃ b o,a = some ⟨b,o,none⟩∧A b∧∃ k' n' vk' vn' a' m' c',At5 w b (o + i * 5) k' n' vk' vn' a' m' c'∧ExV w A (x.kids.getD i ex0) (.agg #[.int .i64 k',.string n',.int .i64 vk',.int .i64 vn',.slice a' m' c']):=by
 have hm:=h.parts.2.2.2.2
 obtain ⟨b,o,h1,h2,h3,h4⟩:=kids_at h.kids i (by rw [← hm];exact hi)
 exact ⟨b,o,h1,h2,h4.open⟩
end Go.Proofs.YtdhlfpgibfaimaaGreatDoor
