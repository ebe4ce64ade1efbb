/- Dy;Dz. -/
import Derived.Test.YtdhlfpgibfaimaaGreatDoorDpDt

set_option maxRecDepth 100000
set_option maxHeartbeats 8000000
set_option linter.unusedVariables false
namespace Go.Proofs.YtdhlfpgibfaimaaGreatDoor
open Go.RowKit
theorem szE (W : World) : (W.alloc zE).heap.size = W.heap.size + 1:=by simp
def PD (d : Nat) (s : ByteArray) : Prop:=∀ (W : World) (p i : Nat) (e t : Int),RpT W p s i e t→i ≤ s.size→(e = 0→d ≤ 32)→Calls Tryz.prog 246 #[.pointer (some ⟨p,0,none⟩),.int .i64 (d : Int)] W fun r w'=>JdQ s p i e W r w'
theorem signed212 {s : ByteArray} {d : Nat} (hs : s.size ≤ 1024) (hd : d ≤ 100) (hP : PD d s) (hS : d ≤ 32→JD 212 (d + 1) s) : JD 212 d s:=by
 intro W p i e t hp hi
 have hb:=bW0 W zE
 have hpl:=hp.lt
 have hbl:=blanks_any _ p s i e t (hp.grow hb) hi (by omega)
 have hfl : Hid (∀ W2 j2,RpT W2 p s j2 e t→Calls Tryz.prog 31 #[.pointer (some ⟨p,0,none⟩),.int .i64 111,.int .i64 (j2 : Int)] W2 fun r w'=>r = .returned (.tuple #[])∧Hid (Fp p W2 w'∧∃ e' t',RpT w' p s j2 e' t'∧(e ≠ 0→e' = e)∧(e = 0→e' = 111))):=fun W2 j2 g=>fail_any W2 p s j2 e t 111 j2 g
 have hS2 : d ≤ 32→∀ W2 j2 e2 t2,RpT W2 p s j2 e2 t2→j2 ≤ s.size→Calls Tryz.prog 212 #[.pointer (some ⟨p,0,none⟩),.int .i64 ((d : Int) + 1)] W2 fun r w'=>JdQ s p j2 e2 W2 r w':=fun h W2 j2 e2 t2 h1 h2=>hS h W2 p j2 e2 t2 h1 h2
 have htk : Hid (∀ W2 j2 e2 t2,RpT W2 p s j2 e2 t2→j2 ≤ s.size→p < W2.heap.size→Calls Tryz.prog 64 #[.pointer (some ⟨p,0,none⟩),.slice (some ⟨W2.heap.size,0,none⟩) 2 2] (W2.alloc (.cells #[.string ⟨#[45]⟩,.string ⟨#[33]⟩] 9)) fun r w'=>TkQ s p j2 e2 t2 (W2.alloc (.cells #[.string ⟨#[45]⟩,.string ⟨#[33]⟩] 9)) r w'):=fun W2 j2 e2 t2 h1 h2 h3=>take64 _ p s j2 e2 t2 (h1.grow (bW0 _ _)) h2 (by omega) W2.heap.size 2 (strR_new W2 [⟨#[45]⟩,⟨#[33]⟩] (by decide)) (by omega) (by omega)
 have hcl:=fun (nm : ByteArray) (b : Nat) W2=>rcall_any nm (some ⟨b,0,none⟩) 1 1 W2
 clear hS hb hp
 by_cases h32 : 32 < d
 · have h32i : (32 : Int) < (d : Int):=by omega
   go_enter Tryz.func212,Tryz.ntmps212
   go_wp2_with (first
    | (go_at_call 30;refine hbl.mono ?_;clear hbl;rintro r wb ⟨rfl,i1,hi1,hi2,hpb,hfb⟩;obtain ⟨c0,c1,c2,c3⟩:=hpb.out.cells;have hfj:=hfl.out wb i1 hpb.out)
    | (go_at_call 31;refine hfj.mono ?_;clear hfj hfl;rintro r wa ⟨rfl,hA⟩;apply Hid.out))
   obtain ⟨hfa0,ea,ta,hpa,ha1,ha2⟩:=hA.out
   have hfa:=hfb.out.trans hfa0
   have hea : e ≠ 0→ea ≠ 0:=(fun q=>by rw [ha1 q];exact q)
   have hne : ea ≠ 0:=fun q=>by
    by_cases q0 : e = 0
    · rw [ha2 q0] at q;omega
    · exact hea q0 q
   clear c0 c1 c2 c3
   have hL : Hid (Fp p (W.alloc zE) (wa.alloc (.cells #[.string ⟨#[45]⟩,.string ⟨#[33]⟩] 9))):=hfa.trans (Fp.of (bW0 wa (.cells #[.string ⟨#[45]⟩,.string ⟨#[33]⟩] 9)))
   have htj:=htk.out wa i1 ea ta hpa hi2 (by have:=hfa.size;have h9:=szE W;omega)
   unfold Hid
   go_wp2_with (first | (go_at_call 64;refine htj.mono ?_;clear htj;rintro r w2 ⟨v,j2,rfl,hjj,hj2,hp2,hf2,hv⟩;apply Hid.out))
   have hf3 : Hid (Fp p (W.alloc zE) w2):=hL.out.trans hf2.out
   have hz : Hid (∀ w3,Fp p w2 w3→Bx w3 W.heap.size 27 (.int .i64 0) (.string ⟨#[]⟩) (.int .i64 0) (.int .i64 0) (.slice none 0 0)):=fun w3 h=>(bxNew W 27 _ _ _ _ _).fp (hf3.out.trans h) (by omega)
   have hs3 : W.heap.size < w2.heap.size:=by have:=hf3.out.size;have h9:=szE W;omega
   unfold Hid
   clear hL
   rcases hv with rfl | ⟨k1,k2,k3⟩
   · have hc:=hP w2 p j2 ea ta hp2.out hj2 (fun q=>absurd q hne)
     go_wp2_with (first | (go_at_call 246;refine hc.mono ?_;clear hc;rintro r w3 ⟨k5,n5,x5,y5,a5,m5,c5,rfl,j5,e5,t5,X5,h5⟩;obtain ⟨z0,z1,z2,z3,z4⟩:=(hz.out w3 h5.out.fp).cells;obtain ⟨f0,f1,f2,f3,f4⟩:=(hz.out w3 h5.out.fp).frozen))
     have hdn:=jd_out (i:=i) (e:=e) hpl (hf3.out.trans h5.out.fp) h5.out.rp (by have:=h5.out.ge;omega) h5.out.le (fun q=>h5.out.er (hea q)) (h5.out.v.more fun b hb=>by omega) h5.out.we
     exact ret27 Tryz.results212 rfl hdn.1 ⟨_,_,_,_,_,_,_,rfl,_,_,_,_,hdn.2⟩
   · have he0:=k3.out.1
     exact absurd he0 hne
 · have h32i : ¬ (32 : Int) < (d : Int):=by omega
   go_enter Tryz.func212,Tryz.ntmps212
   go_wp2_with (first
    | (go_at_call 30;refine hbl.mono ?_;clear hbl;rintro r wb ⟨rfl,i1,hi1,hi2,hpb,hfb⟩;apply Hid.out))
   have hfa:=hfb.out
   have hea : e ≠ 0→e ≠ 0:=(fun q=>q)
   have hd32 : d ≤ 32:=by omega
   have hL : Hid (Fp p (W.alloc zE) (wb.alloc (.cells #[.string ⟨#[45]⟩,.string ⟨#[33]⟩] 9))):=hfa.trans (Fp.of (bW0 wb (.cells #[.string ⟨#[45]⟩,.string ⟨#[33]⟩] 9)))
   have htj:=htk.out wb i1 e t hpb.out hi2 (by have:=hfa.size;have h9:=szE W;omega)
   unfold Hid
   go_wp2_with (first | (go_at_call 64;refine htj.mono ?_;clear htj;rintro r w2 ⟨v,j2,rfl,hjj,hj2,hp2,hf2,hv⟩;apply Hid.out))
   have hf3 : Hid (Fp p (W.alloc zE) w2):=hL.out.trans hf2.out
   have hz : Hid (∀ w3,Fp p w2 w3→Bx w3 W.heap.size 27 (.int .i64 0) (.string ⟨#[]⟩) (.int .i64 0) (.int .i64 0) (.slice none 0 0)):=fun w3 h=>(bxNew W 27 _ _ _ _ _).fp (hf3.out.trans h) (by omega)
   have hs3 : W.heap.size < w2.heap.size:=by have:=hf3.out.size;have h9:=szE W;omega
   unfold Hid
   clear hL
   rcases hv with rfl | ⟨k1,k2,k3⟩
   · have hc:=hP w2 p j2 e t hp2.out hj2 (fun _=>hd32)
     go_wp2_with (first | (go_at_call 246;refine hc.mono ?_;clear hc;rintro r w3 ⟨k5,n5,x5,y5,a5,m5,c5,rfl,j5,e5,t5,X5,h5⟩;obtain ⟨z0,z1,z2,z3,z4⟩:=(hz.out w3 h5.out.fp).cells;obtain ⟨f0,f1,f2,f3,f4⟩:=(hz.out w3 h5.out.fp).frozen))
     have hdn:=jd_out (i:=i) (e:=e) hpl (hf3.out.trans h5.out.fp) h5.out.rp (by have:=h5.out.ge;omega) h5.out.le (fun q=>h5.out.er (hea q)) (h5.out.v.more fun b hb=>by omega) h5.out.we
     exact ret27 Tryz.results212 rfl hdn.1 ⟨_,_,_,_,_,_,_,rfl,_,_,_,_,hdn.2⟩
   · have he0:=k3.out.1
     have hc:=hS2 hd32 w2 j2 e t hp2.out hj2
     go_wp2_with (first
      | (go_at_call 212;refine hc.mono ?_;clear hc;rintro r w3 ⟨k5,n5,x5,y5,a5,m5,c5,rfl,j5,e5,t5,X5,h5⟩)
      | (go_at_call 65;refine (hcl _ _ _).mono ?_;rintro r w5 ⟨rfl,hb5⟩;have hb6:=(bW0 w3 (.cells #[.int .i64 k5,.string n5,.int .i64 x5,.int .i64 y5,.slice a5 m5 c5] 27)).trans (hb5.mono (by simp));obtain ⟨z0,z1,z2,z3,z4⟩:=(hz.out w5 (h5.out.fp.trans (Fp.of hb6))).cells;obtain ⟨f0,f1,f2,f3,f4⟩:=(hz.out w5 (h5.out.fp.trans (Fp.of hb6))).frozen))
     have hsz:=h5.out.fp.size
     have hV:=exC1_V (A:=fun b=>W.heap.size < b) X5 v _ _ _ _ _ (h5.out.v.more fun b hb=>by omega) (by omega)
     have hdn:=jd_out (i:=i) (e:=e) hpl (hf3.out.trans (h5.out.fp.trans (Fp.of hb6))) (h5.out.rp.grow hb6) (by have:=h5.out.ge;omega) h5.out.le (fun q=>h5.out.er (hea q)) (hV.grow hb5) (fun q=>WE.c1 v (h5.out.we q))
     exact ret27 Tryz.results212 rfl hdn.1 ⟨_,_,_,_,_,_,_,rfl,_,_,_,_,hdn.2⟩
end Go.Proofs.YtdhlfpgibfaimaaGreatDoor

set_option maxRecDepth 100000
set_option maxHeartbeats 8000000
set_option linter.unusedVariables false
namespace Go.Proofs.YtdhlfpgibfaimaaGreatDoor
open Go.RowKit
def ValC (f : Nat) : Prop:=∀ W : World,Calls Tryz.prog f #[] W fun r w'=>∃ k n : Int,r = .returned (.agg #[.int .i64 k,.int .i64 n])∧Hid (Below W.heap.size W w')
def ParC : Prop:=∀ (u : ByteArray) (W : World),u.size ≤ 1024→Calls Tryz.prog 273 #[.string u] W fun r w'=>∃ k n er : Int,r = .returned (.tuple #[.agg #[.int .i64 k,.int .i64 n],.int .i64 er])∧Hid (Below W.heap.size W w')
def exZ : Ex:=.mk 0 ⟨#[]⟩ zer []
theorem exZ_V (w : World) (A : Nat→Prop) : ExV w A exZ (.agg #[.int .i64 0,.string ⟨#[]⟩,.int .i64 0,.int .i64 0,.slice none 0 0]):=⟨_,rfl,by unfold exZ Ex.kids kidsV;rfl⟩
def Bx2 (w : World) (x : Nat) (k n : Int) : Prop:=w.heap[x]? = some (.cells #[.int .i64 k,.int .i64 n] 24 (0,0))
theorem Bx2.cells {w : World} {x : Nat} {k n : Int} (h : Bx2 w x k n) : w.cell? ⟨x,0,none⟩ = some (.int .i64 k)∧w.cell? ⟨x,1,none⟩ = some (.int .i64 n):=by
 unfold Bx2 at h
 simp [World.cell?,h]
theorem bx2New (w : World) (k n : Int) : Bx2 (w.alloc (.cells #[.int .i64 k,.int .i64 n] 24)) w.heap.size k n:=by
 show (w.heap.push _)[w.heap.size]? = _
 simp
theorem Bx2.lt {w : World} {x : Nat} {k n : Int} (h : Bx2 w x k n) : x < w.heap.size:=(Array.getElem?_eq_some_iff.1 h).1
theorem Bx2.fp {w w' : World} {x p : Nat} {k n : Int} (h : Bx2 w x k n) (hf : Fp p w w') (hne : x ≠ p) : Bx2 w' x k n:=(hf.block x h.lt hne).trans h
theorem Bx2.set {w : World} {x y i : Nat} {k n : Int} {u : Value} (h : Bx2 w x k n) (hne : x ≠ y) : Bx2 (w.setCell ⟨y,i,none⟩ u) x k n:=(set_block hne).trans h
theorem Bx.sto {w : World} {x y i : Nat} {T : TypeId} {a b c d e u : Value} (h : Bx w x T a b c d e) (hne : x ≠ y) : Bx (w.setCell ⟨y,i,none⟩ u) x T a b c d e:=(set_block hne).trans h
theorem primE {s : ByteArray} {d : Nat} (hs : s.size ≤ 1024) (W : World) (p i : Nat) (e t : Int) (hp : RpT W p s i e t) (hi : i ≤ s.size) (he : e ≠ 0) : Calls Tryz.prog 246 #[.pointer (some ⟨p,0,none⟩),.int .i64 (d : Int)] W fun r w'=>JdQ s p i e W r w':=by
 have hb:=bW0 W zE
 have hpl:=hp.lt
 have hbl:=blanks_any _ p s i e t (hp.grow hb) hi (by omega)
 have hne : (e != 0) = true:=bne_iff_ne.2 he
 have hz : Hid (∀ w3,Fp p (W.alloc zE) w3→Bx w3 W.heap.size 27 (.int .i64 0) (.string ⟨#[]⟩) (.int .i64 0) (.int .i64 0) (.slice none 0 0)):=fun w3 h=>(bxNew W 27 _ _ _ _ _).fp h (by omega)
 have he9 : Hid (e ≠ 0):=he
 clear hb hp he
 go_enter Tryz.func246,Tryz.ntmps246
 go_wp2_with (first | (go_at_call 30;refine hbl.mono ?_;clear hbl;rintro r wb ⟨rfl,i1,hi1,hi2,hpb,hfb⟩;obtain ⟨c0,c1,c2,c3⟩:=hpb.out.cells;obtain ⟨z0,z1,z2,z3,z4⟩:=(hz.out wb hfb.out).cells;obtain ⟨f0,f1,f2,f3,f4⟩:=(hz.out wb hfb.out).frozen))
 have hdn:=jd_out (i:=i) (e:=e) hpl hfb.out hpb.out hi1 hi2 (fun q=>q) (exZ_V _ _) (fun q=>absurd q he9.out)
 exact ret27 Tryz.results246 rfl hdn.1 ⟨_,_,_,_,_,_,_,rfl,_,_,_,_,hdn.2⟩
end Go.Proofs.YtdhlfpgibfaimaaGreatDoor
