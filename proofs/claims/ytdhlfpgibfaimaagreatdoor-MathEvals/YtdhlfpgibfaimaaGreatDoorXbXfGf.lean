/- XbXf;Ge;Gf. -/
import Derived.Test.YtdhlfpgibfaimaaGreatDoorQeQt
import Derived.Test.YtdhlfpgibfaimaaGreatDoorWoWq
import Derived.Test.YtdhlfpgibfaimaaGreatDoorXz
import Derived.Test.YtdhlfpgibfaimaaGreatDoorUn
import Derived.Test.YtdhlfpgibfaimaaGreatDoorDpDt
import Derived.Test.YtdhlfpgibfaimaaGreatDoorEb
import Derived.Test.YtdhlfpgibfaimaaGreatDoorFaFd
import Derived.Test.YtdhlfpgibfaimaaGreatDoorQuQw

set_option linter.unusedVariables false
namespace Go.Proofs.YtdhlfpgibfaimaaGreatDoor
open Go.RowKit
def LookAt (NL : List ByteArray) (VL : List Vl) (r : ByteArray) (v : Vl) : Prop:=∃ i,i < NL.length∧NL.getD i ⟨#[]⟩ = r∧VL.getD i zer = v∧∀ j,j < i→NL.getD j ⟨#[]⟩ ≠ r
def VaC (x : Ex) : Prop:=∀ (w : World) (A : Nat→Prop) (NL : List ByteArray) (VL : List Vl) (na : Option Addr) (nn nc : Nat) (la : Option Addr) (ln lc : Nat) (V : ByteArray→Vl) (v : Vl) (k : Int) (n : ByteArray) (vk vn : Int) (a : Option Addr) (m c : Nat),Txs w (.slice na nn nc) NL→Vls w (.slice la ln lc) VL→NL.length ≤ VL.length→VL.length ≤ 1000→ExV w A x (.agg #[.int .i64 k,.string n,.int .i64 vk,.int .i64 vn,.slice a m c])→VaT V x v→(∀ r ∈ refsE x,LookAt NL VL r (V r)) →
 Calls Tryz.prog 25 #[.agg #[.int .i64 k,.string n,.int .i64 vk,.int .i64 vn,.slice a m c],.slice na nn nc,.slice la ln lc] w fun e w'=>e = .returned (.tuple #[vlV v,.bool true])∧Below w.heap.size w w'
end Go.Proofs.YtdhlfpgibfaimaaGreatDoor
namespace Go.Proofs.YtdhlfpgibfaimaaGreatDoor
open Go.RowKit
open Series10 (Sr)
structure Fe where
 ref : ByteArray
 a : Option Addr
 n : Nat
 c : Nat
def encF : Enc Fe where
 arr x:=[.string x.ref,.slice x.a x.n x.c]
 d:=⟨⟨#[]⟩,none,0,0⟩
 k:=2
 len _:=rfl
 one _ u hu:=by simp at hu;rcases hu with rfl | rfl <;> rfl
 pos:=by decide
def TF : RowTy encF where
 st:=41
 et:=54
 z:=.agg #[.string ⟨#[]⟩,.slice none 0 0]
 bytes:=40
 hu:=Tryz.underlying41
 hi:=by kernel_rfl
 hz:=rfl
 hb:=by decide
end Go.Proofs.YtdhlfpgibfaimaaGreatDoor
namespace Go.Proofs.YtdhlfpgibfaimaaGreatDoor
open Go.RowKit
def frL (NL : List ByteArray) (VL : List Vl) (k : Nat) : List (ByteArray × List Series10.Sr):=(List.range k).map fun i=>(NL.getD i ⟨#[]⟩,[⟨[],VL.getD i zer⟩])
def ScB (w : World) (b : Nat) (v : Vl) : Prop:=w.heap[b]? = some (.cells #[.slice none 0 0,.int .i64 v.kind,.int .i64 v.n] 86 (0,0))
def FrI (w : World) (B : Nat) (v : Value) (NL : List ByteArray) (VL : List Vl) (fs : List Fe) (k : Nat) : Prop:=OwnS TF w B v fs∧fs.length = k∧∀ i,i < k→∃ b,fs.getD i encF.d = ⟨NL.getD i ⟨#[]⟩,some ⟨b,0,none⟩,1,1⟩∧ScB w b (VL.getD i zer)
end Go.Proofs.YtdhlfpgibfaimaaGreatDoor
namespace Go.Proofs.YtdhlfpgibfaimaaGreatDoor
open Go.RowKit Go.Maps Go.ChangeMaps Go.MapKept Go.ChangeShapes Go.WideShapes Go.ChangeAt Go.Deep
section
variable {H : Type} {enc : TypeId × Value→H} {W : World} {n : Nat}
end
end Go.Proofs.YtdhlfpgibfaimaaGreatDoor

set_option maxRecDepth 100000
set_option maxHeartbeats 8000000
set_option linter.unusedVariables false
namespace Go.Proofs.YtdhlfpgibfaimaaGreatDoor
open Go.RowKit
open Series10 (SortQ Sr)
theorem revN (v : Vl) : EvC 21 (exN v):=by
 intro w l ea en ec A k n vk vn a m c out er hen hf hF hv hT
 obtain ⟨rfl,rfl⟩:=hT.invN
 obtain ⟨p1,p2,p3,p4,p5⟩:=hv.parts
 have e1 : k = 1:=p1
 have e3 : vk = v.kind:=p3
 have e4 : vn = v.n:=p4
 subst e1 e3 e4
 have hb0:=bW0 w (.cells #[.int .i64 1,.string n,.int .i64 v.kind,.int .i64 v.n,.slice a m c] 27)
 have hsc:=rscalarG v (w.alloc (.cells #[.int .i64 1,.string n,.int .i64 v.kind,.int .i64 v.n,.slice a m c] 27))
 clear p1 p2 p3 p4 p5 hv hf hF hT
 go_enter Tryz.func21,Tryz.ntmps21
 go_wp2_with (first | (go_at_call 24;refine hsc.mono ?_;rintro e w1 ⟨a',c',rfl,h1⟩))
 go_ret2
 exact ⟨_,_,_,rfl,h1.out.1,hb0.trans (h1.out.2.mono hb0.size)⟩
theorem revR (N : ByteArray) : EvC 21 (exR N):=by
 intro w l ea en ec A k n vk vn a m c out er hen hf hF hv hT
 obtain ⟨p1,p2,p3,p4,p5⟩:=hv.parts
 have e1 : k = 2:=p1
 have e2 : n = N:=p2
 subst e1 e2
 have hb0:=bW0 w (.cells #[.int .i64 2,.string n,.int .i64 vk,.int .i64 vn,.slice a m c] 27)
 have hx0:=bxNew w 27 (.int .i64 2) (.string n) (.int .i64 vk) (.int .i64 vn) (.slice a m c)
 have hq:=hT.invR
 have hf0:=hf.grow hb0
 obtain ⟨hnl,hk0⟩:=hf
 have hk : Hid (∀ W,Below w.heap.size w W→∀ i,i < en→∃ b o sa sn sc,ea = some ⟨b,o,none⟩∧W.cell? ⟨b,o + i * 2,none⟩ = some (.string (l.getD i (⟨#[]⟩,[])).1)∧W.cell? ⟨b,o + i * 2 + 1,none⟩ = some (.slice sa sn sc)∧((l.getD i (⟨#[]⟩,[])).1 = n→(∀ j,i < j→j < en→(l.getD j (⟨#[]⟩,[])).1 ≠ n)→Calls Tryz.prog 50 #[.slice sa sn sc] W fun e w'=>Told W out er e w')):=fun W hW i hi=>by
  obtain ⟨b,o,sa,sn,sc,h1,h2,h3,h4⟩:=hk0 i hi
  refine ⟨b,o,sa,sn,sc,h1,(hW.cell (p:=⟨b,o + i * 2,none⟩) (World.block_lt_of_cell? _ _ h2)).trans h2,(hW.cell (p:=⟨b,o + i * 2 + 1,none⟩) (World.block_lt_of_cell? _ _ h3)).trans h3,fun h5 h6=>?_⟩
  have hE:=env_at (l:=l) (n:=n) (i:=i) (by omega) h5 (fun j h7 h8=>h6 j h7 (by omega))
  rw [hE] at hq
  have hm : (l.getD i (⟨#[]⟩,[])) ∈ l:=by
   rw [List.getD_eq_getElem?_getD,List.getElem?_eq_getElem (by omega)]
   exact List.getElem_mem _
  have hfew:=hF _ hm
  exact rsortG (h4.grow hW) hfew.1 (by rw [h4.len];exact hfew.2) hq
 have hno : Hid ((∀ j,j < en→(l.getD j (⟨#[]⟩,[])).1 ≠ n)→out = []∧er = 7):=fun h=>by
  have:=env_no (l:=l) (n:=n) (fun j hj=>h j (by omega))
  rw [this] at hq
  exact hq
 clear hF hq hnl hk0 hf0 hT p1 p2 p3 p4 p5 hv
 have hb0h : Hid (Below w.heap.size w (w.alloc (.cells #[.int .i64 2,.string n,.int .i64 vk,.int .i64 vn,.slice a m c] 27))):=hb0
 have hx0h : Hid (Bx (w.alloc (.cells #[.int .i64 2,.string n,.int .i64 vk,.int .i64 vn,.slice a m c] 27)) w.heap.size 27 (.int .i64 2) (.string n) (.int .i64 vk) (.int .i64 vn) (.slice a m c)):=hx0
 clear hb0 hx0
 go_enter Tryz.func21,Tryz.ntmps21
 go_wp2
 generalize hW0 : w.alloc (.cells #[.int .i64 2,.string n,.int .i64 vk,.int .i64 vn,.slice a m c] 27) = W0 at *
 clear hW0
 go_loopw [6] (fun i wr=>∃ kk : Nat,kk ≤ en∧i = .int .i64 ((kk : Int) - 1)∧Hid (∀ j,kk ≤ j→j < en→(l.getD j (⟨#[]⟩,[])).1 ≠ n)∧Hid (Below W0.heap.size W0 wr)) (fun i _=>(intOf i + 1).toNat)
 case atStart=>exact ⟨en,Nat.le_refl _,rfl,(fun j h1 h2=>absurd h2 (by omega)),Below.refl _ _⟩
 case round =>
  obtain ⟨kk,hkk,rfl,hall,hbr⟩:=hrel
  have hbw:=hb0h.out.trans (hbr.out.mono hb0h.out.size)
  cases kk with
  | zero =>
   have hlt : ¬ (0 : Int) ≤ ((0 : Nat) : Int) - 1:=by omega
   obtain ⟨rfl,rfl⟩:=hno.out (fun j hj=>hall.out j (Nat.zero_le _) hj)
   clear hk
   go_wp2
   go_ret2
   exact ⟨_,_,_,rfl,⟨[],rfl,sls_nil _,(fun x hx=>by cases hx),rfl⟩,hbw⟩
  | succ i =>
   have hei : ((i + 1 : Nat) : Int) - 1 = (i : Int):=by omega
   rw [hei]
   have hi0 : (0 : Int) ≤ (i : Int):=by omega
   obtain ⟨b,o,sa,sn,sc,rfl,h1,h2,hC⟩:=hk.out wr hbw i (by omega)
   have hin : (i : Int) < (en : Int):=by omega
   obtain ⟨nm,hnm⟩ : ∃ nm,Hid (nm = (l.getD i (⟨#[]⟩,[])).1):=⟨_,rfl⟩
   rw [← hnm.out] at h1
   have hxr:=(hx0h.out.grow hbr.out).cells.2.1
   have d1 : ∀ q : Bel wr,q.W.cell? ⟨b,o + i * 2,none⟩ = some (.string nm):=fun q=>q.cell h1
   have d2 : ∀ q : Bel wr,q.W.cell? ⟨w.heap.size,1,none⟩ = some (.string n):=fun q=>q.cell hxr
   have hC2 : Hid (nm = n→(∀ j,i < j→j < en→(l.getD j (⟨#[]⟩,[])).1 ≠ n)→∀ q : Bel wr,q.W.cell? ⟨b,o + i * 2 + 1,none⟩ = some (.slice sa sn sc)∧Calls Tryz.prog 50 #[.slice sa sn sc] q.W fun e w'=>Told q.W out er e w'):=fun g1 g2 q=>by
    obtain ⟨b',o',sa',sn',sc',r1,r2,r3,r4⟩:=hk.out q.W (hbw.trans (q.h.mono hbw.size)) i (by omega)
    injection r1 with r1
    injection r1 with r1 r5
    subst r1 r5
    have r6:=q.cell h2
    rw [r3] at r6
    injection r6 with r6
    injection r6 with r6 r7 r8
    subst r6 r7 r8
    exact ⟨r3,r4 (by rw [← hnm.out];exact g1) g2⟩
   clear hC
   by_cases he : nm = n
   · have hca:=hC2.out he (fun j h5 h6=>hall.out j (by omega) h6)
     subst he
     clear hC2 hk hno hall h1 h2 hxr
     go_wp2
     refine wp_region_bel (by kernel_rfl) (by kernel_rfl) ?_
     repeat (go_big_quiet_step (fail "no call"))
     refine wpQuiet_nil ?_
     rintro W ⟨q,rfl⟩
     obtain ⟨y1,hcq⟩:=hca q
     have hbq:=hbw.trans (q.h.mono hbw.size)
     generalize q.W = WQ at *
     clear d1 d2 hca
     go_wp2_with (first | (go_at_call 50;refine hcq.mono ?_;rintro e w2 ⟨a',n',c',rfl,hT⟩))
     go_ret2
     exact ⟨_,_,_,rfl,hT.out.1,hbq.trans (hT.out.2.mono hbq.size)⟩
   · have hne:=toList_ne he
     have hall2 : Hid (∀ j,i ≤ j→j < en→(l.getD j (⟨#[]⟩,[])).1 ≠ n):=fun j h5 h6=>by
      by_cases e : j = i
      · subst e;rw [← hnm.out];exact he
      · exact hall.out j (by omega) h6
     clear hC2 hk hno hall he h1 h2 hxr
     go_wp2
     refine wp_region_bel (by kernel_rfl) (by kernel_rfl) ?_
     repeat (go_big_quiet_step (fail "no call"))
     refine wpQuiet_nil ?_
     rintro W ⟨q,rfl⟩
     have hbq : Hid (Below W0.heap.size W0 q.W):=hbr.out.trans (q.h.mono hbr.out.size)
     generalize q.W = WQ at *
     clear d1 d2
     go_wp2
     go_roundw
     case rel=>exact ⟨i,by omega,rfl,hall2,hbq⟩
     case measure=>simp [intOf]
theorem rev1 {N : ByteArray} {x : Ex} (hx : EvC 21 x) : EvC 21 (exC N [x]):=by
 intro w l ea en ec A k n vk vn a m c out er hen hf hF hv hT
 obtain ⟨rfl,rfl,rfl,q,o,rfl,hq,k1,n1,vk1,vn1,a1,m1,c1,hA1,hV1⟩:=kid1 hv
 have hb0:=bW0 w (.cells #[.int .i64 3,.string n,.int .i64 vk,.int .i64 vn,.slice (some ⟨q,o,none⟩) 1 c] 27)
 have hx0:=bxNew w 27 (.int .i64 3) (.string n) (.int .i64 vk) (.int .i64 vn) (.slice (some ⟨q,o,none⟩) 1 c)
 have hxg : Hid (∀ W,Below (w.alloc (.cells #[.int .i64 3,.string n,.int .i64 vk,.int .i64 vn,.slice (some ⟨q,o,none⟩) 1 c] 27)).heap.size (w.alloc (.cells #[.int .i64 3,.string n,.int .i64 vk,.int .i64 vn,.slice (some ⟨q,o,none⟩) 1 c] 27)) W→Bx W w.heap.size 27 (.int .i64 3) (.string n) (.int .i64 vk) (.int .i64 vn) (.slice (some ⟨q,o,none⟩) 1 c)):=fun W h=>hx0.grow h
 have hev1 : Hid (∀ W A1 er1,Below w.heap.size w W→EvT (envE l) x A1 er1→Calls Tryz.prog 21 #[.agg #[.int .i64 k1,.string n1,.int .i64 vk1,.int .i64 vn1,.slice a1 m1 c1],.slice ea en ec] W fun e w'=>Told W A1 er1 e w'):=fun W A1 er1 h1 h2=>hx W l ea en ec A k1 n1 vk1 vn1 a1 m1 c1 A1 er1 hen (hf.grow h1) hF (hV1.grow h1) h2
 obtain ⟨e0,e1,e2,e3,e4⟩:=hA1.grow hb0
 obtain ⟨x0,x1,x2,x3,x4⟩:=hx0.cells
 have hinv:=hT.inv1
 clear hx hf hF hv hT hV1 hA1 hx0
 rcases hinv with ⟨A1,h1,h2⟩ | ⟨A1,h1,hne,rfl⟩
 · have hca:=hev1.out _ A1 0 hb0 h1
   have hfew:=h1.few
   have hmp : Hid (∀ W a' n' c',IsSer W a' n' c' A1→Calls Tryz.prog 51 #[.string n,.slice a' n' c'] W fun e w'=>Told W out er e w'):=fun W a' n' c' h=>rmapG h hfew.1 (by rw [h.len];exact hfew.2.2) h2
   clear hev1 h1 h2 hfew
   go_enter Tryz.func21,Tryz.ntmps21
   go_wp2_with (first
    | (go_at_call 21;refine hca.mono ?_;clear hca;rintro e w4 ⟨a',n',c',rfl,hT4⟩;clear x0 x1 x2 x3 x4;obtain ⟨x0,x1,x2,x3,x4⟩:=(hxg.out w4 hT4.out.2).cells;have hcm:=hmp.out w4 a' n' c' hT4.out.1)
    | (go_at_call 51;refine hcm.mono ?_;clear hcm;rintro e w6 ⟨a6,n6,c6,rfl,hT6⟩))
   go_ret2
   have hb4:=hb0.trans (hT4.out.2.mono hb0.size)
   exact ⟨_,_,_,rfl,hT6.out.1,hb4.trans (hT6.out.2.mono hb4.size)⟩
 · have hca:=hev1.out _ A1 er hb0 h1
   have hne' : (er != 0) = true:=bne_iff_ne.2 hne
   clear hev1 h1 hne
   go_enter Tryz.func21,Tryz.ntmps21
   go_wp2_with (first
    | (go_at_call 21;refine hca.mono ?_;clear hca;rintro e w4 ⟨a',n',c',rfl,hT4⟩))
   go_ret2
   exact ⟨_,_,_,rfl,⟨[],rfl,sls_nil _,(fun x hx=>by cases hx),rfl⟩,hb0.trans (hT4.out.2.mono hb0.size)⟩
theorem rev2 {N : ByteArray} {x y : Ex} (hx : EvC 21 x) (hy : EvC 21 y) : EvC 21 (exC N [x,y]):=by
 intro w l ea en ec A k n vk vn a m c out er hen hf hF hv hT
 obtain ⟨rfl,rfl,rfl,q,o,rfl,hq,⟨k1,n1,vk1,vn1,a1,m1,c1,hA1,hV1⟩,k2,n2,vk2,vn2,a2,m2,c2,hA2,hV2⟩:=kid2 hv
 have hb0:=bW0 w (.cells #[.int .i64 3,.string n,.int .i64 vk,.int .i64 vn,.slice (some ⟨q,o,none⟩) 2 c] 27)
 have hx0:=bxNew w 27 (.int .i64 3) (.string n) (.int .i64 vk) (.int .i64 vn) (.slice (some ⟨q,o,none⟩) 2 c)
 have hxg : Hid (∀ W,Below (w.alloc (.cells #[.int .i64 3,.string n,.int .i64 vk,.int .i64 vn,.slice (some ⟨q,o,none⟩) 2 c] 27)).heap.size (w.alloc (.cells #[.int .i64 3,.string n,.int .i64 vk,.int .i64 vn,.slice (some ⟨q,o,none⟩) 2 c] 27)) W→Bx W w.heap.size 27 (.int .i64 3) (.string n) (.int .i64 vk) (.int .i64 vn) (.slice (some ⟨q,o,none⟩) 2 c)):=fun W h=>hx0.grow h
 have hev1 : Hid (∀ W A1 er1,Below w.heap.size w W→EvT (envE l) x A1 er1→Calls Tryz.prog 21 #[.agg #[.int .i64 k1,.string n1,.int .i64 vk1,.int .i64 vn1,.slice a1 m1 c1],.slice ea en ec] W fun e w'=>Told W A1 er1 e w'):=fun W A1 er1 h1 h2=>hx W l ea en ec A k1 n1 vk1 vn1 a1 m1 c1 A1 er1 hen (hf.grow h1) hF (hV1.grow h1) h2
 have hev2 : Hid (∀ W A1 er1,Below w.heap.size w W→EvT (envE l) y A1 er1→Calls Tryz.prog 21 #[.agg #[.int .i64 k2,.string n2,.int .i64 vk2,.int .i64 vn2,.slice a2 m2 c2],.slice ea en ec] W fun e w'=>Told W A1 er1 e w'):=fun W A1 er1 h1 h2=>hy W l ea en ec A k2 n2 vk2 vn2 a2 m2 c2 A1 er1 hen (hf.grow h1) hF (hV2.grow h1) h2
 have hag : Hid (∀ W,Below w.heap.size w W→At5 W q (o + 5) k2 n2 vk2 vn2 a2 m2 c2):=fun W h=>hA2.grow h
 obtain ⟨e0,e1,e2,e3,e4⟩:=hA1.grow hb0
 obtain ⟨x0,x1,x2,x3,x4⟩:=hx0.cells
 have hinv:=hT.inv2
 clear hx hy hf hF hv hT hV1 hA1 hV2 hA2 hx0
 rcases hinv with ⟨A1,B1,h1,h3,h2⟩ | ⟨A1,h1,hne,rfl⟩ | ⟨A1,B1,h1,h3,hne,rfl⟩
 · have hca:=hev1.out _ A1 0 hb0 h1
   have hfew:=h1.few
   have hfew2:=h3.few
   have hjo : Hid (∀ W a' n' c' a2 n2 c2,IsSer W a' n' c' A1→IsSer W a2 n2 c2 B1→Calls Tryz.prog 52 #[.string n,.slice a' n' c',.slice a2 n2 c2] W fun e w'=>Told W out er e w'):=fun W a' n' c' a2 n2 c2 h g=>rjoinG h g hfew.1 hfew2.1 (by rw [h.len];exact hfew.2.2) (by rw [g.len];exact hfew2.2.2) h2
   have hc2 : Hid (∀ W,Below w.heap.size w W→_):=fun W h=>hev2.out W B1 0 h h3
   clear hev1 hev2 h1 h2 h3 hfew hfew2
   go_enter Tryz.func21,Tryz.ntmps21
   go_wp2_with (first | (go_at_call 21;refine hca.mono ?_;clear hca;rintro e w4 ⟨a',n',c',rfl,hT4⟩;clear x0 x1 x2 x3 x4 e0 e1 e2 e3 e4;have hb4:=hb0.trans (hT4.out.2.mono hb0.size);obtain ⟨x0,x1,x2,x3,x4⟩:=(hxg.out w4 hT4.out.2).cells;obtain ⟨e0,e1,e2,e3,e4⟩:=hag.out w4 hb4;apply Hid.out))
   have hcb:=hc2.out w4 hb4
   unfold Hid
   clear hc2
   go_wp2_with (first
    | (go_at_call 21;refine hcb.mono ?_;clear hcb;rintro e w6 ⟨a6,n6,c6,rfl,hT6⟩;clear x0 x1 x2 x3 x4;obtain ⟨x0,x1,x2,x3,x4⟩:=((hxg.out w4 hT4.out.2).grow hT6.out.2).cells;have hcm:=hjo.out w6 a' n' c' a6 n6 c6 (hT4.out.1.grow hT6.out.2) hT6.out.1)
    | (go_at_call 52;refine hcm.mono ?_;clear hcm;rintro e w8 ⟨a8,n8,c8,rfl,hT8⟩))
   go_ret2
   have hb6:=hb4.trans (hT6.out.2.mono hb4.size)
   exact ⟨_,_,_,rfl,hT8.out.1,hb6.trans (hT8.out.2.mono hb6.size)⟩
 · have hca:=hev1.out _ A1 er hb0 h1
   have hne' : (er != 0) = true:=bne_iff_ne.2 hne
   clear hev1 hev2 h1 hne
   go_enter Tryz.func21,Tryz.ntmps21
   go_wp2_with (first
    | (go_at_call 21;refine hca.mono ?_;clear hca;rintro e w4 ⟨a',n',c',rfl,hT4⟩))
   go_ret2
   exact ⟨_,_,_,rfl,⟨[],rfl,sls_nil _,(fun x hx=>by cases hx),rfl⟩,hb0.trans (hT4.out.2.mono hb0.size)⟩
 · have hca:=hev1.out _ A1 0 hb0 h1
   have hne' : (er != 0) = true:=bne_iff_ne.2 hne
   have hc2 : Hid (∀ W,Below w.heap.size w W→_):=fun W h=>hev2.out W B1 er h h3
   clear hev1 hev2 h1 h3 hne
   go_enter Tryz.func21,Tryz.ntmps21
   go_wp2_with (first | (go_at_call 21;refine hca.mono ?_;clear hca;rintro e w4 ⟨a',n',c',rfl,hT4⟩;clear x0 x1 x2 x3 x4 e0 e1 e2 e3 e4;have hb4:=hb0.trans (hT4.out.2.mono hb0.size);obtain ⟨x0,x1,x2,x3,x4⟩:=(hxg.out w4 hT4.out.2).cells;obtain ⟨e0,e1,e2,e3,e4⟩:=hag.out w4 hb4;apply Hid.out))
   have hcb:=hc2.out w4 hb4
   unfold Hid
   clear hc2
   go_wp2_with (first
    | (go_at_call 21;refine hcb.mono ?_;clear hcb;rintro e w6 ⟨a6,n6,c6,rfl,hT6⟩))
   go_ret2
   exact ⟨_,_,_,rfl,⟨[],rfl,sls_nil _,(fun x hx=>by cases hx),rfl⟩,hb4.trans (hT6.out.2.mono hb4.size)⟩
theorem eval21 {x : Ex} (h : WE x) : EvC 21 x:=by
 induction h with
 | n v=>exact revN v
 | r n=>exact revR n
 | c1 n _ ih=>exact rev1 ih
 | c2 n _ _ ih1 ih2=>exact rev2 ih1 ih2
theorem evW_ex {E : ByteArray→Option (List Sr)} {x : Ex} (h : WE x) : ∃ out er,EvT E x out er:=by
 induction h with
 | n _=>exact ⟨_,_,.n _⟩
 | r n =>
  cases hE : E n with
  | none=>exact ⟨_,_,.r0 hE⟩
  | some F =>
   obtain ⟨out,er,hq⟩:=sortQ_ex F
   exact ⟨_,_,.r hE hq⟩
 | c1 n _ ih=>exact one_ex _ ih
 | @c2 n x y _ _ ih1 ih2 =>
  obtain ⟨A,er,hA⟩:=ih1
  by_cases h0 : er = 0
  · subst h0
    obtain ⟨B,er,hB⟩:=ih2
    by_cases h0 : er = 0
    · subst h0
      obtain ⟨out,er,hj⟩:=joinT_ex n A B
      exact ⟨_,_,.j hA hB hj⟩
    · exact ⟨_,_,.j2 hA hB h0⟩
  · exact ⟨_,_,.j1 hA h0⟩
end Go.Proofs.YtdhlfpgibfaimaaGreatDoor

set_option maxRecDepth 100000
set_option maxHeartbeats 8000000
set_option linter.unusedVariables false
namespace Go.Proofs.YtdhlfpgibfaimaaGreatDoor
open Go.RowKit Go.ChangeShapes Go.WideShapes Go.ChangeAt Go.Deep
open Series10 (SortQ Sr)
theorem parC_r : ParC:=fun u W hu=>(rparse_any u W (by omega)).mono fun e w' h=>⟨_,_,_,h.1,h.2⟩
theorem val128 : ValC 128:=fun W=>(rnull_b W).mono fun e w' h=>⟨_,_,h.1,h.2⟩
theorem val130 : ValC 130:=fun W=>(rnan_b W).mono fun e w' h=>⟨_,_,h.1,h.2⟩
theorem val56 : ValC 56:=fun W=>(rplus_b W).mono fun e w' h=>⟨_,_,h.1,h.2⟩
def FrIn (W : World) (p : Fe) : Prop:=∃ L : List Se,p.n = L.length∧Srs W (.slice p.a p.n p.c) L∧(∀ s ∈ L,SeIn W s)∧L.length ≤ 4398046511104
section
variable {H : Type} {enc : TypeId × Value→H} {W : World} {n : Nat}
theorem fr_of_trod {cs : List Value} {x : DataW H × List MemPlace} (hl : cs.length = 2) (h : DataW.trod enc Tryz.prog W 0 (fun _=>true) true n 54 cs = some x) (hF : Fits x.1 54) : ∃ p : Fe,cs = encF.arr p∧FrIn W p:=by
 match cs,hl with
 | [v0,v1],_ =>
  obtain ⟨xs,k,_,hxx,_,hxl,hf⟩:=DataW.trod_struct Tryz.underlying54 h
  have g0 : DataW.trod enc Tryz.prog W 0 (fun _=>true) true k 9 (([v0,v1].drop 0).take (Tryz.prog.cellsOf 9)) = xs[0]?:=hf 0 _ rfl
  have g1 : DataW.trod enc Tryz.prog W 0 (fun _=>true) true k 43 (([v0,v1].drop 1).take (Tryz.prog.cellsOf 43)) = xs[1]?:=hf 1 _ rfl
  have k9 : Tryz.prog.cellsOf 9 = 1:=by kernel_rfl
  have k43 : Tryz.prog.cellsOf 43 = 1:=by kernel_rfl
  simp only [k9,k43,List.drop_zero,List.drop_succ_cons,List.take_succ_cons,List.take_zero] at g0 g1
  match xs,hxl with
  | [y0,y1],_ =>
   simp at g0 g1
   have hw : ∀ q ∈ DataW.weightsEach Tryz.prog [9,43] [y0.1,y1.1],q ∈ x.1.weights Tryz.prog 54:=fun q hq=>by
    rw [hxx];simp only [DataW.weights,Tryz.underlying54];exact hq
   obtain ⟨L,h1,h2,h3⟩:=srs_of_trod g1 (fits_field (j:=1) hF hw rfl rfl)
   obtain ⟨a,c,rfl⟩:=h1.shape
   obtain ⟨s,rfl⟩ : ∃ s,v0 = .string s:=by
    obtain ⟨s,e,_⟩:=str_of_trod g0 (fits_field (j:=0) hF hw rfl rfl)
    exact ⟨s,e⟩
   exact ⟨⟨s,a,L.length,c⟩,rfl,L,rfl,h1,h2,h3⟩
theorem frs_of_trod {v : Value} {x : DataW H × List MemPlace} (h : DataW.trod enc Tryz.prog W 0 (fun _=>true) true n 41 [v] = some x) (hF : Fits x.1 41) : ∃ l,Sls encF W v l∧(∀ p ∈ l,FrIn W p)∧l.length ≤ 4398046511104:=by
 obtain ⟨l,h1,h2,h3⟩:=rows_of_trodb TF (FrIn W) (by kernel_rfl) (by kernel_rfl) (by decide) (fun _ _ _ hl h hF=>fr_of_trod hl h hF) h hF
 refine ⟨l,h1,h2,?_⟩
 replace h3 : l.length * 40 ≤ 140737488351232:=h3
 omega
end
def SmF (l : List Fe) (w : World) (e : Ending) (w' : World) : Prop:=∃ B,e = .returned (.bool B)∧(B = true→l.length ≤ 40∧∀ i,i < l.length→(l.getD i encF.d).n ≤ 160)∧w' = w
theorem fe_at {w : World} {a : Option Addr} {n c : Nat} {l : List Fe} (h : Sls encF w (.slice a n c) l) (t : Nat) (ht : t < l.length) : ∃ b o,a = some ⟨b,o,none⟩∧w.cell? ⟨b,o + t * 2,none⟩ = some (.string (l.getD t encF.d).ref)∧w.cell? ⟨b,o + t * 2 + 1,none⟩ = some (.slice (l.getD t encF.d).a (l.getD t encF.d).n (l.getD t encF.d).c):=by
 obtain ⟨b,o,e,h⟩:=h.at t ht
 exact ⟨b,o,e,h 0 _ rfl,h 1 _ rfl⟩
theorem small19 (a : Option Addr) (n c : Nat) (l : List Fe) (w : World) (hv : Sls encF w (.slice a n c) l) (hin : ∀ p ∈ l,FrIn w p) (hl : l.length ≤ 4398046511104) :
 Calls Tryz.prog 19 #[.slice a n c] w fun e w'=>SmF l w e w':=by
 have hn : n = l.length:=hv.len
 have hmL : Hid (∀ k,k < l.length→l.getD k encF.d ∈ l):=fun k hk=>by rw [List.getD_eq_getElem?_getD,List.getElem?_eq_getElem hk];exact List.getElem_mem hk
 have hk1 : Hid (∀ k,k < n→∃ b o fa fn fc,a = some ⟨b,o,none⟩∧w.cell? ⟨b,o + k * 2 + 1,none⟩ = some (.slice fa fn fc)∧fn = (l.getD k encF.d).n∧fn ≤ 4398046511104∧∀ j,j < fn→∃ b2 o2 la ln lc,fa = some ⟨b2,o2,none⟩∧w.cell? ⟨b2,o2 + j * 3,none⟩ = some (.slice la ln lc)∧ln ≤ 4398046511104):=fun k hk=>by
  obtain ⟨b,o,e,_,h2⟩:=fe_at hv k (by omega)
  obtain ⟨L,h3,h4,h5,h6⟩:=hin _ (hmL.out k (by omega))
  refine ⟨b,o,_,_,_,e,h2,rfl,by omega,fun j hj=>?_⟩
  obtain ⟨b2,o2,e2,h7,_,_⟩:=sr_at h4 j (by omega)
  have hm2 : L.getD j se0 ∈ L:=by rw [List.getD_eq_getElem?_getD,List.getElem?_eq_getElem (by omega)];exact List.getElem_mem _
  obtain ⟨g1,g2,g3⟩:=h5 _ hm2
  obtain ⟨a3,c3,e3⟩:=g1.shape
  injection e3 with e3 e4 e5
  exact ⟨b2,o2,_,_,_,e2,h7,by rw [e4];exact g3⟩
 have hres : Hid (∀ S : Nat,n ≤ 40→(∀ i,i < n→(l.getD i encF.d).n ≤ S)→S ≤ 160→l.length ≤ 40∧∀ i,i < l.length→(l.getD i encF.d).n ≤ 160):=fun S h1 h2 h3=>⟨by omega,fun i hi=>Nat.le_trans (h2 i (by omega)) h3⟩
 have hnb : n ≤ 4398046511104:=by omega
 obtain ⟨ns,hns⟩ : ∃ ns : Nat→Nat,Hid (ns = fun i=>(l.getD i encF.d).n):=⟨_,rfl⟩
 have hk2 : Hid (∀ k,k < n→∃ b o fa fn fc,a = some ⟨b,o,none⟩∧w.cell? ⟨b,o + k * 2 + 1,none⟩ = some (.slice fa fn fc)∧fn = ns k∧fn ≤ 4398046511104∧∀ j,j < fn→∃ b2 o2 la ln lc,fa = some ⟨b2,o2,none⟩∧w.cell? ⟨b2,o2 + j * 3,none⟩ = some (.slice la ln lc)∧ln ≤ 4398046511104):=by rw [hns.out];exact hk1
 have hres2 : Hid (∀ S : Nat,n ≤ 40→(∀ i,i < n→ns i ≤ S)→S ≤ 160→l.length ≤ 40∧∀ i,i < l.length→(l.getD i encF.d).n ≤ 160):=by rw [hns.out];exact hres
 clear hmL hk1 hres hns hin hv hn hl
 go_enter Tryz.func19,Tryz.ntmps19
 go_wp2
 go_loop [3,4] (fun z i=>∃ (k S : Nat),k ≤ n∧k ≤ 41∧i = .int .i64 k∧z = .int .i64 S∧S ≤ k * 200000000000000∧Hid (∀ i,i < k→ns i ≤ S)) (fun _ i=>n - (intOf i).toNat)
 case atStart=>exact ⟨0,0,Nat.zero_le _,by omega,rfl,rfl,by omega,fun i hi=>absurd hi (Nat.not_lt_zero _)⟩
 case round =>
  obtain ⟨k,S,hk,hk4,rfl,rfl,hS,hal⟩:=hrel
  by_cases hlt : k < n
  · have hki : (k : Int) < (n : Int):=by omega
    by_cases hk40 : k ≤ 40
    · have hkj : (k : Int) ≤ 40:=by omega
      obtain ⟨b,o,fa,fn,fc,rfl,x1,hfn,hfb,hj⟩:=hk2.out k hlt
      replace hj : Hid _:=hj
      have hSi : (S : Int) + 1 + (fn : Int) ≤ 9000000000000000:=by omega
      have hS0 : (0 : Int) ≤ (S : Int):=by omega
      go_wp2
      go_loop [3,5] (fun z i=>∃ (j T : Nat),j ≤ fn∧j ≤ 41∧i = .int .i64 j∧z = .int .i64 T∧S + 1 + fn ≤ T∧T ≤ S + 1 + fn + j * 4398046511104) (fun _ i=>fn - (intOf i).toNat)
      case atStart=>exact ⟨0,S + 1 + fn,Nat.zero_le _,by omega,rfl,by go_num,by omega,by omega⟩
      case round =>
       obtain ⟨j,T,hj1,hj4,rfl,rfl,hT1,hT2⟩:=hrel
       have hnew : Hid (∀ i,i < k + 1→ns i ≤ T):=fun i hi=>by
        by_cases e : i = k
        · rw [e,← hfn];omega
        · have:=hal.out i (by omega);omega
       by_cases hlt2 : j < fn
       · have hji : (j : Int) < (fn : Int):=by omega
         by_cases hj40 : j ≤ 40
         · have hjj : (j : Int) ≤ 40:=by omega
           obtain ⟨b2,o2,la,ln,lc,rfl,y1,hln⟩:=hj.out j hlt2
           have hTi : (T : Int) + (ln : Int) ≤ 9000000000000000000:=by omega
           go_wp2
           refine ⟨⟨j + 1,T + ln,by omega,by omega,by go_num,by go_num,by omega,by omega⟩,?_⟩
           simp [intOf];omega
         · have hjj : ¬ (j : Int) ≤ 40:=by omega
           go_wp2
           refine ⟨⟨k + 1,T,by omega,by omega,by go_num,rfl,by omega,hnew⟩,?_⟩
           simp [intOf];omega
       · have hji : ¬ (j : Int) < (fn : Int):=by omega
         go_wp2
         refine ⟨⟨k + 1,T,by omega,by omega,by go_num,rfl,by omega,hnew⟩,?_⟩
         simp [intOf];omega
    · have hkj : ¬ (k : Int) ≤ 40:=by omega
      have hn4 : ¬ (n : Int) ≤ 40:=by omega
      go_wp2
      go_ret
      exact ⟨false,rfl,(fun h=>by cases h),rfl⟩
  · have hki : ¬ (k : Int) < (n : Int):=by omega
    have hkn : k = n:=by omega
    by_cases hn4 : n ≤ 40
    · have hn4i : (n : Int) ≤ 40:=by omega
      by_cases hS1 : S ≤ 160
      · have hSi : (S : Int) ≤ 160:=by omega
        have hfin:=hres2.out S hn4 (fun i hi=>hal.out i (by omega)) hS1
        go_wp2
        go_ret
        exact ⟨true,rfl,fun _=>hfin,rfl⟩
      · have hSi : ¬ (S : Int) ≤ 160:=by omega
        go_wp2
        go_ret
        exact ⟨false,rfl,(fun h=>by cases h),rfl⟩
    · have hn4i : ¬ (n : Int) ≤ 40:=by omega
      go_wp2
      go_ret
      exact ⟨false,rfl,(fun h=>by cases h),rfl⟩
theorem eval20W {x : Ex} (h : WE x) : EvC 20 x:=by
 induction h with
 | n v=>exact evN v
 | r n=>exact evR n
 | c1 n _ ih=>exact evC _ _ (done1 ih)
 | c2 n _ _ ih1 ih2=>exact evC _ _ (done2 ih1 ih2)
theorem lnum_all (x : Int) (w : World) : Calls Tryz.prog 11 #[.int .i64 x] w fun e w'=>e = .returned (.int .i64 x)∧w' = w:=by
 go_enter Tryz.func11,Tryz.ntmps11
 go_wp2
 go_ret
 exact ⟨rfl,rfl⟩
theorem stepF {ops : Array Oper} {o : Oper} {a : Act} {w : World} {K : Act→World→Prop} {Q : Exit→Act→World→Prop} {F : Prop} (hg : o.guard = none) (s x : Operand)
 (hop : o.op = Op.call { callee:=Callee.builtin Builtin.append,args:=#[s,x],argTypes:=#[41,41] }) (base : Nat) (v u : Value) (l m : List Fe) (hs : a.eval s = v) (hx : a.eval x = u)
 (hown : OwnS TF w base v l) (hm : Sls encF w u m) (hbase : base ≤ w.heap.size) (hl0 : l.length ≤ 1000) (hlen : l.length + m.length ≤ 1000000)
 (h : ∀ v' w',OwnS TF w' base v' (l ++ m)→w.grownBy w' v.ownBlock→K (a.put o.dst v') w') : if Region.wanted o (yielded ops a.tmps) = true then Oper.wp Tryz.prog o a w K Q else F:=by
 obtain ⟨ad,c,rfl,hnil,hcell⟩:=hm
 cases ad with
 | none =>
  have hms : m = []:=by
   rcases hcell with hcell | ⟨_,_,e,_⟩
   · exact hcell
   · cases e
  subst hms
  obtain rfl:=hnil.1 rfl
  exact stepN TF hg s x hop base v _ l [] hs hx hown ⟨_,_,rfl,hnil,hcell⟩ hbase (by simp;omega) h
 | some ad=>exact stepRb TF hg s x hop base v ad m.length c l m hs hx hown ⟨_,_,rfl,hnil,hcell⟩ hbase (by omega) (by show _ * 40 ≤ _;omega) h
theorem frames_ex (w : World) : ∀ l : List Fe,(∀ p ∈ l,FrIn w p)→∃ FL : List (ByteArray × List Sr),FL.length = l.length∧∀ i,i < l.length→(FL.getD i (⟨#[]⟩,[])).1 = (l.getD i encF.d).ref∧IsSer w (l.getD i encF.d).a (l.getD i encF.d).n (l.getD i encF.d).c (FL.getD i (⟨#[]⟩,[])).2∧FR (FL.getD i (⟨#[]⟩,[])).2
 | [],_=>⟨[],rfl,fun i hi=>absurd hi (by simp)⟩
 | p :: r,h=>by
  obtain ⟨FL,h1,h2⟩:=frames_ex w r (fun q hq=>h q (List.mem_cons_of_mem _ hq))
  obtain ⟨L,h3,h4,h5,_⟩:=h p List.mem_cons_self
  obtain ⟨h6,h7⟩:=isSer_in h4 h5
  refine ⟨(p.ref,L.map serOf) :: FL,by simp [h1],fun i hi=>?_⟩
  cases i with
  | zero=>exact ⟨rfl,h6,h7⟩
  | succ i=>exact h2 i (by simpa using hi)
theorem frsV_of {w W : World} {l : List Fe} {FL : List (ByteArray × List Sr)} {a : Option Addr} {n c : Nat} (h1 : FL.length = l.length) (h2 : ∀ i,i < l.length→(FL.getD i (⟨#[]⟩,[])).1 = (l.getD i encF.d).ref∧IsSer w (l.getD i encF.d).a (l.getD i encF.d).n (l.getD i encF.d).c (FL.getD i (⟨#[]⟩,[])).2∧FR (FL.getD i (⟨#[]⟩,[])).2) (hb : Below w.heap.size w W) (h : Sls encF W (.slice a n c) l) : FrsV W a n FL:=by
 have hn : n = l.length:=h.len
 refine ⟨by omega,fun i hi=>?_⟩
 obtain ⟨b,o,e,h3,h4⟩:=fe_at h i (by omega)
 obtain ⟨g1,g2,_⟩:=h2 i (by omega)
 exact ⟨b,o,_,_,_,e,by rw [g1];exact h3,h4,g2.grow hb⟩
theorem few0_of {w : World} {l : List Fe} {FL : List (ByteArray × List Sr)} (h1 : FL.length = l.length) (h2 : ∀ i,i < l.length→(FL.getD i (⟨#[]⟩,[])).1 = (l.getD i encF.d).ref∧IsSer w (l.getD i encF.d).a (l.getD i encF.d).n (l.getD i encF.d).c (FL.getD i (⟨#[]⟩,[])).2∧FR (FL.getD i (⟨#[]⟩,[])).2) (h3 : ∀ i,i < l.length→(l.getD i encF.d).n ≤ 160) : ∀ p ∈ FL,Few0 p.2:=fun p hp=>by
 obtain ⟨i,hi,rfl⟩:=List.getElem_of_mem hp
 have e : FL.getD i (⟨#[]⟩,[]) = FL[i]:=by rw [List.getD_eq_getElem?_getD,List.getElem?_eq_getElem hi];rfl
 obtain ⟨_,g2,g3⟩:=h2 i (by omega)
 rw [e] at g2 g3
 exact ⟨g3,by have:=g2.len;have:=h3 i (by omega);omega⟩
end Go.Proofs.YtdhlfpgibfaimaaGreatDoor
