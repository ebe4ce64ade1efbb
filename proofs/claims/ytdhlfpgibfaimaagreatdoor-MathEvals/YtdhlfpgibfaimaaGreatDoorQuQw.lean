import Derived.Test.YtdhlfpgibfaimaaGreatDoorQeQt
import Derived.Test.YtdhlfpgibfaimaaGreatDoorQf
set_option maxRecDepth 100000
set_option maxHeartbeats 16000000
set_option linter.unusedVariables false
namespace Go.Proofs.YtdhlfpgibfaimaaGreatDoor
open Go.RowKit
open Series10 (SortQ Sr)
theorem slb2 {w : World} {g : Nat} {p p' : Option Addr} {q r q' r' : Nat} (h : w.heap[g]? = some (.cells #[.slice p q r,.slice p' q' r'] 43 (0,0))) : SlB w g∧w.cell? ⟨g,0,none⟩ = some (.slice p q r)∧w.cell? ⟨g,1,none⟩ = some (.slice p' q' r')∧w.frozen? ⟨g,0,none⟩ = false∧w.frozen? ⟨g,1,none⟩ = false:=by
 refine ⟨fun i v hv=>?_,by simp [World.cell?,h],by simp [World.cell?,h],by simp [World.frozen?,h],by simp [World.frozen?,h]⟩
 simp only [World.cell?,h] at hv
 match i,hv with
 | 0,hv=>simp at hv;exact ⟨_,_,_,hv.symm⟩
 | 1,hv=>simp at hv;exact ⟨_,_,_,hv.symm⟩
 | i + 2,hv=>simp at hv
theorem ExV.set {w : World} {B g i : Nat} {u : Value} {x : Ex} {v : Value} (h : ExV w (fun b=>b < B) x v) (hg : B ≤ g) : ExV (w.setCell ⟨g,i,none⟩ u) (fun b=>b < B) x v:=by
 obtain ⟨K,h1,h2⟩:=h
 exact ⟨K,h1,kidsV.keep (fun b hb _=>set_block (by omega)) (Nat.le_of_eq set_size.symm) (fun _ h _=>h) _ _ h2⟩
theorem At5.set {w : World} {g i : Nat} {u : Value} {q o : Nat} {k : Int} {n : ByteArray} {vk vn : Int} {a : Option Addr} {m c : Nat} (h : At5 w q o k n vk vn a m c) (hg : q ≠ g) : At5 (w.setCell ⟨g,i,none⟩ u) q o k n vk vn a m c :=
 ⟨by rw [cell_set hg];exact h.c0,by rw [cell_set hg];exact h.c1,by rw [cell_set hg];exact h.c2,by rw [cell_set hg];exact h.c3,by rw [cell_set hg];exact h.c4⟩
theorem done2 {N : ByteArray} {x y : Ex} (hx : EvC 20 x) (hy : EvC 20 y) : EvC 49 (exC N [x,y]):=by
 intro w l ea en ec A k n vk vn a m c out er hen hf hF hv hT
 replace hv:=(hv.less).more (A':=fun b=>b < w.heap.size) fun b hb=>hb.2
 obtain ⟨rfl,rfl,rfl,q,o,rfl,hq,⟨k1,n1,vk1,vn1,a1,m1,c1,hA1,hV1⟩,k2,n2,vk2,vn2,a2,m2,c2,hA2,hV2⟩:=kid2 hv
 have hb0:=bW0 w (.cells #[.int .i64 3,.string n,.int .i64 vk,.int .i64 vn,.slice (some ⟨q,o,none⟩) 2 c] 27)
 have hb1:=bW0 (w.alloc (.cells #[.int .i64 3,.string n,.int .i64 vk,.int .i64 vn,.slice (some ⟨q,o,none⟩) 2 c] 27)) (.cells #[.slice none 0 0,.slice none 0 0] 43)
 have hb2:=hb0.trans (hb1.mono hb0.size)
 have hx2:=(bxNew w 27 (.int .i64 3) (.string n) (.int .i64 vk) (.int .i64 vn) (.slice (some ⟨q,o,none⟩) 2 c)).grow hb1
 have hrow : ((w.alloc (.cells #[.int .i64 3,.string n,.int .i64 vk,.int .i64 vn,.slice (some ⟨q,o,none⟩) 2 c] 27)).alloc (.cells #[.slice none 0 0,.slice none 0 0] 43)).heap[w.heap.size + 1]? = some (.cells #[.slice none 0 0,.slice none 0 0] 43 (0,0)):=by
  show ((w.heap.push _).push _)[w.heap.size + 1]? = _
  have : (w.heap.push (.cells #[.int .i64 3,.string n,.int .i64 vk,.int .i64 vn,.slice (some ⟨q,o,none⟩) 2 c] 27)).size = w.heap.size + 1:=by simp
  rw [← this,Array.getElem?_push_size]
 obtain ⟨e0,e1,e2,e3,e4⟩:=hA1.grow hb2
 have hmk:=fun W=>mk2 W
 obtain ⟨x0,x1,x2,x3,x4⟩:=hx2.cells
 have hinv:=hT.inv2
 have hqs : q < w.heap.size:=hq
 go_enter Tryz.func49,Tryz.ntmps49
 go_wp2
 clear hmk
 generalize (w.alloc (.cells #[.int .i64 3,.string n,.int .i64 vk,.int .i64 vn,.slice (some ⟨q,o,none⟩) 2 c] 27)).alloc (.cells #[.slice none 0 0,.slice none 0 0] 43) = W2 at *
 have hbk:=bW0 W2 (.cells #[.int .i64 k1,.string n1,.int .i64 vk1,.int .i64 vn1,.slice a1 m1 c1] 27)
 have hb3:=hb2.trans (hbk.mono hb2.size)
 have hev1 : Hid (∀ A1 er1,EvT (envE l) x A1 er1→Calls Tryz.prog 20 #[.agg #[.int .i64 k1,.string n1,.int .i64 vk1,.int .i64 vn1,.slice a1 m1 c1],.slice ea en ec] (W2.alloc (.cells #[.int .i64 k1,.string n1,.int .i64 vk1,.int .i64 vn1,.slice a1 m1 c1] 27)) fun e w'=>Told (W2.alloc (.cells #[.int .i64 k1,.string n1,.int .i64 vk1,.int .i64 vn1,.slice a1 m1 c1] 27)) A1 er1 e w'):=fun A1 er1 h2=>hx _ l ea en ec _ k1 n1 vk1 vn1 a1 m1 c1 A1 er1 hen (hf.grow hb3) hF (hV1.grow hb3) h2
 have hK1 : Hid (∀ (w4 : World) (a' : Option Addr) (n' c' : Nat) (A1 : List Sr),Below (W2.alloc (.cells #[.int .i64 k1,.string n1,.int .i64 vk1,.int .i64 vn1,.slice a1 m1 c1] 27)).heap.size (W2.alloc (.cells #[.int .i64 k1,.string n1,.int .i64 vk1,.int .i64 vn1,.slice a1 m1 c1] 27)) w4→IsSer w4 a' n' c' A1 →
  w4.frozen? ⟨w.heap.size + 1,0,none⟩ = false∧w4.cell? ⟨w.heap.size + 1,0,none⟩ = some (.slice none 0 0)∧At5 (w4.setCell ⟨w.heap.size + 1,0,none⟩ (.slice a' n' c')) q (o + 5) k2 n2 vk2 vn2 a2 m2 c2∧Hid (∀ B1 er2,EvT (envE l) y B1 er2→Calls Tryz.prog 20 #[.agg #[.int .i64 k2,.string n2,.int .i64 vk2,.int .i64 vn2,.slice a2 m2 c2],.slice ea en ec] ((w4.setCell ⟨w.heap.size + 1,0,none⟩ (.slice a' n' c')).alloc (.cells #[.int .i64 k2,.string n2,.int .i64 vk2,.int .i64 vn2,.slice a2 m2 c2] 27)) fun e w'=>Told ((w4.setCell ⟨w.heap.size + 1,0,none⟩ (.slice a' n' c')).alloc (.cells #[.int .i64 k2,.string n2,.int .i64 vk2,.int .i64 vn2,.slice a2 m2 c2] 27)) B1 er2 e w') ∧
  Hid (Below w.heap.size w (w4.setCell ⟨w.heap.size + 1,0,none⟩ (.slice a' n' c'))∧w.heap.size + 2 ≤ (w4.setCell ⟨w.heap.size + 1,0,none⟩ (.slice a' n' c')).heap.size∧IsSer (w4.setCell ⟨w.heap.size + 1,0,none⟩ (.slice a' n' c')) a' n' c' A1∧(w4.setCell ⟨w.heap.size + 1,0,none⟩ (.slice a' n' c')).heap[w.heap.size + 1]? = some (.cells #[.slice a' n' c',.slice none 0 0] 43 (0,0))∧Bx (w4.setCell ⟨w.heap.size + 1,0,none⟩ (.slice a' n' c')) w.heap.size 27 (.int .i64 3) (.string n) (.int .i64 vk) (.int .i64 vn) (.slice (some ⟨q,o,none⟩) 2 c))):=fun w4 a' n' c' A1 hb4 hS=>by
  have hb5:=hbk.trans (hb4.mono hbk.size)
  have hr4 : w4.heap[w.heap.size + 1]? = some (.cells #[.slice none 0 0,.slice none 0 0] 43 (0,0)):=(hb5.block _ (Array.getElem?_eq_some_iff.1 hrow).1).trans hrow
  obtain ⟨hsl,g1,g2,g3,g4⟩:=slb2 hr4
  have hbw4:=hb2.trans (hb5.mono hb2.size)
  have hbw : Below w.heap.size w (w4.setCell ⟨w.heap.size + 1,0,none⟩ (.slice a' n' c')):=below_set hbw4 (by omega)
  have hlt : w.heap.size + 1 < w4.heap.size:=(Array.getElem?_eq_some_iff.1 hr4).1
  refine ⟨g3,g1,(hA2.grow hbw4).set (by omega),fun B1 er2 h2=>?_,hbw,by rw [set_size];omega,hS.set hsl,?_,(set_block (by omega)).trans (hx2.grow hb5)⟩
  · have hbk2:=bW0 (w4.setCell ⟨w.heap.size + 1,0,none⟩ (.slice a' n' c')) (.cells #[.int .i64 k2,.string n2,.int .i64 vk2,.int .i64 vn2,.slice a2 m2 c2] 27)
    exact hy _ l ea en ec _ k2 n2 vk2 vn2 a2 m2 c2 B1 er2 hen (((hf.grow hbw4).set hsl).grow hbk2) hF (((hV2.grow hbw4).set (by omega)).grow hbk2) h2
  · rw [block_setCell (i:=0) (u:=.slice a' n' c') hr4]
    simp
 have hK2 : Hid (∀ (w4 : World) (a' : Option Addr) (n' c' : Nat) (A1 : List Sr) (w7 : World) (a8 : Option Addr) (n8 c8 : Nat) (B1 : List Sr),Hid (Below w.heap.size w (w4.setCell ⟨w.heap.size + 1,0,none⟩ (.slice a' n' c'))∧w.heap.size + 2 ≤ (w4.setCell ⟨w.heap.size + 1,0,none⟩ (.slice a' n' c')).heap.size∧IsSer (w4.setCell ⟨w.heap.size + 1,0,none⟩ (.slice a' n' c')) a' n' c' A1∧(w4.setCell ⟨w.heap.size + 1,0,none⟩ (.slice a' n' c')).heap[w.heap.size + 1]? = some (.cells #[.slice a' n' c',.slice none 0 0] 43 (0,0))∧Bx (w4.setCell ⟨w.heap.size + 1,0,none⟩ (.slice a' n' c')) w.heap.size 27 (.int .i64 3) (.string n) (.int .i64 vk) (.int .i64 vn) (.slice (some ⟨q,o,none⟩) 2 c))→Below ((w4.setCell ⟨w.heap.size + 1,0,none⟩ (.slice a' n' c')).alloc (.cells #[.int .i64 k2,.string n2,.int .i64 vk2,.int .i64 vn2,.slice a2 m2 c2] 27)).heap.size ((w4.setCell ⟨w.heap.size + 1,0,none⟩ (.slice a' n' c')).alloc (.cells #[.int .i64 k2,.string n2,.int .i64 vk2,.int .i64 vn2,.slice a2 m2 c2] 27)) w7→IsSer w7 a8 n8 c8 B1→Few A1→Few B1→JoinT n A1 B1 out er →
  w7.frozen? ⟨w.heap.size + 1,1,none⟩ = false∧w7.cell? ⟨w.heap.size + 1,1,none⟩ = some (.slice none 0 0)∧(w7.setCell ⟨w.heap.size + 1,1,none⟩ (.slice a8 n8 c8)).cell? ⟨w.heap.size,1,none⟩ = some (.string n)∧(w7.setCell ⟨w.heap.size + 1,1,none⟩ (.slice a8 n8 c8)).cell? ⟨w.heap.size + 1,0,none⟩ = some (.slice a' n' c')∧(w7.setCell ⟨w.heap.size + 1,1,none⟩ (.slice a8 n8 c8)).cell? ⟨w.heap.size + 1,1,none⟩ = some (.slice a8 n8 c8) ∧
  ∀ W',Below (w7.setCell ⟨w.heap.size + 1,1,none⟩ (.slice a8 n8 c8)).heap.size (w7.setCell ⟨w.heap.size + 1,1,none⟩ (.slice a8 n8 c8)) W'→Calls Tryz.prog 75 #[.string n,.slice a' n' c',.slice a8 n8 c8] W' fun e w'=>Told w out er e w'∧w'.cell? ⟨w.heap.size,1,none⟩ = some (.string n)∧w'.cell? ⟨w.heap.size + 1,0,none⟩ = some (.slice a' n' c')∧w'.cell? ⟨w.heap.size + 1,1,none⟩ = some (.slice a8 n8 c8)):=fun w4 a' n' c' A1 w7 a8 n8 c8 B1 h5 hb7 hS8 hA1 hB1 hJ=>by
  obtain ⟨g1,g2,g3,g4,g5⟩:=h5.out
  generalize (w4.setCell ⟨w.heap.size + 1,0,none⟩ (.slice a' n' c')) = V5 at *
  have hbk2:=bW0 V5 (.cells #[.int .i64 k2,.string n2,.int .i64 vk2,.int .i64 vn2,.slice a2 m2 c2] 27)
  have hb57:=hbk2.trans (hb7.mono hbk2.size)
  have hr7 : w7.heap[w.heap.size + 1]? = some (.cells #[.slice a' n' c',.slice none 0 0] 43 (0,0)):=(hb57.block _ (by omega)).trans g4
  obtain ⟨hsl,j1,j2,j3,j4⟩:=slb2 hr7
  have hr8 : (w7.setCell ⟨w.heap.size + 1,1,none⟩ (.slice a8 n8 c8)).heap[w.heap.size + 1]? = some (.cells #[.slice a' n' c',.slice a8 n8 c8] 43 (0,0)):=by
   rw [block_setCell (i:=1) (u:=.slice a8 n8 c8) hr7]
   simp
  obtain ⟨_,i1,i2,_,_⟩:=slb2 hr8
  have hbx7:=g5.grow hb57
  have q1 : (w7.setCell ⟨w.heap.size + 1,1,none⟩ (.slice a8 n8 c8)).cell? ⟨w.heap.size,1,none⟩ = some (.string n):=by rw [cell_set (by omega)];exact hbx7.cells.2.1
  refine ⟨j4,j2,q1,i1,i2,fun W' hW'=>?_⟩
  have hSA:=(g3.grow hb57).set (i:=1) (u:=.slice a8 n8 c8) hsl
  have hSB:=hS8.set (i:=1) (u:=.slice a8 n8 c8) hsl
  refine (joinG (hSA.grow hW') (hSB.grow hW') hA1.1 hB1.1 (by rw [hSA.len];exact hA1.2.2) (by rw [hSB.len];exact hB1.2.2) hJ).mono fun e w' h=>?_
  have hbz : Below (w7.setCell ⟨w.heap.size + 1,1,none⟩ (.slice a8 n8 c8)).heap.size (w7.setCell ⟨w.heap.size + 1,1,none⟩ (.slice a8 n8 c8)) w':=by
   obtain ⟨_,_,_,_,h8⟩:=h
   exact hW'.trans (h8.out.2.mono hW'.size)
  refine ⟨?_,(hbz.cell (p:=⟨w.heap.size,1,none⟩) (World.block_lt_of_cell? _ _ q1)).trans q1,(hbz.cell (p:=⟨w.heap.size + 1,0,none⟩) (World.block_lt_of_cell? _ _ i1)).trans i1,(hbz.cell (p:=⟨w.heap.size + 1,1,none⟩) (World.block_lt_of_cell? _ _ i2)).trans i2⟩
  have hb8 : Below w.heap.size w (w7.setCell ⟨w.heap.size + 1,1,none⟩ (.slice a8 n8 c8)):=below_set (g1.trans (hb57.mono g1.size)) (by omega)
  exact h.from (hb8.trans (hW'.mono hb8.size))
 clear hx hy hf hF hv hT hV1 hV2 hA1 hA2
 rcases hinv with ⟨A1,B1,h1,h2,h3⟩ | ⟨A1,h1,hne,rfl⟩ | ⟨A1,B1,h1,h2,hne,rfl⟩
 · have hca:=hev1.out A1 0 h1
   have hf1:=h1.few
   have hf2:=h2.few
   clear hev1 h1
   replace h2 : Hid _:=h2
   replace h3 : Hid _:=h3
   replace hf1 : Hid _:=hf1
   replace hf2 : Hid _:=hf2
   refine wp_loop_rounds 3 ?_
   rw [rounds_succ]
   go_wp2_with (first | (go_at_call 20;refine hca.mono ?_;clear hca;rintro e w4 ⟨a',n',c',rfl,hT4⟩;obtain ⟨r1,r2,hp5,hev2,h5⟩:=hK1.out w4 a' n' c' A1 hT4.out.2 hT4.out.1;clear hK1;have hcb:=hev2.out B1 0 h2.out))
   obtain ⟨e0,e1,e2,e3,e4⟩:=hp5
   have hK3:=fun w7 a8 n8 c8=>hK2.out w4 a' n' c' A1 w7 a8 n8 c8 B1 h5
   replace hK3 : Hid _:=hK3
   clear hK2 h5 hev2 r1 r2 hT4
   generalize (w4.setCell ⟨w.heap.size + 1,0,none⟩ (.slice a' n' c')) = V5 at *
   rw [rounds_succ]
   go_wp2_with (first | (go_at_call 20;refine hcb.mono ?_;clear hcb;rintro e w7 ⟨a8,n8,c8,rfl,hT7⟩;obtain ⟨s1,s2,s3,s4,s5,hJ⟩:=hK3.out w7 a8 n8 c8 hT7.out.2 hT7.out.1 hf1.out hf2.out h3.out;clear hK3))
   rw [rounds_succ]
   go_wp2
   generalize hWW : (w7.setCell ⟨w.heap.size + 1,1,none⟩ (.slice a8 n8 c8)) = V8 at *
   go_region_held3 (fun W=>W.cell? ⟨w.heap.size,1,none⟩ = some (.string n)∧W.cell? ⟨w.heap.size + 1,0,none⟩ = some (.slice a' n' c')∧W.cell? ⟨w.heap.size + 1,1,none⟩ = some (.slice a8 n8 c8)) (first | exact ⟨s3,s4,s5⟩ | go_keep) (first | (go_at_call 75;refine (hJ _ ((Below.refl _ _).drew)).mono ?_;rintro e w9 ⟨⟨a9,n9,c9,rfl,hT9⟩,s3,s4,s5⟩) | (go_at_call 75;refine (hJ _ (Below.refl _ _)).mono ?_;rintro e w9 ⟨⟨a9,n9,c9,rfl,hT9⟩,s3,s4,s5⟩))
   all_goals
    go_wp2
    go_ret2
    exact ⟨_,_,_,rfl,hT9⟩
 · have hca:=hev1.out A1 er h1
   have hne' : (er != 0) = true:=bne_iff_ne.2 hne
   clear hev1 h1 hne hK1 hK2
   refine wp_loop_rounds 1 ?_
   rw [rounds_succ]
   go_wp2_with (first | (go_at_call 20;refine hca.mono ?_;clear hca;rintro e w4 ⟨a',n',c',rfl,hT4⟩))
   go_ret2
   exact ⟨_,_,_,rfl,⟨[],rfl,sls_nil _,(fun x hx=>by cases hx),rfl⟩,hb3.trans (hT4.out.2.mono hb3.size)⟩
 · have hca:=hev1.out A1 0 h1
   have hne' : (er != 0) = true:=bne_iff_ne.2 hne
   clear hev1 h1 hne hK2
   replace h2 : Hid _:=h2
   refine wp_loop_rounds 2 ?_
   rw [rounds_succ]
   go_wp2_with (first | (go_at_call 20;refine hca.mono ?_;clear hca;rintro e w4 ⟨a',n',c',rfl,hT4⟩;obtain ⟨r1,r2,hp5,hev2,h5⟩:=hK1.out w4 a' n' c' A1 hT4.out.2 hT4.out.1;clear hK1;have hcb:=hev2.out B1 er h2.out))
   obtain ⟨e0,e1,e2,e3,e4⟩:=hp5
   have hbz : Hid (Below w.heap.size w (w4.setCell ⟨w.heap.size + 1,0,none⟩ (.slice a' n' c'))):=h5.out.1
   clear h5 hev2 r1 r2 hT4
   generalize (w4.setCell ⟨w.heap.size + 1,0,none⟩ (.slice a' n' c')) = V5 at *
   rw [rounds_succ]
   go_wp2_with (first | (go_at_call 20;refine hcb.mono ?_;clear hcb;rintro e w7 ⟨a8,n8,c8,rfl,hT7⟩))
   go_ret2
   have hb8:=hbz.out.trans ((bW0 V5 (.cells #[.int .i64 k2,.string n2,.int .i64 vk2,.int .i64 vn2,.slice a2 m2 c2] 27)).mono hbz.out.size)
   exact ⟨_,_,_,rfl,⟨[],rfl,sls_nil _,(fun x hx=>by cases hx),rfl⟩,hb8.trans (hT7.out.2.mono hb8.size)⟩
theorem eval20 {x : Ex} (h : WF parC x) : EvC 20 x:=by
 induction h with
 | n _=>exact evN _
 | r _=>exact evR _
 | t _ _ ih=>exact evC _ _ (done1 ih)
 | f _ _ ih=>exact evC _ _ (done1 ih)
 | o _ _ _ _ _ ih1 ih2=>exact evC _ _ (done2 ih1 ih2)
end Go.Proofs.YtdhlfpgibfaimaaGreatDoor
namespace Go.Proofs.YtdhlfpgibfaimaaGreatDoor
open Go.RowKit
def s1 : ByteArray:=⟨#[36,65,32,43,32,50,32,42,32,36,66,32,62,32,51]⟩
def s2 : ByteArray:=⟨#[49,32,43,32,36,97]⟩
def s3 : ByteArray:=⟨#[97,98,115,40,36,65,41]⟩
def X1 : Ex:=exC ⟨#[62]⟩ [exC ⟨#[43]⟩ [exR ⟨#[65]⟩,exC ⟨#[42]⟩ [exN ⟨1,2000⟩,exR ⟨#[66]⟩]],exN ⟨1,3000⟩]
def X3 : Ex:=exC ⟨#[97,98,115]⟩ [exR ⟨#[65]⟩]
theorem whole1 : Whole (par:=parC) s1 X1:=⟨15,⟨40,by kernel_rfl⟩,by kernel_rfl⟩
theorem whole3 : Whole (par:=parC) s3 X3:=⟨7,⟨40,by kernel_rfl⟩,by kernel_rfl⟩
theorem err2 : Rd parC s2 (.op 0 0 (skipB s2 0)) (.error 110) 4:=⟨40,by kernel_rfl⟩
theorem pr1 : bB (prL X1) = ⟨#[40,36,65,32,43,32,40,50,32,42,32,36,66,41,41,32,62,32,51]⟩:=by kernel_rfl
theorem rf1 : refsR X1 = [⟨#[65]⟩,⟨#[66]⟩]:=by
 have h1 : refsE X1 = [⟨#[65]⟩,⟨#[66]⟩]:=by kernel_rfl
 have h2 : ([[65],[66]] : List (List UInt8)).mergeSort (fun x y=>decide (x ≤ y)) = [[65],[66]]:=List.mergeSort_of_pairwise (by simp;decide)
 have h3 : srtS [⟨#[65]⟩,⟨#[66]⟩] = [⟨#[65]⟩,⟨#[66]⟩]:=by
  show blS (([[65],[66]] : List (List UInt8)).mergeSort (fun x y=>decide (x ≤ y))) = _
  rw [h2]
  rfl
 unfold refsR
 rw [h1,h3]
 rfl
theorem ErrT.no {s : ByteArray} {er : Int} {j : Nat} (h : ErrT s er j) (hs : s.size ≤ 1024) {x : Ex} (g : Whole (par:=parC) s x) : False:=by
 obtain ⟨k,g,hg⟩:=g
 rcases h with ⟨h,_⟩ | h | ⟨y,h,hk,_⟩
 · omega
 · have:=(Rd.one parC h g).1;cases this
 · obtain ⟨_,rfl⟩:=Rd.one parC h g
   exact hk hg
theorem parseOk {s : ByteArray} {X : Ex} (hW : Whole (par:=parC) s X) (hs : s.size ≤ 1024) (w : World) (hG : G w) (hS : SignsAt w) : Calls Tryz.prog 8 #[.string s] w fun e w'=>∃ (a : Option Addr) (m c at' : Nat),e = .returned (.tuple #[.agg #[.int .i64 X.kind,.string X.name,.int .i64 X.v.kind,.int .i64 X.v.n,.slice a m c],.int .i64 0,.int .i64 (at' : Int)]) ∧
 Hid (Below w.heap.size w w'∧ExV w' (fun b=>w.heap.size ≤ b) X (.agg #[.int .i64 X.kind,.string X.name,.int .i64 X.v.kind,.int .i64 X.v.n,.slice a m c])):=by
 refine (parse8 s w hG hS (by omega)).mono ?_
 rintro e w' ⟨k,n,x,y,a,m,c,er,at',rfl,h⟩
 obtain ⟨hb,ha,⟨h0,hE⟩ | ⟨rfl,_,Y,hY,hV⟩⟩:=h.out
 · exact absurd hW (fun hW=>hE.no hs hW)
 · obtain rfl:=hY.one (.inl hW)
   obtain ⟨p1,p2,p3,p4,p5⟩:=hV.parts
   subst p1 p2 p3 p4
   exact ⟨a,m,c,at',rfl,hb,hV⟩
theorem parseNo {s : ByteArray} {er : Int} {j : Nat} (hR : Rd parC s (.op 0 0 (skipB s 0)) (.error er) j) (hs : s.size ≤ 1024) (w : World) (hG : G w) (hS : SignsAt w) : Calls Tryz.prog 8 #[.string s] w fun e w'=>∃ (k : Int) (n : ByteArray) (x y : Int) (a : Option Addr) (m c : Nat),e = .returned (.tuple #[.agg #[.int .i64 k,.string n,.int .i64 x,.int .i64 y,.slice a m c],.int .i64 er,.int .i64 (j : Int)])∧Below w.heap.size w w':=by
 refine (parse8 s w hG hS (by omega)).mono ?_
 rintro e w' ⟨k,n,x,y,a,m,c,er',at',rfl,h⟩
 obtain ⟨hb,ha,⟨h0,hE⟩ | ⟨rfl,_,Y,⟨q,hY,_⟩,hV⟩⟩:=h.out
 · rcases hE with ⟨h,_⟩ | h | ⟨y,h,hk,_⟩
   · omega
   · obtain ⟨h1,rfl⟩:=Rd.one parC h hR
     injection h1 with h1
     subst h1
     exact ⟨k,n,x,_,a,m,c,rfl,hb⟩
   · have:=(Rd.one parC h hR).1;cases this
 · have:=(Rd.one parC hY hR).1;cases this
end Go.Proofs.YtdhlfpgibfaimaaGreatDoor
namespace Go.Proofs.YtdhlfpgibfaimaaGreatDoor
open Go.RowKit
open Series10 (SortQ Sr)
theorem evX3 : EvT (envE [(⟨#[65]⟩,[⟨[],⟨1,-1000⟩⟩])]) X3 [⟨[],⟨1,1000⟩⟩] 0:=by
 have hv : IsV ⟨1,-1000⟩:=by decide
 refine .m (A:=[⟨[],⟨1,-1000⟩⟩]) (.r (F:=[⟨[],⟨1,-1000⟩⟩]) rfl (scal_frame hv).sort) (.inl ⟨_,(scal_frame hv).sort,.inl ⟨by decide,?_,rfl⟩⟩)
 unfold mapF
 simp only [List.map_cons,List.map_nil]
 have : doV ⟨#[97,98,115]⟩ [⟨1,-1000⟩] = ⟨1,1000⟩:=by decide
 rw [this]
theorem wv2 : WV parC ⟨1,2000⟩:=.inr (.inr (.inr ⟨50,[],by decide,by decide,by kernel_rfl⟩))
theorem wv3 : WV parC ⟨1,3000⟩:=.inr (.inr (.inr ⟨51,[],by decide,by decide,by kernel_rfl⟩))
theorem wf1 : WF parC X1:=.o 2 (by decide) (by decide) (.o 3 (by decide) (by decide) (.r (by decide)) (.o 4 (by decide) (by decide) (.n wv2) (.r (by decide)))) (.n wv3)
theorem wf3 : WF parC X3:=.f List.mem_cons_self (.r (by decide))
theorem frs1 (w : World) (a : Option Addr) (c : Nat) (F : List Sr) (h : IsSer w a 1 c F) : FrsV (w.alloc (.cells #[.string ⟨#[65]⟩,.slice a 1 c] 54)) (some ⟨w.heap.size,0,none⟩) 1 [(⟨#[65]⟩,F)]:=by
 refine ⟨rfl,fun i hi=>?_⟩
 obtain rfl : i = 0:=by omega
 exact ⟨w.heap.size,0,a,1,c,rfl,by simp [go_sem],by simp [go_sem],h.grow (bW0 w _)⟩
theorem txs2 (w : World) : Txs (w.alloc (.cells #[.string ⟨#[65]⟩,.string ⟨#[66]⟩] 9)) (.slice (some ⟨w.heap.size,0,none⟩) 2 2) [⟨#[65]⟩,⟨#[66]⟩]:=by
 refine ⟨_,_,rfl,⟨(fun h=>by cases h),by simp⟩,.inr ⟨w.heap.size,0,rfl,fun t ht i u hu=>?_⟩⟩
 have h : (w.alloc (.cells #[.string ⟨#[65]⟩,.string ⟨#[66]⟩] 9)).heap[w.heap.size]? = some (.cells #[.string ⟨#[65]⟩,.string ⟨#[66]⟩] 9):=by
  show (w.heap.push _)[w.heap.size]? = _;simp
 cases i with
 | succ i=>simp [encS] at hu
 | zero =>
  have ht2 : t = 0 ∨ t = 1:=by simp at ht;omega
  unfold World.cell?
  rw [h]
  rcases ht2 with rfl | rfl <;> simpa [encS] using hu
theorem live7 (w : World) (hG : G w) (hS : SignsAt w) : Calls Tryz.prog 7 #[] w fun e w'=>e = .returned (.bool true)∧Below w.heap.size w w':=by
 have hP1 : Calls Tryz.prog 8 #[.string ⟨#[36,65,32,43,32,50,32,42,32,36,66,32,62,32,51]⟩] w fun e w'=>∃ (a : Option Addr) (m c at' : Nat),e = .returned (.tuple #[.agg #[.int .i64 3,.string ⟨#[62]⟩,.int .i64 0,.int .i64 0,.slice a m c],.int .i64 0,.int .i64 (at' : Int)])∧Hid (Below w.heap.size w w'∧ExV w' (fun b=>w.heap.size ≤ b) X1 (.agg #[.int .i64 3,.string ⟨#[62]⟩,.int .i64 0,.int .i64 0,.slice a m c])):=parseOk whole1 (by decide) w hG hS
 have hP2 : Hid (∀ W,Below w.heap.size w W→Calls Tryz.prog 8 #[.string ⟨#[49,32,43,32,36,97]⟩] W fun e w'=>∃ (k : Int) (n : ByteArray) (x y : Int) (a : Option Addr) (m c : Nat),e = .returned (.tuple #[.agg #[.int .i64 k,.string n,.int .i64 x,.int .i64 y,.slice a m c],.int .i64 110,.int .i64 4])∧Below W.heap.size W w'):=fun W h=>parseNo err2 (by decide) W (hG.grow h) (hS.grow h)
 have hP3 : Hid (∀ W,Below w.heap.size w W→Calls Tryz.prog 8 #[.string ⟨#[97,98,115,40,36,65,41]⟩] W fun e w'=>∃ (a : Option Addr) (m c at' : Nat),e = .returned (.tuple #[.agg #[.int .i64 3,.string ⟨#[97,98,115]⟩,.int .i64 0,.int .i64 0,.slice a m c],.int .i64 0,.int .i64 (at' : Int)])∧Hid (Below W.heap.size W w'∧ExV w' (fun b=>W.heap.size ≤ b) X3 (.agg #[.int .i64 3,.string ⟨#[97,98,115]⟩,.int .i64 0,.int .i64 0,.slice a m c]))):=fun W h=>parseOk whole3 (by decide) W (hG.grow h) (hS.grow h)
 go_enter Tryz.func7,Tryz.ntmps7
 go_wp2_with (first
  | (go_at_call 8;(with_reducible refine hP1.mono ?_);clear hP1;rintro e w1 ⟨a1,m1,c1,at1,rfl,h1⟩;have hb1 : Below w.heap.size w (w1.alloc (.cells #[.int .i64 3,.string ⟨#[62]⟩,.int .i64 0,.int .i64 0,.slice a1 m1 c1] 27)):=h1.out.1.trans ((bW0 w1 _).mono h1.out.1.size);have hca:=hP2.out _ hb1;clear hP2)
  | (go_at_call 8;(with_reducible refine hca.mono ?_);clear hca;rintro e w2 ⟨k2,n2,x2,y2,a2,m2,c2,rfl,h2⟩;have hb2 : Below w.heap.size w (w2.alloc (.cells #[.int .i64 k2,.string n2,.int .i64 x2,.int .i64 y2,.slice a2 m2 c2] 27)):=hb1.trans ((h2.trans ((bW0 w2 _).mono h2.size)).mono hb1.size);have hcb:=hP3.out _ hb2;clear hP3)
  | (go_at_call 8;(with_reducible refine hcb.mono ?_);clear hcb;rintro e w3 ⟨a3,m3,c3,at3,rfl,h3⟩))
 have hb3:=h3.out.1
 have hbw2:=bW0 w2 (.cells #[.int .i64 k2,.string n2,.int .i64 x2,.int .i64 y2,.slice a2 m2 c2] 27)
 have hbw3:=bW0 w3 (.cells #[.int .i64 3,.string ⟨#[97,98,115]⟩,.int .i64 0,.int .i64 0,.slice a3 m3 c3] 27)
 have hx1:=((((bxNew w1 27 (.int .i64 3) (.string ⟨#[62]⟩) (.int .i64 0) (.int .i64 0) (.slice a1 m1 c1)).grow h2).grow hbw2).grow hb3).grow hbw3
 have hV1:=(((((h1.out.2.grow (bW0 w1 (.cells #[.int .i64 3,.string ⟨#[62]⟩,.int .i64 0,.int .i64 0,.slice a1 m1 c1] 27))).grow h2).grow hbw2).grow hb3).grow hbw3).less.more (A':=fun b=>b < (w3.alloc (.cells #[.int .i64 3,.string ⟨#[97,98,115]⟩,.int .i64 0,.int .i64 0,.slice a3 m3 c3] 27)).heap.size) fun b hb=>hb.2
 have hx3:=bxNew w3 27 (.int .i64 3) (.string ⟨#[97,98,115]⟩) (.int .i64 0) (.int .i64 0) (.slice a3 m3 c3)
 have hV3:=h3.out.2.grow hbw3
 have hbw : Below w.heap.size w (w3.alloc (.cells #[.int .i64 3,.string ⟨#[97,98,115]⟩,.int .i64 0,.int .i64 0,.slice a3 m3 c3] 27)):=hb2.trans ((hb3.trans (hbw3.mono hb3.size)).mono hb2.size)
 clear h1 h2 h3 hb1 hb2 hb3 hbw2 hbw3
 generalize w3.alloc (.cells #[.int .i64 3,.string ⟨#[97,98,115]⟩,.int .i64 0,.int .i64 0,.slice a3 m3 c3] 27) = W3 at *
 generalize w3.heap.size = B3 at *
 generalize w1.heap.size = B1 at *
 obtain ⟨y0,y1,y2',y3,y4⟩:=hx3.cells
 have hB:=(Below.refl W3.heap.size W3).drew
 have hnum : ∀ W : World,Calls Tryz.prog 26 #[.int .i64 (-1000)] W fun e w'=>e = .returned (.agg #[.int .i64 1,.int .i64 (-1000)])∧Below W.heap.size W w':=fun W=>rnum_any (-1000) W
 have hsca : ∀ W : World,Calls Tryz.prog 24 #[.agg #[.int .i64 1,.int .i64 (-1000)]] W fun e w'=>∃ a' c',e = .returned (.slice a' 1 c')∧Hid (IsSer w' a' 1 c' [⟨[],⟨1,-1000⟩⟩]∧Below W.heap.size W w'):=fun W=>rscalarG ⟨1,-1000⟩ W
 have hev : Hid (∀ W ea,Below W3.heap.size W3 W→FrsV W ea 1 [(⟨#[65]⟩,[⟨[],⟨1,-1000⟩⟩])]→Calls Tryz.prog 20 #[.agg #[.int .i64 3,.string ⟨#[97,98,115]⟩,.int .i64 0,.int .i64 0,.slice a3 m3 c3],.slice ea 1 1] W fun e w'=>Told W [⟨[],⟨1,1000⟩⟩] 0 e w'):=fun W ea h1 h2=>eval20 wf3 W _ ea 1 1 _ 3 ⟨#[97,98,115]⟩ 0 0 a3 m3 c3 _ 0 (by omega) h2 (fun p hp=>by rw [List.mem_singleton.1 hp];exact (Few.scal _).f0) (hV3.grow h1) evX3
 go_region_held3 (fun W=>W.cell? ⟨B3,0,none⟩ = some (.int .i64 3)∧W.cell? ⟨B3,1,none⟩ = some (.string ⟨#[97,98,115]⟩)∧W.cell? ⟨B3,2,none⟩ = some (.int .i64 0)∧W.cell? ⟨B3,3,none⟩ = some (.int .i64 0)∧W.cell? ⟨B3,4,none⟩ = some (.slice a3 m3 c3)) (first | exact ⟨y0,y1,y2',y3,y4⟩ | go_keep) (first
  | (go_at_call 26;refine (hnum _).mono ?_;rintro e w4 ⟨rfl,hb4⟩;replace hB:=hB.trans (hb4.mono hB.size);obtain ⟨y0,y1,y2',y3,y4⟩:=(hx3.grow hB).cells)
  | (go_at_call 24;refine (hsca _).mono ?_;rintro e w5 ⟨a5,c5,rfl,h5⟩;replace hB:=hB.trans (h5.out.2.mono hB.size);obtain ⟨y0,y1,y2',y3,y4⟩:=(hx3.grow hB).cells)
  | (go_at_call 20;refine (hev.out _ _ (hB.trans ((bW0 w5 _).mono hB.size)) (frs1 w5 a5 c5 _ h5.out.1)).mono ?_;rintro e w7 ⟨a7,n7,c7,rfl,h7⟩;have hB7:=(hB.trans ((bW0 w5 _).mono hB.size)).trans (h7.out.2.mono (hB.trans ((bW0 w5 _).mono hB.size)).size);obtain ⟨y0,y1,y2',y3,y4⟩:=(hx3.grow hB7).cells))
 have hn0 : ∀ W : World,Calls Tryz.prog 11 #[.int .i64 0] W fun e w'=>e = .returned (.int .i64 0)∧w' = W:=fun W=>lnum_any 0 W (by decide) (by decide)
 have hn1 : ∀ W : World,Calls Tryz.prog 11 #[.int .i64 110] W fun e w'=>e = .returned (.int .i64 110)∧w' = W:=fun W=>lnum_any 110 W (by decide) (by decide)
 have hbw7:=hbw.trans (hB7.mono hbw.size)
 have hpr:=prt_any w7 (hG.grow hbw7) wf1 (by have:=wf_len wf1;have h : nodes X1 = 7:=rfl;omega) 3 ⟨#[62]⟩ 0 0 a1 m1 c1 (((hV1.grow hB7).less).more fun b hb=>hb.2)
 rw [pr1] at hpr
 have hnum2 : ∀ W : World,Calls Tryz.prog 26 #[.int .i64 1000] W fun e w'=>e = .returned (.agg #[.int .i64 1,.int .i64 1000])∧Below W.heap.size W w':=fun W=>rnum_any 1000 W
 have hsca2 : ∀ W : World,Calls Tryz.prog 24 #[.agg #[.int .i64 1,.int .i64 1000]] W fun e w'=>∃ a' c',e = .returned (.slice a' 1 c')∧Hid (IsSer w' a' 1 c' [⟨[],⟨1,1000⟩⟩]∧Below W.heap.size W w'):=fun W=>rscalarG ⟨1,1000⟩ W
 have hsam : Hid (∀ W a10 c10,Below w7.heap.size w7 W→IsSer W a10 1 c10 [⟨[],⟨1,1000⟩⟩]→Calls Tryz.prog 22 #[.slice a7 n7 c7,.slice a10 1 c10] W fun e w'=>e = .returned (.bool true)∧Below W.heap.size W w'):=fun W a10 c10 h1 h2=>sameG (h7.out.1.grow h1) h2 (Few.scal _)
 have hrfs : Hid (∀ W,Below w7.heap.size w7 W→Calls Tryz.prog 17 #[.agg #[.int .i64 3,.string ⟨#[62]⟩,.int .i64 0,.int .i64 0,.slice a1 m1 c1]] W fun e w'=>∃ a' c',e = .returned (.slice a' 2 c')∧Hid (Txs w' (.slice a' 2 c') [⟨#[65]⟩,⟨#[66]⟩]∧Below W.heap.size W w')):=fun W h=>by
  refine (refs17 W wf1 (by have h : refsE X1 = [⟨#[65]⟩,⟨#[66]⟩]:=rfl;rw [h];simp) 3 ⟨#[62]⟩ 0 0 a1 m1 c1 ((((hV1.grow hB7).grow h).less).more fun b hb=>hb.2)).mono ?_
  rintro e w' ⟨a',n',c',rfl,h9⟩
  obtain ⟨h10,h11⟩:=h9.out
  rw [rf1] at h10
  have:=h10.len
  simp at this
  subst this
  exact ⟨a',c',rfl,h10,h11⟩
 have htx : Hid (∀ W a' c',Txs W (.slice a' 2 c') [⟨#[65]⟩,⟨#[66]⟩]→Calls Tryz.prog 16 #[.slice a' 2 c',.slice (some ⟨W.heap.size,0,none⟩) 2 2] (W.alloc (.cells #[.string ⟨#[65]⟩,.string ⟨#[66]⟩] 9)) fun e w'=>e = .returned (.bool true)∧Below W.heap.size W w'):=fun W a' c' h=>by
  have hb:=bW0 W (.cells #[.string ⟨#[65]⟩,.string ⟨#[66]⟩] 9)
  exact (texts_any _ [⟨#[65]⟩,⟨#[66]⟩] a' _ 2 c' 2 (by simp) (h.grow hb) (txs2 W)).mono fun e w' h=>⟨h.1,hb.trans (h.2.mono hb.size)⟩
 obtain ⟨b0,b1,b2,b3,b4⟩:=(hx1.grow hB7).cells
 clear hx3 hV3 hV1 y0 y1 y2' y3 y4 hnum hsca hev
 have hbx:=hx1.grow hB7
 clear hx1
 go_wp2_with (first
  | (go_at_call 11;(with_reducible refine (hn0 _).mono ?_);rintro e wx ⟨rfl,hwx⟩;subst wx)
  | (go_at_call 11;(with_reducible refine (hn1 _).mono ?_);rintro e wx ⟨rfl,hwx⟩;subst wx)
  | (go_at_call 14;refine hpr.mono ?_;clear hpr;rintro e w8 ⟨rfl,hb8⟩)
  | (go_at_call 26;refine (hnum2 _).mono ?_;rintro e w9 ⟨rfl,hb9⟩;have hb9:=hb8.trans (hb9.mono hb8.size))
  | (go_at_call 24;refine (hsca2 _).mono ?_;rintro e w10 ⟨a10,c10,rfl,h10⟩;have hb10:=hb9.trans (h10.out.2.mono hb9.size);have hcs:=hsam.out w10 a10 c10 hb10 h10.out.1)
  | (go_at_call 22;refine hcs.mono ?_;clear hcs;rintro e w11 ⟨rfl,hb11⟩;have hb11:=hb10.trans (hb11.mono hb10.size);clear b0 b1 b2 b3 b4;obtain ⟨b0,b1,b2,b3,b4⟩:=(hbx.grow hb11).cells;have hcr:=hrfs.out w11 hb11)
  | (go_at_call 17;refine hcr.mono ?_;clear hcr;rintro e w12 ⟨a12,c12,rfl,h12⟩;have hb12:=hb11.trans (h12.out.2.mono hb11.size);have hct:=htx.out w12 a12 c12 h12.out.1)
  | (go_at_call 16;refine hct.mono ?_;clear hct;rintro e w13 ⟨rfl,hb13⟩;have hb13:=hb12.trans (hb13.mono hb12.size)))
 go_ret
 exact ⟨rfl,hbw7.trans (hb13.mono hbw7.size)⟩
end Go.Proofs.YtdhlfpgibfaimaaGreatDoor
