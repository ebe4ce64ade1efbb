import Derived.Test.YtdhlfpgibfaimaaGreatDoorOcUm
import Derived.Test.YtdhlfpgibfaimaaGreatDoorQmQq
import Derived.Test.YtdhlfpgibfaimaaGreatDoorSbdQk
import Derived.Test.YtdhlfpgibfaimaaGreatDoorShm
import Derived.Sort.OwnSorted
import Derived.Lib.RowBridge
import Derived.Deep.RegionHeld3
set_option maxRecDepth 100000
set_option maxHeartbeats 8000000
set_option linter.unusedVariables false
namespace Go.Proofs.YtdhlfpgibfaimaaGreatDoor
open Series10 (SortQ Sr)
inductive EvT (E : ByteArray→Option (List Sr)) : Ex→List Sr→Int→Prop
 | n (v : Vl) : EvT E (exN v) [⟨[],v⟩] 0
 | r {n : ByteArray} {F out : List Sr} {er : Int} : E n = some F→SortQ F out er→EvT E (exR n) out er
 | r0 {n : ByteArray} : E n = none→EvT E (exR n) [] 7
 | m {n : ByteArray} {a : Ex} {A out : List Sr} {er : Int} : EvT E a A 0→MapT n A out er→EvT E (exC n [a]) out er
 | me {n : ByteArray} {a : Ex} {A : List Sr} {er : Int} : EvT E a A er→er ≠ 0→EvT E (exC n [a]) [] er
 | j {n : ByteArray} {a b : Ex} {A B out : List Sr} {er : Int} : EvT E a A 0→EvT E b B 0→JoinT n A B out er→EvT E (exC n [a,b]) out er
 | j1 {n : ByteArray} {a b : Ex} {A : List Sr} {er : Int} : EvT E a A er→er ≠ 0→EvT E (exC n [a,b]) [] er
 | j2 {n : ByteArray} {a b : Ex} {A B : List Sr} {er : Int} : EvT E a A 0→EvT E b B er→er ≠ 0→EvT E (exC n [a,b]) [] er
theorem one_ex {E : ByteArray→Option (List Sr)} (n : ByteArray) {x : Ex} (h : ∃ out er,EvT E x out er) : ∃ out er,EvT E (exC n [x]) out er:=by
 obtain ⟨A,er,hA⟩:=h
 by_cases h0 : er = 0
 · subst h0
   obtain ⟨out,er,hm⟩:=mapT_ex n A
   exact ⟨_,_,.m hA hm⟩
 · exact ⟨_,_,.me hA h0⟩
theorem EvT.few {E : ByteArray→Option (List Sr)} {x : Ex} {out : List Sr} {er : Int} (h : EvT E x out er) : Few out:=by
 cases h with
 | n v=>exact Few.scal v
 | r _ hq=>exact Few.sort hq
 | r0 _=>exact Few.nil
 | m _ hm=>exact Few.map hm
 | me _ _=>exact Few.nil
 | j _ _ hj=>exact Few.join hj
 | j1 _ _=>exact Few.nil
 | j2 _ _ _=>exact Few.nil
mutual
def refsE : Ex→List ByteArray
 | .mk k n v l=>(if k = 2 then [n] else []) ++ refsK l
def refsK : List Ex→List ByteArray
 | []=>[]
 | t :: r=>refsE t ++ refsK r
end
inductive VaT (V : ByteArray→Vl) : Ex→Vl→Prop
 | n (v : Vl) : VaT V (exN v) v
 | r (n : ByteArray) : VaT V (exR n) (V n)
 | m {n : ByteArray} {a : Ex} {x : Vl} : VaT V a x→IsV x→doE n [x] = 0→VaT V (exC n [a]) (doV n [x])
 | j {n : ByteArray} {a b : Ex} {x y : Vl} : VaT V a x→VaT V b y→IsV x→IsV y→doE n [x,y] = 0→VaT V (exC n [a,b]) (doV n [x,y])
end Go.Proofs.YtdhlfpgibfaimaaGreatDoor
namespace Go.Proofs.YtdhlfpgibfaimaaGreatDoor
open Go.RowKit
theorem texts_any (w : World) (l : List ByteArray) (a a' : Option Addr) (n c c' : Nat) (hl : l.length ≤ 1000000) (h1 : Txs w (.slice a n c) l) (h2 : Txs w (.slice a' n c') l) : Calls Tryz.prog 16 #[.slice a n c,.slice a' n c'] w fun e w'=>e = .returned (.bool true)∧Below w.heap.size w w':=by
 have hn:=h1.len
 have hk : Hid (∀ i,i < n→∃ b o b' o' t,a = some ⟨b,o,none⟩∧a' = some ⟨b',o',none⟩∧w.cell? ⟨b,o + i,none⟩ = some (.string t)∧w.cell? ⟨b',o' + i,none⟩ = some (.string t)):=fun i hi=>by
  obtain ⟨b,o,e1,g1⟩:=tx_at h1 i (by rw [← hn];exact hi)
  obtain ⟨b',o',e2,g2⟩:=tx_at h2 i (by rw [← hn];exact hi)
  exact ⟨b,o,b',o',_,e1,e2,g1,g2⟩
 have hnl : n ≤ 1000000:=by rw [hn];exact hl
 clear h1 h2 hn hl
 go_enter Tryz.func16,Tryz.ntmps16
 go_wp2
 go_loopw [5] (fun i wr=>∃ kk : Nat,kk ≤ n∧i = .int .i64 kk∧Hid (Below w.heap.size w wr)) (fun i _=>n - (intOf i).toNat)
 case atStart=>exact ⟨0,Nat.zero_le _,rfl,Below.refl _ _⟩
 case round =>
  obtain ⟨kk,hkk,rfl,hbr⟩:=hrel
  by_cases hlt : kk < n
  · have hki : (kk : Int) < (n : Int):=by omega
    obtain ⟨b,o,b',o',t,rfl,rfl,g1,g2⟩:=hk.out kk hlt
    have d1 : ∀ q : Bel wr,q.W.cell? ⟨b,o + kk,none⟩ = some (.string t):=fun q=>q.cell ((hbr.out.cell (p:=⟨b,o + kk,none⟩) (World.block_lt_of_cell? w _ g1)).trans g1)
    have d2 : ∀ q : Bel wr,q.W.cell? ⟨b',o' + kk,none⟩ = some (.string t):=fun q=>q.cell ((hbr.out.cell (p:=⟨b',o' + kk,none⟩) (World.block_lt_of_cell? w _ g2)).trans g2)
    clear g1 g2 hk
    go_wp2
    refine wp_region_bel (by kernel_rfl) (by kernel_rfl) ?_
    repeat (go_big_quiet_step (fail))
    refine wpQuiet_nil ?_
    rintro W ⟨q,rfl⟩
    have hq:=q.h
    go_wp2
    go_roundw
    case rel=>exact ⟨kk + 1,by omega,by go_num,hbr.out.trans (hq.mono hbr.out.size)⟩
    case measure=>simp [intOf];omega
  · obtain rfl : kk = n:=by omega
    have hki : ¬ (kk : Int) < (kk : Int):=by omega
    go_wp2
    go_ret
    exact ⟨rfl,hbr.out⟩
theorem refsK_take (l : List Ex) (i : Nat) (hi : i < l.length) : refsK (l.take (i + 1)) = refsK (l.take i) ++ refsE (l.getD i ex0):=by
 induction l generalizing i with
 | nil=>simp at hi
 | cons t r ih =>
  cases i with
  | zero=>simp [refsK]
  | succ i =>
   rw [List.take_succ_cons,refsK,List.take_succ_cons,refsK,ih i (by simpa using hi),List.append_assoc]
   simp
theorem refsK_all (l : List Ex) : refsK (l.take l.length) = refsK l:=by rw [List.take_length]
def RfC (x : Ex) : Prop:=∀ (w : World) (B : Nat) (v : Value) (l : List ByteArray) (k : Int) (n : ByteArray) (vk vn : Int) (a : Option Addr) (m c : Nat),OwnT w B v l→ExV w (fun q=>q < B) x (.agg #[.int .i64 k,.string n,.int .i64 vk,.int .i64 vn,.slice a m c])→B ≤ w.heap.size→l.length + (refsE x).length ≤ 1000000 →
 Calls Tryz.prog 43 #[v,.agg #[.int .i64 k,.string n,.int .i64 vk,.int .i64 vn,.slice a m c]] w fun e w'=>∃ a' n' c',e = .returned (.slice a' n' c')∧OwnT w' B (.slice a' n' c') (l ++ refsE x)∧Hid (Below B w w')
theorem refs_step {x : Ex} (hk : ∀ i,i < x.kids.length→RfC (x.kids.getD i ex0)) (hkl : x.kids.length ≤ 1000) : RfC x:=by
 intro w B v l k n vk vn a m c ho hv hB hlen
 obtain ⟨p1,p2,p3,p4,p5⟩:=hv.parts
 have hml : m ≤ 1000:=by rw [p5];exact hkl
 obtain ⟨l1,hl1⟩ : ∃ l1,Hid (l1 = l ++ (if k = 2 then [n] else [])):=⟨_,rfl⟩
 have hfin : Hid (l ++ refsE x = l1 ++ refsK (x.kids.take m)):=by
  show _ = _
  rw [hl1.out,p5,refsK_all,p1,p2]
  obtain ⟨kk,nn,vv,kd⟩:=x
  rw [refsE,Ex.kind,Ex.name,Ex.kids]
  simp
 have hlen1 : l1.length + (refsK x.kids).length ≤ 1000000:=by
  have:=congrArg List.length hfin.out
  rw [p5,refsK_all,List.length_append,List.length_append] at this
  omega
 rw [hfin.out]
 obtain ⟨av,cv,rfl⟩:=ho.shape
 have hkid : Hid (∀ i,i < m→∀ W v',Below B w W→OwnT W B v' (l1 ++ refsK (x.kids.take i))→∃ b o k1 n1 vk1 vn1 a1 m1 c1,a = some ⟨b,o,none⟩∧At5 W b (o + i * 5) k1 n1 vk1 vn1 a1 m1 c1∧Calls Tryz.prog 43 #[v',.agg #[.int .i64 k1,.string n1,.int .i64 vk1,.int .i64 vn1,.slice a1 m1 c1]] (W.alloc (.cells #[.int .i64 k1,.string n1,.int .i64 vk1,.int .i64 vn1,.slice a1 m1 c1] 27)) fun e w'=>∃ a' n' c',e = .returned (.slice a' n' c')∧OwnT w' B (.slice a' n' c') (l1 ++ refsK (x.kids.take (i + 1)))∧Hid (Below B w w')):=fun i hi W v' hb hov=>by
  obtain ⟨b,o,h1,hb1,k1,n1,vk1,vn1,a1,m1,c1,h2,h3⟩:=hv.kid i hi
  have hi' : i < x.kids.length:=by rw [← p5];exact hi
  refine ⟨b,o,k1,n1,vk1,vn1,a1,m1,c1,h1,h2.low hb hb1,?_⟩
  have hba : Below B W (W.alloc (.cells #[.int .i64 k1,.string n1,.int .i64 vk1,.int .i64 vn1,.slice a1 m1 c1] 27)):=(Below.refl _ W).alloc (Nat.le_trans hB hb.size) _
  have hb2:=hb.trans hba
  have htk:=refsK_take x.kids i hi'
  have hle : (refsK (x.kids.take (i + 1))).length ≤ (refsK x.kids).length:=by
   have hs : ∀ (l : List Ex) (j : Nat),(refsK (l.take j)).length ≤ (refsK l).length:=by
    intro l
    induction l with
    | nil=>intro j;simp
    | cons t r ih =>
     intro j
     cases j with
     | zero=>simp [refsK]
     | succ j=>rw [List.take_succ_cons,refsK,refsK,List.length_append,List.length_append];have:=ih j;omega
   exact hs _ _
  refine (hk i hi' _ B v' _ k1 n1 vk1 vn1 a1 m1 c1 (hov.alloc _) (h3.low hb2) (Nat.le_trans hB hb2.size) (by rw [htk] at hle;rw [List.length_append] at hle ⊢;omega)).mono ?_
  rintro e w' ⟨a',n',c',rfl,g1,g2⟩
  refine ⟨a',n',c',rfl,?_,hb2.trans g2.out⟩
  rw [htk,← List.append_assoc]
  exact g1
 have hb0 : Below B w (w.alloc (.cells #[.int .i64 k,.string n,.int .i64 vk,.int .i64 vn,.slice a m c] 27)):=(Below.refl _ w).alloc hB _
 by_cases h2 : k = 2
 · have hk2 : (k == 2) = true:=by rw [beq_iff_eq];exact h2
   have hl2 : Hid (l1 = l ++ [n]):=by show l1 = _;rw [hl1.out,if_pos h2]
   have ho2:=(ho.alloc (.cells #[.int .i64 k,.string n,.int .i64 vk,.int .i64 vn,.slice a m c] 27)).alloc (.cells #[.string n] 9)
   have hs1 : Txs ((w.alloc (.cells #[.int .i64 k,.string n,.int .i64 vk,.int .i64 vn,.slice a m c] 27)).alloc (.cells #[.string n] 9)) (.slice (some ⟨w.heap.size + 1,0,none⟩) 1 1) [n]:=by
    have:=sls_one (E:=encS) (w.alloc (.cells #[.int .i64 k,.string n,.int .i64 vk,.int .i64 vn,.slice a m c] 27)) n #[.string n] 9 rfl
    simpa using this
   have hb1 : Below B w ((w.alloc (.cells #[.int .i64 k,.string n,.int .i64 vk,.int .i64 vn,.slice a m c] 27)).alloc (.cells #[.string n] 9)):=hb0.alloc (Nat.le_trans hB hb0.size) _
   have hB1:=Nat.le_trans hB hb1.size
   have hxb : Hid (∀ w2,((w.alloc (.cells #[.int .i64 k,.string n,.int .i64 vk,.int .i64 vn,.slice a m c] 27)).alloc (.cells #[.string n] 9)).grownBy w2 (Value.slice av l.length cv).ownBlock→w2.cell? ⟨w.heap.size,4,none⟩ = some (.slice a m c)):=fun w2 hg=>by
    have h1:=(bxNew w 27 (.int .i64 k) (.string n) (.int .i64 vk) (.int .i64 vn) (.slice a m c)).grow (bW0 (w.alloc (.cells #[.int .i64 k,.string n,.int .i64 vk,.int .i64 vn,.slice a m c] 27)) (.cells #[.string n] 9))
    have h2 : Bx w2 w.heap.size 27 (.int .i64 k) (.string n) (.int .i64 vk) (.int .i64 vn) (.slice a m c):=(hg.block w.heap.size h1.lt (fun e=>by have:=(ho.lt _ e.symm).2;omega)).trans h1
    exact h2.cells.2.2.2.2
   have hll : l.length + [n].length ≤ 1000000000:=by simp;omega
   have hrr : Hid (refsK (x.kids.take 0) = []):=by show _ = _;simp [refsK]
   clear hl1 hv hk hkl hlen hfin hlen1 p1 p2 p3 p4 p5 h2 ho hb0
   generalize x.kids = KK at *
   go_enter Tryz.func43,Tryz.ntmps43
   go_wp2_with (first | (at_builtin;refine appR TS rfl (.tmp 10) (.tmp 13) rfl B _ _ l [n] rfl rfl ho2 hs1 hB1 hll ?_;intro v2 w2 ho3 hg3;have hb3:=hb1.trans (ho2.grows hB1 hg3);have x4:=hxb.out w2 hg3;clear hxb;obtain ⟨a3,c3,hv3⟩:=ho3.shape;rw [← hl2.out] at ho3;obtain ⟨n3,hn3⟩ : ∃ n3,n3 = (l ++ [n]).length:=⟨_,rfl⟩;rw [← hn3] at hv3;clear hn3;subst hv3))
   go_loopw [0,18] (fun v i wr=>∃ (kk : Nat) (a' : Option Addr) (n' c' : Nat),kk ≤ m∧i = .int .i64 kk∧v = .slice a' n' c'∧Hid (OwnT wr B v (l1 ++ refsK (KK.take kk)))∧Hid (Below B w wr)) (fun _ i _=>m - (intOf i).toNat)
   case atStart=>exact ⟨0,a3,_,c3,Nat.zero_le _,rfl,rfl,by rw [hrr.out,List.append_nil];exact ho3,hb3⟩
   case round =>
    obtain ⟨kk,a',n',c',hkk,rfl,rfl,hov,hbr⟩:=hrel
    by_cases hlt : kk < m
    · have hki : (kk : Int) < (m : Int):=by omega
      obtain ⟨b,o,k1,n1,vk1,vn1,a1,m1,c1,rfl,hA,hC⟩:=hkid.out kk hlt wr _ hbr.out hov.out
      obtain ⟨e0,e1,e2,e3,e4⟩:=hA
      clear hkid
      go_wp2_with (first
       | (go_at_call 43;refine hC.mono ?_;clear hC;rintro e w4 ⟨a4,n4,c4,rfl,ho4,hb4⟩))
      go_roundw
      case rel=>exact ⟨kk + 1,a4,n4,c4,by omega,by go_num,rfl,ho4,hb4⟩
      case measure=>simp [intOf];omega
    · have hkm : Hid (kk = m):=by show kk = m;omega
      have hki : ¬ (kk : Int) < (m : Int):=by omega
      go_wp2
      go_ret
      rw [hkm.out] at hov
      exact ⟨a',n',c',rfl,hov.out,hbr⟩
 · have hk2 : (k == 2) = false:=by rw [beq_eq_false_iff_ne];exact h2
   have hl2 : l1 = l:=by rw [hl1.out,if_neg h2];simp
   have ho2:=ho.alloc (.cells #[.int .i64 k,.string n,.int .i64 vk,.int .i64 vn,.slice a m c] 27)
   have hrr : Hid (refsK (x.kids.take 0) = []):=by show _ = _;simp [refsK]
   clear hl1 hv hk hkl hlen hfin hlen1 p1 p2 p3 p4 p5 h2 ho
   subst hl2
   generalize x.kids = KK at *
   go_enter Tryz.func43,Tryz.ntmps43
   go_wp2
   go_loopw [0,18] (fun v i wr=>∃ (kk : Nat) (a' : Option Addr) (n' c' : Nat),kk ≤ m∧i = .int .i64 kk∧v = .slice a' n' c'∧Hid (OwnT wr B v (l1 ++ refsK (KK.take kk)))∧Hid (Below B w wr)) (fun _ i _=>m - (intOf i).toNat)
   case atStart=>exact ⟨0,av,_,cv,Nat.zero_le _,rfl,rfl,by rw [hrr.out,List.append_nil];exact ho2,hb0⟩
   case round =>
    obtain ⟨kk,a',n',c',hkk,rfl,rfl,hov,hbr⟩:=hrel
    by_cases hlt : kk < m
    · have hki : (kk : Int) < (m : Int):=by omega
      obtain ⟨b,o,k1,n1,vk1,vn1,a1,m1,c1,rfl,hA,hC⟩:=hkid.out kk hlt wr _ hbr.out hov.out
      obtain ⟨e0,e1,e2,e3,e4⟩:=hA
      clear hkid
      go_wp2_with (first
       | (go_at_call 43;refine hC.mono ?_;clear hC;rintro e w4 ⟨a4,n4,c4,rfl,ho4,hb4⟩))
      go_roundw
      case rel=>exact ⟨kk + 1,a4,n4,c4,by omega,by go_num,rfl,ho4,hb4⟩
      case measure=>simp [intOf];omega
    · have hkm : Hid (kk = m):=by show kk = m;omega
      have hki : ¬ (kk : Int) < (m : Int):=by omega
      go_wp2
      go_ret
      rw [hkm.out] at hov
      exact ⟨a',n',c',rfl,hov.out,hbr⟩
end Go.Proofs.YtdhlfpgibfaimaaGreatDoor
namespace Go.Proofs.YtdhlfpgibfaimaaGreatDoor
open Go.RowKit Go.Sort
theorem refs_wf {x : Ex} (h : WF parC x) : RfC x:=by
 induction h with
 | n _=>exact refs_step (fun i hi=>absurd hi (by simp [exN,Ex.kids])) (by simp [exN,Ex.kids])
 | r _=>exact refs_step (fun i hi=>absurd hi (by simp [exR,Ex.kids])) (by simp [exR,Ex.kids])
 | @t n x _ _ ih =>
  refine refs_step (fun i hi=>?_) (by simp [exC,Ex.kids])
  obtain rfl : i = 0:=by simp [exC,Ex.kids] at hi;exact hi
  exact ih
 | @f n x _ _ ih =>
  refine refs_step (fun i hi=>?_) (by simp [exC,Ex.kids])
  obtain rfl : i = 0:=by simp [exC,Ex.kids] at hi;exact hi
  exact ih
 | @o n x y l _ _ _ _ ih1 ih2 =>
  refine refs_step (fun i hi=>?_) (by simp [exC,Ex.kids])
  have : i = 0 ∨ i = 1:=by simp [exC,Ex.kids] at hi;omega
  rcases this with rfl | rfl
  · exact ih1
  · exact ih2
def lsB (L : List ByteArray) : List (List UInt8):=L.map fun s=>s.data.toList
def blS (l : List (List UInt8)) : List ByteArray:=l.map bB
theorem lsB_enc (L : List ByteArray) : (lsB L).map encStr = flat encS L:=by
 unfold lsB flat
 rw [List.map_map]
 induction L with
 | nil=>rfl
 | cons a L ih=>rw [List.map_cons,List.map_cons,List.flatten_cons,ih];rfl
theorem lsB_blS (l : List (List UInt8)) : lsB (blS l) = l:=by
 unfold blS lsB
 rw [List.map_map]
 induction l with
 | nil=>rfl
 | cons a L ih=>rw [List.map_cons,ih];rfl
def srtS (L : List ByteArray) : List ByteArray:=blS ((lsB L).mergeSort fun x y=>decide (x ≤ y))
def cmpS' (L : List ByteArray) : List ByteArray:=blS (Lib.compact (lsB L))
theorem sortT {w : World} {B : Nat} {L : List ByteArray} {a : Option Addr} {n c : Nat} (h : OwnT w B (.slice a n c) L) (hB : B ≤ w.heap.size) (hl : L.length ≤ 1000000) : Calls Tryz.prog 44 #[.slice a n c] w fun e w'=>e = .returned (.tuple #[])∧OwnT w' B (.slice a n c) (srtS L)∧Below B w w':=by
 have hlen : (lsB L).length = L.length:=by simp [lsB]
 rcases h.2 with ⟨hv,h0⟩ | ⟨g,cap,cur,hv,hg,hb,h1,h2,h3,h4⟩
 · injection hv with e1 e2 e3
   subst e1 e2 e3
   obtain rfl : L = []:=List.length_eq_zero_iff.1 h0
   refine (Tryz.slices_Sort_string_none none 0 w).mono ?_
   rintro e w' ⟨rfl,rfl⟩
   have e : srtS [] = []:=by simp [srtS,lsB,blS]
   rw [e]
   exact ⟨rfl,h,Below.refl _ _⟩
 · injection hv with e1 e2 e3
   subst e1 e2 e3
   have h4' : cur.toList.take (lsB L).length = (lsB L).map encStr:=by rw [lsB_enc,hlen,← h4];simp [encS]
   have:=Tryz.slices_Sort_string g 0 c (lsB L) w (holds_of_block hb h4') (Array.getElem?_eq_some_iff.1 hb).1 (by omega)
   rw [hlen] at this
   refine this.mono ?_
   rintro e w' ⟨rfl,n,os,rfl⟩
   refine ⟨rfl,?_,(Below.refl B w).grown (grownBy_sorted _) hB (fun k hk=>by injection hk with hk;rw [← hk];exact hg)⟩
   have hs:=ownsRow_sorted (n:=n) (os:=os) (ts:=(lsB L).mergeSort fun x y=>decide (x ≤ y)) (ss:=lsB L) (by simp) hg hb (by rw [hlen];exact h1) h2 (by simpa [encS] using h3)
   unfold OwnT OwnS srtS
   rw [← lsB_enc,lsB_blS]
   have hl2 : (blS ((lsB L).mergeSort fun x y=>decide (x ≤ y))).length = (lsB L).length:=by simp [blS]
   rw [hl2]
   rw [hlen] at hs ⊢
   exact hs
theorem compT {w : World} {B : Nat} {L : List ByteArray} {a : Option Addr} {n c : Nat} (h : OwnT w B (.slice a n c) L) (hB : B ≤ w.heap.size) (hl : L.length ≤ 1000000) : Calls Tryz.prog 45 #[.slice a n c] w fun e w'=>e = .returned (.slice a (cmpS' L).length c)∧Txs w' (.slice a (cmpS' L).length c) (cmpS' L)∧Below B w w':=by
 have hlen : (lsB L).length = L.length:=by simp [lsB]
 rcases h.2 with ⟨hv,h0⟩ | ⟨g,cap,cur,hv,hg,hb,h1,h2,h3,h4⟩
 · injection hv with e1 e2 e3
   subst e1 e2 e3
   obtain rfl : L = []:=List.length_eq_zero_iff.1 h0
   refine (Tryz.slices_Compact_string_empty none 0 w).mono ?_
   rintro e w' ⟨rfl,rfl⟩
   exact ⟨rfl,sls_nil _,Below.refl _ _⟩
 · injection hv with e1 e2 e3
   subst e1 e2 e3
   have h4' : cur.toList.take (lsB L).length = (lsB L).map encStr:=by rw [lsB_enc,hlen,← h4];simp [encS]
   have hh:=holds_of_block hb h4'
   have:=Tryz.slices_Compact_string g 0 c (lsB L) w hh (by omega) (by rw [hlen];exact h1)
   rw [hlen] at this
   have hcl : (Lib.compact (lsB L)).length = (cmpS' L).length:=by simp [cmpS',blS]
   rw [hcl] at this
   have hle:=Lib.compact_length_le (lsB L)
   refine this.mono ?_
   rintro e w' ⟨rfl,q,rfl⟩
   have hsz : (Lib.compact (lsB L) ++ List.replicate (L.length - (cmpS' L).length) []).toArray.size = (lsB L).toArray.size:=by
    rw [← hcl];simp;omega
   refine ⟨rfl,?_,?_⟩
   · refine ⟨_,_,rfl,⟨(fun h=>by cases h),?_⟩,.inr ⟨g,0,rfl,fun t ht=>?_⟩⟩
     · rw [← hcl];omega
     · have hp:=cell?_putRow encStr (Sort.ahead w q) g 0 (lsB L).toArray _ hh hsz t (by simp;omega)
       intro i u hu
       cases i with
       | succ i=>simp [encS] at hu
       | zero =>
        have e1 : (Lib.compact (lsB L) ++ List.replicate (L.length - (cmpS' L).length) []).toArray[t]! = (Lib.compact (lsB L)).getD t []:=by
         have ht' : t < (Lib.compact (lsB L)).length:=by rw [hcl];exact ht
         simp [List.getElem!_eq_getElem?_getD,List.getElem?_append_left ht',List.getD_eq_getElem?_getD]
         rfl
        have e2 : (cmpS' L).getD t ⟨#[]⟩ = bB ((Lib.compact (lsB L)).getD t []):=by
         have ht' : t < (Lib.compact (lsB L)).length:=by rw [hcl];exact ht
         unfold cmpS' blS
         rw [List.getD_eq_getElem?_getD,List.getElem?_map,List.getD_eq_getElem?_getD,List.getElem?_eq_getElem ht']
         rfl
        rw [e1] at hp
        have hu2 : u = .string ((cmpS' L).getD t ⟨#[]⟩):=by
         have : ([Value.string ((cmpS' L).getD t ⟨#[]⟩)] : List Value)[0]? = some u:=hu
         simpa using this.symm
        rw [hu2,e2]
        have h5 : 0 + t * encS.k + 0 = 0 + t:=by show 0 + t * 1 + 0 = _;omega
        rw [h5]
        exact hp
   · have hg2:=(grownBy_sorted (w:=w) (g:=g) (n:=q) (os:=#[]) (Lib.compact (lsB L) ++ List.replicate (L.length - (cmpS' L).length) []).toArray)
     rw [grow_empty] at hg2
     exact (Below.refl B w).grown hg2 hB (fun k hk=>by injection hk with hk;rw [← hk];exact hg)
def refsR (x : Ex) : List ByteArray:=cmpS' (srtS (refsE x))
theorem srt_len (L : List ByteArray) : (srtS L).length = L.length:=by simp [srtS,blS,lsB]
theorem refs17 (w : World) {x : Ex} (hW : WF parC x) (hl : (refsE x).length ≤ 1000000) (k : Int) (n : ByteArray) (vk vn : Int) (a : Option Addr) (m c : Nat) (hv : ExV w (fun q=>q < w.heap.size) x (.agg #[.int .i64 k,.string n,.int .i64 vk,.int .i64 vn,.slice a m c])) :
 Calls Tryz.prog 17 #[.agg #[.int .i64 k,.string n,.int .i64 vk,.int .i64 vn,.slice a m c]] w fun e w'=>∃ a' n' c',e = .returned (.slice a' n' c')∧Hid (Txs w' (.slice a' n' c') (refsR x)∧Below w.heap.size w w'):=by
 have hb0:=bW0 w (.cells #[.int .i64 k,.string n,.int .i64 vk,.int .i64 vn,.slice a m c] 27)
 have hrf:=refs_wf hW _ w.heap.size (.slice none 0 0) [] k n vk vn a m c (OwnS.nil _ _) (hv.low hb0) hb0.size (by simpa using hl)
 have hso : Hid (∀ W a' n' c',OwnT W w.heap.size (.slice a' n' c') ([] ++ refsE x)→Below w.heap.size w W→Calls Tryz.prog 44 #[.slice a' n' c'] W fun e w'=>e = .returned (.tuple #[])∧OwnT w' w.heap.size (.slice a' n' c') (srtS (refsE x))∧Below w.heap.size w w'):=fun W a' n' c' h1 h2 =>
  (sortT h1 h2.size (by simpa using hl)).mono fun e w' h=>⟨h.1,h.2.1,h2.trans h.2.2⟩
 have hco : Hid (∀ W a' n' c',OwnT W w.heap.size (.slice a' n' c') (srtS (refsE x))→Below w.heap.size w W→Calls Tryz.prog 45 #[.slice a' n' c'] W fun e w'=>∃ n2,e = .returned (.slice a' n2 c')∧Hid (Txs w' (.slice a' n2 c') (refsR x)∧Below w.heap.size w w')):=fun W a' n' c' h1 h2 =>
  (compT h1 h2.size (by rw [srt_len];exact hl)).mono fun e w' h=>⟨_,h.1,h.2.1,h2.trans h.2.2⟩
 clear hl hv
 go_enter Tryz.func17,Tryz.ntmps17
 go_wp2_with (first
  | (go_at_call 43;refine hrf.mono ?_;clear hrf;rintro e w1 ⟨a1,n1,c1,rfl,ho1,hb1⟩;have hca:=hso.out w1 a1 n1 c1 ho1 (hb0.trans hb1.out);clear ho1)
  | (go_at_call 44;refine hca.mono ?_;clear hca;rintro e w2 ⟨rfl,ho2,hb2⟩;have hcb:=hco.out w2 a1 n1 c1 ho2 hb2;clear ho2)
  | (go_at_call 45;refine hcb.mono ?_;clear hcb;rintro e w3 ⟨n2,rfl,ho3⟩))
 go_ret
 exact ⟨_,_,_,rfl,ho3⟩
end Go.Proofs.YtdhlfpgibfaimaaGreatDoor
namespace Go.Proofs.YtdhlfpgibfaimaaGreatDoor
open Go.RowKit
open Series10 (SortQ Sr)
def Few0 (F : List Sr) : Prop:=FR F∧F.length ≤ 1000000
theorem Few.f0 {F : List Sr} (h : Few F) : Few0 F:=⟨h.1,h.2.2⟩
def FrsV (w : World) (a : Option Addr) (n : Nat) (l : List (ByteArray × List Sr)) : Prop:=n = l.length∧∀ i,i < n→∃ b o sa sn sc,a = some ⟨b,o,none⟩∧w.cell? ⟨b,o + i * 2,none⟩ = some (.string (l.getD i (⟨#[]⟩,[])).1)∧w.cell? ⟨b,o + i * 2 + 1,none⟩ = some (.slice sa sn sc)∧IsSer w sa sn sc (l.getD i (⟨#[]⟩,[])).2
theorem FrsV.grow {w w' : World} {a : Option Addr} {n : Nat} {l : List (ByteArray × List Sr)} (h : FrsV w a n l) (hb : Below w.heap.size w w') : FrsV w' a n l:=by
 refine ⟨h.1,fun i hi=>?_⟩
 obtain ⟨b,o,sa,sn,sc,h1,h2,h3,h4⟩:=h.2 i hi
 exact ⟨b,o,sa,sn,sc,h1,(hb.cell (p:=⟨b,o + i * 2,none⟩) (World.block_lt_of_cell? w _ h2)).trans h2,(hb.cell (p:=⟨b,o + i * 2 + 1,none⟩) (World.block_lt_of_cell? w _ h3)).trans h3,h4.grow hb⟩
def envE (l : List (ByteArray × List Sr)) (n : ByteArray) : Option (List Sr):=(l.reverse.find? fun p=>decide (p.1 = n)).map (·.2)
theorem env_at {l : List (ByteArray × List Sr)} {n : ByteArray} {i : Nat} (hi : i < l.length) (h1 : (l.getD i (⟨#[]⟩,[])).1 = n) (h2 : ∀ j,i < j→j < l.length→(l.getD j (⟨#[]⟩,[])).1 ≠ n) : envE l n = some (l.getD i (⟨#[]⟩,[])).2:=by
 unfold envE
 have hl : l = l.take i ++ l.getD i (⟨#[]⟩,[]) :: l.drop (i + 1):=by
  rw [List.getD_eq_getElem?_getD,List.getElem?_eq_getElem hi]
  simp
 generalize l.getD i (⟨#[]⟩,[]) = p at *
 have h3 : (l.drop (i + 1)).reverse.find? (fun p=>decide (p.1 = n)) = none:=by
  rw [List.find?_eq_none]
  intro x hx
  rw [List.mem_reverse,List.mem_iff_getElem?] at hx
  obtain ⟨j,hj⟩:=hx
  rw [List.getElem?_drop] at hj
  have hjl:=(List.getElem?_eq_some_iff.1 hj).1
  have:=h2 (i + 1 + j) (by omega) hjl
  rw [List.getD_eq_getElem?_getD,hj] at this
  simpa using this
 rw [hl,List.reverse_append,List.reverse_cons,List.append_assoc,List.find?_append,h3]
 simp [h1]
theorem env_no {l : List (ByteArray × List Sr)} {n : ByteArray} (h2 : ∀ j,j < l.length→(l.getD j (⟨#[]⟩,[])).1 ≠ n) : envE l n = none:=by
 unfold envE
 rw [List.find?_eq_none.2]
 · rfl
 · intro x hx
   rw [List.mem_reverse,List.mem_iff_getElem?] at hx
   obtain ⟨j,hj⟩:=hx
   have hjl:=(List.getElem?_eq_some_iff.1 hj).1
   have:=h2 j hjl
   rw [List.getD_eq_getElem?_getD,hj] at this
   simpa using this
def ToldE (E : Option (List Sr)) (out : List Sr) (er : Int) : Prop:=match E with
 | some F=>SortQ F out er
 | none=>out = []∧er = 7
theorem told48 (w : World) (name : ByteArray) (a : Option Addr) (n c : Nat) (l : List (ByteArray × List Sr)) (hn : n ≤ 1000000) (hf : FrsV w a n l) (hF : ∀ p ∈ l,Few0 p.2) (out : List Sr) (er : Int) (hq : ToldE (envE l name) out er) :
 Calls Tryz.prog 48 #[.string name,.slice a n c] w fun e w'=>Told w out er e w':=by
 have hnl:=hf.1
 have hk : Hid (∀ i,i < n→∃ b o sa sn sc,a = some ⟨b,o,none⟩∧w.cell? ⟨b,o + i * 2,none⟩ = some (.string (l.getD i (⟨#[]⟩,[])).1)∧w.cell? ⟨b,o + i * 2 + 1,none⟩ = some (.slice sa sn sc)∧((l.getD i (⟨#[]⟩,[])).1 = name→(∀ j,i < j→j < n→(l.getD j (⟨#[]⟩,[])).1 ≠ name)→Calls Tryz.prog 73 #[.slice sa sn sc] w fun e w'=>Told w out er e w')):=fun i hi=>by
  obtain ⟨b,o,sa,sn,sc,h1,h2,h3,h4⟩:=hf.2 i hi
  refine ⟨b,o,sa,sn,sc,h1,h2,h3,fun e1 e2=>?_⟩
  have hE:=env_at (by omega) e1 (fun j h5 h6=>e2 j h5 (by omega))
  rw [hE] at hq
  have hm : (l.getD i (⟨#[]⟩,[])) ∈ l:=by
   rw [List.getD_eq_getElem?_getD,List.getElem?_eq_getElem (by omega)]
   exact List.getElem_mem _
  have hfew:=hF _ hm
  exact sortG h4 hfew.1 (by rw [h4.len];exact hfew.2) hq
 have hno : Hid ((∀ j,j < n→(l.getD j (⟨#[]⟩,[])).1 ≠ name)→out = []∧er = 7):=fun h=>by
  have:=env_no (l:=l) (n:=name) (fun j hj=>h j (by omega))
  rw [this] at hq
  exact hq
 clear hf hF hq hnl
 go_enter Tryz.func48,Tryz.ntmps48
 go_wp2
 go_loop [6] (fun i=>∃ kk : Nat,kk ≤ n∧i = .int .i64 ((kk : Int) - 1)∧Hid (∀ j,kk ≤ j→j < n→(l.getD j (⟨#[]⟩,[])).1 ≠ name)) (fun i=>(intOf i + 1).toNat)
 case atStart=>exact ⟨n,Nat.le_refl _,rfl,fun j h1 h2=>absurd h2 (by omega)⟩
 case round =>
  obtain ⟨kk,hkk,rfl,hall⟩:=hrel
  cases kk with
  | zero =>
   have hlt : ¬ (0 : Int) ≤ ((0 : Nat) : Int) - 1:=by omega
   obtain ⟨rfl,rfl⟩:=hno.out (fun j hj=>hall.out j (Nat.zero_le _) hj)
   clear hk
   go_wp2
   go_ret2
   exact ⟨_,_,_,rfl,⟨[],rfl,sls_nil _,(fun x hx=>by cases hx),rfl⟩,Below.refl _ _⟩
  | succ i =>
   have hei : ((i + 1 : Nat) : Int) - 1 = (i : Int):=by omega
   rw [hei]
   have hi0 : (0 : Int) ≤ (i : Int):=by omega
   obtain ⟨b,o,sa,sn,sc,rfl,h1,h2,hC⟩:=hk.out i (by omega)
   have hin : (i : Int) < (n : Int):=by omega
   obtain ⟨nm,hnm⟩ : ∃ nm,Hid (nm = (l.getD i (⟨#[]⟩,[])).1):=⟨_,rfl⟩
   rw [← hnm.out] at h1
   by_cases he : nm = name
   · have hca:=hC (by rw [← hnm.out];exact he) (fun j h5 h6=>hall.out j (by omega) h6)
     subst he
     clear hC hk hno hall
     go_wp2_with (first | (go_at_call 73;refine hca.mono ?_;rintro e w2 ⟨a',n',c',rfl,hT⟩))
     go_ret2
     exact ⟨_,_,_,rfl,hT⟩
   · have hne:=toList_ne he
     have hall2 : Hid (∀ j,i ≤ j→j < n→(l.getD j (⟨#[]⟩,[])).1 ≠ name):=fun j h5 h6=>by
      by_cases e : j = i
      · subst e;rw [← hnm.out];exact he
      · exact hall.out j (by omega) h6
     clear hC hk hno hall he
     go_wp2
     go_round
     case rel=>exact ⟨i,by omega,rfl,hall2⟩
     case measure=>simp [intOf]
theorem ex_inj {k k' : Int} {n n' : ByteArray} {v v' : Vl} {l l' : List Ex} (h : Ex.mk k n v l = Ex.mk k' n' v' l') : k = k'∧n = n'∧v = v'∧l = l':=by injection h with a b c d;exact ⟨a,b,c,d⟩
theorem EvT.invN {E : ByteArray→Option (List Sr)} {v : Vl} {out : List Sr} {er : Int} (h : EvT E (exN v) out er) : out = [⟨[],v⟩]∧er = 0:=by
 generalize hx : exN v = y at h
 cases h <;> unfold exN at hx <;> (try unfold exR at hx) <;> (try unfold exC at hx) <;> have:=ex_inj hx
 case n u=>rw [this.2.2.1];exact ⟨rfl,rfl⟩
 all_goals exact absurd this.1 (by decide)
theorem EvT.invR {E : ByteArray→Option (List Sr)} {n : ByteArray} {out : List Sr} {er : Int} (h : EvT E (exR n) out er) : ToldE (E n) out er:=by
 generalize hx : exR n = y at h
 cases h <;> unfold exR at hx <;> (try unfold exN at hx) <;> (try unfold exC at hx) <;> have:=ex_inj hx
 case r u F hE hq=>rw [this.2.1,hE];exact hq
 case r0 u hE=>rw [this.2.1,hE];exact ⟨rfl,rfl⟩
 all_goals exact absurd this.1 (by decide)
theorem EvT.inv1 {E : ByteArray→Option (List Sr)} {n : ByteArray} {x : Ex} {out : List Sr} {er : Int} (h : EvT E (exC n [x]) out er) : (∃ A,EvT E x A 0∧MapT n A out er) ∨ (∃ A,EvT E x A er∧er ≠ 0∧out = []):=by
 generalize hx : exC n [x] = y at h
 cases h <;> unfold exC at hx <;> (try unfold exN at hx) <;> (try unfold exR at hx) <;> have:=ex_inj hx
 case m A h1 h2 =>
  have e:=this.2.2.2
  simp only [List.cons.injEq,and_true] at e
  rw [e,this.2.1];exact .inl ⟨_,h1,h2⟩
 case me A h1 h2 =>
  have e:=this.2.2.2
  simp only [List.cons.injEq,and_true] at e
  rw [e];exact .inr ⟨_,h1,h2,rfl⟩
 all_goals first | exact absurd this.1 (by decide) | (have e:=congrArg List.length this.2.2.2;simp at e)
theorem EvT.inv2 {E : ByteArray→Option (List Sr)} {n : ByteArray} {x y : Ex} {out : List Sr} {er : Int} (h : EvT E (exC n [x,y]) out er) : (∃ A B,EvT E x A 0∧EvT E y B 0∧JoinT n A B out er) ∨ (∃ A,EvT E x A er∧er ≠ 0∧out = []) ∨ (∃ A B,EvT E x A 0∧EvT E y B er∧er ≠ 0∧out = []):=by
 generalize hx : exC n [x,y] = z at h
 cases h <;> unfold exC at hx <;> (try unfold exN at hx) <;> (try unfold exR at hx) <;> have:=ex_inj hx
 case j =>
  have e:=this.2.2.2
  simp only [List.cons.injEq,and_true] at e
  rw [e.1,e.2,this.2.1];exact .inl ⟨_,_,by assumption,by assumption,by assumption⟩
 case j1 =>
  have e:=this.2.2.2
  simp only [List.cons.injEq,and_true] at e
  rw [e.1];exact .inr (.inl ⟨_,by assumption,by assumption,rfl⟩)
 case j2 =>
  have e:=this.2.2.2
  simp only [List.cons.injEq,and_true] at e
  rw [e.1,e.2];exact .inr (.inr ⟨_,_,by assumption,by assumption,by assumption,rfl⟩)
 all_goals first | exact absurd this.1 (by decide) | (have e:=congrArg List.length this.2.2.2;simp at e)
def EvC (f : Nat) (x : Ex) : Prop:=∀ (w : World) (l : List (ByteArray × List Sr)) (ea : Option Addr) (en ec : Nat) (A : Nat→Prop) (k : Int) (n : ByteArray) (vk vn : Int) (a : Option Addr) (m c : Nat) (out : List Sr) (er : Int),en ≤ 1000000→FrsV w ea en l→(∀ p ∈ l,Few0 p.2)→ExV w A x (.agg #[.int .i64 k,.string n,.int .i64 vk,.int .i64 vn,.slice a m c])→EvT (envE l) x out er →
 Calls Tryz.prog f #[.agg #[.int .i64 k,.string n,.int .i64 vk,.int .i64 vn,.slice a m c],.slice ea en ec] w fun e w'=>Told w out er e w'
theorem Told.from {w W w' : World} {F : List Sr} {er : Int} {e : Ending} (h : Told W F er e w') (hb : Below w.heap.size w W) : Told w F er e w':=by
 obtain ⟨a',n',c',h1,h2,h3⟩:=h
 exact ⟨a',n',c',h1,h2,hb.trans (h3.mono hb.size)⟩
theorem evN (v : Vl) : EvC 20 (exN v):=by
 intro w l ea en ec A k n vk vn a m c out er hen hf hF hv hT
 obtain ⟨rfl,rfl⟩:=hT.invN
 obtain ⟨p1,p2,p3,p4,p5⟩:=hv.parts
 have e1 : k = 1:=p1
 have e3 : vk = v.kind:=p3
 have e4 : vn = v.n:=p4
 subst e1 e3 e4
 have hb0:=bW0 w (.cells #[.int .i64 1,.string n,.int .i64 v.kind,.int .i64 v.n,.slice a m c] 27)
 have hsc:=scalarG v (w.alloc (.cells #[.int .i64 1,.string n,.int .i64 v.kind,.int .i64 v.n,.slice a m c] 27))
 clear p1 p2 p3 p4 p5 hv hf hF hT
 go_enter Tryz.func20,Tryz.ntmps20
 go_wp2_with (first | (go_at_call 47;refine hsc.mono ?_;rintro e w1 ⟨a',c',rfl,h1⟩))
 go_ret2
 exact ⟨_,_,_,rfl,h1.out.1,hb0.trans (h1.out.2.mono hb0.size)⟩
theorem evR (N : ByteArray) : EvC 20 (exR N):=by
 intro w l ea en ec A k n vk vn a m c out er hen hf hF hv hT
 obtain ⟨p1,p2,p3,p4,p5⟩:=hv.parts
 have e1 : k = 2:=p1
 have e2 : n = N:=p2
 subst e1 e2
 have hb0:=bW0 w (.cells #[.int .i64 2,.string n,.int .i64 vk,.int .i64 vn,.slice a m c] 27)
 have hto:=told48 (w.alloc (.cells #[.int .i64 2,.string n,.int .i64 vk,.int .i64 vn,.slice a m c] 27)) n ea en ec l hen (hf.grow hb0) hF out er hT.invR
 clear p1 p2 p3 p4 p5 hv hf hF hT
 go_enter Tryz.func20,Tryz.ntmps20
 go_wp2_with (first | (go_at_call 48;refine hto.mono ?_;rintro e w1 ⟨a',n',c',rfl,h1⟩))
 go_ret2
 exact ⟨_,_,_,rfl,h1.out.1,hb0.trans (h1.out.2.mono hb0.size)⟩
theorem evC (N : ByteArray) (kids : List Ex) (hd : EvC 49 (exC N kids)) : EvC 20 (exC N kids):=by
 intro w l ea en ec A k n vk vn a m c out er hen hf hF hv hT
 obtain ⟨p1,p2,p3,p4,p5⟩:=hv.parts
 have e1 : k = 3:=p1
 subst e1
 have hb0:=bW0 w (.cells #[.int .i64 3,.string n,.int .i64 vk,.int .i64 vn,.slice a m c] 27)
 have hto:=hd (w.alloc (.cells #[.int .i64 3,.string n,.int .i64 vk,.int .i64 vn,.slice a m c] 27)) l ea en ec A 3 n vk vn a m c out er hen (hf.grow hb0) hF (hv.grow hb0) hT
 clear p1 p2 p3 p4 p5 hv hf hF hT hd
 go_enter Tryz.func20,Tryz.ntmps20
 go_wp2_with (first | (go_at_call 49;refine hto.mono ?_;rintro e w1 ⟨a',n',c',rfl,h1⟩))
 go_ret2
 exact ⟨_,_,_,rfl,h1.out.1,hb0.trans (h1.out.2.mono hb0.size)⟩
end Go.Proofs.YtdhlfpgibfaimaaGreatDoor
namespace Go.Proofs.YtdhlfpgibfaimaaGreatDoor
open Go.RowKit
open Series10 (SortQ Sr)
theorem mk1 (W : World) : (Instr.makeSlice 115 (.int .i64 1) (.int .i64 1)).run Tryz.prog W = .ok (.slice (some ⟨W.heap.size,0,none⟩) 1 1) (W.alloc (.cells #[.slice none 0 0] 43)):=by kernel_rfl
theorem mk2 (W : World) : (Instr.makeSlice 115 (.int .i64 2) (.int .i64 2)).run Tryz.prog W = .ok (.slice (some ⟨W.heap.size,0,none⟩) 2 2) (W.alloc (.cells #[.slice none 0 0,.slice none 0 0] 43)):=by kernel_rfl
def SlB (w : World) (g : Nat) : Prop:=∀ i v,w.cell? ⟨g,i,none⟩ = some v→∃ p q r,v = .slice p q r
theorem cell_set {w : World} {b g i j : Nat} {u : Value} (h : b ≠ g) : (w.setCell ⟨g,i,none⟩ u).cell? ⟨b,j,none⟩ = w.cell? ⟨b,j,none⟩:=by
 simp only [World.cell?,set_block h]
theorem Sls.set {α : Type} {E : Enc α} {w : World} {v : Value} {l : List α} {g i : Nat} {u : Value} (h : Sls E w v l) (hg : SlB w g) (hE : ∀ x : α,∃ (j : Nat) (y : Value),(E.arr x)[j]? = some y∧∀ p q r,y ≠ Value.slice p q r) : Sls E (w.setCell ⟨g,i,none⟩ u) v l:=by
 obtain ⟨a,c,h1,h2,h3⟩:=h
 refine ⟨a,c,h1,h2,?_⟩
 rcases h3 with h3 | ⟨b,o,h3,h4⟩
 · exact .inl h3
 · refine .inr ⟨b,o,h3,fun t ht k y hy=>?_⟩
   obtain ⟨j,z,h5,h6⟩:=hE (l.getD t E.d)
   have hne : b ≠ g:=fun e=>by
    have:=h4 t ht j z h5
    rw [e] at this
    obtain ⟨p,q,r,e2⟩:=hg _ _ this
    exact h6 p q r e2
   rw [cell_set hne]
   exact h4 t ht k y hy
theorem IsSer.set {w : World} {a : Option Addr} {n c g i : Nat} {u : Value} {F : List Sr} (h : IsSer w a n c F) (hg : SlB w g) : IsSer (w.setCell ⟨g,i,none⟩ u) a n c F:=by
 obtain ⟨l,h1,h2,h3,h4⟩:=h
 exact ⟨l,h1,Sls.set h2 hg (fun x=>⟨1,_,rfl,fun p q r e=>by cases e⟩),fun x hx=>Sls.set (h3 x hx) hg (fun x=>⟨0,_,rfl,fun p q r e=>by cases e⟩),h4⟩
theorem FrsV.set {w : World} {a : Option Addr} {n g i : Nat} {u : Value} {l : List (ByteArray × List Sr)} (h : FrsV w a n l) (hg : SlB w g) : FrsV (w.setCell ⟨g,i,none⟩ u) a n l:=by
 refine ⟨h.1,fun j hj=>?_⟩
 obtain ⟨b,o,sa,sn,sc,h1,h2,h3,h4⟩:=h.2 j hj
 have hne : b ≠ g:=fun e=>by
  rw [e] at h2
  obtain ⟨p,q,r,e2⟩:=hg _ _ h2
  cases e2
 exact ⟨b,o,sa,sn,sc,h1,by rw [cell_set hne];exact h2,by rw [cell_set hne];exact h3,h4.set hg⟩
theorem below_set {w W : World} {B g i : Nat} {u : Value} (h : Below B w W) (hg : B ≤ g) : Below B w (W.setCell ⟨g,i,none⟩ u):=h.setCell (p:=⟨g,i,none⟩) hg u
theorem slb1 {w : World} {g : Nat} {p : Option Addr} {q r : Nat} (h : w.heap[g]? = some (.cells #[.slice p q r] 43 (0,0))) : SlB w g∧w.cell? ⟨g,0,none⟩ = some (.slice p q r)∧w.frozen? ⟨g,0,none⟩ = false:=by
 refine ⟨fun i v hv=>?_,by simp [World.cell?,h],by simp [World.frozen?,h]⟩
 simp only [World.cell?,h] at hv
 cases i with
 | zero=>simp at hv;exact ⟨_,_,_,hv.symm⟩
 | succ i=>simp at hv
theorem done1 {N : ByteArray} {x : Ex} (hx : EvC 20 x) : EvC 49 (exC N [x]):=by
 intro w l ea en ec A k n vk vn a m c out er hen hf hF hv hT
 obtain ⟨rfl,rfl,rfl,q,o,rfl,hq,k1,n1,vk1,vn1,a1,m1,c1,hA1,hV1⟩:=kid1 hv
 have hb0:=bW0 w (.cells #[.int .i64 3,.string n,.int .i64 vk,.int .i64 vn,.slice (some ⟨q,o,none⟩) 1 c] 27)
 have hb1:=bW0 (w.alloc (.cells #[.int .i64 3,.string n,.int .i64 vk,.int .i64 vn,.slice (some ⟨q,o,none⟩) 1 c] 27)) (.cells #[.slice none 0 0] 43)
 have hb2:=hb0.trans (hb1.mono hb0.size)
 have hx2:=(bxNew w 27 (.int .i64 3) (.string n) (.int .i64 vk) (.int .i64 vn) (.slice (some ⟨q,o,none⟩) 1 c)).grow hb1
 have hrow : ((w.alloc (.cells #[.int .i64 3,.string n,.int .i64 vk,.int .i64 vn,.slice (some ⟨q,o,none⟩) 1 c] 27)).alloc (.cells #[.slice none 0 0] 43)).heap[w.heap.size + 1]? = some (.cells #[.slice none 0 0] 43 (0,0)):=by
  show ((w.heap.push _).push _)[w.heap.size + 1]? = _
  have : (w.heap.push (.cells #[.int .i64 3,.string n,.int .i64 vk,.int .i64 vn,.slice (some ⟨q,o,none⟩) 1 c] 27)).size = w.heap.size + 1:=by simp
  rw [← this,Array.getElem?_push_size]
 obtain ⟨e0,e1,e2,e3,e4⟩:=hA1.grow hb2
 have hmk:=fun W=>mk1 W
 have hev : Hid (∀ W A1 er1,Below w.heap.size w W→EvT (envE l) x A1 er1→Calls Tryz.prog 20 #[.agg #[.int .i64 k1,.string n1,.int .i64 vk1,.int .i64 vn1,.slice a1 m1 c1],.slice ea en ec] W fun e w'=>Told W A1 er1 e w'):=fun W A1 er1 h1 h2=>hx W l ea en ec A k1 n1 vk1 vn1 a1 m1 c1 A1 er1 hen (hf.grow h1) hF (hV1.grow h1) h2
 obtain ⟨x0,x1,x2,x3,x4⟩:=hx2.cells
 have hinv:=hT.inv1
 clear hx hf hF hv hT hV1 hA1
 go_enter Tryz.func49,Tryz.ntmps49
 go_wp2
 clear hmk
 generalize (w.alloc (.cells #[.int .i64 3,.string n,.int .i64 vk,.int .i64 vn,.slice (some ⟨q,o,none⟩) 1 c] 27)).alloc (.cells #[.slice none 0 0] 43) = W2 at *
 have hbk:=bW0 W2 (.cells #[.int .i64 k1,.string n1,.int .i64 vk1,.int .i64 vn1,.slice a1 m1 c1] 27)
 have hb3:=hb2.trans (hbk.mono hb2.size)
 rcases hinv with ⟨A1,h1,h2⟩ | ⟨A1,h1,hne,rfl⟩
 · have hca:=hev.out _ A1 0 hb3 h1
   have hfew:=h1.few
   have hmap : Hid (∀ w4 a' n' c',Below (W2.alloc (.cells #[.int .i64 k1,.string n1,.int .i64 vk1,.int .i64 vn1,.slice a1 m1 c1] 27)).heap.size (W2.alloc (.cells #[.int .i64 k1,.string n1,.int .i64 vk1,.int .i64 vn1,.slice a1 m1 c1] 27)) w4→IsSer w4 a' n' c' A1→(w4.setCell ⟨w.heap.size + 1,0,none⟩ (.slice a' n' c')).cell? ⟨w.heap.size,1,none⟩ = some (.string n)∧(w4.setCell ⟨w.heap.size + 1,0,none⟩ (.slice a' n' c')).cell? ⟨w.heap.size + 1,0,none⟩ = some (.slice a' n' c')∧w4.frozen? ⟨w.heap.size + 1,0,none⟩ = false∧w4.cell? ⟨w.heap.size + 1,0,none⟩ = some (.slice none 0 0)∧∀ W',Below (w4.setCell ⟨w.heap.size + 1,0,none⟩ (.slice a' n' c')).heap.size (w4.setCell ⟨w.heap.size + 1,0,none⟩ (.slice a' n' c')) W'→Calls Tryz.prog 74 #[.string n,.slice a' n' c'] W' fun e w'=>Told w out er e w'∧w'.cell? ⟨w.heap.size,1,none⟩ = some (.string n)∧w'.cell? ⟨w.heap.size + 1,0,none⟩ = some (.slice a' n' c')):=fun w4 a' n' c' hb4 hS=>by
    have hb5:=hbk.trans (hb4.mono hbk.size)
    have hr4 : w4.heap[w.heap.size + 1]? = some (.cells #[.slice none 0 0] 43 (0,0)):=(hb5.block _ (Array.getElem?_eq_some_iff.1 hrow).1).trans hrow
    obtain ⟨hsl,g1,g2⟩:=slb1 hr4
    have hbx4:=hx2.grow hb5
    have q1 : (w4.setCell ⟨w.heap.size + 1,0,none⟩ (.slice a' n' c')).cell? ⟨w.heap.size,1,none⟩ = some (.string n):=by rw [cell_set (by omega)];exact hbx4.cells.2.1
    have q2 : (w4.setCell ⟨w.heap.size + 1,0,none⟩ (.slice a' n' c')).cell? ⟨w.heap.size + 1,0,none⟩ = some (.slice a' n' c'):=by
     have:=block_setCell (i:=0) (u:=.slice a' n' c') hr4
     simp [World.cell?,this]
    refine ⟨q1,q2,g2,g1,fun W' hW'=>?_⟩
    · refine (mapG ((hS.set hsl).grow hW') hfew.1 (by rw [hS.len];exact hfew.2.2) h2).mono fun e w' h=>?_
      have hbz : Below (w4.setCell ⟨w.heap.size + 1,0,none⟩ (.slice a' n' c')).heap.size (w4.setCell ⟨w.heap.size + 1,0,none⟩ (.slice a' n' c')) w':=by
       obtain ⟨_,_,_,_,h8⟩:=h
       exact hW'.trans (h8.out.2.mono hW'.size)
      refine ⟨?_,(hbz.cell (p:=⟨w.heap.size,1,none⟩) (World.block_lt_of_cell? _ _ q1)).trans q1,(hbz.cell (p:=⟨w.heap.size + 1,0,none⟩) (World.block_lt_of_cell? _ _ q2)).trans q2⟩
      exact h.from ((below_set (hb2.trans (hb5.mono hb2.size)) (by omega)).trans (hW'.mono (by rw [set_size];have:=hb5.size;have:=hb2.size;omega)))
   clear hev h1 h2
   refine wp_loop_rounds 2 ?_
   rw [rounds_succ]
   go_wp2_with (first | (go_at_call 20;refine hca.mono ?_;clear hca;rintro e w4 ⟨a',n',c',rfl,hT4⟩;obtain ⟨r1,r2,r3,r4,hM⟩:=hmap.out w4 a' n' c' hT4.out.2 hT4.out.1;clear hmap))
   rw [rounds_succ]
   go_wp2
   generalize hWW : w4.setCell ⟨w.heap.size + 1,0,none⟩ (.slice a' n' c') = W5 at *
   have hBB:=Below.refl W5.heap.size W5
   go_region_held3 (fun W=>W.cell? ⟨w.heap.size,1,none⟩ = some (.string n)∧W.cell? ⟨w.heap.size + 1,0,none⟩ = some (.slice a' n' c')) (first | exact ⟨r1,r2⟩ | go_keep) (first | (go_at_call 74;refine (hM _ ((Below.refl _ _).drew)).mono ?_;rintro e w6 ⟨⟨a6,n6,c6,rfl,hT6⟩,r1,r2⟩) | (go_at_call 74;refine (hM _ (Below.refl _ _)).mono ?_;rintro e w6 ⟨⟨a6,n6,c6,rfl,hT6⟩,r1,r2⟩))
   all_goals
    go_wp2
    go_ret2
    exact ⟨_,_,_,rfl,hT6⟩
 · have hca:=hev.out _ A1 er hb3 h1
   have hne' : (er != 0) = true:=bne_iff_ne.2 hne
   clear hev h1 hne
   refine wp_loop_rounds 1 ?_
   rw [rounds_succ]
   go_wp2_with (first | (go_at_call 20;refine hca.mono ?_;clear hca;rintro e w4 ⟨a',n',c',rfl,hT4⟩))
   go_ret2
   exact ⟨_,_,_,rfl,⟨[],rfl,sls_nil _,(fun x hx=>by cases hx),rfl⟩,hb3.trans (hT4.out.2.mono hb3.size)⟩
end Go.Proofs.YtdhlfpgibfaimaaGreatDoor
