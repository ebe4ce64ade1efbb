import Derived.Test.YtdhlfpgibfaimaaGreatDoorSqSrSsSw
import Derived.Test.YtdhlfpgibfaimaaGreatDoorVa2SgSi
import Derived.Maps.AppendAt
set_option maxRecDepth 100000
set_option maxHeartbeats 8000000
set_option linter.unusedVariables false
namespace Go.Proofs.YtdhlfpgibfaimaaGreatDoor
open Go.RowKit
theorem appAt {w : World} {ops : Array Oper} {rest : List Oper} {o : Oper} {a : Act} {Q : Exit→Act→World→Prop} (hgd : o.guard = none) (s x : Operand)
 (ho : o.op = .call { callee:=.builtin .append,args:=#[s,x],argTypes:=#[43,43] })
 (base : Nat) (v : Value) (l : List Se) (y : Se) (ad : Addr) (c : Nat) (hs : a.eval s = v) (hx : a.eval x = .slice (some ad) 1 c)
 (hown : OwnR w base v l) (hm : Srs w (.slice (some ad) 1 c) [y]) (hbase : base ≤ w.heap.size) (hlen : l.length + 1 ≤ 1000000000)
 (h : ∀ v' w',OwnR w' base v' (l ++ [y])→w.grownBy w' v.ownBlock→(v'.ownBlock = v.ownBlock ∨ v'.ownBlock = some w.heap.size)→wpList Tryz.prog ops Q rest (a.put o.dst v') w') :
 wpList Tryz.prog ops Q (o :: rest) a w:=by
 obtain ⟨i0,hi,hz0,hz1,hz2⟩:=info_parts TR.hi
 obtain ⟨ad',c',e,hnil,hcell⟩:=hm
 cases e
 have hbb : (l.length + 1) * TR.bytes ≤ 140737488355328:=by show _ * 40 ≤ _;omega
 refine wpList_append_own_at _ hgd s x TR.st ho base TR.et i0 TR.z encR.k TR.bytes TR.hu hi hz0 hz1 hz2 TR.hz encR.pos v l.length (flat encR l) hs hown ad 1 c (flat encR [y]) hx (flat_len [y]) ?_ (flat_one [y]) (by unfold maxLen;omega) hbb hbase ?_
 · intro j z hj
   rcases hcell with hcell | ⟨b,o,e,hr⟩
   · cases hcell
   · cases e
     have hjl : j < 1 * encR.k:=by
      have:=flat_len (E:=encR) [y]
      rcases Nat.lt_or_ge j (flat encR [y]).length with h | h
      · rw [this] at h;exact h
      · rw [List.getElem?_eq_none h] at hj;cases hj
     have:=hr 0 (by simp) j z (by simpa [flat] using hj)
     rw [ladd_at]
     simpa using this
 · intro v' w' h1 h2 _ h4
   refine h v' w' ?_ h2 h4
   unfold OwnR OwnS
   rw [flat_app]
   simpa using h1
theorem grown_cell {w w' : World} {r : Option Nat} {b o : Nat} {u : Value} (hg : w.grownBy w' r) (hb : some b ≠ r) (h : w.cell? ⟨b,o,none⟩ = some u) : w'.cell? ⟨b,o,none⟩ = some u:=by
 obtain ⟨_,_,_,_,hk⟩:=hg
 have hlt:=World.block_lt_of_cell? w _ h
 have:=hk b hlt hb
 rw [← h]
 simp only [World.cell?,this]
theorem joinX_len (op : ByteArray) (x : Series10.Sr) (l : List Series10.Sr) : (joinX op x l).length ≤ l.length:=List.length_filterMap_le _ _
theorem joinA_len (op : ByteArray) (k l : List Series10.Sr) : (joinA op k l).length ≤ k.length * l.length:=by
 unfold joinA
 induction k with
 | nil=>simp
 | cons a r ih =>
  rw [List.flatMap_cons,List.length_append,List.length_cons,Nat.succ_mul]
  have:=joinX_len op a l
  omega
theorem lbR_of {a : Lb} (h : IsLb a) : LbR a:=by
 obtain ⟨h1,h2,h3⟩:=h
 have:=h1.1
 refine ⟨?_,?_⟩ <;> unfold reachBytes <;> omega
theorem lbsR_of {l : List Lb} (h : IsSet l) : LbsR l:=fun a ha=>lbR_of (h.1 a ha)
def BoxAt (w : World) (b : Nat) (x : Se) : Prop:=w.cell? ⟨b,0,none⟩ = some (.slice x.a x.n x.c)∧w.cell? ⟨b,1,none⟩ = some (.int .i64 x.v.kind)∧w.cell? ⟨b,2,none⟩ = some (.int .i64 x.v.n)
theorem BoxAt.grow {w w' : World} {b : Nat} {x : Se} (h : BoxAt w b x) (hb : Below w.heap.size w w') : BoxAt w' b x:=by
 have hl:=World.block_lt_of_cell? w _ h.1
 exact ⟨(hb.cell (p:=⟨b,0,none⟩) hl).trans h.1,(hb.cell (p:=⟨b,1,none⟩) hl).trans h.2.1,(hb.cell (p:=⟨b,2,none⟩) hl).trans h.2.2⟩
theorem boxNew (w : World) (x : Se) : BoxAt (w.alloc (.cells #[.slice x.a x.n x.c,.int .i64 x.v.kind,.int .i64 x.v.n] 86)) w.heap.size x:=⟨by simp [go_sem],by simp [go_sem],by simp [go_sem]⟩
theorem BoxAt.grown {w w' : World} {r : Option Nat} {b : Nat} {x : Se} (h : BoxAt w b x) (hg : w.grownBy w' r) (hb : some b ≠ r) : BoxAt w' b x:=⟨grown_cell hg hb h.1,grown_cell hg hb h.2.1,grown_cell hg hb h.2.2⟩
def JoinedR (op : ByteArray) (A B : List Se) (w : World) (e : Ending) (w' : World) : Prop:=∃ vo J,e = .returned vo∧OwnR w' w.heap.size vo J∧J.map serOf = joinA op (A.map serOf) (B.map serOf)∧(∀ x ∈ J,SeW w' x)∧Right J∧Below w.heap.size w w'
theorem right_app {J : List Se} {y : Se} (h : Right J) (h1 : IsSet y.labs) (h2 : IsV y.v) : Right (J ++ [y]):=fun z hz=>by
 rcases List.mem_append.1 hz with hz | hz
 · exact h z hz
 · rw [List.mem_singleton.1 hz];exact ⟨h1,h2⟩
theorem joined_any (op : ByteArray) (v u : Value) (A B : List Se) (w : World) (hv : Srs w v A) (hu : Srs w u B) (hA : ∀ x ∈ A,Lbs w (.slice x.a x.n x.c) x.labs) (hB : ∀ x ∈ B,Lbs w (.slice x.a x.n x.c) x.labs) (rA : Right A) (rB : Right B) (la : A.length ≤ 1000) (lb : B.length ≤ 1000) (hop : ∀ a b,IsV a→IsV b→IsV (doV op [a,b])) :
 Calls Tryz.prog 119 #[.string op,v,u] w fun e w'=>JoinedR op A B w e w':=by
 obtain ⟨a1,c1,rfl⟩:=hv.shape
 obtain ⟨a2,c2,rfl⟩:=hu.shape
 have hmA : Hid (∀ k,k < A.length→A.getD k se0 ∈ A):=fun k hk=>by rw [List.getD_eq_getElem?_getD,List.getElem?_eq_getElem hk];exact List.getElem_mem hk
 have hmB : Hid (∀ k,k < B.length→B.getD k se0 ∈ B):=fun k hk=>by rw [List.getD_eq_getElem?_getD,List.getElem?_eq_getElem hk];exact List.getElem_mem hk
 obtain ⟨n,hn⟩ : ∃ n,Hid (n = A.length):=⟨_,rfl⟩
 obtain ⟨m,hm⟩ : ∃ m,Hid (m = B.length):=⟨_,rfl⟩
 rw [← hn.out] at hv la ⊢
 rw [← hm.out] at hu lb ⊢
 replace hv : Hid (Srs w (.slice a1 n c1) A):=hv
 replace hu : Hid (Srs w (.slice a2 m c2) B):=hu
 replace hA : Hid (∀ x ∈ A,Lbs w (.slice x.a x.n x.c) x.labs):=hA
 replace hB : Hid (∀ x ∈ B,Lbs w (.slice x.a x.n x.c) x.labs):=hB
 replace rA : Hid (Right A):=rA
 replace rB : Hid (Right B):=rB
 replace hop : Hid (∀ a b,IsV a→IsV b→IsV (doV op [a,b])):=hop
 go_enter Tryz.func119,Tryz.ntmps119
 go_wp2
 go_loopw [7,16] (fun z i wr=>∃ (k : Nat) (J : List Se),k ≤ n∧i = .int .i64 k∧Hid (OwnR wr w.heap.size z J)∧Hid (J.map serOf = joinA op ((A.take k).map serOf) (B.map serOf))∧Hid (∀ x ∈ J,SeW wr x)∧Hid (Right J)∧Hid (Below w.heap.size w wr)) (fun _ i _=>n - (intOf i).toNat)
 case atStart=>exact ⟨0,[],Nat.zero_le _,rfl,OwnS.nil _ _,rfl,(fun x hx=>by cases hx),(fun x hx=>by cases hx),Below.refl _ _⟩
 case round =>
  obtain ⟨k,J,hk,rfl,ho,hj,hse,hri,hBw⟩:=hrel
  by_cases hlt : k < n
  · have hki : (k : Int) < (n : Int):=by omega
    have hkA : k < A.length:=by rw [← hn.out];exact hlt
    obtain ⟨b,o,rfl,x0,x1,x2⟩:=sr_at (Sls.grow hv.out hBw.out) k hkA
    have hxA:=hmA.out k hkA
    have hjt : Hid (joinA op ((A.take (k + 1)).map serOf) (B.map serOf) = joinA op ((A.take k).map serOf) (B.map serOf) ++ joinX op (serOf (A.getD k se0)) (B.map serOf)):=joinA_take op A _ k hkA
    have hlx:=hA.out _ hxA
    obtain ⟨hxs,hxv⟩:=rA.out _ hxA
    generalize A.getD k se0 = x at *
    replace hlx : Hid (Lbs w (.slice x.a x.n x.c) x.labs):=hlx
    replace hxs : Hid (IsSet x.labs):=hxs
    replace hxv : Hid (IsV x.v):=hxv
    have hb0:=(Below.refl wr.heap.size wr).alloc (Nat.le_refl _) (.cells #[.slice x.a x.n x.c,.int .i64 x.v.kind,.int .i64 x.v.n] 86)
    have hJ0 : Hid (joinA op ((A.take k).map serOf) (B.map serOf) = J.map serOf):=hj.out.symm
    have hJl : Hid (J.length ≤ n * m):=by
     show _ ≤ _
     have h1:=congrArg List.length hj.out
     rw [List.length_map] at h1
     have h2:=joinA_len op ((A.take k).map serOf) (B.map serOf)
     rw [List.length_map,List.length_map,List.length_take,← hn.out,← hm.out,Nat.min_eq_left hk] at h2
     have h3:=Nat.mul_le_mul_right m hk
     omega
    have hin : ∃ (j : Nat) (K : List Se),j ≤ m∧(0 : Int) = (j : Int)∧Hid (OwnR (wr.alloc (.cells #[.slice x.a x.n x.c,.int .i64 x.v.kind,.int .i64 x.v.n] 86)) w.heap.size u7 (J ++ K))∧Hid (K.map serOf = joinX op (serOf x) ((B.take j).map serOf))∧Hid (∀ z ∈ J ++ K,SeW (wr.alloc (.cells #[.slice x.a x.n x.c,.int .i64 x.v.kind,.int .i64 x.v.n] 86)) z)∧Hid (Right (J ++ K))∧Hid (Below w.heap.size w (wr.alloc (.cells #[.slice x.a x.n x.c,.int .i64 x.v.kind,.int .i64 x.v.n] 86)))∧Hid (BoxAt (wr.alloc (.cells #[.slice x.a x.n x.c,.int .i64 x.v.kind,.int .i64 x.v.n] 86)) wr.heap.size x∧u7.ownBlock ≠ some wr.heap.size):=by
     refine ⟨0,[],Nat.zero_le _,rfl,?_,rfl,?_,?_,?_,?_⟩
     · show OwnR _ _ _ _
       rw [List.append_nil];exact ho.out.alloc _
     · show ∀ z ∈ _,_
       rw [List.append_nil];exact fun z hz=>(hse.out z hz).grow hb0
     · show Right _
       rw [List.append_nil];exact hri.out
     · exact hBw.out.alloc hBw.out.size _
     · exact ⟨boxNew wr x,fun e=>by have:=(ho.out.lt _ e).2;omega⟩
    clear hse hri hj
    go_wp2
    generalize wr.alloc (.cells #[.slice x.a x.n x.c,.int .i64 x.v.kind,.int .i64 x.v.n] 86) = W0 at *
    generalize wr.heap.size = bx at *
    clear hb0 x0 x1 x2 ho hBw
    go_loopw [7,22] (fun z i wq=>∃ (j : Nat) (K : List Se),j ≤ m∧i = .int .i64 j∧Hid (OwnR wq w.heap.size z (J ++ K))∧Hid (K.map serOf = joinX op (serOf x) ((B.take j).map serOf))∧Hid (∀ z ∈ J ++ K,SeW wq z)∧Hid (Right (J ++ K))∧Hid (Below w.heap.size w wq)∧Hid (BoxAt wq bx x∧z.ownBlock ≠ some bx)) (fun _ i _=>m - (intOf i).toNat)
    case atStart =>
     obtain ⟨j,K,h1,h2,h3⟩:=hin
     exact ⟨j,K,h1,by rw [← h2],h3⟩
    case round =>
     clear hin
     obtain ⟨j,K,hjm,rfl,ho,hK,hse,hri,hBw,hbx⟩:=hrel
     by_cases hlt2 : j < m
     · have hji : (j : Int) < (m : Int):=by omega
       have hjB : j < B.length:=by rw [← hm.out];exact hlt2
       obtain ⟨b2,o2,rfl,y0,y1,y2⟩:=sr_at (Sls.grow hu.out hBw.out) j hjB
       have hyB:=hmB.out j hjB
       have hKt : Hid (joinX op (serOf x) ((B.take (j + 1)).map serOf) = joinX op (serOf x) ((B.take j).map serOf) ++ (joinP op (serOf x) (serOf (B.getD j se0))).toList):=joinX_take op (serOf x) B j hjB
       have hly:=hB.out _ hyB
       obtain ⟨hys,hyv⟩:=rB.out _ hyB
       generalize B.getD j se0 = y at *
       have hb1:=(Below.refl wr.heap.size wr).alloc (Nat.le_refl _) (.cells #[.slice y.a y.n y.c,.int .i64 y.v.kind,.int .i64 y.v.n] 86)
       have hB1:=hBw.out.trans (hb1.mono hBw.out.size)
       obtain ⟨p0,p1,p2⟩:=hbx.out.1.grow hb1
       have hxl:=hxs.out.2.2
       have hyl:=hys.2.2
       have hfit:=fit_any _ _ x.labs y.labs _ (hlx.out.grow hB1) (hly.grow hB1) (by omega) (by omega)
       have hby:=boxNew wr y
       have hkeep : Hid (∀ W,Below (wr.alloc (.cells #[.slice y.a y.n y.c,.int .i64 y.v.kind,.int .i64 y.v.n] 86)).heap.size (wr.alloc (.cells #[.slice y.a y.n y.c,.int .i64 y.v.kind,.int .i64 y.v.n] 86)) W→BoxAt W bx x∧BoxAt W wr.heap.size y∧Below wr.heap.size wr W∧Below w.heap.size w W):=fun W h=>⟨(hbx.out.1.grow hb1).grow h,hby.grow h,hb1.trans (h.mono hb1.size),hB1.trans (h.mono hB1.size)⟩
       cases hf : fitB x.labs y.labs with
       | false =>
        rw [hf] at hfit
        have hK2 : Hid (K.map serOf = joinX op (serOf x) ((B.take (j + 1)).map serOf)):=by
         show _ = _
         rw [hKt.out,← hK.out]
         simp [joinP,serOf,hf]
        clear hKt hK hf
        go_wp2_with (first
         | (go_at_call 158;refine hfit.mono ?_;rintro e w2 ⟨rfl,hb2⟩;obtain ⟨q1,q2,q3,q4⟩:=hkeep.out w2 hb2))
        refine ⟨⟨j + 1,K,by omega,by go_num,ho.out.stay q3,hK2,(fun z hz=>(hse.out z hz).grow q3),hri,q4,q1,hbx.out.2⟩,?_⟩
        simp [intOf];omega
       | true =>
        rw [hf] at hfit
        have hjq:=fit_join hxs.out hys hf
        have hbs:=bigger_set hxs.out hys
        have hvv:=hop.out _ _ hxv.out hyv
        have hK2 : Hid (∀ z : Se,serOf z = ⟨bigger x.labs y.labs,doV op [x.v,y.v]⟩→(K ++ [z]).map serOf = joinX op (serOf x) ((B.take (j + 1)).map serOf)):=fun z hz=>by
         rw [hKt.out,← hK.out]
         simp only [joinP,serOf,hf,if_true,List.map_append,List.map_cons,List.map_nil,Option.toList_some]
         exact congrArg (fun t=>_ ++ [t]) hz
        have hbl:=hbs.2.2
        have hlen : (J ++ K).length + 1 ≤ 1000000000:=by
         have h1:=congrArg List.length hK.out
         have h2:=joinX_len op (serOf x) ((B.take j).map serOf)
         rw [List.length_map] at h1 h2
         rw [List.length_take,← hm.out] at h2
         have h3:=Nat.mul_le_mul la lb
         have h4:=hJl.out
         rw [List.length_append]
         omega
        generalize bigger x.labs y.labs = bg at *
        have hdo:=fun W=>sdo2a op x.v y.v W
        generalize doV op [x.v,y.v] = R at *
        have hjn:=fun W (h : Below w.heap.size w W)=>join_any _ _ x.labs y.labs W (hlx.out.grow h) (hly.grow h) hxs.out.1 hys.1 (lbsR_of hxs.out) (lbsR_of hys) (by omega) (by omega)
        clear hKt hK hf
        go_wp2_with (first
         | (go_at_call 158;refine hfit.mono ?_;rintro e w2 ⟨rfl,hb2⟩;obtain ⟨⟨p0,p1,p2⟩,⟨r0,r1,r2⟩,q3,q4⟩:=hkeep.out w2 hb2;have hj2:=hjn w2 q4)
         | (go_at_call 159;refine hj2.mono ?_;rintro e w3 ⟨u3,out,ok,rfl,hq3,ho3,hb3⟩;obtain ⟨rfl,rfl⟩:=hq3.one hjq;obtain ⟨a7,c7,rfl⟩:=ho3.shape;obtain ⟨⟨p0,p1,p2⟩,⟨r0,r1,r2⟩,q3,q4⟩:=hkeep.out w3 (hb2.trans (hb3.mono hb2.size)))
         | (go_at_call 118;refine (hdo w3).mono ?_;rintro e w4 ⟨rfl,hb4⟩;have hb34:=q3.trans (hb4.mono q3.size);have hB34:=q4.trans (hb4.mono q4.size);have ho5:=(ho.out.stay hb34).alloc (.cells #[.slice a7 out.length c7,.int .i64 R.kind,.int .i64 R.n] 86);have hsr5:=sls_one (E:=encR) w4 ⟨a7,out.length,c7,out,R⟩ #[.slice a7 out.length c7,.int .i64 R.kind,.int .i64 R.n] 86 rfl;have hb5:=(Below.refl w4.heap.size w4).alloc (Nat.le_refl _) (.cells #[.slice a7 out.length c7,.int .i64 R.kind,.int .i64 R.n] 86);have hsz5 : w.heap.size ≤ (w4.alloc (.cells #[.slice a7 out.length c7,.int .i64 R.kind,.int .i64 R.n] 86)).heap.size:=Nat.le_trans hB34.size hb5.size)
         | (at_builtin;refine appAt rfl (.tmp 39) (.tmp 49) rfl w.heap.size _ (J ++ K) ⟨a7,out.length,c7,out,R⟩ _ _ rfl rfl ho5 hsr5 hsz5 hlen ?_;intro v6 w6 ho6 hg6 hat6))
        have hx5:=(((hbx.out.1.grow q3).grow hb4).grow hb5)
        have hlt5:=World.block_lt_of_cell? _ _ hx5.1
        have hblk:=fun k hk=>OwnR.block ho5 k hk
        refine ⟨⟨j + 1,K ++ [⟨a7,out.length,c7,out,R⟩],by omega,by go_num,?_,hK2.out _ rfl,?_,?_,?_,?_,?_⟩,?_⟩
        · show OwnR _ _ _ _
          rw [← List.append_assoc];exact ho6
        · show ∀ z ∈ _,_
          intro z hz
          rw [← List.append_assoc] at hz
          refine SeW.grown (w:=w4.alloc _) ?_ hg6 hblk
          rcases List.mem_append.1 hz with hz | hz
          · exact (((hse.out z hz).grow q3).grow hb4).grow hb5
          · rw [List.mem_singleton.1 hz];exact ((seW_own ho3).grow hb4).grow hb5
        · show Right _
          rw [← List.append_assoc];exact right_app hri.out hbs hvv
        · exact (hB34.alloc hB34.size _).trans (ho5.grows hsz5 hg6)
        · exact hx5.grown hg6 (fun e=>hbx.out.2 e.symm)
        · rcases hat6 with h | h
          · rw [h];exact hbx.out.2
          · rw [h];intro e;injection e with e;simp only at hlt5;omega
        · simp [intOf];omega
     · obtain rfl : j = m:=by omega
       have hji : ¬ (j : Int) < (j : Int):=by omega
       have h1:=hK.out
       rw [List.take_of_length_le (by rw [← hm.out];omega)] at h1
       have h2 : Hid ((J ++ K).map serOf = joinA op ((A.take (k + 1)).map serOf) (B.map serOf)):=by
        show _ = _
        rw [hjt.out,hJ0.out,List.map_append,h1]
       clear hK h1
       go_wp2
       refine ⟨⟨k + 1,J ++ K,by omega,by go_num,ho,h2,hse,hri,hBw⟩,?_⟩
       simp [intOf];omega
  · obtain rfl : k = n:=by omega
    have hki : ¬ (k : Int) < (k : Int):=by omega
    have h1:=hj.out
    rw [List.take_of_length_le (by rw [← hn.out];omega)] at h1
    replace h1 : Hid _:=h1
    clear hj
    go_wp2
    go_ret
    exact ⟨_,J,rfl,ho.out,h1.out,hse.out,hri.out,hBw.out⟩
end Go.Proofs.YtdhlfpgibfaimaaGreatDoor
namespace Go.Proofs.YtdhlfpgibfaimaaGreatDoor
open Go.RowKit Go.Sort Go.Shelf
theorem frame_nil (w : World) : Calls Tryz.prog 116 #[.slice none 0 0] w fun e w'=>e = .returned (.tuple #[.slice none 0 0,.int .i64 0])∧Below w.heap.size w w':=by
 have hso:=AnyF.slices_SortFunc_none Tryz.sortR none 0 (.func (.func 153) #[] #[]) w
 change Calls Tryz.prog 152 _ _ _ at hso
 have hn : Srs w (.slice none 0 0) []:=(OwnS.nil (T:=TR) w 0).sls
 have hrp:=rep_any _ [] w hn (fun x hx=>by cases hx) (by simp)
 rw [show decide (RepS []) = false from decide_eq_false (fun ⟨i,hi,_⟩=>absurd hi (by simp))] at hrp
 go_enter Tryz.func116,Tryz.ntmps116
 go_wp2_with (first
  | (go_at_call 152;refine hso.mono ?_;rintro e w1 ⟨rfl,rfl⟩)
  | (go_at_call 155;refine hrp.mono ?_;rintro e w2 ⟨rfl,hb2⟩))
 go_ret2
 exact ⟨rfl,hb2⟩
theorem op2_isV {op : ByteArray} (h : doE op [nul,nul] = 0) (a b : Vl) (ha : IsV a) (hb : IsV b) : IsV (doV op [a,b]):=by
 have h1 : (two op nul nul).isSome = true:=by
  cases hh : two op nul nul with
  | some v=>rfl
  | none=>simp [doE,chk_two nul_isV nul_isV,ops,hh] at h
 rw [two_asc] at h1
 cases hh : asc op twosL with
 | none=>rw [hh] at h1;cases h1
 | some φ =>
  have h2 : two op a b = some (φ a b):=by rw [two_asc,hh];rfl
  rw [(do_two ha hb h2).1]
  exact two_isV ha hb h2
theorem do_row2 (op : ByteArray) (a b : Vl) (w : World) : Calls Tryz.prog 117 #[.string op,.slice (some ⟨w.heap.size,0,none⟩) 2 2] (w.alloc (.cells #[.int .i64 a.kind,.int .i64 a.n,.int .i64 b.kind,.int .i64 b.n] 24)) fun e w'=>e = .returned (.tuple #[.agg #[.int .i64 (doV op [a,b]).kind,.int .i64 (doV op [a,b]).n],.int .i64 (doE op [a,b])])∧Below w.heap.size w w' :=
 (do_any op _ [a,b] _ (row2V w a b) (by simp)).mono fun e w' ⟨h,hb⟩=>⟨h,(bW0 w _).trans (hb.mono (by simp))⟩
def JoinT (op : ByteArray) (A B out : List Series10.Sr) (er : Int) : Prop :=
 (∃ p,Series10.SortQ A p 0∧((∃ q,Series10.SortQ B q 0∧((doE op [nul,nul] ≠ 0∧out = []∧er = doE op [nul,nul]) ∨ (doE op [nul,nul] = 0∧Series10.SortQ (joinA op p q) out er))) ∨ (er ≠ 0∧Series10.SortQ B [] er∧out = []))) ∨
  (er ≠ 0∧Series10.SortQ A [] er∧out = [])
theorem JoinT.one {op : ByteArray} {A B o1 o2 : List Series10.Sr} {e1 e2 : Int} (h : JoinT op A B o1 e1) (g : JoinT op A B o2 e2) : o1 = o2∧e1 = e2:=by
 rcases h with ⟨p,hp,⟨q,hq,⟨h0,rfl,rfl⟩ | ⟨h0,h⟩⟩ | ⟨h0,hq,rfl⟩⟩ | ⟨h0,hp,rfl⟩ <;>
  rcases g with ⟨p',hp',⟨q',hq',⟨g0,rfl,rfl⟩ | ⟨g0,g⟩⟩ | ⟨g0,hq',rfl⟩⟩ | ⟨g0,hp',rfl⟩
 all_goals first
  | exact ⟨rfl,rfl⟩
  | exact absurd h0 g0
  | exact absurd g0 h0
  | exact absurd (hq.one hq').2.symm g0
  | exact absurd (hq.one hq').2 h0
  | exact absurd (hp.one hp').2.symm g0
  | exact absurd (hp.one hp').2 h0
  | exact ⟨rfl,(hq.one hq').2⟩
  | exact ⟨rfl,(hp.one hp').2⟩
  | (obtain ⟨rfl,_⟩:=hp.one hp';obtain ⟨rfl,_⟩:=hq.one hq';exact h.one g)
theorem sort_few {l : List Series10.Sr} {p : List Se} (h : Series10.SortQ l (p.map serOf) 0) : p.length ≤ 1000:=by
 have:=(h.frame rfl).1.2.2.2
 rw [List.length_map] at this
 omega
theorem joinA_few {op : ByteArray} {J p q : List Se} (h : J.map serOf = joinA op (p.map serOf) (q.map serOf)) (hp : p.length ≤ 1000) (hq : q.length ≤ 1000) : J.length ≤ 1000000:=by
 have h1:=congrArg List.length h
 have h2:=joinA_len op (p.map serOf) (q.map serOf)
 have h3:=Nat.mul_le_mul hp hq
 rw [List.length_map] at h1
 rw [List.length_map,List.length_map] at h2
 omega
theorem OwnS.low {α : Type} {E : Enc α} {T : RowTy E} {w : World} {base b2 : Nat} {v : Value} {l : List α} (h : OwnS T w base v l) (hb : b2 ≤ base) : OwnS T w b2 v l:=by
 refine ⟨h.1,?_⟩
 rcases h.2 with h | ⟨g,cap,cur,e,h1,h2⟩
 · exact .inl h
 · exact .inr ⟨g,cap,cur,e,Nat.le_trans hb h1,h2⟩
def JoinU (op : ByteArray) (A B : List Se) (w : World) (e : Ending) (w' : World) : Prop :=
 ∃ (vo : Value) (l : List Se) (er : Int),e = .returned (.tuple #[vo,.int .i64 er])∧JoinT op (A.map serOf) (B.map serOf) (l.map serOf) er∧OwnR w' w.heap.size vo l∧(∀ x ∈ l,Lbs w' (.slice x.a x.n x.c) x.labs)∧Below w.heap.size w w'
theorem right_frame {l : List Se} (h : Series10.IsFrame (l.map serOf)) : Right l:=fun x hx=>⟨h.1 _ (List.mem_map.2 ⟨x,hx,rfl⟩),h.2.1 _ (List.mem_map.2 ⟨x,hx,rfl⟩)⟩
theorem frame_own (base : Nat) (vo : Value) (J : List Se) (w : World) (hown : OwnR w base vo J) (hbw : base ≤ w.heap.size) (hse : ∀ x ∈ J,SeW w x) (hri : Right J) (hl : J.length ≤ 1000000) :
 Calls Tryz.prog 116 #[vo] w fun e w'=>∃ (u : Value) (l : List Se) (er : Int),e = .returned (.tuple #[u,.int .i64 er])∧Hid (Series10.SortQ (J.map serOf) (l.map serOf) er∧OwnR w' base u l∧(∀ x ∈ l,Lbs w' (.slice x.a x.n x.c) x.labs)∧Below base w w'):=by
 rcases hown.2 with ⟨rfl,h0⟩ | ⟨g,cap,cur,rfl,hbg,hg,_⟩
 · have : J = []:=List.length_eq_zero_iff.1 h0
   subst this
   refine (frame_nil w).mono ?_
   rintro e w' ⟨rfl,hb⟩
   exact ⟨_,[],_,rfl,(Series10.IsFrame.sort ⟨(fun a ha=>by cases ha),(fun a ha=>by cases ha),List.Pairwise.nil,by simp⟩),OwnS.nil _ _,(fun x hx=>by cases hx),hb.mono hbw⟩
 · refine (frame_any base g cap J w hown hbg (fun x hx=>(hse x hx).ok ⟨cur,_,hg⟩) hri hl).mono ?_
   rintro e w' ⟨hb,h⟩
   rcases h with ⟨l',hq,he,ho,hok⟩ | ⟨er,_,hq,he⟩
   · exact ⟨_,l',_,he,hq,by
      have:=(hq.frame rfl).2.length_eq
      simp only [List.length_map] at this
      exact ho,fun x hx=>(hok x hx).1,hb⟩
   · exact ⟨_,[],_,he,hq,OwnS.nil _ _,(fun x hx=>by cases hx),hb⟩
theorem join_ser (op : ByteArray) (v u : Value) (A B : List Se) (w : World) (hv : Srs w v A) (hu : Srs w u B) (hA : ∀ x ∈ A,Lbs w (.slice x.a x.n x.c) x.labs) (hB : ∀ x ∈ B,Lbs w (.slice x.a x.n x.c) x.labs)
 (rA : ∀ x ∈ A,LbsR x.labs∧x.labs.length ≤ 4398046511104) (rB : ∀ x ∈ B,LbsR x.labs∧x.labs.length ≤ 4398046511104) (la : A.length ≤ 1000000) (lb : B.length ≤ 1000000) :
 Calls Tryz.prog 75 #[.string op,v,u] w fun e w'=>JoinU op A B w e w':=by
 have hs1:=sort_ser v A w hv hA rA la
 have hs2 : Hid (∀ W,Below w.heap.size w W→Calls Tryz.prog 73 #[u] W fun e w'=>SortR B W e w'):=fun W h=>sort_ser u B W (Sls.grow hu h) (fun x hx=>(hB x hx).grow h) rB lb
 by_cases c1 : ∃ p,Series10.SortQ (A.map serOf) p 0
 · have hs1' : Calls Tryz.prog 73 #[v] w fun e w'=>∃ (p : List Se) (g cap n : Nat),e = .returned (.tuple #[.slice (some ⟨g,0,none⟩) n cap,.int .i64 0])∧Hid (n = p.length∧Series10.SortQ (A.map serOf) (p.map serOf) 0∧OwnR w' w.heap.size (.slice (some ⟨g,0,none⟩) n cap) p∧LsOk w' g p∧Below w.heap.size w w'):=hs1.mono fun e w' ⟨hb,h⟩=>by
    rcases h with ⟨p,g,cap,hq,_,_,he,ho,hok⟩ | ⟨er,hne,hq,he⟩
    · exact ⟨p,g,cap,_,he,rfl,hq,ho,hok,hb⟩
    · obtain ⟨p,hp⟩:=c1
      have:=(hq.one hp).2
      rw [this] at hne;cases hne
   by_cases c2 : ∃ q,Series10.SortQ (B.map serOf) q 0
   · have hs2' : Hid (∀ W,Below w.heap.size w W→Calls Tryz.prog 73 #[u] W fun e w'=>∃ (p : List Se) (g cap n : Nat),e = .returned (.tuple #[.slice (some ⟨g,0,none⟩) n cap,.int .i64 0])∧Hid (n = p.length∧Series10.SortQ (B.map serOf) (p.map serOf) 0∧OwnR w' W.heap.size (.slice (some ⟨g,0,none⟩) n cap) p∧LsOk w' g p∧Below W.heap.size W w')):=fun W h=>(hs2.out W h).mono fun e w' ⟨hb,h⟩=>by
      rcases h with ⟨p,g,cap,hq,_,_,he,ho,hok⟩ | ⟨er,hne,hq,he⟩
      · exact ⟨p,g,cap,_,he,rfl,hq,ho,hok,hb⟩
      · obtain ⟨p,hp⟩:=c2
        have:=(hq.one hp).2
        rw [this] at hne;cases hne
     have hdo:=fun W=>do_row2 op nul nul W
     have hop : doE op [nul,nul] = 0→∀ a b,IsV a→IsV b→IsV (doV op [a,b]):=fun h a b ha hb=>op2_isV h a b ha hb
     obtain ⟨E0,hE0⟩ : ∃ E,Hid (E = doE op [nul,nul]):=⟨_,rfl⟩
     have hJT : Hid (∀ (out : List Series10.Sr) (er : Int) (p q : List Series10.Sr),Series10.SortQ (A.map serOf) p 0→Series10.SortQ (B.map serOf) q 0→((E0 ≠ 0∧out = []∧er = E0) ∨ (E0 = 0∧Series10.SortQ (joinA op p q) out er))→JoinT op (A.map serOf) (B.map serOf) out er):=fun out er p q hp hq h=>by
      rw [hE0.out] at h
      exact .inl ⟨p,hp,.inl ⟨q,hq,h⟩⟩
     rw [← hE0.out] at hdo hop
     generalize doV op [nul,nul] = R0 at hdo
     have hnul : ∀ W : World,Calls Tryz.prog 95 #[] W fun e w'=>e = .returned (.agg #[.int .i64 nul.kind,.int .i64 nul.n])∧Below W.heap.size W w':=fun W=>(null_any W).mono fun _ _ ⟨a,b⟩=>⟨a,b ▸ bW0 _ _⟩
     generalize nul = NU at hdo hnul
     clear hs1 hs2
     by_cases c3 : E0 = 0
     · have hop2 : Hid (∀ a b,IsV a→IsV b→IsV (doV op [a,b])):=hop c3
       have hc3 : Hid (E0 = 0):=c3
       rw [c3] at hdo
       clear c3 hop
       go_enter Tryz.func75,Tryz.ntmps75
       go_wp2_with (first
        | (go_at_call 73;with_reducible refine hs1'.mono ?_;rintro e w1 ⟨p,g,cap,n,rfl,hp⟩;have hB1:=hp.out.2.2.2.2;have hz2:=hs2'.out w1 hB1)
        | (go_at_call 73;with_reducible refine hz2.mono ?_;rintro e w2 ⟨q,g2,cap2,n2,rfl,hq⟩;have hB2:=hB1.trans (hq.out.2.2.2.2.mono hB1.size);have hA2:=hq.out.2.2.2.2;have hQ2:=Below.refl w2.heap.size w2)
        | (go_at_call 95;refine (hnul _).mono ?_;rintro e w3 ⟨rfl,hb3⟩;have hB3:=hB2.trans (hb3.mono hB2.size);replace hB2:=hB3;have hA3:=hA2.trans (hb3.mono hA2.size);replace hA2:=hA3;have hQ3:=hQ2.trans (hb3.mono hQ2.size);replace hQ2:=hQ3)
        | (go_at_call 117;refine (hdo _).mono ?_;rintro e w4 ⟨rfl,hb4⟩;have hB4:=(hB2.trans (hb4.mono hB2.size));have hA4:=(hA2.trans (hb4.mono hA2.size));have hQ4:=(hQ2.trans (hb4.mono hQ2.size));have hB5:=hB4.alloc hB4.size (.cells #[.int .i64 R0.kind,.int .i64 R0.n] 24);have hA5:=hA4.alloc hA4.size (.cells #[.int .i64 R0.kind,.int .i64 R0.n] 24);have hQ5:=hQ4.alloc hQ4.size (.cells #[.int .i64 R0.kind,.int .i64 R0.n] 24);have hjn:=joined_any op _ _ p q _ (hp.out.2.2.1.sls.grow hA5) (hq.out.2.2.1.sls.grow hQ5) (fun x hx=>(hp.out.2.2.2.1 x hx).1.grow hA5) (fun x hx=>(hq.out.2.2.2.1 x hx).1.grow hQ5) (right_frame (hp.out.2.1.frame rfl).1) (right_frame (hq.out.2.1.frame rfl).1) (sort_few hp.out.2.1) (sort_few hq.out.2.1) hop2.out)
        | (go_at_call 119;refine hjn.mono ?_;rintro e w6 ⟨vo,J,rfl,ho6,hJ6,hse6,hri6,hb6⟩;have hB6:=hB5.trans (hb6.mono hB5.size);have hfr:=frame_own _ _ J w6 ho6 hb6.size hse6 hri6 (joinA_few hJ6 (sort_few hp.out.2.1) (sort_few hq.out.2.1));replace hJ6 : Hid _:=hJ6)
        | (go_at_call 116;refine hfr.mono ?_;rintro e w7 ⟨u7,l,er,rfl,h7⟩))
       go_ret2
       have hB7:=hB6.trans (h7.out.2.2.2.mono hB5.size)
       have hq7:=h7.out.1
       rw [hJ6.out] at hq7
       exact ⟨_,l,er,rfl,hJT.out _ _ _ _ hp.out.2.1 hq.out.2.1 (.inr ⟨hc3.out,hq7⟩),h7.out.2.1.low hB5.size,h7.out.2.2.1,hB7⟩
     · have hne : (E0 != 0) = true:=by simpa using c3
       have hne2 : Hid (E0 ≠ 0):=c3
       clear c3 hop
       go_enter Tryz.func75,Tryz.ntmps75
       go_wp2_with (first
        | (go_at_call 73;with_reducible refine hs1'.mono ?_;rintro e w1 ⟨p,g,cap,n,rfl,hp⟩;have hB1:=hp.out.2.2.2.2;have hz2:=hs2'.out w1 hB1)
        | (go_at_call 73;with_reducible refine hz2.mono ?_;rintro e w2 ⟨q,g2,cap2,n2,rfl,hq⟩;have hB2:=hB1.trans (hq.out.2.2.2.2.mono hB1.size))
        | (go_at_call 95;refine (hnul _).mono ?_;rintro e w3 ⟨rfl,hb3⟩;have hB3:=hB2.trans (hb3.mono hB2.size);replace hB2:=hB3)
        | (go_at_call 117;refine (hdo _).mono ?_;rintro e w4 ⟨rfl,hb4⟩;have hB4:=hB2.trans (hb4.mono hB2.size)))
       go_ret2
       exact ⟨_,[],_,rfl,hJT.out _ _ _ _ hp.out.2.1 hq.out.2.1 (.inl ⟨hne2.out,rfl,rfl⟩),OwnS.nil _ _,(fun x hx=>by cases hx),hB4.alloc hB4.size _⟩
   · have hs2' : Hid (∀ W,Below w.heap.size w W→Calls Tryz.prog 73 #[u] W fun e w'=>∃ er : Int,e = .returned (.tuple #[.slice none 0 0,.int .i64 er])∧(er != 0) = true∧Hid (Series10.SortQ (B.map serOf) [] er)∧Below W.heap.size W w'):=fun W h=>(hs2.out W h).mono fun e w' ⟨hb,h⟩=>by
      rcases h with ⟨l',g,cap,hq,_⟩ | ⟨er,hne,hq,he⟩
      · exact absurd ⟨_,hq⟩ c2
      · exact ⟨er,he,hne,hq,hb⟩
     clear hs1 hs2
     go_enter Tryz.func75,Tryz.ntmps75
     go_wp2_with (first
      | (go_at_call 73;with_reducible refine hs1'.mono ?_;rintro e w1 ⟨p,g,cap,n,rfl,hp⟩;have hB1:=hp.out.2.2.2.2;have hz2:=hs2'.out w1 hB1)
      | (go_at_call 73;with_reducible refine hz2.mono ?_;rintro e w2 ⟨er,rfl,hne,hq,hb2⟩;have hB2:=hB1.trans (hb2.mono hB1.size)))
     go_ret2
     exact ⟨_,[],_,rfl,.inl ⟨_,hp.out.2.1,.inr ⟨by simpa using hne,hq.out,rfl⟩⟩,OwnS.nil _ _,(fun x hx=>by cases hx),hB2⟩
 · have hso3 : Calls Tryz.prog 73 #[v] w fun e w'=>∃ er : Int,e = .returned (.tuple #[.slice none 0 0,.int .i64 er])∧(er != 0) = true∧Hid (Series10.SortQ (A.map serOf) [] er)∧Below w.heap.size w w':=hs1.mono fun e w' ⟨hb,h⟩=>by
    rcases h with ⟨l',g,cap,hq,_⟩ | ⟨er,hne,hq,he⟩
    · exact absurd ⟨_,hq⟩ c1
    · exact ⟨er,he,hne,hq,hb⟩
   clear hs1 hs2
   go_enter Tryz.func75,Tryz.ntmps75
   go_wp2_with (first
    | (go_at_call 73;refine hso3.mono ?_;rintro e w1 ⟨er,rfl,hne,hq,hB1⟩))
   go_ret2
   exact ⟨_,[],_,rfl,.inr ⟨by simpa using hne,hq.out,rfl⟩,OwnS.nil _ _,(fun x hx=>by cases hx),hB1⟩
end Go.Proofs.YtdhlfpgibfaimaaGreatDoor
