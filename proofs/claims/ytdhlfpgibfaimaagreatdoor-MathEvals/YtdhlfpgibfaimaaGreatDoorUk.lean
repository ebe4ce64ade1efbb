import Derived.Test.YtdhlfpgibfaimaaGreatDoorUjUa
set_option maxRecDepth 100000
set_option maxHeartbeats 16000000
set_option linter.unusedVariables false
namespace Go.Proofs.YtdhlfpgibfaimaaGreatDoor
open Go.RowKit
def RJoinR (op:ByteArray) (A B:List Se) (w:World) (e:Ending) (w':World):Prop :=
 ∃ (vo:Value) (l:List Se) (er:Int),e = .returned (.tuple #[vo,.int .i64 er])∧JoinT op (A.map serOf) (B.map serOf) (l.map serOf) er∧OwnR w' w.heap.size vo l∧(∀ x ∈ l,Lbs w' (.slice x.a x.n x.c) x.labs)∧Below w.heap.size w w'
def SortOk (L:List Se) (w:World) (e:Ending) (w':World):Prop:=∃ (p:List Se) (a:Option Addr) (n c:Nat),e = .returned (.tuple #[.slice a n c,.int .i64 0])∧Hid (n = p.length∧Series10.SortQ (L.map serOf) (p.map serOf) 0∧Srs w' (.slice a n c) p∧(∀ x ∈ p,x ∈ L)∧Below w.heap.size w w')
def SortNo (L:List Se) (w:World) (e:Ending) (w':World):Prop:=∃ (er:Int) (vo:Value),e = .returned (.tuple #[vo,.int .i64 er])∧(er != 0) = true∧Hid (Series10.SortQ (L.map serOf) [] er)∧Below w.heap.size w w'
theorem RSortR.ok {L:List Se} {w w':World} {e:Ending} (h:RSortR L w e w') (hs:∃ out,Series10.SortQ (L.map serOf) out 0):SortOk L w e w':=by
 obtain ⟨vo,p,er,he,hq,ho,hm,hb⟩:=h
 obtain ⟨out,h0⟩:=hs
 have h1:=(hq.one h0).2
 subst h1
 obtain ⟨a,c,rfl⟩:=ho.shape
 exact ⟨p,a,_,c,he,rfl,hq,ho.sls,hm,hb⟩
theorem RSortR.no {L:List Se} {w w':World} {e:Ending} (h:RSortR L w e w') (hs:¬ ∃ out,Series10.SortQ (L.map serOf) out 0):SortNo L w e w':=by
 obtain ⟨vo,p,er,he,hq,ho,hm,hb⟩:=h
 have hne:er ≠ 0:=fun h=>hs ⟨_,h ▸ hq⟩
 have:=hq.none hne
 rw [this] at hq
 exact ⟨er,vo,he,by simpa using hne,hq,hb⟩
theorem two_boxes (w:World) (x y:Se):BoxAt ((w.alloc (.cells #[.slice x.a x.n x.c,.int .i64 x.v.kind,.int .i64 x.v.n] 86)).alloc (.cells #[.slice y.a y.n y.c,.int .i64 y.v.kind,.int .i64 y.v.n] 86)).drew w.heap.size x∧BoxAt ((w.alloc (.cells #[.slice x.a x.n x.c,.int .i64 x.v.kind,.int .i64 x.v.n] 86)).alloc (.cells #[.slice y.a y.n y.c,.int .i64 y.v.kind,.int .i64 y.v.n] 86)).drew (w.heap.size + 1) y∧Below w.heap.size w ((w.alloc (.cells #[.slice x.a x.n x.c,.int .i64 x.v.kind,.int .i64 x.v.n] 86)).alloc (.cells #[.slice y.a y.n y.c,.int .i64 y.v.kind,.int .i64 y.v.n] 86)).drew:=by
 have h1:=boxNew w x
 have h2:=boxNew (w.alloc (.cells #[.slice x.a x.n x.c,.int .i64 x.v.kind,.int .i64 x.v.n] 86)) y
 rw [World.size_alloc] at h2
 exact ⟨h1.grow (bW0 _ _).drew,h2,((bW0 w _).alloc (by simp) _).drew⟩
theorem rjoin_any (op:ByteArray) (v u:Value) (A B:List Se) (w:World) (hv:Srs w v A) (hu:Srs w u B) (hA:∀ x ∈ A,Lbs w (.slice x.a x.n x.c) x.labs) (hB:∀ x ∈ B,Lbs w (.slice x.a x.n x.c) x.labs)
 (rA:∀ x ∈ A,LbsR x.labs∧x.labs.length ≤ 4398046511104) (rB:∀ x ∈ B,LbsR x.labs∧x.labs.length ≤ 4398046511104) (la:A.length ≤ 1000000) (lb:B.length ≤ 1000000) :
 Calls Tryz.prog 52 #[.string op,v,u] w fun e w'=>RJoinR op A B w e w':=by
 have hs1:=rsort_any v A w hv hA rA la
 have hs2:Hid (∀ W,Below w.heap.size w W→Calls Tryz.prog 50 #[u] W fun e w'=>RSortR B W e w'):=fun W h=>rsort_any u B W (Sls.grow hu h) (fun x hx=>(hB x hx).grow h) rB lb
 by_cases c1:∃ p,Series10.SortQ (A.map serOf) p 0
 · have hs1':Calls Tryz.prog 50 #[v] w fun e w'=>SortOk A w e w':=hs1.mono fun e w' h=>h.ok c1
   by_cases c2:∃ q,Series10.SortQ (B.map serOf) q 0
   · have hs2':Hid (∀ W,Below w.heap.size w W→Calls Tryz.prog 50 #[u] W fun e w'=>SortOk B W e w'):=fun W h=>(hs2.out W h).mono fun e w' h=>h.ok c2
     have hdo:=fun W=>rdo_row2 op (num 0) (num 0) W
     have hop:doE op [nul,nul] = 0→∀ a b,IsV a→IsV b→IsV (doV op [a,b]):=fun h a b ha hb=>op2_isV h a b ha hb
     have hEE:doE op [num 0,num 0] = doE op [nul,nul]:=doE_two_eq op num0_isV num0_isV nul_isV nul_isV
     have hE2:=doE_two_in op nul_isV nul_isV
     obtain ⟨E0,hE0⟩:∃ E,Hid (E = doE op [nul,nul]):=⟨_,rfl⟩
     have hJT:Hid (∀ (out:List Series10.Sr) (er:Int) (p q:List Series10.Sr),Series10.SortQ (A.map serOf) p 0→Series10.SortQ (B.map serOf) q 0→((E0 ≠ 0∧out = []∧er = E0) ∨ (E0 = 0∧Series10.SortQ (joinA op p q) out er))→JoinT op (A.map serOf) (B.map serOf) out er):=fun out er p q hp hq h=>by
      rw [hE0.out] at h
      exact .inl ⟨p,hp,.inl ⟨q,hq,h⟩⟩
     rw [hEE,← hE0.out] at hdo
     rw [← hE0.out] at hE2 hop
     clear hEE
     generalize doV op [num 0,num 0] = R0 at hdo
     have hnum:∀ W:World,Calls Tryz.prog 26 #[.int .i64 0] W fun e w'=>e = .returned (.agg #[.int .i64 (num 0).kind,.int .i64 (num 0).n])∧Below W.heap.size W w':=fun W=>rnum_any 0 W
     generalize num 0 = NU at hdo hnum
     clear hs1 hs2
     rcases hE2 with rfl | rfl
     · have hop2:Hid (∀ a b,IsV a→IsV b→IsV (doV op [a,b])):=hop rfl
       clear hop
       go_enter Tryz.func52,Tryz.ntmps52
       go_wp2_with (first
       |(go_at_call 50;(with_reducible refine hs1'.mono ?_);rintro e w1 ⟨p,a,n,c,rfl,hp⟩;have hB1:=hp.out.2.2.2.2;have hz2:=hs2'.out w1 hB1)
       |(go_at_call 50;(with_reducible refine hz2.mono ?_);rintro e w2 ⟨q,a2,n2,c2,rfl,hq⟩;have hA2:=hq.out.2.2.2.2;have hB2:=hB1.trans (hA2.mono hB1.size);have hQ2:=Below.refl w2.heap.size w2)
       |(go_at_call 26;refine (hnum _).mono ?_;rintro e w3 ⟨rfl,hb3⟩;have hQ3:=hQ2.trans (hb3.mono hQ2.size);replace hQ2:=hQ3)
       |(go_at_call 55;refine (hdo _).mono ?_;rintro e w4 ⟨rfl,hb4⟩;have hQ4:=hQ2.trans (hb4.mono hQ2.size)))
       obtain ⟨hnl,hsq,hsr,hmem,_⟩:=hp.out
       obtain ⟨hnl2,hsq2,hsr2,hmem2,_⟩:=hq.out
       have hQ5:=hQ4.alloc hQ4.size (.cells #[.int .i64 R0.kind,.int .i64 R0.n] 24)
       have hp4:Hid (Srs (w4.alloc (.cells #[.int .i64 R0.kind,.int .i64 R0.n] 24)) (.slice a n c) p):=(Sls.grow hsr hA2).grow hQ5
       have hq4:Hid (Srs (w4.alloc (.cells #[.int .i64 R0.kind,.int .i64 R0.n] 24)) (.slice a2 n2 c2) q):=Sls.grow hsr2 hQ5
       have hB4:Hid (Below w.heap.size w (w4.alloc (.cells #[.int .i64 R0.kind,.int .i64 R0.n] 24))):=hB2.trans (hQ5.mono hB2.size)
       have hn3:n ≤ 1000:=by rw [hnl];exact sort_few hsq
       have hn4:n2 ≤ 1000:=by rw [hnl2];exact sort_few hsq2
       have hri:Hid (Right p):=right_frame (hsq.frame rfl).1
       have hri2:Hid (Right q):=right_frame (hsq2.frame rfl).1
       replace hsq:Hid (Series10.SortQ (A.map serOf) (p.map serOf) 0):=hsq
       replace hsq2:Hid (Series10.SortQ (B.map serOf) (q.map serOf) 0):=hsq2
       replace hnl:Hid (n = p.length):=hnl
       replace hnl2:Hid (n2 = q.length):=hnl2
       have hpL:Hid (∀ k,k < p.length→Lbs w (.slice (p.getD k se0).a (p.getD k se0).n (p.getD k se0).c) (p.getD k se0).labs∧IsSet (p.getD k se0).labs∧IsV (p.getD k se0).v):=fun k hk=>⟨hA _ (hmem _ (lgetD_mem p se0 k hk)),hri.out _ (lgetD_mem p se0 k hk)⟩
       have hqL:Hid (∀ k,k < q.length→Lbs w (.slice (q.getD k se0).a (q.getD k se0).n (q.getD k se0).c) (q.getD k se0).labs∧IsSet (q.getD k se0).labs∧IsV (q.getD k se0).v):=fun k hk=>⟨hB _ (hmem2 _ (lgetD_mem q se0 k hk)),hri2.out _ (lgetD_mem q se0 k hk)⟩
       clear hp hq hsr hsr2 hQ2 hQ3 hQ4 hQ5 hA2 hB1 hB2 hz2 hb3 hb4 hdo hnum hmem hmem2 hA hB rA rB hv hu hs1' hs2'
       generalize w4.alloc (.cells #[.int .i64 R0.kind,.int .i64 R0.n] 24) = W4 at *
       go_loopw [14,15] (fun z i wr=>∃ (k:Nat) (J:List Se),k ≤ n∧i = .int .i64 k∧Hid (OwnR wr W4.heap.size z J)∧Hid (J.map serOf = joinA op ((p.take k).map serOf) (q.map serOf))∧Hid (∀ x ∈ J,Lbs w (.slice x.a x.n x.c) x.labs)∧Hid (Right J)∧Hid (Below W4.heap.size W4 wr)) (fun _ i _=>n - (intOf i).toNat)
       case atStart=>exact ⟨0,[],Nat.zero_le _,rfl,OwnS.nil _ _,rfl,(fun x hx=>by cases hx),(fun x hx=>by cases hx),Below.refl _ _⟩
       case round =>
        obtain ⟨k,J,hk,rfl,ho,hj,hse,hrj,hBw⟩:=hrel
        by_cases hlt:k < n
        · have hki:(k:Int) < (n:Int):=by omega
          have hkA:k < p.length:=by rw [← hnl.out];exact hlt
          have hjt:Hid (joinA op ((p.take (k + 1)).map serOf) (q.map serOf) = joinA op ((p.take k).map serOf) (q.map serOf) ++ joinX op (serOf (p.getD k se0)) (q.map serOf)):=joinA_take op p _ k hkA
          obtain ⟨b,o,rfl,x0,x1,x2⟩:=sr_at hp4.out k hkA
          obtain ⟨hlx,hxs,hxv⟩:=hpL.out k hkA
          generalize p.getD k se0 = x at *
          replace hlx:Hid (Lbs w (.slice x.a x.n x.c) x.labs):=hlx
          replace hxs:Hid (IsSet x.labs):=hxs
          replace hxv:Hid (IsV x.v):=hxv
          have hxc:Hid (∀ W,Below W4.heap.size W4 W→W.cell? ⟨b,o + k * 3,none⟩ = some (.slice x.a x.n x.c)∧W.cell? ⟨b,o + k * 3 + 1,none⟩ = some (.int .i64 x.v.kind)∧W.cell? ⟨b,o + k * 3 + 2,none⟩ = some (.int .i64 x.v.n)):=fun W h=>⟨(h.cell (p:=⟨b,_,none⟩) (World.block_lt_of_cell? W4 _ x0)).trans x0,(h.cell (p:=⟨b,_,none⟩) (World.block_lt_of_cell? W4 _ x1)).trans x1,(h.cell (p:=⟨b,_,none⟩) (World.block_lt_of_cell? W4 _ x2)).trans x2⟩
          have hJ0:Hid (joinA op ((p.take k).map serOf) (q.map serOf) = J.map serOf):=hj.out.symm
          have hJl:Hid (J.length ≤ n * n2):=by
           show _ ≤ _
           have h1:=congrArg List.length hj.out
           rw [List.length_map] at h1
           have h2:=joinA_len op ((p.take k).map serOf) (q.map serOf)
           rw [List.length_map,List.length_map,List.length_take,← hnl.out,← hnl2.out,Nat.min_eq_left hk] at h2
           have h3:=Nat.mul_le_mul_right n2 hk
           omega
          clear x0 x1 x2
          go_wp2
          go_loopw [14,16] (fun z i wq=>∃ (j:Nat) (K:List Se),j ≤ n2∧i = .int .i64 j∧Hid (OwnR wq W4.heap.size z (J ++ K))∧Hid (K.map serOf = joinX op (serOf x) ((q.take j).map serOf))∧Hid (∀ z ∈ J ++ K,Lbs w (.slice z.a z.n z.c) z.labs)∧Hid (Right (J ++ K))∧Hid (Below W4.heap.size W4 wq)) (fun _ i _=>n2 - (intOf i).toNat)
          case atStart =>
           refine ⟨0,[],Nat.zero_le _,rfl,?_,rfl,?_,?_,hBw⟩
           · show OwnR _ _ _ _
             rw [List.append_nil];exact ho.out
           · show ∀ z ∈ _,_
             rw [List.append_nil];exact hse.out
           · show Right _
             rw [List.append_nil];exact hrj.out
          case round =>
           clear ho hse hrj hBw hj
           obtain ⟨j,K,hjm,rfl,ho,hK,hse,hrj,hBw⟩:=hrel
           have hBd:=hBw.out
           by_cases hlt2:j < n2
           · have hji:(j:Int) < (n2:Int):=by omega
             have hjB:j < q.length:=by rw [← hnl2.out];exact hlt2
             obtain ⟨b2,o2,rfl,y0,y1,y2⟩:=sr_at (Sls.grow hq4.out hBd) j hjB
             obtain ⟨x0,x1,x2⟩:=hxc.out _ hBd
             obtain ⟨hly,hys,hyv⟩:=hqL.out j hjB
             have hKt:Hid (joinX op (serOf x) ((q.take (j + 1)).map serOf) = joinX op (serOf x) ((q.take j).map serOf) ++ (joinP op (serOf x) (serOf (q.getD j se0))).toList):=joinX_take op (serOf x) q j hjB
             generalize q.getD j se0 = y at *
             obtain ⟨xa,xn,xc,xl,xv⟩:=x
             obtain ⟨ya,yn,yc,yl,yv⟩:=y
             simp only at x0 x1 x2 y0 y1 y2 hly hys hyv hlx hxs hxv
             go_wp2
             go_region_held3 (fun W=>W.cell? ⟨b,o + k * 3,none⟩ = some (.slice xa xn xc)∧W.cell? ⟨b,o + k * 3 + 1,none⟩ = some (.int .i64 xv.kind)∧W.cell? ⟨b,o + k * 3 + 2,none⟩ = some (.int .i64 xv.n)∧W.cell? ⟨b2,o2 + j * 3,none⟩ = some (.slice ya yn yc)∧W.cell? ⟨b2,o2 + j * 3 + 1,none⟩ = some (.int .i64 yv.kind)∧W.cell? ⟨b2,o2 + j * 3 + 2,none⟩ = some (.int .i64 yv.n)) (first | go_keep) (fail)
             · obtain ⟨hbx,hby,hb5⟩:=two_boxes wr ⟨xa,xn,xc,xl,xv⟩ ⟨ya,yn,yc,yl,yv⟩
               simp only at hby hbx hb5
               have ho5:=ho.out.stay hb5
               have hB5:=hBd.trans (hb5.mono hBd.size)
               generalize hW5:(((wr.alloc (.cells #[.slice xa xn xc,.int .i64 xv.kind,.int .i64 xv.n] 86)).alloc (.cells #[.slice ya yn yc,.int .i64 yv.kind,.int .i64 yv.n] 86)).drew) = W5 at ho5 hB5 hb5 hbx hby ⊢
               generalize hp1:wr.heap.size + 1 = p1 at hbx hby ⊢
               generalize hp0:wr.heap.size = p0 at hbx hby ⊢
               clear hW5 hp1 hp0 hb5 x0 x1 x2 y0 y1 y2
               have hBw5:=hB4.out.trans (hB5.mono hB4.out.size)
               have hG5:=rwithin_any (.slice xa xn xc) (.slice ya yn yc) xl yl W5 (hlx.out.grow hBw5) (hly.grow hBw5) (by have:=hxs.out.2.2;omega) (by have:=hys.2.2;omega)
               have hH:∀ W,Below W5.heap.size W5 W→Calls Tryz.prog 78 #[.slice ya yn yc,.slice xa xn xc] W fun e w'=>e = .returned (.bool (withinB yl xl))∧Below W.heap.size W w':=fun W h=>rwithin_any _ _ _ _ _ (hly.grow (hBw5.trans (h.mono hBw5.size))) (hlx.out.grow (hBw5.trans (h.mono hBw5.size))) (by have:=hys.2.2;omega) (by have:=hxs.out.2.2;omega)
               have hfo:=fit_or hxs.out hys
               have hlg:=fun h=>longer_bigger hxs.out hys h
               have hbs:=bigger_set hxs.out hys
               have hvv:=hop2.out _ _ hxv.out hyv
               obtain ⟨d0,d1,d2⟩:=id hbx
               obtain ⟨e0,e1,e2⟩:=id hby
               simp only at d0 d1 d2 e0 e1 e2
               have hno:Hid (fitB xl yl = false→K.map serOf = joinX op (serOf ⟨xa,xn,xc,xl,xv⟩) ((q.take (j + 1)).map serOf)):=fun hf=>by
                rw [hKt.out,← hK.out]
                simp [joinP,serOf,hf]
               have hyes:Hid (fitB xl yl = true→∀ z:Se,serOf z = ⟨bigger xl yl,doV op [xv,yv]⟩→(K ++ [z]).map serOf = joinX op (serOf ⟨xa,xn,xc,xl,xv⟩) ((q.take (j + 1)).map serOf)):=fun hf z hz=>by
                rw [hKt.out,← hK.out]
                simp only [joinP,serOf,hf,if_true,List.map_append,List.map_cons,List.map_nil,Option.toList_some]
                exact congrArg (fun t=>_ ++ [t]) hz
               replace hlg:Hid _:=hlg
               replace hbs:Hid (IsSet (bigger xl yl)):=hbs
               replace hvv:Hid (IsV (doV op [xv,yv])):=hvv
               replace hfo:Hid (fitB xl yl = (withinB xl yl || withinB yl xl)):=hfo
               have hlen:(J ++ K).length + 1 ≤ 1000000000:=by
                have h1:=congrArg List.length hK.out
                have h2:=joinX_len op (serOf ⟨xa,xn,xc,xl,xv⟩) ((q.take j).map serOf)
                rw [List.length_map] at h1 h2
                rw [List.length_take,← hnl2.out] at h2
                have h3:=Nat.mul_le_mul hn3 hn4
                have h4:=hJl.out
                rw [List.length_append]
                omega
               clear hK hKt
               generalize withinB xl yl = F1 at *
               generalize withinB yl xl = F2 at *
               replace hH:Hid _:=hH
               generalize hFB:fitB xl yl = FB at *
               cases F1 with
               | true =>
                have hFt:FB = true:=by rw [hfo.out];rfl
                subst hFt
                have hdd:=fun W=>rdo38 op xv yv W
                unfold vlV at hdd
                generalize doV op [xv,yv] = R at *
                have hxn:Hid (xn = xl.length):=Sls.len hlx.out
                have hyn:Hid (yn = yl.length):=Sls.len hly
                by_cases hc:xn < yn
                · have hci:(xn:Int) < (yn:Int):=by omega
                  have hzs:Hid (serOf ⟨ya,yn,yc,yl,R⟩ = ⟨bigger xl yl,R⟩):=by
                   show (⟨yl,R⟩:Series10.Sr) = _
                   rw [← hlg.out rfl];unfold longer;rw [if_pos (by rw [← hxn.out,← hyn.out];exact hc)]
                  have hK2:=hyes.out rfl _ hzs.out
                  replace hK2:Hid ((K ++ [(⟨ya,yn,yc,yl,R⟩:Se)]).map serOf = joinX op (serOf ⟨xa,xn,xc,xl,xv⟩) ((q.take (j + 1)).map serOf)):=hK2
                  go_wp2_with (first
                       |(go_at_call 78;(with_reducible refine hG5.mono ?_);rintro e w6 ⟨rfl,hb6⟩;clear hG5;have hH6:=hH.out w6 hb6;obtain ⟨d0,d1,d2⟩:=hbx.grow hb6;obtain ⟨e0,e1,e2⟩:=hby.grow hb6;simp only at d0 d1 d2 e0 e1 e2)
                       |(go_at_call 78;(with_reducible refine hH6.mono ?_);rintro e w7 ⟨rfl,hb7⟩;clear hH6;have hb67:=hb6.trans (hb7.mono hb6.size);obtain ⟨d0,d1,d2⟩:=hbx.grow hb67;obtain ⟨e0,e1,e2⟩:=hby.grow hb67;simp only at d0 d1 d2 e0 e1 e2)
                       |(go_at_call 79;refine (hdd w6).mono ?_;rintro e w8 ⟨rfl,hb8⟩;have hb9:=((hb6).trans (hb8.mono (hb6).size)).alloc (Nat.le_trans (hb6).size hb8.size) (.cells #[.slice ya yn yc,.int .i64 R.kind,.int .i64 R.n] 86);have ho9:=ho5.stay hb9;have hs9:=sls_one (E:=encR) w8 ⟨ya,yn,yc,yl,R⟩ #[.slice ya yn yc,.int .i64 R.kind,.int .i64 R.n] 86 rfl;have hB9:=hB5.trans (hb9.mono hB5.size))
                       |(at_builtin;refine appR TR rfl (.tmp 90) (.tmp 99) rfl W4.heap.size _ _ (J ++ K) [⟨ya,yn,yc,yl,R⟩] rfl rfl ho9 hs9 hB9.size hlen ?_;intro v10 w10 ho10 hg10))
                  refine ⟨⟨j + 1,K ++ [⟨ya,yn,yc,yl,R⟩],by omega,by go_num,?_,hK2,?_,?_,hB9.trans (ho9.grows hB9.size hg10)⟩,?_⟩
                  · show OwnR _ _ _ _
                    rw [← List.append_assoc];exact ho10
                  · show ∀ z ∈ _,_
                    intro z hz
                    rw [← List.append_assoc] at hz
                    rcases List.mem_append.1 hz with hz | hz
                    · exact hse.out z hz
                    · rw [List.mem_singleton.1 hz];exact hly
                  · show Right _
                    rw [← List.append_assoc];exact right_app hrj.out (by have:=hzs.out;have h2:=congrArg Series10.Sr.labels this;simp only [serOf] at h2;rw [h2];exact hbs.out) hvv.out
                  · simp [intOf];omega
                · have hci:¬ (xn:Int) < (yn:Int):=by omega
                  have hzs:Hid (serOf ⟨xa,xn,xc,xl,R⟩ = ⟨bigger xl yl,R⟩):=by
                   show (⟨xl,R⟩:Series10.Sr) = _
                   rw [← hlg.out rfl];unfold longer;rw [if_neg (by rw [← hxn.out,← hyn.out];exact hc)]
                  have hK2:=hyes.out rfl _ hzs.out
                  replace hK2:Hid ((K ++ [(⟨xa,xn,xc,xl,R⟩:Se)]).map serOf = joinX op (serOf ⟨xa,xn,xc,xl,xv⟩) ((q.take (j + 1)).map serOf)):=hK2
                  go_wp2_with (first
                       |(go_at_call 78;(with_reducible refine hG5.mono ?_);rintro e w6 ⟨rfl,hb6⟩;clear hG5;have hH6:=hH.out w6 hb6;obtain ⟨d0,d1,d2⟩:=hbx.grow hb6;obtain ⟨e0,e1,e2⟩:=hby.grow hb6;simp only at d0 d1 d2 e0 e1 e2)
                       |(go_at_call 78;(with_reducible refine hH6.mono ?_);rintro e w7 ⟨rfl,hb7⟩;clear hH6;have hb67:=hb6.trans (hb7.mono hb6.size);obtain ⟨d0,d1,d2⟩:=hbx.grow hb67;obtain ⟨e0,e1,e2⟩:=hby.grow hb67;simp only at d0 d1 d2 e0 e1 e2)
                       |(go_at_call 79;refine (hdd w6).mono ?_;rintro e w8 ⟨rfl,hb8⟩;have hb9:=((hb6).trans (hb8.mono (hb6).size)).alloc (Nat.le_trans (hb6).size hb8.size) (.cells #[.slice xa xn xc,.int .i64 R.kind,.int .i64 R.n] 86);have ho9:=ho5.stay hb9;have hs9:=sls_one (E:=encR) w8 ⟨xa,xn,xc,xl,R⟩ #[.slice xa xn xc,.int .i64 R.kind,.int .i64 R.n] 86 rfl;have hB9:=hB5.trans (hb9.mono hB5.size))
                       |(at_builtin;refine appR TR rfl (.tmp 90) (.tmp 99) rfl W4.heap.size _ _ (J ++ K) [⟨xa,xn,xc,xl,R⟩] rfl rfl ho9 hs9 hB9.size hlen ?_;intro v10 w10 ho10 hg10))
                  refine ⟨⟨j + 1,K ++ [⟨xa,xn,xc,xl,R⟩],by omega,by go_num,?_,hK2,?_,?_,hB9.trans (ho9.grows hB9.size hg10)⟩,?_⟩
                  · show OwnR _ _ _ _
                    rw [← List.append_assoc];exact ho10
                  · show ∀ z ∈ _,_
                    intro z hz
                    rw [← List.append_assoc] at hz
                    rcases List.mem_append.1 hz with hz | hz
                    · exact hse.out z hz
                    · rw [List.mem_singleton.1 hz];exact hlx.out
                  · show Right _
                    rw [← List.append_assoc];exact right_app hrj.out (by have:=hzs.out;have h2:=congrArg Series10.Sr.labels this;simp only [serOf] at h2;rw [h2];exact hbs.out) hvv.out
                  · simp [intOf];omega
               | false =>
                cases F2 with
                | true =>
                 have hFt:FB = true:=by rw [hfo.out];rfl
                 subst hFt
                 have hdd:=fun W=>rdo38 op xv yv W
                 unfold vlV at hdd
                 generalize doV op [xv,yv] = R at *
                 have hxn:Hid (xn = xl.length):=Sls.len hlx.out
                 have hyn:Hid (yn = yl.length):=Sls.len hly
                 by_cases hc:xn < yn
                 · have hci:(xn:Int) < (yn:Int):=by omega
                   have hzs:Hid (serOf ⟨ya,yn,yc,yl,R⟩ = ⟨bigger xl yl,R⟩):=by
                    show (⟨yl,R⟩:Series10.Sr) = _
                    rw [← hlg.out rfl];unfold longer;rw [if_pos (by rw [← hxn.out,← hyn.out];exact hc)]
                   have hK2:=hyes.out rfl _ hzs.out
                   replace hK2:Hid ((K ++ [(⟨ya,yn,yc,yl,R⟩:Se)]).map serOf = joinX op (serOf ⟨xa,xn,xc,xl,xv⟩) ((q.take (j + 1)).map serOf)):=hK2
                   go_wp2_with (first
                        |(go_at_call 78;(with_reducible refine hG5.mono ?_);rintro e w6 ⟨rfl,hb6⟩;clear hG5;have hH6:=hH.out w6 hb6;obtain ⟨d0,d1,d2⟩:=hbx.grow hb6;obtain ⟨e0,e1,e2⟩:=hby.grow hb6;simp only at d0 d1 d2 e0 e1 e2)
                        |(go_at_call 78;(with_reducible refine hH6.mono ?_);rintro e w7 ⟨rfl,hb7⟩;clear hH6;have hb67:=hb6.trans (hb7.mono hb6.size);obtain ⟨d0,d1,d2⟩:=hbx.grow hb67;obtain ⟨e0,e1,e2⟩:=hby.grow hb67;simp only at d0 d1 d2 e0 e1 e2)
                        |(go_at_call 79;refine (hdd w7).mono ?_;rintro e w8 ⟨rfl,hb8⟩;have hb9:=((hb67).trans (hb8.mono (hb67).size)).alloc (Nat.le_trans (hb67).size hb8.size) (.cells #[.slice ya yn yc,.int .i64 R.kind,.int .i64 R.n] 86);have ho9:=ho5.stay hb9;have hs9:=sls_one (E:=encR) w8 ⟨ya,yn,yc,yl,R⟩ #[.slice ya yn yc,.int .i64 R.kind,.int .i64 R.n] 86 rfl;have hB9:=hB5.trans (hb9.mono hB5.size))
                        |(at_builtin;refine appR TR rfl (.tmp 90) (.tmp 99) rfl W4.heap.size _ _ (J ++ K) [⟨ya,yn,yc,yl,R⟩] rfl rfl ho9 hs9 hB9.size hlen ?_;intro v10 w10 ho10 hg10))
                   refine ⟨⟨j + 1,K ++ [⟨ya,yn,yc,yl,R⟩],by omega,by go_num,?_,hK2,?_,?_,hB9.trans (ho9.grows hB9.size hg10)⟩,?_⟩
                   · show OwnR _ _ _ _
                     rw [← List.append_assoc];exact ho10
                   · show ∀ z ∈ _,_
                     intro z hz
                     rw [← List.append_assoc] at hz
                     rcases List.mem_append.1 hz with hz | hz
                     · exact hse.out z hz
                     · rw [List.mem_singleton.1 hz];exact hly
                   · show Right _
                     rw [← List.append_assoc];exact right_app hrj.out (by have:=hzs.out;have h2:=congrArg Series10.Sr.labels this;simp only [serOf] at h2;rw [h2];exact hbs.out) hvv.out
                   · simp [intOf];omega
                 · have hci:¬ (xn:Int) < (yn:Int):=by omega
                   have hzs:Hid (serOf ⟨xa,xn,xc,xl,R⟩ = ⟨bigger xl yl,R⟩):=by
                    show (⟨xl,R⟩:Series10.Sr) = _
                    rw [← hlg.out rfl];unfold longer;rw [if_neg (by rw [← hxn.out,← hyn.out];exact hc)]
                   have hK2:=hyes.out rfl _ hzs.out
                   replace hK2:Hid ((K ++ [(⟨xa,xn,xc,xl,R⟩:Se)]).map serOf = joinX op (serOf ⟨xa,xn,xc,xl,xv⟩) ((q.take (j + 1)).map serOf)):=hK2
                   go_wp2_with (first
                        |(go_at_call 78;(with_reducible refine hG5.mono ?_);rintro e w6 ⟨rfl,hb6⟩;clear hG5;have hH6:=hH.out w6 hb6;obtain ⟨d0,d1,d2⟩:=hbx.grow hb6;obtain ⟨e0,e1,e2⟩:=hby.grow hb6;simp only at d0 d1 d2 e0 e1 e2)
                        |(go_at_call 78;(with_reducible refine hH6.mono ?_);rintro e w7 ⟨rfl,hb7⟩;clear hH6;have hb67:=hb6.trans (hb7.mono hb6.size);obtain ⟨d0,d1,d2⟩:=hbx.grow hb67;obtain ⟨e0,e1,e2⟩:=hby.grow hb67;simp only at d0 d1 d2 e0 e1 e2)
                        |(go_at_call 79;refine (hdd w7).mono ?_;rintro e w8 ⟨rfl,hb8⟩;have hb9:=((hb67).trans (hb8.mono (hb67).size)).alloc (Nat.le_trans (hb67).size hb8.size) (.cells #[.slice xa xn xc,.int .i64 R.kind,.int .i64 R.n] 86);have ho9:=ho5.stay hb9;have hs9:=sls_one (E:=encR) w8 ⟨xa,xn,xc,xl,R⟩ #[.slice xa xn xc,.int .i64 R.kind,.int .i64 R.n] 86 rfl;have hB9:=hB5.trans (hb9.mono hB5.size))
                        |(at_builtin;refine appR TR rfl (.tmp 90) (.tmp 99) rfl W4.heap.size _ _ (J ++ K) [⟨xa,xn,xc,xl,R⟩] rfl rfl ho9 hs9 hB9.size hlen ?_;intro v10 w10 ho10 hg10))
                   refine ⟨⟨j + 1,K ++ [⟨xa,xn,xc,xl,R⟩],by omega,by go_num,?_,hK2,?_,?_,hB9.trans (ho9.grows hB9.size hg10)⟩,?_⟩
                   · show OwnR _ _ _ _
                     rw [← List.append_assoc];exact ho10
                   · show ∀ z ∈ _,_
                     intro z hz
                     rw [← List.append_assoc] at hz
                     rcases List.mem_append.1 hz with hz | hz
                     · exact hse.out z hz
                     · rw [List.mem_singleton.1 hz];exact hlx.out
                   · show Right _
                     rw [← List.append_assoc];exact right_app hrj.out (by have:=hzs.out;have h2:=congrArg Series10.Sr.labels this;simp only [serOf] at h2;rw [h2];exact hbs.out) hvv.out
                   · simp [intOf];omega
                | false =>
                 have hFt:FB = false:=by rw [hfo.out];rfl
                 subst hFt
                 have hK2:=hno.out rfl
                 replace hK2:Hid (K.map serOf = joinX op (serOf ⟨xa,xn,xc,xl,xv⟩) ((q.take (j + 1)).map serOf)):=hK2
                 go_wp2_with (first
                 |(go_at_call 78;(with_reducible refine hG5.mono ?_);rintro e w6 ⟨rfl,hb6⟩;clear hG5;have hH6:=hH.out w6 hb6;obtain ⟨d0,d1,d2⟩:=hbx.grow hb6;obtain ⟨e0,e1,e2⟩:=hby.grow hb6;simp only at d0 d1 d2 e0 e1 e2)
                 |(go_at_call 78;(with_reducible refine hH6.mono ?_);rintro e w7 ⟨rfl,hb7⟩;clear hH6;have hb67:=hb6.trans (hb7.mono hb6.size);obtain ⟨d0,d1,d2⟩:=hbx.grow hb67;obtain ⟨e0,e1,e2⟩:=hby.grow hb67;simp only at d0 d1 d2 e0 e1 e2))
                 refine ⟨⟨j + 1,K,by omega,by go_num,ho5.stay hb67,hK2,hse,hrj,hB5.trans (hb67.mono hB5.size)⟩,?_⟩
                 simp [intOf];omega
             · obtain ⟨hby,hbx,hb5⟩:=two_boxes wr ⟨ya,yn,yc,yl,yv⟩ ⟨xa,xn,xc,xl,xv⟩
               simp only at hby hbx hb5
               have ho5:=ho.out.stay hb5
               have hB5:=hBd.trans (hb5.mono hBd.size)
               generalize hW5:(((wr.alloc (.cells #[.slice ya yn yc,.int .i64 yv.kind,.int .i64 yv.n] 86)).alloc (.cells #[.slice xa xn xc,.int .i64 xv.kind,.int .i64 xv.n] 86)).drew) = W5 at ho5 hB5 hb5 hbx hby ⊢
               generalize hp1:wr.heap.size + 1 = p1 at hbx hby ⊢
               generalize hp0:wr.heap.size = p0 at hbx hby ⊢
               clear hW5 hp1 hp0 hb5 x0 x1 x2 y0 y1 y2
               have hBw5:=hB4.out.trans (hB5.mono hB4.out.size)
               have hG5:=rwithin_any (.slice xa xn xc) (.slice ya yn yc) xl yl W5 (hlx.out.grow hBw5) (hly.grow hBw5) (by have:=hxs.out.2.2;omega) (by have:=hys.2.2;omega)
               have hH:∀ W,Below W5.heap.size W5 W→Calls Tryz.prog 78 #[.slice ya yn yc,.slice xa xn xc] W fun e w'=>e = .returned (.bool (withinB yl xl))∧Below W.heap.size W w':=fun W h=>rwithin_any _ _ _ _ _ (hly.grow (hBw5.trans (h.mono hBw5.size))) (hlx.out.grow (hBw5.trans (h.mono hBw5.size))) (by have:=hys.2.2;omega) (by have:=hxs.out.2.2;omega)
               have hfo:=fit_or hxs.out hys
               have hlg:=fun h=>longer_bigger hxs.out hys h
               have hbs:=bigger_set hxs.out hys
               have hvv:=hop2.out _ _ hxv.out hyv
               obtain ⟨d0,d1,d2⟩:=id hbx
               obtain ⟨e0,e1,e2⟩:=id hby
               simp only at d0 d1 d2 e0 e1 e2
               have hno:Hid (fitB xl yl = false→K.map serOf = joinX op (serOf ⟨xa,xn,xc,xl,xv⟩) ((q.take (j + 1)).map serOf)):=fun hf=>by
                rw [hKt.out,← hK.out]
                simp [joinP,serOf,hf]
               have hyes:Hid (fitB xl yl = true→∀ z:Se,serOf z = ⟨bigger xl yl,doV op [xv,yv]⟩→(K ++ [z]).map serOf = joinX op (serOf ⟨xa,xn,xc,xl,xv⟩) ((q.take (j + 1)).map serOf)):=fun hf z hz=>by
                rw [hKt.out,← hK.out]
                simp only [joinP,serOf,hf,if_true,List.map_append,List.map_cons,List.map_nil,Option.toList_some]
                exact congrArg (fun t=>_ ++ [t]) hz
               replace hlg:Hid _:=hlg
               replace hbs:Hid (IsSet (bigger xl yl)):=hbs
               replace hvv:Hid (IsV (doV op [xv,yv])):=hvv
               replace hfo:Hid (fitB xl yl = (withinB xl yl || withinB yl xl)):=hfo
               have hlen:(J ++ K).length + 1 ≤ 1000000000:=by
                have h1:=congrArg List.length hK.out
                have h2:=joinX_len op (serOf ⟨xa,xn,xc,xl,xv⟩) ((q.take j).map serOf)
                rw [List.length_map] at h1 h2
                rw [List.length_take,← hnl2.out] at h2
                have h3:=Nat.mul_le_mul hn3 hn4
                have h4:=hJl.out
                rw [List.length_append]
                omega
               clear hK hKt
               generalize withinB xl yl = F1 at *
               generalize withinB yl xl = F2 at *
               replace hH:Hid _:=hH
               generalize hFB:fitB xl yl = FB at *
               cases F1 with
               | true =>
                have hFt:FB = true:=by rw [hfo.out];rfl
                subst hFt
                have hdd:=fun W=>rdo38 op xv yv W
                unfold vlV at hdd
                generalize doV op [xv,yv] = R at *
                have hxn:Hid (xn = xl.length):=Sls.len hlx.out
                have hyn:Hid (yn = yl.length):=Sls.len hly
                by_cases hc:xn < yn
                · have hci:(xn:Int) < (yn:Int):=by omega
                  have hzs:Hid (serOf ⟨ya,yn,yc,yl,R⟩ = ⟨bigger xl yl,R⟩):=by
                   show (⟨yl,R⟩:Series10.Sr) = _
                   rw [← hlg.out rfl];unfold longer;rw [if_pos (by rw [← hxn.out,← hyn.out];exact hc)]
                  have hK2:=hyes.out rfl _ hzs.out
                  replace hK2:Hid ((K ++ [(⟨ya,yn,yc,yl,R⟩:Se)]).map serOf = joinX op (serOf ⟨xa,xn,xc,xl,xv⟩) ((q.take (j + 1)).map serOf)):=hK2
                  go_wp2_with (first
                       |(go_at_call 78;(with_reducible refine hG5.mono ?_);rintro e w6 ⟨rfl,hb6⟩;clear hG5;have hH6:=hH.out w6 hb6;obtain ⟨d0,d1,d2⟩:=hbx.grow hb6;obtain ⟨e0,e1,e2⟩:=hby.grow hb6;simp only at d0 d1 d2 e0 e1 e2)
                       |(go_at_call 78;(with_reducible refine hH6.mono ?_);rintro e w7 ⟨rfl,hb7⟩;clear hH6;have hb67:=hb6.trans (hb7.mono hb6.size);obtain ⟨d0,d1,d2⟩:=hbx.grow hb67;obtain ⟨e0,e1,e2⟩:=hby.grow hb67;simp only at d0 d1 d2 e0 e1 e2)
                       |(go_at_call 79;refine (hdd w6).mono ?_;rintro e w8 ⟨rfl,hb8⟩;have hb9:=((hb6).trans (hb8.mono (hb6).size)).alloc (Nat.le_trans (hb6).size hb8.size) (.cells #[.slice ya yn yc,.int .i64 R.kind,.int .i64 R.n] 86);have ho9:=ho5.stay hb9;have hs9:=sls_one (E:=encR) w8 ⟨ya,yn,yc,yl,R⟩ #[.slice ya yn yc,.int .i64 R.kind,.int .i64 R.n] 86 rfl;have hB9:=hB5.trans (hb9.mono hB5.size))
                       |(at_builtin;refine appR TR rfl (.tmp 90) (.tmp 99) rfl W4.heap.size _ _ (J ++ K) [⟨ya,yn,yc,yl,R⟩] rfl rfl ho9 hs9 hB9.size hlen ?_;intro v10 w10 ho10 hg10))
                  refine ⟨⟨j + 1,K ++ [⟨ya,yn,yc,yl,R⟩],by omega,by go_num,?_,hK2,?_,?_,hB9.trans (ho9.grows hB9.size hg10)⟩,?_⟩
                  · show OwnR _ _ _ _
                    rw [← List.append_assoc];exact ho10
                  · show ∀ z ∈ _,_
                    intro z hz
                    rw [← List.append_assoc] at hz
                    rcases List.mem_append.1 hz with hz | hz
                    · exact hse.out z hz
                    · rw [List.mem_singleton.1 hz];exact hly
                  · show Right _
                    rw [← List.append_assoc];exact right_app hrj.out (by have:=hzs.out;have h2:=congrArg Series10.Sr.labels this;simp only [serOf] at h2;rw [h2];exact hbs.out) hvv.out
                  · simp [intOf];omega
                · have hci:¬ (xn:Int) < (yn:Int):=by omega
                  have hzs:Hid (serOf ⟨xa,xn,xc,xl,R⟩ = ⟨bigger xl yl,R⟩):=by
                   show (⟨xl,R⟩:Series10.Sr) = _
                   rw [← hlg.out rfl];unfold longer;rw [if_neg (by rw [← hxn.out,← hyn.out];exact hc)]
                  have hK2:=hyes.out rfl _ hzs.out
                  replace hK2:Hid ((K ++ [(⟨xa,xn,xc,xl,R⟩:Se)]).map serOf = joinX op (serOf ⟨xa,xn,xc,xl,xv⟩) ((q.take (j + 1)).map serOf)):=hK2
                  go_wp2_with (first
                       |(go_at_call 78;(with_reducible refine hG5.mono ?_);rintro e w6 ⟨rfl,hb6⟩;clear hG5;have hH6:=hH.out w6 hb6;obtain ⟨d0,d1,d2⟩:=hbx.grow hb6;obtain ⟨e0,e1,e2⟩:=hby.grow hb6;simp only at d0 d1 d2 e0 e1 e2)
                       |(go_at_call 78;(with_reducible refine hH6.mono ?_);rintro e w7 ⟨rfl,hb7⟩;clear hH6;have hb67:=hb6.trans (hb7.mono hb6.size);obtain ⟨d0,d1,d2⟩:=hbx.grow hb67;obtain ⟨e0,e1,e2⟩:=hby.grow hb67;simp only at d0 d1 d2 e0 e1 e2)
                       |(go_at_call 79;refine (hdd w6).mono ?_;rintro e w8 ⟨rfl,hb8⟩;have hb9:=((hb6).trans (hb8.mono (hb6).size)).alloc (Nat.le_trans (hb6).size hb8.size) (.cells #[.slice xa xn xc,.int .i64 R.kind,.int .i64 R.n] 86);have ho9:=ho5.stay hb9;have hs9:=sls_one (E:=encR) w8 ⟨xa,xn,xc,xl,R⟩ #[.slice xa xn xc,.int .i64 R.kind,.int .i64 R.n] 86 rfl;have hB9:=hB5.trans (hb9.mono hB5.size))
                       |(at_builtin;refine appR TR rfl (.tmp 90) (.tmp 99) rfl W4.heap.size _ _ (J ++ K) [⟨xa,xn,xc,xl,R⟩] rfl rfl ho9 hs9 hB9.size hlen ?_;intro v10 w10 ho10 hg10))
                  refine ⟨⟨j + 1,K ++ [⟨xa,xn,xc,xl,R⟩],by omega,by go_num,?_,hK2,?_,?_,hB9.trans (ho9.grows hB9.size hg10)⟩,?_⟩
                  · show OwnR _ _ _ _
                    rw [← List.append_assoc];exact ho10
                  · show ∀ z ∈ _,_
                    intro z hz
                    rw [← List.append_assoc] at hz
                    rcases List.mem_append.1 hz with hz | hz
                    · exact hse.out z hz
                    · rw [List.mem_singleton.1 hz];exact hlx.out
                  · show Right _
                    rw [← List.append_assoc];exact right_app hrj.out (by have:=hzs.out;have h2:=congrArg Series10.Sr.labels this;simp only [serOf] at h2;rw [h2];exact hbs.out) hvv.out
                  · simp [intOf];omega
               | false =>
                cases F2 with
                | true =>
                 have hFt:FB = true:=by rw [hfo.out];rfl
                 subst hFt
                 have hdd:=fun W=>rdo38 op xv yv W
                 unfold vlV at hdd
                 generalize doV op [xv,yv] = R at *
                 have hxn:Hid (xn = xl.length):=Sls.len hlx.out
                 have hyn:Hid (yn = yl.length):=Sls.len hly
                 by_cases hc:xn < yn
                 · have hci:(xn:Int) < (yn:Int):=by omega
                   have hzs:Hid (serOf ⟨ya,yn,yc,yl,R⟩ = ⟨bigger xl yl,R⟩):=by
                    show (⟨yl,R⟩:Series10.Sr) = _
                    rw [← hlg.out rfl];unfold longer;rw [if_pos (by rw [← hxn.out,← hyn.out];exact hc)]
                   have hK2:=hyes.out rfl _ hzs.out
                   replace hK2:Hid ((K ++ [(⟨ya,yn,yc,yl,R⟩:Se)]).map serOf = joinX op (serOf ⟨xa,xn,xc,xl,xv⟩) ((q.take (j + 1)).map serOf)):=hK2
                   go_wp2_with (first
                        |(go_at_call 78;(with_reducible refine hG5.mono ?_);rintro e w6 ⟨rfl,hb6⟩;clear hG5;have hH6:=hH.out w6 hb6;obtain ⟨d0,d1,d2⟩:=hbx.grow hb6;obtain ⟨e0,e1,e2⟩:=hby.grow hb6;simp only at d0 d1 d2 e0 e1 e2)
                        |(go_at_call 78;(with_reducible refine hH6.mono ?_);rintro e w7 ⟨rfl,hb7⟩;clear hH6;have hb67:=hb6.trans (hb7.mono hb6.size);obtain ⟨d0,d1,d2⟩:=hbx.grow hb67;obtain ⟨e0,e1,e2⟩:=hby.grow hb67;simp only at d0 d1 d2 e0 e1 e2)
                        |(go_at_call 79;refine (hdd w7).mono ?_;rintro e w8 ⟨rfl,hb8⟩;have hb9:=((hb67).trans (hb8.mono (hb67).size)).alloc (Nat.le_trans (hb67).size hb8.size) (.cells #[.slice ya yn yc,.int .i64 R.kind,.int .i64 R.n] 86);have ho9:=ho5.stay hb9;have hs9:=sls_one (E:=encR) w8 ⟨ya,yn,yc,yl,R⟩ #[.slice ya yn yc,.int .i64 R.kind,.int .i64 R.n] 86 rfl;have hB9:=hB5.trans (hb9.mono hB5.size))
                        |(at_builtin;refine appR TR rfl (.tmp 90) (.tmp 99) rfl W4.heap.size _ _ (J ++ K) [⟨ya,yn,yc,yl,R⟩] rfl rfl ho9 hs9 hB9.size hlen ?_;intro v10 w10 ho10 hg10))
                   refine ⟨⟨j + 1,K ++ [⟨ya,yn,yc,yl,R⟩],by omega,by go_num,?_,hK2,?_,?_,hB9.trans (ho9.grows hB9.size hg10)⟩,?_⟩
                   · show OwnR _ _ _ _
                     rw [← List.append_assoc];exact ho10
                   · show ∀ z ∈ _,_
                     intro z hz
                     rw [← List.append_assoc] at hz
                     rcases List.mem_append.1 hz with hz | hz
                     · exact hse.out z hz
                     · rw [List.mem_singleton.1 hz];exact hly
                   · show Right _
                     rw [← List.append_assoc];exact right_app hrj.out (by have:=hzs.out;have h2:=congrArg Series10.Sr.labels this;simp only [serOf] at h2;rw [h2];exact hbs.out) hvv.out
                   · simp [intOf];omega
                 · have hci:¬ (xn:Int) < (yn:Int):=by omega
                   have hzs:Hid (serOf ⟨xa,xn,xc,xl,R⟩ = ⟨bigger xl yl,R⟩):=by
                    show (⟨xl,R⟩:Series10.Sr) = _
                    rw [← hlg.out rfl];unfold longer;rw [if_neg (by rw [← hxn.out,← hyn.out];exact hc)]
                   have hK2:=hyes.out rfl _ hzs.out
                   replace hK2:Hid ((K ++ [(⟨xa,xn,xc,xl,R⟩:Se)]).map serOf = joinX op (serOf ⟨xa,xn,xc,xl,xv⟩) ((q.take (j + 1)).map serOf)):=hK2
                   go_wp2_with (first
                        |(go_at_call 78;(with_reducible refine hG5.mono ?_);rintro e w6 ⟨rfl,hb6⟩;clear hG5;have hH6:=hH.out w6 hb6;obtain ⟨d0,d1,d2⟩:=hbx.grow hb6;obtain ⟨e0,e1,e2⟩:=hby.grow hb6;simp only at d0 d1 d2 e0 e1 e2)
                        |(go_at_call 78;(with_reducible refine hH6.mono ?_);rintro e w7 ⟨rfl,hb7⟩;clear hH6;have hb67:=hb6.trans (hb7.mono hb6.size);obtain ⟨d0,d1,d2⟩:=hbx.grow hb67;obtain ⟨e0,e1,e2⟩:=hby.grow hb67;simp only at d0 d1 d2 e0 e1 e2)
                        |(go_at_call 79;refine (hdd w7).mono ?_;rintro e w8 ⟨rfl,hb8⟩;have hb9:=((hb67).trans (hb8.mono (hb67).size)).alloc (Nat.le_trans (hb67).size hb8.size) (.cells #[.slice xa xn xc,.int .i64 R.kind,.int .i64 R.n] 86);have ho9:=ho5.stay hb9;have hs9:=sls_one (E:=encR) w8 ⟨xa,xn,xc,xl,R⟩ #[.slice xa xn xc,.int .i64 R.kind,.int .i64 R.n] 86 rfl;have hB9:=hB5.trans (hb9.mono hB5.size))
                        |(at_builtin;refine appR TR rfl (.tmp 90) (.tmp 99) rfl W4.heap.size _ _ (J ++ K) [⟨xa,xn,xc,xl,R⟩] rfl rfl ho9 hs9 hB9.size hlen ?_;intro v10 w10 ho10 hg10))
                   refine ⟨⟨j + 1,K ++ [⟨xa,xn,xc,xl,R⟩],by omega,by go_num,?_,hK2,?_,?_,hB9.trans (ho9.grows hB9.size hg10)⟩,?_⟩
                   · show OwnR _ _ _ _
                     rw [← List.append_assoc];exact ho10
                   · show ∀ z ∈ _,_
                     intro z hz
                     rw [← List.append_assoc] at hz
                     rcases List.mem_append.1 hz with hz | hz
                     · exact hse.out z hz
                     · rw [List.mem_singleton.1 hz];exact hlx.out
                   · show Right _
                     rw [← List.append_assoc];exact right_app hrj.out (by have:=hzs.out;have h2:=congrArg Series10.Sr.labels this;simp only [serOf] at h2;rw [h2];exact hbs.out) hvv.out
                   · simp [intOf];omega
                | false =>
                 have hFt:FB = false:=by rw [hfo.out];rfl
                 subst hFt
                 have hK2:=hno.out rfl
                 replace hK2:Hid (K.map serOf = joinX op (serOf ⟨xa,xn,xc,xl,xv⟩) ((q.take (j + 1)).map serOf)):=hK2
                 go_wp2_with (first
                 |(go_at_call 78;(with_reducible refine hG5.mono ?_);rintro e w6 ⟨rfl,hb6⟩;clear hG5;have hH6:=hH.out w6 hb6;obtain ⟨d0,d1,d2⟩:=hbx.grow hb6;obtain ⟨e0,e1,e2⟩:=hby.grow hb6;simp only at d0 d1 d2 e0 e1 e2)
                 |(go_at_call 78;(with_reducible refine hH6.mono ?_);rintro e w7 ⟨rfl,hb7⟩;clear hH6;have hb67:=hb6.trans (hb7.mono hb6.size);obtain ⟨d0,d1,d2⟩:=hbx.grow hb67;obtain ⟨e0,e1,e2⟩:=hby.grow hb67;simp only at d0 d1 d2 e0 e1 e2))
                 refine ⟨⟨j + 1,K,by omega,by go_num,ho5.stay hb67,hK2,hse,hrj,hB5.trans (hb67.mono hB5.size)⟩,?_⟩
                 simp [intOf];omega
           · obtain rfl:j = n2:=by omega
             have hji:¬ (j:Int) < (j:Int):=by omega
             have h1:=hK.out
             rw [List.take_of_length_le (by rw [← hnl2.out];omega)] at h1
             have h2:Hid ((J ++ K).map serOf = joinA op ((p.take (k + 1)).map serOf) (q.map serOf)):=by
              show _ = _
              rw [hjt.out,hJ0.out,List.map_append,h1]
             clear hK h1
             go_wp2
             refine ⟨⟨k + 1,J ++ K,by omega,by go_num,ho,h2,hse,hrj,hBw⟩,?_⟩
             simp [intOf];omega
        · obtain rfl:k = n:=by omega
          have hki:¬ (k:Int) < (k:Int):=by omega
          have h1:=hj.out
          rw [List.take_of_length_le (by rw [← hnl.out];omega)] at h1
          have hBd:=hBw.out
          have hBe:=hB4.out.trans (hBd.mono hB4.out.size)
          have hfr:=rsort_any _ J wr ho.out.sls (fun z hz=>(hse.out z hz).grow hBe) (fun z hz=>⟨lbsR_of (hrj.out z hz).1,by have:=(hrj.out z hz).1.2.2;omega⟩) (joinA_few h1 (by rw [← hnl.out];omega) (by rw [← hnl2.out];omega))
          replace h1:Hid (J.map serOf = joinA op (p.map serOf) (q.map serOf)):=h1
          clear hj
          go_wp2_with (first
          |(go_at_call 50;refine hfr.mono ?_;rintro e w7 ⟨vo,l,er,rfl,hq7,ho7,hm7,hb7⟩;replace hq7:Hid (Series10.SortQ (J.map serOf) (l.map serOf) er):=hq7))
          go_ret2
          have hB7:=hBe.trans (hb7.mono hBe.size)
          refine ⟨_,l,er,rfl,hJT.out _ _ _ _ hsq.out hsq2.out (.inr ⟨by first | rfl | trivial,?_⟩),OwnS.wide ho7 hBe.size,fun z hz=>(hse.out z (hm7 z hz)).grow hB7,hB7⟩
          rw [← h1.out];exact hq7.out
     · clear hop
       go_enter Tryz.func52,Tryz.ntmps52
       go_wp2_with (first
       |(go_at_call 50;(with_reducible refine hs1'.mono ?_);rintro e w1 ⟨p,a,n,c,rfl,hp⟩;have hB1:=hp.out.2.2.2.2;have hz2:=hs2'.out w1 hB1)
       |(go_at_call 50;(with_reducible refine hz2.mono ?_);rintro e w2 ⟨q,a2,n2,c2,rfl,hq⟩;have hA2:=hq.out.2.2.2.2;have hB2:=hB1.trans (hA2.mono hB1.size);have hQ2:=Below.refl w2.heap.size w2)
       |(go_at_call 26;refine (hnum _).mono ?_;rintro e w3 ⟨rfl,hb3⟩;have hQ3:=hQ2.trans (hb3.mono hQ2.size);replace hQ2:=hQ3)
       |(go_at_call 55;refine (hdo _).mono ?_;rintro e w4 ⟨rfl,hb4⟩;have hQ4:=hQ2.trans (hb4.mono hQ2.size)))
       go_ret2
       have hB4:=hB2.trans (hQ4.mono hB2.size)
       exact ⟨_,[],2,rfl,hJT.out _ _ _ _ hp.out.2.1 hq.out.2.1 (.inl ⟨by decide,rfl,rfl⟩),OwnS.nil _ _,(fun x hx=>by cases hx),hB4.alloc hB4.size _⟩
   · have hs2':Hid (∀ W,Below w.heap.size w W→Calls Tryz.prog 50 #[u] W fun e w'=>SortNo B W e w'):=fun W h=>(hs2.out W h).mono fun e w' h=>h.no c2
     clear hs1 hs2
     go_enter Tryz.func52,Tryz.ntmps52
     go_wp2_with (first
     |(go_at_call 50;(with_reducible refine hs1'.mono ?_);rintro e w1 ⟨p,a,n,c,rfl,hp⟩;have hB1:=hp.out.2.2.2.2;have hz2:=hs2'.out w1 hB1)
     |(go_at_call 50;(with_reducible refine hz2.mono ?_);rintro e w2 ⟨er,vo,rfl,hne,hq,hb2⟩;have hB2:=hB1.trans (hb2.mono hB1.size)))
     go_ret2
     exact ⟨_,[],er,rfl,.inl ⟨_,hp.out.2.1,.inr ⟨by simpa using hne,hq.out,rfl⟩⟩,OwnS.nil _ _,(fun x hx=>by cases hx),hB2⟩
 · have hso3:Calls Tryz.prog 50 #[v] w fun e w'=>SortNo A w e w':=hs1.mono fun e w' h=>h.no c1
   clear hs1 hs2
   go_enter Tryz.func52,Tryz.ntmps52
   go_wp2_with (first
   |(go_at_call 50;refine hso3.mono ?_;rintro e w1 ⟨er,vo,rfl,hne,hq,hB1⟩))
   go_ret2
   exact ⟨_,[],er,rfl,.inr ⟨by simpa using hne,hq.out,rfl⟩,OwnS.nil _ _,(fun x hx=>by cases hx),hB1⟩
end Go.Proofs.YtdhlfpgibfaimaaGreatDoor
