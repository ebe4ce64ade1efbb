import Derived.Test.YtdhlfpgibfaimaaGreatDoorUfUg
import Derived.Deep.RegionHeld3
set_option maxRecDepth 100000
set_option maxHeartbeats 16000000
set_option linter.unusedVariables false
namespace Go.Proofs.YtdhlfpgibfaimaaGreatDoor
open Go.RowKit
theorem rsort_any (v : Value) (L : List Se) (w : World) (hv : Srs w v L) (hin : ∀ x ∈ L,Lbs w (.slice x.a x.n x.c) x.labs) (hr : ∀ x ∈ L,LbsR x.labs∧x.labs.length ≤ 4398046511104) (hl : L.length ≤ 1000000) : Calls Tryz.prog 50 #[v] w fun e w'=>RSortR L w e w':=by
 obtain ⟨a1,c1,rfl⟩:=hv.shape
 have hmL : Hid (∀ k,k < L.length→L.getD k se0 ∈ L):=fun k hk=>lgetD_mem L se0 k hk
 obtain ⟨n,hn⟩ : ∃ n,Hid (n = L.length):=⟨_,rfl⟩
 rw [← hn.out] at hv hl ⊢
 replace hv : Hid (Srs w (.slice a1 n c1) L):=hv
 replace hin : Hid (∀ x ∈ L,Lbs w (.slice x.a x.n x.c) x.labs):=hin
 replace hr : Hid (∀ x ∈ L,LbsR x.labs∧x.labs.length ≤ 4398046511104):=hr
 go_enter Tryz.func50,Tryz.ntmps50
 go_wp2
 go_loopw [4] (fun i wr=>∃ k : Nat,k ≤ n∧i = .int .i64 k∧Hid (∀ j,j < k→IsSet (L.getD j se0).labs)∧Hid (Below w.heap.size w wr)) (fun i _=>n - (intOf i).toNat)
 case atStart=>exact ⟨0,Nat.zero_le _,rfl,fun j hj=>absurd hj (Nat.not_lt_zero _),Below.refl _ _⟩
 case round =>
  obtain ⟨k,hk,rfl,hall,hB⟩:=hrel
  have hBd:=hB.out
  by_cases hlt : k < n
  · have hki : (k : Int) < (n : Int):=by omega
    have hkL : k < L.length:=by rw [← hn.out];exact hlt
    obtain ⟨b,o,rfl,x0,x1,x2⟩:=sr_at (Sls.grow hv.out hBd) k hkL
    have hxL:=hmL.out k hkL
    have hcall:=set_any _ _ wr ((hin.out _ hxL).grow hBd) (hr.out _ hxL).1 (by have:=(hr.out _ hxL).2;omega)
    by_cases hs : IsSet (L.getD k se0).labs
    · have hall2 : Hid (∀ j,j < k + 1→IsSet (L.getD j se0).labs):=fun j hj=>by
       by_cases e : j = k
       · rw [e];exact hs
       · exact hall.out j (by omega)
      rw [setB_yes hs] at hcall
      clear hs hxL
      generalize L.getD k se0 = x at *
      go_wp2_with (first | (go_at_call 76;refine hcall.mono ?_;rintro e w2 ⟨rfl,hb2⟩))
      refine ⟨⟨k + 1,by omega,by go_num,hall2,hBd.trans (hb2.mono hBd.size)⟩,?_⟩
      simp [intOf];omega
    · have hq : Hid (Series10.SortQ (L.map serOf) [] 90):=.inl ⟨⟨serOf (L.getD k se0),List.mem_map.2 ⟨_,hxL,rfl⟩,hs⟩,rfl,rfl⟩
      rw [setB_no hs] at hcall
      clear hs hxL
      generalize L.getD k se0 = x at *
      go_wp2_with (first | (go_at_call 76;refine hcall.mono ?_;rintro e w2 ⟨rfl,hb2⟩))
      go_ret2
      exact ⟨_,[],90,rfl,hq.out,OwnS.nil _ _,(fun x hx=>by cases hx),hBd.trans (hb2.mono hBd.size)⟩
  · obtain rfl : k = n:=by omega
    have hki : ¬ (k : Int) < (k : Int):=by omega
    have hset : Hid (∀ x ∈ L,IsSet x.labs):=fun x hx=>by
     obtain ⟨j,hj,rfl⟩:=List.getElem_of_mem hx
     have:=hall.out j (by rw [hn.out];exact hj)
     rw [List.getD_eq_getElem?_getD,List.getElem?_eq_getElem hj] at this
     exact this
    clear hall
    go_wp2
    go_loopw [5] (fun i wr=>∃ j : Nat,j ≤ k∧i = .int .i64 j∧Hid (∀ t,t < j→IsV (L.getD t se0).v)∧Hid (Below w.heap.size w wr)) (fun i _=>k - (intOf i).toNat)
    case atStart=>exact ⟨0,Nat.zero_le _,rfl,fun j hj=>absurd hj (Nat.not_lt_zero _),hB⟩
    case round =>
     clear hB hBd
     obtain ⟨j,hj,rfl,hall,hB⟩:=hrel
     have hBd:=hB.out
     by_cases hlt : j < k
     · have hji : (j : Int) < (k : Int):=by omega
       have hkL : j < L.length:=by rw [← hn.out];exact hlt
       obtain ⟨b,o,rfl,x0,x1,x2⟩:=sr_at (Sls.grow hv.out hBd) j hkL
       have hxL:=hmL.out j hkL
       have hcall:=ris_any (L.getD j se0).v wr
       by_cases hs : IsV (L.getD j se0).v
       · have hall2 : Hid (∀ t,t < j + 1→IsV (L.getD t se0).v):=fun t ht=>by
          by_cases e : t = j
          · rw [e];exact hs
          · exact hall.out t (by omega)
         rw [show isB (L.getD j se0).v = true from decide_eq_true hs] at hcall
         clear hs hxL
         generalize L.getD j se0 = x at *
         unfold vlV at hcall
         go_wp2_with (first | (go_at_call 54;refine hcall.mono ?_;rintro e w2 ⟨rfl,hb2⟩))
         refine ⟨⟨j + 1,by omega,by go_num,hall2,hBd.trans (hb2.mono hBd.size)⟩,?_⟩
         simp [intOf];omega
       · have hq : Hid (Series10.SortQ (L.map serOf) [] 80):=.inr (.inl ⟨fun a ha=>by obtain ⟨x,hx,rfl⟩:=List.mem_map.1 ha;exact hset.out x hx,⟨serOf (L.getD j se0),List.mem_map.2 ⟨_,hxL,rfl⟩,hs⟩,rfl,rfl⟩)
         rw [show isB (L.getD j se0).v = false from decide_eq_false hs] at hcall
         clear hs hxL
         generalize L.getD j se0 = x at *
         unfold vlV at hcall
         go_wp2_with (first | (go_at_call 54;refine hcall.mono ?_;rintro e w2 ⟨rfl,hb2⟩))
         go_ret2
         exact ⟨_,[],80,rfl,hq.out,OwnS.nil _ _,(fun x hx=>by cases hx),hBd.trans (hb2.mono hBd.size)⟩
     · obtain rfl : j = k:=by omega
       have hji : ¬ (j : Int) < (j : Int):=by omega
       have hvs : Hid (∀ x ∈ L,IsV x.v):=fun x hx=>by
        obtain ⟨t,ht,rfl⟩:=List.getElem_of_mem hx
        have:=hall.out t (by rw [hn.out];exact ht)
        rw [List.getD_eq_getElem?_getD,List.getElem?_eq_getElem ht] at this
        exact this
       clear hall
       go_wp2
       go_loopw [6,7] (fun u i ws=>∃ (t : Nat) (out : List Se),t ≤ j∧i = .int .i64 t∧Hid (Series10.Rise (out.map serOf))∧Hid (out.Perm (L.take t))∧Hid (OwnR ws w.heap.size u out)∧Hid (Below w.heap.size w ws)) (fun _ i _=>j - (intOf i).toNat)
       case atStart=>exact ⟨0,[],Nat.zero_le _,rfl,List.Pairwise.nil,List.Perm.refl _,OwnS.nil _ _,hB⟩
       case round =>
        clear hB hBd
        obtain ⟨t,out,ht,rfl,hri,hpm,ho,hB⟩:=hrel
        obtain ⟨w0,hw0⟩ : ∃ w0,w0 = wr:=⟨_,rfl⟩
        subst hw0
        have hBd:=hB.out
        have hol : Hid (out.length = t):=by show _ = _;rw [hpm.out.length_eq,List.length_take,← hn.out];omega
        have hmem : Hid (∀ x ∈ out,x ∈ L):=fun x hx=>List.mem_of_mem_take (hpm.out.mem_iff.1 hx)
        by_cases hlt : t < j
        · have hti : (t : Int) < (j : Int):=by omega
          have hkL : t < L.length:=by rw [← hn.out];exact hlt
          obtain ⟨b,o,rfl,x0,x1,x2⟩:=sr_at (Sls.grow hv.out hBd) t hkL
          obtain ⟨a5,c5,e5⟩:=ho.out.shape
          subst e5
          have hxL:=hmL.out t hkL
          have hon : out.length ≤ 1000000:=by rw [hol.out];omega
          replace hxL : Hid (L.getD t se0 ∈ L):=hxL
          go_wp2
          go_loopw [8] (fun i ws=>∃ k : Nat,k ≤ out.length∧i = .int .i64 k∧Hid (∀ q,q < k→Series10.Slt (serOf (out.getD q se0)) (serOf (L.getD t se0)))∧Hid (Below w0.heap.size w0 ws)) (fun i _=>out.length - (intOf i).toNat)
          case atStart=>exact ⟨0,Nat.zero_le _,rfl,fun q hq=>absurd hq (Nat.not_lt_zero _),Below.refl _ _⟩
          case round =>
           obtain ⟨k,hk,rfl,hlow,hBs⟩:=hrel
           by_cases hlt3 : k < out.length
           · have hki : (k : Int) < (out.length : Int):=by omega
             obtain ⟨b5,o5,rfl,y0,y1,y2⟩:=sr_at ho.out.sls k hlt3
             have hyL : out.getD k se0 ∈ L:=hmem.out _ (lgetD_mem out se0 k hlt3)
             have hsx:=hset.out _ hxL.out
             have hsy:=hset.out _ hyL
             have hlx:=(hin.out _ hxL.out).grow hBd
             have hly:=(hin.out _ hyL).grow hBd
             have hcall : ∀ W,Below w0.heap.size w0 W→∀ p : Bel W,Calls Tryz.prog 77 #[.slice (out.getD k se0).a (out.getD k se0).n (out.getD k se0).c,.slice (L.getD t se0).a (L.getD t se0).n (L.getD t se0).c] p.W fun e w'=>e = .returned (.int .i64 (cmpS (out.getD k se0).labs (L.getD t se0).labs))∧Below p.W.heap.size p.W w':=fun W h p=>rcompare_any _ _ _ _ _ (hly.grow (h.trans (p.h.mono h.size))) (hlx.grow (h.trans (p.h.mono h.size))) (by have:=hsy.2.2;omega) (by have:=hsx.2.2;omega)
             have cx : ∀ W,Below w0.heap.size w0 W→∀ p : Bel W,p.W.cell? ⟨b,o + t * 3,none⟩ = some (.slice (L.getD t se0).a (L.getD t se0).n (L.getD t se0).c):=fun W h p=>p.cell ((h.cell (p:=⟨b,_,none⟩) (World.block_lt_of_cell? w0 _ x0)).trans x0)
             have cy : ∀ W,Below w0.heap.size w0 W→∀ p : Bel W,p.W.cell? ⟨b5,o5 + k * 3,none⟩ = some (.slice (out.getD k se0).a (out.getD k se0).n (out.getD k se0).c):=fun W h p=>p.cell ((h.cell (p:=⟨b5,_,none⟩) (World.block_lt_of_cell? w0 _ y0)).trans y0)
             have hd : cmpS (out.getD k se0).labs (L.getD t se0).labs = cmpS (serOf (out.getD k se0)).labels (serOf (L.getD t se0)).labels:=rfl
             have hyes : Hid (cmpS (out.getD k se0).labs (L.getD t se0).labs < 0→∀ q,q < k + 1→Series10.Slt (serOf (out.getD q se0)) (serOf (L.getD t se0))):=fun h q hq=>by
              by_cases e : q = k
              · rw [e];unfold Series10.Slt;rw [← hd];rcases cmpS_in (out.getD k se0).labs (L.getD t se0).labs with h1 | h1 | h1
                · exact h1
                · omega
                · omega
              · exact hlow.out q (by omega)
             have hthere : Hid (cmpS (out.getD k se0).labs (L.getD t se0).labs = 0→Series10.SortQ (L.map serOf) [] 8):=fun h=>.inr (.inr (.inl ⟨fun a ha=>by obtain ⟨x,hx,rfl⟩:=List.mem_map.1 ha;exact hset.out x hx,fun a ha=>by obtain ⟨x,hx,rfl⟩:=List.mem_map.1 ha;exact hvs.out x hx,sthere_apart hpm.out hkL hlt3 (cmpS_eq.1 h),rfl,rfl⟩))
             have hins : Hid (¬ cmpS (out.getD k se0).labs (L.getD t se0).labs < 0→cmpS (out.getD k se0).labs (L.getD t se0).labs ≠ 0→Series10.Rise ((out.take k ++ L.getD t se0 :: out.drop k).map serOf)):=fun h1 h2=>sins_rise hri.out (by omega) hlow.out (fun _=>slt_of h1 h2)
             clear hd hsx hsy hlx hly hyL
             have hpl : Hid ((out.take k ++ L.getD t se0 :: out.drop k).Perm (L.take (t + 1))):=by
              show List.Perm _ _
              rw [ltake_getD L se0 t hkL]
              exact sins_perm hpm.out
             clear hlow
             generalize out.getD k se0 = y at *
             generalize L.getD t se0 = x at *
             generalize cmpS y.labs x.labs = C at *
             replace x0 : Hid _:=x0
             replace x1 : Hid _:=x1
             replace x2 : Hid _:=x2
             replace cx : Hid _:=cx
             replace cy : Hid _:=cy
             replace hcall : Hid _:=hcall
             clear y0 y1 y2
             have hBz:=hBs.out
             have hcx:=cx.out _ hBz
             have hcy:=cy.out _ hBz
             have hcl:=hcall.out _ hBz
             by_cases hc1 : C < 0
             · have hy2 : Hid (∀ q,q < k + 1→Series10.Slt (serOf (out.getD q se0)) (serOf x)):=hyes.out hc1
               go_wp2
               refine wp_region_bel (by kernel_rfl) (by kernel_rfl) ?_
               repeat (go_big_quiet_step (exact Calls.bel (hcl _)))
               refine wpQuiet_nil ?_
               rintro W ⟨p,rfl⟩
               go_wp2
               refine ⟨⟨k + 1,by omega,by go_num,hy2,hBz.trans (p.h.mono hBz.size)⟩,?_⟩
               simp [intOf];omega
             · go_wp2
               refine wp_region_bel (by kernel_rfl) (by kernel_rfl) ?_
               repeat (go_big_quiet_step (exact Calls.bel (hcl _)))
               refine wpQuiet_nil ?_
               rintro W ⟨p,rfl⟩
               have hBy:=hBz.trans (p.h.mono hBz.size)
               replace hcx:=cx.out _ hBy
               replace hcy:=cy.out _ hBy
               replace hcl:=hcall.out _ hBy
               by_cases hc2 : C = 0
               · have hq8 : Hid (Series10.SortQ (L.map serOf) [] 8):=hthere.out hc2
                 subst hc2
                 go_wp2
                 refine wp_region_bel (by kernel_rfl) (by kernel_rfl) ?_
                 repeat (go_big_quiet_step (exact Calls.bel (hcl _)))
                 refine wpQuiet_nil ?_
                 rintro W2 ⟨p2,rfl⟩
                 go_wp2
                 go_ret2
                 have hB2:=hBd.trans ((hBy.trans (p2.h.mono hBy.size)).mono hBd.size)
                 exact ⟨_,[],8,rfl,hq8.out,OwnS.nil _ _,(fun x hx=>by cases hx),hB2⟩
               · have hc3 : (C == 0) = false:=by simpa using hc2
                 have hr2 : Hid (Series10.Rise ((out.take k ++ x :: out.drop k).map serOf)):=hins.out hc1 hc2
                 go_wp2
                 refine wp_region_bel (by kernel_rfl) (by kernel_rfl) ?_
                 repeat (go_big_quiet_step (exact Calls.bel (hcl _)))
                 refine wpQuiet_nil ?_
                 rintro W2 ⟨p2,rfl⟩
                 have hB2:=hBy.trans (p2.h.mono hBy.size)
                 go_wp2
                 generalize hWs : p2.W = ws at hB2 ⊢
                 have ho2:=ho.out.stay hB2
                 have hBw:=hBd.trans (hB2.mono hBd.size)
                 have hz0:=(hB2.cell (p:=⟨b,o + t * 3,none⟩) (World.block_lt_of_cell? w0 _ x0.out)).trans x0.out
                 have hz1:=(hB2.cell (p:=⟨b,o + t * 3 + 1,none⟩) (World.block_lt_of_cell? w0 _ x1.out)).trans x1.out
                 have hz2:=(hB2.cell (p:=⟨b,o + t * 3 + 2,none⟩) (World.block_lt_of_cell? w0 _ x2.out)).trans x2.out
                 clear hWs x0 x1 x2 
                 generalize Value.slice (some ⟨b5,o5,none⟩) out.length c5 = u5 at ho2 ⊢
                 obtain ⟨v1,hto,hl1⟩:=srs_to ho2.sls k hk
                 obtain ⟨v2,hfr,hl2⟩:=srs_from ho2.sls k hk
                 have hlen1 : (out.take k).length ≤ 1000000:=by rw [List.length_take];omega
                 have hlen2 : (out.drop k).length ≤ 1000000:=by rw [List.length_drop];omega
                 generalize out.take k = L1 at *
                 generalize out.drop k = L2 at *
                 obtain ⟨xa,xn,xc,xl,xv⟩:=x
                 simp only at hz0 hz1 hz2
                 obtain ⟨cs,hcs⟩ : ∃ cs : Array Value,Hid (cs = #[.slice xa xn xc,.int .i64 xv.kind,.int .i64 xv.n]):=⟨_,rfl⟩
                 have hS : ∀ W,Below ws.heap.size ws W→W.cell? ⟨b,o + t * 3,none⟩ = some (.slice xa xn xc)∧W.cell? ⟨b,o + t * 3 + 1,none⟩ = some (.int .i64 xv.kind)∧W.cell? ⟨b,o + t * 3 + 2,none⟩ = some (.int .i64 xv.n):=fun W h=>⟨(h.cell (p:=⟨b,_,none⟩) (World.block_lt_of_cell? ws _ hz0)).trans hz0,(h.cell (p:=⟨b,_,none⟩) (World.block_lt_of_cell? ws _ hz1)).trans hz1,(h.cell (p:=⟨b,_,none⟩) (World.block_lt_of_cell? ws _ hz2)).trans hz2⟩
                 have hone : ∀ W : World,Srs (W.alloc (.cells #[.slice xa xn xc,.int .i64 xv.kind,.int .i64 xv.n] 86)) (.slice (some ⟨W.heap.size,0,none⟩) 1 1) [⟨xa,xn,xc,xl,xv⟩]:=fun W=>sls_one W _ _ _ rfl
                 have bA : Below ws.heap.size ws (ws.alloc (.cells #[] 86)).drew:=((Below.refl _ _).alloc (Nat.le_refl _) _).drew
                 have bB : Below ws.heap.size ws ((ws.alloc (.cells #[] 86)).alloc (.cells #[.slice xa xn xc,.int .i64 xv.kind,.int .i64 xv.n] 86)).drew:=(((Below.refl _ _).alloc (Nat.le_refl _) _).alloc (by simp) _).drew
                 have bC : Below ws.heap.size ws ((ws.alloc (.cells #[.slice xa xn xc,.int .i64 xv.kind,.int .i64 xv.n] 86)).alloc (.cells #[] 86)).drew:=(((Below.refl _ _).alloc (Nat.le_refl _) _).alloc (by simp) _).drew
                 have oA : OwnR (ws.alloc (.cells #[] 86)).drew ws.heap.size (.slice (some ⟨ws.heap.size,0,none⟩) 0 0) []:=own_empty (T:=TR) ws ws.heap.size (Nat.le_refl _)
                 have oB : OwnR ((ws.alloc (.cells #[] 86)).alloc (.cells #[.slice xa xn xc,.int .i64 xv.kind,.int .i64 xv.n] 86)).drew ws.heap.size (.slice (some ⟨ws.heap.size,0,none⟩) 0 0) []:=OwnS.alloc (own_empty (T:=TR) ws ws.heap.size (Nat.le_refl _)) _
                 have oC : OwnR ((ws.alloc (.cells #[.slice xa xn xc,.int .i64 xv.kind,.int .i64 xv.n] 86)).alloc (.cells #[] 86)).drew ws.heap.size (.slice (some ⟨ws.heap.size + 1,0,none⟩) 0 0) []:=by
                  have:=own_empty (T:=TR) (ws.alloc (.cells #[.slice xa xn xc,.int .i64 xv.kind,.int .i64 xv.n] 86)) ws.heap.size (by simp)
                  rw [World.size_alloc] at this
                  exact this
                 have xB : Srs ((ws.alloc (.cells #[] 86)).alloc (.cells #[.slice xa xn xc,.int .i64 xv.kind,.int .i64 xv.n] 86)).drew (.slice (some ⟨ws.heap.size + 1,0,none⟩) 1 1) [⟨xa,xn,xc,xl,xv⟩]:=by
                  have:=hone (ws.alloc (.cells #[] 86))
                  rw [World.size_alloc] at this
                  exact this
                 have xC : Srs ((ws.alloc (.cells #[.slice xa xn xc,.int .i64 xv.kind,.int .i64 xv.n] 86)).alloc (.cells #[] 86)).drew (.slice (some ⟨ws.heap.size,0,none⟩) 1 1) [⟨xa,xn,xc,xl,xv⟩]:=(hone ws).alloc _
                 go_region_held3 (fun W=>W.cell? ⟨b,o + t * 3,none⟩ = some (.slice xa xn xc)∧W.cell? ⟨b,o + t * 3 + 1,none⟩ = some (.int .i64 xv.kind)∧W.cell? ⟨b,o + t * 3 + 2,none⟩ = some (.int .i64 xv.n)) (first | go_keep | exact hS _ hB3 | exact hS _ hB4 | exact hS _ hB5 | exact hS _ (hB3.alloc hB3.size _)) (first
                  | (refine stepN TR rfl (.tmp 79) (.tmp 82) rfl ws.heap.size (.slice (some ⟨ws.heap.size,0,none⟩) 0 0) v1 [] L1 rfl rfl oA (hl1.grow bA) bA.size (by simp;omega) ?_;intro v3 w3 ho3 hg3;rw [List.nil_append] at ho3;have hB3 : Below ws.heap.size ws w3:=bA.grown hg3 bA.size (by intro q hq;cases hq;exact Nat.le_refl _))
                  | (refine stepN TR rfl (.tmp 79) (.tmp 82) rfl ws.heap.size (.slice (some ⟨ws.heap.size,0,none⟩) 0 0) v1 [] L1 rfl rfl oB (hl1.grow bB) bB.size (by simp;omega) ?_;intro v3 w3 ho3 hg3;rw [List.nil_append] at ho3;have hB3 : Below ws.heap.size ws w3:=bB.grown hg3 bB.size (by intro q hq;cases hq;exact Nat.le_refl _);have hx3:=xB.kept hg3 (by simp [Value.ownBlock]))
                  | (refine stepN TR rfl (.tmp 79) (.tmp 82) rfl ws.heap.size (.slice (some ⟨ws.heap.size + 1,0,none⟩) 0 0) v1 [] L1 rfl rfl oC (hl1.grow bC) bC.size (by simp;omega) ?_;intro v3 w3 ho3 hg3;rw [List.nil_append] at ho3;have hB3 : Below ws.heap.size ws w3:=bC.grown hg3 bC.size (by intro q hq;cases hq;exact Nat.le_succ _);have hx3:=xC.kept hg3 (by simp [Value.ownBlock]))
                  | (refine stepN TR rfl (.tmp 83) (.tmp 88) rfl ws.heap.size v3 (.slice (some ⟨w3.heap.size,0,none⟩) 1 1) L1 [⟨xa,xn,xc,xl,xv⟩] rfl rfl (ho3.alloc _) (hone w3) (hB3.alloc hB3.size _).size (by simp;omega) ?_;intro v4 w4 ho4 hg4;have hB4 : Below ws.heap.size ws w4:=(hB3.alloc hB3.size _).grown hg4 (hB3.alloc hB3.size _).size (fun q hq=>(ho3.lt q hq).1))
                  | (refine stepN TR rfl (.tmp 83) (.tmp 88) rfl ws.heap.size v3 _ L1 [⟨xa,xn,xc,xl,xv⟩] rfl rfl ho3 hx3 hB3.size (by simp;omega) ?_;intro v4 w4 ho4 hg4;have hB4 : Below ws.heap.size ws w4:=hB3.grown hg4 hB3.size (fun q hq=>(ho3.lt q hq).1))
                  | (refine stepN TR rfl (.tmp 89) (.tmp 92) rfl ws.heap.size v4 v2 _ L2 rfl rfl ho4 (hl2.grow hB4) hB4.size (by simp;omega) ?_;intro v5 w5 ho5 hg5;have hB5 : Below ws.heap.size ws w5:=hB4.grown hg5 hB4.size (fun q hq=>(ho4.lt q hq).1)))
                 all_goals
                  go_wp2
                  refine ⟨⟨t + 1,L1 ++ [⟨xa,xn,xc,xl,xv⟩] ++ L2,by omega,by go_num,?_,?_,OwnS.wide ho5 hBw.size,hBw.trans (hB5.mono hBw.size)⟩,?_⟩
                  · have:=hr2.out
                    show Series10.Rise _
                    simpa using this
                  · have:=hpl.out
                    show List.Perm _ _
                    simpa using this
                  · simp [intOf];omega
           · have hki : ¬ (k : Int) < (out.length : Int):=by omega
             have hr2 : Hid (Series10.Rise ((out.take k ++ L.getD t se0 :: out.drop k).map serOf)):=sins_rise hri.out hk hlow.out (fun h=>absurd h hlt3)
             have hpl : Hid ((out.take k ++ L.getD t se0 :: out.drop k).Perm (L.take (t + 1))):=by
              show List.Perm _ _
              rw [ltake_getD L se0 t hkL]
              exact sins_perm hpm.out
             clear hlow
             generalize L.getD t se0 = x at *
             replace x0 : Hid _:=x0
             replace x1 : Hid _:=x1
             replace x2 : Hid _:=x2
             have hBz:=hBs.out
             go_wp2
             go_quiet (fail)
             rename Nat=>nq1
             go_wp2
             go_quiet (fail)
             go_wp2
             have hB2 : Below w0.heap.size w0 ((wr.drewN nq1).drewN nq):=below_drewN (below_drewN hBz _) _
             generalize hWs : (wr.drewN nq1).drewN nq = ws at hB2 ⊢
             have ho2:=ho.out.stay hB2
             have hBw:=hBd.trans (hB2.mono hBd.size)
             have hz0:=(hB2.cell (p:=⟨b,o + t * 3,none⟩) (World.block_lt_of_cell? w0 _ x0.out)).trans x0.out
             have hz1:=(hB2.cell (p:=⟨b,o + t * 3 + 1,none⟩) (World.block_lt_of_cell? w0 _ x1.out)).trans x1.out
             have hz2:=(hB2.cell (p:=⟨b,o + t * 3 + 2,none⟩) (World.block_lt_of_cell? w0 _ x2.out)).trans x2.out
             clear hWs x0 x1 x2 
             generalize Value.slice a5 out.length c5 = u5 at ho2 ⊢
             obtain ⟨v1,hto,hl1⟩:=srs_to ho2.sls k hk
             obtain ⟨v2,hfr,hl2⟩:=srs_from ho2.sls k hk
             have hlen1 : (out.take k).length ≤ 1000000:=by rw [List.length_take];omega
             have hlen2 : (out.drop k).length ≤ 1000000:=by rw [List.length_drop];omega
             generalize out.take k = L1 at *
             generalize out.drop k = L2 at *
             obtain ⟨xa,xn,xc,xl,xv⟩:=x
             simp only at hz0 hz1 hz2
             obtain ⟨cs,hcs⟩ : ∃ cs : Array Value,Hid (cs = #[.slice xa xn xc,.int .i64 xv.kind,.int .i64 xv.n]):=⟨_,rfl⟩
             have hS : ∀ W,Below ws.heap.size ws W→W.cell? ⟨b,o + t * 3,none⟩ = some (.slice xa xn xc)∧W.cell? ⟨b,o + t * 3 + 1,none⟩ = some (.int .i64 xv.kind)∧W.cell? ⟨b,o + t * 3 + 2,none⟩ = some (.int .i64 xv.n):=fun W h=>⟨(h.cell (p:=⟨b,_,none⟩) (World.block_lt_of_cell? ws _ hz0)).trans hz0,(h.cell (p:=⟨b,_,none⟩) (World.block_lt_of_cell? ws _ hz1)).trans hz1,(h.cell (p:=⟨b,_,none⟩) (World.block_lt_of_cell? ws _ hz2)).trans hz2⟩
             have hone : ∀ W : World,Srs (W.alloc (.cells #[.slice xa xn xc,.int .i64 xv.kind,.int .i64 xv.n] 86)) (.slice (some ⟨W.heap.size,0,none⟩) 1 1) [⟨xa,xn,xc,xl,xv⟩]:=fun W=>sls_one W _ _ _ rfl
             have bA : Below ws.heap.size ws (ws.alloc (.cells #[] 86)).drew:=((Below.refl _ _).alloc (Nat.le_refl _) _).drew
             have bB : Below ws.heap.size ws ((ws.alloc (.cells #[] 86)).alloc (.cells #[.slice xa xn xc,.int .i64 xv.kind,.int .i64 xv.n] 86)).drew:=(((Below.refl _ _).alloc (Nat.le_refl _) _).alloc (by simp) _).drew
             have bC : Below ws.heap.size ws ((ws.alloc (.cells #[.slice xa xn xc,.int .i64 xv.kind,.int .i64 xv.n] 86)).alloc (.cells #[] 86)).drew:=(((Below.refl _ _).alloc (Nat.le_refl _) _).alloc (by simp) _).drew
             have oA : OwnR (ws.alloc (.cells #[] 86)).drew ws.heap.size (.slice (some ⟨ws.heap.size,0,none⟩) 0 0) []:=own_empty (T:=TR) ws ws.heap.size (Nat.le_refl _)
             have oB : OwnR ((ws.alloc (.cells #[] 86)).alloc (.cells #[.slice xa xn xc,.int .i64 xv.kind,.int .i64 xv.n] 86)).drew ws.heap.size (.slice (some ⟨ws.heap.size,0,none⟩) 0 0) []:=OwnS.alloc (own_empty (T:=TR) ws ws.heap.size (Nat.le_refl _)) _
             have oC : OwnR ((ws.alloc (.cells #[.slice xa xn xc,.int .i64 xv.kind,.int .i64 xv.n] 86)).alloc (.cells #[] 86)).drew ws.heap.size (.slice (some ⟨ws.heap.size + 1,0,none⟩) 0 0) []:=by
              have:=own_empty (T:=TR) (ws.alloc (.cells #[.slice xa xn xc,.int .i64 xv.kind,.int .i64 xv.n] 86)) ws.heap.size (by simp)
              rw [World.size_alloc] at this
              exact this
             have xB : Srs ((ws.alloc (.cells #[] 86)).alloc (.cells #[.slice xa xn xc,.int .i64 xv.kind,.int .i64 xv.n] 86)).drew (.slice (some ⟨ws.heap.size + 1,0,none⟩) 1 1) [⟨xa,xn,xc,xl,xv⟩]:=by
              have:=hone (ws.alloc (.cells #[] 86))
              rw [World.size_alloc] at this
              exact this
             have xC : Srs ((ws.alloc (.cells #[.slice xa xn xc,.int .i64 xv.kind,.int .i64 xv.n] 86)).alloc (.cells #[] 86)).drew (.slice (some ⟨ws.heap.size,0,none⟩) 1 1) [⟨xa,xn,xc,xl,xv⟩]:=(hone ws).alloc _
             go_region_held3 (fun W=>W.cell? ⟨b,o + t * 3,none⟩ = some (.slice xa xn xc)∧W.cell? ⟨b,o + t * 3 + 1,none⟩ = some (.int .i64 xv.kind)∧W.cell? ⟨b,o + t * 3 + 2,none⟩ = some (.int .i64 xv.n)) (first | go_keep | exact hS _ hB3 | exact hS _ hB4 | exact hS _ hB5 | exact hS _ (hB3.alloc hB3.size _)) (first
              | (refine stepN TR rfl (.tmp 79) (.tmp 82) rfl ws.heap.size (.slice (some ⟨ws.heap.size,0,none⟩) 0 0) v1 [] L1 rfl rfl oA (hl1.grow bA) bA.size (by simp;omega) ?_;intro v3 w3 ho3 hg3;rw [List.nil_append] at ho3;have hB3 : Below ws.heap.size ws w3:=bA.grown hg3 bA.size (by intro q hq;cases hq;exact Nat.le_refl _))
              | (refine stepN TR rfl (.tmp 79) (.tmp 82) rfl ws.heap.size (.slice (some ⟨ws.heap.size,0,none⟩) 0 0) v1 [] L1 rfl rfl oB (hl1.grow bB) bB.size (by simp;omega) ?_;intro v3 w3 ho3 hg3;rw [List.nil_append] at ho3;have hB3 : Below ws.heap.size ws w3:=bB.grown hg3 bB.size (by intro q hq;cases hq;exact Nat.le_refl _);have hx3:=xB.kept hg3 (by simp [Value.ownBlock]))
              | (refine stepN TR rfl (.tmp 79) (.tmp 82) rfl ws.heap.size (.slice (some ⟨ws.heap.size + 1,0,none⟩) 0 0) v1 [] L1 rfl rfl oC (hl1.grow bC) bC.size (by simp;omega) ?_;intro v3 w3 ho3 hg3;rw [List.nil_append] at ho3;have hB3 : Below ws.heap.size ws w3:=bC.grown hg3 bC.size (by intro q hq;cases hq;exact Nat.le_succ _);have hx3:=xC.kept hg3 (by simp [Value.ownBlock]))
              | (refine stepN TR rfl (.tmp 83) (.tmp 88) rfl ws.heap.size v3 (.slice (some ⟨w3.heap.size,0,none⟩) 1 1) L1 [⟨xa,xn,xc,xl,xv⟩] rfl rfl (ho3.alloc _) (hone w3) (hB3.alloc hB3.size _).size (by simp;omega) ?_;intro v4 w4 ho4 hg4;have hB4 : Below ws.heap.size ws w4:=(hB3.alloc hB3.size _).grown hg4 (hB3.alloc hB3.size _).size (fun q hq=>(ho3.lt q hq).1))
              | (refine stepN TR rfl (.tmp 83) (.tmp 88) rfl ws.heap.size v3 _ L1 [⟨xa,xn,xc,xl,xv⟩] rfl rfl ho3 hx3 hB3.size (by simp;omega) ?_;intro v4 w4 ho4 hg4;have hB4 : Below ws.heap.size ws w4:=hB3.grown hg4 hB3.size (fun q hq=>(ho3.lt q hq).1))
              | (refine stepN TR rfl (.tmp 89) (.tmp 92) rfl ws.heap.size v4 v2 _ L2 rfl rfl ho4 (hl2.grow hB4) hB4.size (by simp;omega) ?_;intro v5 w5 ho5 hg5;have hB5 : Below ws.heap.size ws w5:=hB4.grown hg5 hB4.size (fun q hq=>(ho4.lt q hq).1)))
             all_goals
              go_wp2
              refine ⟨⟨t + 1,L1 ++ [⟨xa,xn,xc,xl,xv⟩] ++ L2,by omega,by go_num,?_,?_,OwnS.wide ho5 hBw.size,hBw.trans (hB5.mono hBw.size)⟩,?_⟩
              · have:=hr2.out
                show Series10.Rise _
                simpa using this
              · have:=hpl.out
                show List.Perm _ _
                simpa using this
              · simp [intOf];omega
        · obtain rfl : t = j:=by omega
          have hti : ¬ (t : Int) < (t : Int):=by omega
          obtain ⟨a5,c5,rfl⟩:=ho.out.shape
          have hall : Hid (out.Perm L):=by
           have:=hpm.out
           rw [List.take_of_length_le (by rw [← hn.out];omega)] at this
           exact this
          have hs1 : ∀ a ∈ L.map serOf,IsSet a.labels:=fun a ha=>by obtain ⟨x,hx,rfl⟩:=List.mem_map.1 ha;exact hset.out x hx
          have hs2 : ∀ a ∈ L.map serOf,IsV a.value:=fun a ha=>by obtain ⟨x,hx,rfl⟩:=List.mem_map.1 ha;exact hvs.out x hx
          have hon : out.length ≤ 1000000:=by rw [hol.out];omega
          by_cases h16 : 200 < out.length
          · have hQ : Hid (Series10.SortQ (L.map serOf) [] 6):=.inr (.inr (.inr (.inl ⟨hs1,hs2,hri.out.apart.perm (hall.out.map serOf),by rw [List.length_map,← hall.out.length_eq];exact h16,rfl,rfl⟩)))
            have h16i : (200 : Int) < (out.length : Int):=by omega
            clear hs1 hs2
            go_wp2
            go_ret2
            exact ⟨_,[],6,rfl,hQ.out,OwnS.nil _ _,(fun x hx=>by cases hx),hBd⟩
          · have hQ : Hid (Series10.SortQ (L.map serOf) (out.map serOf) 0):=.inr (.inr (.inr (.inr ⟨hs1,hs2,by rw [List.length_map,← hall.out.length_eq];omega,rfl,hri.out,hall.out.map serOf⟩)))
            have h16i : ¬ (200 : Int) < (out.length : Int):=by omega
            clear hs1 hs2
            go_wp2
            go_ret2
            exact ⟨_,out,0,rfl,hQ.out,ho.out,hmem.out,hBd⟩
end Go.Proofs.YtdhlfpgibfaimaaGreatDoor
