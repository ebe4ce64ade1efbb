/- Uj;Ua. -/
import Derived.Test.YtdhlfpgibfaimaaGreatDoorOcUm
import Derived.Test.YtdhlfpgibfaimaaGreatDoorUh
import Derived.Test.YtdhlfpgibfaimaaGreatDoorWoWq
import Derived.Test.YtdhlfpgibfaimaaGreatDoorRmRp
import Derived.Test.YtdhlfpgibfaimaaGreatDoorSaSbSd

set_option maxRecDepth 100000
set_option maxHeartbeats 8000000
set_option linter.unusedVariables false
namespace Go.Proofs.YtdhlfpgibfaimaaGreatDoor
open Go.RowKit
def RMapR (op : ByteArray) (L : List Se) (w : World) (e : Ending) (w' : World) : Prop :=
 ∃ (vo : Value) (l : List Se) (er : Int),e = .returned (.tuple #[vo,.int .i64 er])∧MapT op (L.map serOf) (l.map serOf) er∧OwnR w' w.heap.size vo l∧(∀ x ∈ l,Lbs w' (.slice x.a x.n x.c) x.labs)∧Below w.heap.size w w'
theorem rdo_row1 (op : ByteArray) (a : Vl) (w : World) : Calls Tryz.prog 55 #[.string op,.slice (some ⟨w.heap.size,0,none⟩) 1 1] (w.alloc (.cells #[.int .i64 a.kind,.int .i64 a.n] 24)) fun e w'=>e = .returned (.tuple #[.agg #[.int .i64 (doV op [a]).kind,.int .i64 (doV op [a]).n],.int .i64 (doE op [a])])∧Below w.heap.size w w' :=
 (rdo_any op _ [a] _ (row1V w a) (by simp)).mono fun e w' ⟨h,hb⟩=>⟨h,(bW0 w _).trans (hb.mono (by simp))⟩
theorem rdo_row2 (op : ByteArray) (a b : Vl) (w : World) : Calls Tryz.prog 55 #[.string op,.slice (some ⟨w.heap.size,0,none⟩) 2 2] (w.alloc (.cells #[.int .i64 a.kind,.int .i64 a.n,.int .i64 b.kind,.int .i64 b.n] 24)) fun e w'=>e = .returned (.tuple #[.agg #[.int .i64 (doV op [a,b]).kind,.int .i64 (doV op [a,b]).n],.int .i64 (doE op [a,b])])∧Below w.heap.size w w' :=
 (rdo_any op _ [a,b] _ (row2V w a b) (by simp)).mono fun e w' ⟨h,hb⟩=>⟨h,(bW0 w _).trans (hb.mono (by simp))⟩
theorem rmap_any (op : ByteArray) (v : Value) (L : List Se) (w : World) (hv : Srs w v L) (hin : ∀ x ∈ L,Lbs w (.slice x.a x.n x.c) x.labs) (hr : ∀ x ∈ L,LbsR x.labs∧x.labs.length ≤ 4398046511104) (hl : L.length ≤ 1000000) : Calls Tryz.prog 51 #[.string op,v] w fun e w'=>RMapR op L w e w':=by
 have hso:=rsort_any v L w hv hin hr hl
 by_cases hs : ∃ out,Series10.SortQ (L.map serOf) out 0
 · have hso2 : Calls Tryz.prog 50 #[v] w fun e w'=>∃ (p : List Se) (a : Option Addr) (n c : Nat),e = .returned (.tuple #[.slice a n c,.int .i64 0])∧Hid (n = p.length∧Series10.SortQ (L.map serOf) (p.map serOf) 0∧Srs w' (.slice a n c) p∧(∀ x ∈ p,x ∈ L)∧Below w.heap.size w w'):=hso.mono fun e w' ⟨vo,p,er,he,hq,ho,hm,hb⟩=>by
    obtain ⟨out,h0⟩:=hs
    have h1:=(hq.one h0).2
    subst h1
    obtain ⟨a,c,rfl⟩:=ho.shape
    exact ⟨p,a,_,c,he,rfl,hq,ho.sls,hm,hb⟩
   clear hso
   have hdo:=fun W=>rdo_row1 op (num 0) W
   have hEE : doE op [num 0] = doE op [nul]:=doE_one_eq op num0_isV nul_isV
   have hE2:=doE_one_in op nul_isV
   obtain ⟨E0,hE0⟩ : ∃ E,Hid (E = doE op [nul]):=⟨_,rfl⟩
   rw [hEE,← hE0.out] at hdo
   rw [← hE0.out] at hE2
   clear hEE
   generalize doV op [num 0] = R0 at *
   have hnum : ∀ W : World,Calls Tryz.prog 26 #[.int .i64 0] W fun e w'=>e = .returned (.agg #[.int .i64 (num 0).kind,.int .i64 (num 0).n])∧Below W.heap.size W w':=fun W=>rnum_any 0 W
   generalize num 0 = NU at hdo hnum
   rcases hE2 with rfl | rfl
   · go_enter Tryz.func51,Tryz.ntmps51
     go_wp2_with (first
      | (go_at_call 50;refine hso2.mono ?_;rintro e w1 ⟨p,a,n,c,rfl,hall⟩;have hB1:=hall.out.2.2.2.2;have hA1:=Below.refl w1.heap.size w1)
      | (go_at_call 26;refine (hnum _).mono ?_;rintro e w2 ⟨rfl,hb2⟩;have hB2:=hB1.trans (hb2.mono hB1.size))
      | (go_at_call 55;refine (hdo _).mono ?_;rintro e w3 ⟨rfl,hb3⟩;have hB3:=hB2.trans (hb3.mono hB2.size)))
     obtain ⟨hnl,hsq,hsr,hmem,_⟩:=hall.out
     have hb13 : Below w1.heap.size w1 (w3.alloc (.cells #[.int .i64 R0.kind,.int .i64 R0.n] 24)):=(hb2.trans (hb3.mono hb2.size)).alloc (Nat.le_trans hb2.size hb3.size) _
     have hp4 : Hid (Srs (w3.alloc (.cells #[.int .i64 R0.kind,.int .i64 R0.n] 24)) (.slice a n c) p):=Sls.grow hsr hb13
     have hB4 : Hid (Below w.heap.size w (w3.alloc (.cells #[.int .i64 R0.kind,.int .i64 R0.n] 24))):=hB3.alloc hB3.size _
     have hn3 : n ≤ 1000:=by rw [hnl];exact sort_few hsq
     replace hsq : Hid (Series10.SortQ (L.map serOf) (p.map serOf) 0):=hsq
     replace hnl : Hid (n = p.length):=hnl
     replace hmem : Hid (∀ x ∈ p,x ∈ L):=hmem
     replace hin : Hid (∀ x ∈ L,Lbs w (.slice x.a x.n x.c) x.labs):=hin
     clear hall hsr hb13 hso2 hdo hnum hb2 hb3 hB1 hB2 hB3 hA1
     generalize w3.alloc (.cells #[.int .i64 R0.kind,.int .i64 R0.n] 24) = W4 at *
     go_loopw [10,11] (fun z i wr=>∃ k : Nat,k ≤ n∧i = .int .i64 k∧Hid (OwnR wr W4.heap.size z ((p.take k).map (mapS op)))∧Hid (Below W4.heap.size W4 wr)) (fun _ i _=>n - (intOf i).toNat)
     case atStart=>exact ⟨0,Nat.zero_le _,rfl,OwnS.nil _ _,Below.refl _ _⟩
     case round =>
      obtain ⟨k,hk,rfl,ho,hB⟩:=hrel
      have hBd:=hB.out
      have hsr:=Sls.grow hp4.out hBd
      by_cases hlt : k < n
      · have hki : (k : Int) < (n : Int):=by omega
        have hkl : k < p.length:=by rw [← hnl.out];exact hlt
        obtain ⟨b,o,rfl,x0,x1,x2⟩:=sr_at hsr k hkl
        have htk : Hid ((p.take (k + 1)).map (mapS op) = (p.take k).map (mapS op) ++ [mapS op (p.getD k se0)]):=by
         show _ = _
         rw [ltake_getD p se0 k hkl,List.map_append];rfl
        have hd:=fun W=>rdo_row1 op (p.getD k se0).v W
        have hlen : ((p.take k).map (mapS op)).length + 1 ≤ 1000000000:=by rw [List.length_map,List.length_take];omega
        generalize (p.take k).map (mapS op) = J at *
        generalize p.getD k se0 = x at *
        have hms : Hid (mapS op x = ⟨x.a,x.n,x.c,x.labs,doV op [x.v]⟩):=rfl
        generalize doV op [x.v] = R at *
        generalize doE op [x.v] = ER at *
        have hxc : Hid (∀ W,Below wr.heap.size wr W→W.cell? ⟨b,o + k * 3,none⟩ = some (.slice x.a x.n x.c)):=fun W h=>(h.cell (p:=⟨b,_,none⟩) (World.block_lt_of_cell? wr _ x0)).trans x0
        go_wp2_with (first
         | (go_at_call 55;refine (hd wr).mono ?_;rintro e w5 ⟨rfl,hb5⟩;have hb6:=hb5.alloc hb5.size (.cells #[.int .i64 R.kind,.int .i64 R.n] 24);have y0:=hxc.out _ hb6;have hb7:=(hb6.alloc hb6.size (.cells #[.slice x.a x.n x.c,.int .i64 R.kind,.int .i64 R.n] 86)).drew;have ho7:=ho.out.stay hb7;have hs7:=sls_one (E:=encR) (w5.alloc (.cells #[.int .i64 R.kind,.int .i64 R.n] 24)) ⟨x.a,x.n,x.c,x.labs,R⟩ #[.slice x.a x.n x.c,.int .i64 R.kind,.int .i64 R.n] 86 rfl;rw [World.size_alloc] at hs7;replace hs7:=hs7.drew;have hB7:=hBd.trans (hb7.mono hBd.size)))
        go_region_law (first
         | (refine stepR TR rfl (.tmp 48) (.tmp 56) rfl W4.heap.size _ _ _ _ J [⟨x.a,x.n,x.c,x.labs,R⟩] rfl rfl ho7 hs7 hB7.size hlen ?_;intro v8 w8 ho8 hg8))
        all_goals
         go_wp2
         refine ⟨⟨k + 1,by omega,by go_num,?_,hB7.trans (ho7.grows hB7.size hg8)⟩,?_⟩
         · show OwnR _ _ _ _
           rw [htk.out,hms.out];exact ho8
         · simp [intOf];omega
      · obtain rfl : k = n:=by omega
        have hki : ¬ (k : Int) < (k : Int):=by omega
        have h1:=ho.out
        rw [List.take_of_length_le (by rw [← hnl.out];omega)] at h1
        replace h1 : Hid (OwnR wr W4.heap.size u10 (p.map (mapS op))):=h1
        clear ho
        have hBe:=hB4.out.trans (hBd.mono hB4.out.size)
        go_wp2
        go_ret2
        exact ⟨_,p.map (mapS op),0,rfl,.inl ⟨_,hsq.out,.inl ⟨hE0.out.symm,mapS_map op p,rfl⟩⟩,OwnS.wide h1.out hB4.out.size,fun z hz=>by
         obtain ⟨y,hy,rfl⟩:=List.mem_map.1 hz
         exact (hin.out y (hmem.out y hy)).grow hBe,hBe⟩
   · go_enter Tryz.func51,Tryz.ntmps51
     go_wp2_with (first
      | (go_at_call 50;refine hso2.mono ?_;rintro e w1 ⟨p,a,n,c,rfl,hall⟩;have hB1:=hall.out.2.2.2.2;have hA1:=Below.refl w1.heap.size w1)
      | (go_at_call 26;refine (hnum _).mono ?_;rintro e w2 ⟨rfl,hb2⟩;have hB2:=hB1.trans (hb2.mono hB1.size))
      | (go_at_call 55;refine (hdo _).mono ?_;rintro e w3 ⟨rfl,hb3⟩;have hB3:=hB2.trans (hb3.mono hB2.size)))
     go_ret2
     exact ⟨_,[],2,rfl,.inl ⟨_,hall.out.2.1,.inr ⟨by rw [← hE0.out];decide,rfl,hE0.out⟩⟩,OwnS.nil _ _,(fun x hx=>by cases hx),hB3.alloc hB3.size _⟩
 · have hso3 : Calls Tryz.prog 50 #[v] w fun e w'=>∃ (er : Int) (vo : Value),e = .returned (.tuple #[vo,.int .i64 er])∧(er != 0) = true∧Hid (Series10.SortQ (L.map serOf) [] er)∧Below w.heap.size w w':=hso.mono fun e w' ⟨vo,p,er,he,hq,ho,hm,hb⟩=>by
    have hne : er ≠ 0:=fun h=>hs ⟨_,h ▸ hq⟩
    have:=hq.none hne
    rw [this] at hq
    exact ⟨er,vo,he,by simpa using hne,hq,hb⟩
   clear hso
   go_enter Tryz.func51,Tryz.ntmps51
   go_wp2_with (first
    | (go_at_call 50;refine hso3.mono ?_;rintro e w1 ⟨er,vo,rfl,hne,hq,hB1⟩))
   go_ret2
   exact ⟨_,[],er,rfl,.inr ⟨by simpa using hne,hq.out,rfl⟩,OwnS.nil _ _,(fun x hx=>by cases hx),hB1⟩
end Go.Proofs.YtdhlfpgibfaimaaGreatDoor

set_option maxRecDepth 100000
set_option maxHeartbeats 4000000
set_option linter.unusedVariables false
namespace Go.Proofs.YtdhlfpgibfaimaaGreatDoor
open Go.RowKit
theorem rdo38 (op : ByteArray) (a b : Vl) (w : World) : Calls Tryz.prog 79 #[.string op,vlV a,vlV b] w fun e w'=>e = .returned (vlV (doV op [a,b]))∧Below w.heap.size w w':=by
 obtain ⟨W,hW⟩ : ∃ W,W = ((w.alloc (vlO a)).alloc (vlO b)).alloc (vlO zer):=⟨_,rfl⟩
 have hO : Below w.heap.size w W:=by rw [hW];exact (below2 w _ _).alloc (below2 w _ _).size _
 have h6 : VlAt W (w.heap.size + 2) zer:=by
  rw [hW];have:=vlNew ((w.alloc (vlO a)).alloc (vlO b)) zer;simpa using this
 have hs : W.heap.size = w.heap.size + 3:=by rw [hW];simp
 have hB : Below W.heap.size W (W.alloc (.cells #[.int .i64 a.kind,.int .i64 a.n,.int .i64 b.kind,.int .i64 b.n] 24)):=bW0 W _
 have hd:=(rdo_any op _ [a,b] _ (row2V W a b) (by simp)).mono (R':=fun e w'=>e = .returned (.tuple #[vlV (doV op [a,b]),.int .i64 (doE op [a,b])])∧Below w.heap.size w w'∧VlAt w' (w.heap.size + 2) zer) fun e w1 ⟨h,hb1⟩=>by
  have hB1:=hB.trans (hb1.mono hB.size)
  exact ⟨h,hO.trans (hB1.mono hO.size),h6.grow hB1⟩
 generalize doV op [a,b] = R at *
 generalize doE op [a,b] = E at *
 rw [hs] at hd
 subst hW
 clear hB h6 hO hs
 unfold vlO vlV at *
 simp only [zer] at hd
 go_enter Tryz.func79,Tryz.ntmps79
 go_wp2_with (first
  | (go_at_call 55;refine hd.mono ?_;rintro e w1 ⟨rfl,hB1,k6⟩;obtain ⟨c0,c1⟩:=k6.cells;obtain ⟨f0,f1⟩:=k6.frozen;have hz : w.heap.size + 2 < w1.heap.size:=k6.lt))
 refine ret_cell (v:=R) Tryz.results79 rfl ((vlSet k6).alloc _) ⟨rfl,?_⟩
 exact (belTwo _ _ hB1 (by omega)).alloc (belTwo _ _ hB1 (by omega)).size _
end Go.Proofs.YtdhlfpgibfaimaaGreatDoor
