/- SqSr;SsSw. -/
import Derived.Test.YtdhlfpgibfaimaaGreatDoorSlSnSo2Sp

set_option maxRecDepth 100000
set_option maxHeartbeats 8000000
set_option linter.unusedVariables false
namespace Go.Proofs.YtdhlfpgibfaimaaGreatDoor
open Go.RowKit
theorem row1V (w : World) (a : Vl) : Vls (w.alloc (.cells #[.int .i64 a.kind,.int .i64 a.n] 24)) (.slice (some ⟨w.heap.size,0,none⟩) 1 1) [a]:=by
 refine ⟨_,_,rfl,.inr ⟨_,_,rfl,fun t ht=>?_⟩⟩
 obtain rfl : t = 0:=by simpa using ht
 exact (vlNew w a).cells
theorem chk1' (a : Vl) (w : World) (o : Obj) : Calls Tryz.prog 115 #[.slice (some ⟨w.heap.size + 1,0,none⟩) 1 1] ((w.alloc o).alloc (.cells #[.int .i64 a.kind,.int .i64 a.n] 24)) fun e w'=>e = .returned (.int .i64 (chkE [a]))∧Below w.heap.size w w':=by
 have h:=check_any _ [a] _ (row1V (w.alloc o) a) (by simp)
 rw [World.size_alloc] at h
 exact h.mono fun e w' ⟨h,hb⟩=>⟨h,((bW0 w o).alloc (by simp) _).trans (hb.mono (by simp;omega))⟩
theorem chk_yes {a : Vl} (h : IsV a) : chkE [a] = 0:=by unfold chkE;rw [if_pos];intro v hv;rw [List.mem_singleton.1 hv];exact h
theorem chk_no {a : Vl} (h : ¬ IsV a) : chkE [a] = 80:=by unfold chkE;rw [if_neg];exact fun g=>h (g a (by simp))
def SortR (l : List Se) (w : World) (e : Ending) (w' : World) : Prop :=
 Below w.heap.size w w'∧((∃ l' g cap,Series10.SortQ (l.map serOf) (l'.map serOf) 0∧l'.length = l.length∧w.heap.size ≤ g∧e = .returned (.tuple #[.slice (some ⟨g,0,none⟩) l'.length cap,.int .i64 0])∧OwnR w' w.heap.size (.slice (some ⟨g,0,none⟩) l'.length cap) l'∧LsOk w' g l') ∨
  (∃ er : Int,(er != 0) = true∧Series10.SortQ (l.map serOf) [] er∧e = .returned (.tuple #[.slice none 0 0,.int .i64 er])))
theorem sort_ser (v : Value) (L : List Se) (w : World) (hv : Srs w v L) (hin : ∀ x ∈ L,Lbs w (.slice x.a x.n x.c) x.labs) (hr : ∀ x ∈ L,LbsR x.labs∧x.labs.length ≤ 4398046511104) (hl : L.length ≤ 1000000) : Calls Tryz.prog 73 #[v] w fun e w'=>SortR L w e w':=by
 have hws:=sets_any v L w hv hin hr hl
 have hsx : ∀ {s : List Series10.Sr},s = L.map serOf→(∃ x ∈ L,¬ IsSet x.labs)→∃ a ∈ s,¬ IsSet a.labels:=fun e ⟨x,hx,h⟩=>⟨serOf x,by rw [e];exact List.mem_map.2 ⟨x,hx,rfl⟩,h⟩
 by_cases hset : ∀ x ∈ L,IsSet x.labs
 · obtain ⟨n,hN⟩ : ∃ n,Hid (n = L.length):=⟨_,rfl⟩
   have hws2 : Calls Tryz.prog 114 #[v] w fun e w'=>e = .returned (.tuple #[.slice (some ⟨w.heap.size,0,none⟩) n n,.int .i64 0])∧∃ L',Hid (OwnR w' w.heap.size (.slice (some ⟨w.heap.size,0,none⟩) n n) L'∧LsOk w' w.heap.size L'∧L'.map serOf = L.map serOf∧Below w.heap.size w w'):=hws.mono fun e w' ⟨hb,h⟩=>by
    rcases h with ⟨_,L',he,h1,h2,h3⟩ | ⟨⟨x,hx,hn⟩,_⟩
    · rw [← hN.out] at he h1
      exact ⟨he,L',h1,h2,h3,hb⟩
    · exact absurd (hset x hx) hn
   clear hws
   rw [← hN.out] at hl
   go_enter Tryz.func73,Tryz.ntmps73
   go_wp2_with (first | (go_at_call 114;refine hws2.mono ?_;rintro e w1 ⟨rfl,L',hall⟩))
   have hLn : Hid (L'.length = n):=by
    show _ = _
    have:=congrArg List.length hall.out.2.2.1
    rw [List.length_map,List.length_map] at this
    rw [this,hN.out]
   go_loopw [19] (fun i wr=>∃ k : Nat,k ≤ n∧i = .int .i64 k∧Hid (∀ j,j < k→IsV (L'.getD j se0).v)∧Hid (Below w1.heap.size w1 wr)) (fun i _=>n - (intOf i).toNat)
   case atStart=>exact ⟨0,Nat.zero_le _,rfl,fun j hj=>absurd hj (Nat.not_lt_zero _),Below.refl _ _⟩
   case round =>
    obtain ⟨k,hk,rfl,hvs,hB⟩:=hrel
    have hbz:=hB.out.size
    by_cases hlt : k < n
    · have hki : (k : Int) < (n : Int):=by omega
      have hrow:=(hall.out.1.stay hB.out).sls
      obtain ⟨b,o,e,x0,x1,x2⟩:=sr_at hrow k (by rw [hLn.out];exact hlt)
      cases e
      simp only [Nat.zero_add] at x0 x1 x2
      obtain ⟨x,hx⟩ : ∃ x,Hid (x = L'.getD k se0):=⟨_,rfl⟩
      rw [← hx.out] at x0 x1 x2
      have hck:=chk1' x.v wr (.cells #[.slice x.a x.n x.c,.int .i64 x.v.kind,.int .i64 x.v.n] 86)
      clear hrow
      by_cases hvx : IsV x.v
      · rw [chk_yes hvx] at hck
        have hvs2 : Hid (∀ j,j < k + 1→IsV (L'.getD j se0).v):=fun j hj=>by
         by_cases e : j = k
         · subst e;rw [← hx.out];exact hvx
         · exact hvs.out j (by omega)
        go_wp2_with (first | (go_at_call 115;refine hck.mono ?_;rintro e w2 ⟨rfl,hb2⟩;have hB2 : Hid _:=hB.out.trans (hb2.mono hbz)))
        refine ⟨⟨k + 1,by omega,by go_num,hvs2,hB2⟩,?_⟩
        simp [intOf];omega
      · rw [chk_no hvx] at hck
        have hq : Hid (Series10.SortQ (L.map serOf) [] 80):=by
         refine .inr (.inl ⟨fun a ha=>?_,?_,rfl,rfl⟩)
         · obtain ⟨y,hy,rfl⟩:=List.mem_map.1 ha;exact hset y hy
         · rw [← hall.out.2.2.1]
           have hkl : k < L'.length:=by rw [hLn.out];exact hlt
           refine ⟨serOf x,List.mem_map.2 ⟨x,?_,rfl⟩,hvx⟩
           rw [hx.out,List.getD_eq_getElem?_getD,List.getElem?_eq_getElem hkl];exact List.getElem_mem hkl
        have hBw:=hall.out.2.2.2
        go_wp2_with (first | (go_at_call 115;refine hck.mono ?_;rintro e w2 ⟨rfl,hb2⟩;have hB2:=hBw.trans ((hB.out.trans (hb2.mono hbz)).mono hBw.size)))
        go_ret2
        exact ⟨hB2,.inr ⟨80,rfl,hq.out,rfl⟩⟩
    · obtain rfl : k = n:=by omega
      have hki : ¬ (k : Int) < (k : Int):=by omega
      have hri : Right L':=fun x hx=>by
       obtain ⟨j,hj,rfl⟩:=List.getElem_of_mem hx
       refine ⟨?_,?_⟩
       · have : serOf L'[j] ∈ L.map serOf:=by rw [← hall.out.2.2.1];exact List.mem_map.2 ⟨_,hx,rfl⟩
         obtain ⟨y,hy,he⟩:=List.mem_map.1 this
         have:=hset y hy
         have e2 : y.labs = L'[j].labs:=congrArg Series10.Sr.labels he
         rw [← e2];exact this
       · have:=hvs.out j (by rw [← hLn.out];exact hj)
         rw [List.getD_eq_getElem?_getD,List.getElem?_eq_getElem hj] at this
         exact this
      have hown : OwnR wr w.heap.size (.slice (some ⟨w.heap.size,0,none⟩) L'.length k) L':=by rw [hLn.out];exact hall.out.1.stay hB.out
      have hfr:=frame_any w.heap.size w.heap.size k L' wr hown (Nat.le_refl _) (hall.out.2.1.grow hB.out) hri (by rw [hLn.out];exact hl)
      have hBw:=hall.out.2.2.2.trans (hB.out.mono hall.out.2.2.2.size)
      have hmp:=hall.out.2.2.1
      have hfr2 : Calls Tryz.prog 116 #[.slice (some ⟨w.heap.size,0,none⟩) k k] wr fun e w'=>∃ u er,e = .returned (.tuple #[u,.int .i64 er])∧Hid (SortR L w (.returned (.tuple #[u,.int .i64 er])) w'):=by
       rw [hLn.out] at hfr
       refine hfr.mono ?_
       rintro e w' ⟨hb,h⟩
       rcases h with ⟨l',hq,he,ho,hok⟩ | ⟨er,h86,hq,he⟩
       · have hl2 : l'.length = L'.length:=by
          have:=(hq.frame rfl).2.length_eq
          simpa using this
         refine ⟨_,_,he,hBw.trans hb,.inl ⟨l',w.heap.size,k,by rw [← hmp];exact hq,?_,Nat.le_refl _,?_,?_,hok⟩⟩
         · rw [hl2,hLn.out,hN.out]
         · rw [hl2]
         · rw [hl2,hLn.out];rw [hLn.out] at ho;exact ho
       · refine ⟨_,_,he,hBw.trans hb,.inr ⟨er,?_,by rw [← hmp];exact hq,rfl⟩⟩
         rcases h86 with rfl | rfl <;> rfl
      clear hfr hown hri hvs hall
      go_wp2_with (first | (go_at_call 116;refine hfr2.mono ?_;rintro e w2 ⟨u2,er2,rfl,hR⟩))
      go_ret2
      exact hR.out
 · have hex : ∃ x ∈ L,¬ IsSet x.labs:=Classical.byContradiction fun h=>hset fun x hx=>Classical.byContradiction fun g=>h ⟨x,hx,g⟩
   have hq : Hid (Series10.SortQ (L.map serOf) [] 90):=.inl ⟨hsx rfl hex,rfl,rfl⟩
   have hws2 : Calls Tryz.prog 114 #[v] w fun e w'=>e = .returned (.tuple #[.slice none 0 0,.int .i64 90])∧Below w.heap.size w w':=hws.mono fun e w' ⟨hb,h⟩=>by
    rcases h with ⟨h,_⟩ | ⟨_,he⟩
    · exact absurd h hset
    · exact ⟨he,hb⟩
   go_enter Tryz.func73,Tryz.ntmps73
   go_wp2_with (first | (go_at_call 114;refine hws2.mono ?_;rintro e w1 ⟨rfl,hb1⟩))
   go_ret2
   exact ⟨hb1,.inr ⟨90,rfl,hq.out,rfl⟩⟩
def mapS (op : ByteArray) (x : Se) : Se:={ x with v:=doV op [x.v] }
def mapTo (op : ByteArray) (l : List Se) (k : Nat) : List Se:=(l.take k).map (mapS op) ++ l.drop k
theorem mapTo_len (op : ByteArray) (l : List Se) (k : Nat) (hk : k ≤ l.length) : (mapTo op l k).length = l.length:=by
 unfold mapTo;rw [List.length_append,List.length_map,List.length_take,List.length_drop];omega
theorem mapTo_at (op : ByteArray) (l : List Se) (k : Nat) (hk : k < l.length) : (mapTo op l k).getD k se0 = l.getD k se0:=by
 unfold mapTo
 have hl : ((l.take k).map (mapS op)).length = k:=by rw [List.length_map,List.length_take];omega
 rw [List.getD_eq_getElem?_getD,List.getElem?_append_right (by omega),hl,Nat.sub_self,List.getElem?_drop,List.getD_eq_getElem?_getD]
 rfl
theorem mapTo_set (op : ByteArray) (l : List Se) (k : Nat) (hk : k < l.length) : (mapTo op l k).set k (mapS op (l.getD k se0)) = mapTo op l (k + 1):=by
 unfold mapTo
 have hl : ((l.take k).map (mapS op)).length = k:=by rw [List.length_map,List.length_take];omega
 rw [List.set_append_right _ _ (by omega),hl,Nat.sub_self,List.take_succ_eq_append_getElem hk,List.map_append,List.append_assoc,List.drop_eq_getElem_cons hk,List.getD_eq_getElem?_getD,List.getElem?_eq_getElem hk]
 rfl
theorem mapTo_all (op : ByteArray) (l : List Se) : mapTo op l l.length = l.map (mapS op):=by unfold mapTo;simp
theorem mapTo_zero (op : ByteArray) (l : List Se) : mapTo op l 0 = l:=by unfold mapTo;simp
theorem set_self {l : List Value} {j : Nat} {u : Value} (h : l[j]? = some u) : l.set j u = l:=by
 apply List.ext_getElem?
 intro i
 rw [List.getElem?_set]
 split
 · rename_i e;subst e
   split
   · exact h.symm
   · rename_i hn;rw [List.getElem?_eq_none (by omega)] at h;cases h
 · rfl
theorem own_storeVal {w : World} {base g n cap : Nat} {xs : List Se} (h : OwnR w base (.slice (some ⟨g,0,none⟩) n cap) xs) (hn : n = xs.length) (j : Nat) (hj : j < n) (u : Vl) : OwnR ((w.setCell ⟨g,j * 3 + 1,none⟩ (.int .i64 u.kind)).setCell ⟨g,j * 3 + 2,none⟩ (.int .i64 u.n)) base (.slice (some ⟨g,0,none⟩) n cap) (xs.set j { (xs.getD j se0) with v:=u }):=by
 subst hn
 have h2:=(World.ownsRow.stored h (j * 3 + 1) (.int .i64 u.kind)).1
 have h3:=(World.ownsRow.stored h2 (j * 3 + 2) (.int .i64 u.n)).1
 unfold OwnR OwnS
 rw [List.length_set,flatR_set]
 have h0 : (flat encR xs)[j * 3]? = some (.slice (xs.getD j se0).a (xs.getD j se0).n (xs.getD j se0).c):=by
  have:=flat_get (E:=encR) xs j 0 hj (by decide)
  exact this
 rw [set_self h0]
 exact h3
theorem sdo1b (op : ByteArray) (a : Vl) (w : World) (o : Obj) : Calls Tryz.prog 118 #[.string op,.slice (some ⟨w.heap.size + 1,0,none⟩) 1 1] ((w.alloc o).alloc (.cells #[.int .i64 a.kind,.int .i64 a.n] 24)) fun e w'=>e = .returned (.agg #[.int .i64 (doV op [a]).kind,.int .i64 (doV op [a]).n])∧Below w.heap.size w w':=by
 have h:=sdo_any op _ [a] _ (row1V (w.alloc o) a) (by simp)
 rw [World.size_alloc] at h
 exact h.mono fun e w' ⟨h,hb⟩=>⟨h,((bW0 w o).alloc (by simp) _).trans (hb.mono (by simp;omega))⟩
theorem do_row1 (op : ByteArray) (a : Vl) (w : World) : Calls Tryz.prog 117 #[.string op,.slice (some ⟨w.heap.size,0,none⟩) 1 1] (w.alloc (.cells #[.int .i64 a.kind,.int .i64 a.n] 24)) fun e w'=>e = .returned (.tuple #[.agg #[.int .i64 (doV op [a]).kind,.int .i64 (doV op [a]).n],.int .i64 (doE op [a])])∧Below w.heap.size w w' :=
 (do_any op _ [a] _ (row1V w a) (by simp)).mono fun e w' ⟨h,hb⟩=>⟨h,(bW0 w _).trans (hb.mono (by simp))⟩
def MapR (op : ByteArray) (L : List Se) (w : World) (e : Ending) (w' : World) : Prop :=
 Below w.heap.size w w'∧((∃ (l' : List Se) (g cap : Nat),Series10.SortQ (L.map serOf) (l'.map serOf) 0∧doE op [nul] = 0∧l'.length = L.length∧w.heap.size ≤ g∧e = .returned (.tuple #[.slice (some ⟨g,0,none⟩) l'.length cap,.int .i64 0])∧OwnR w' w.heap.size (.slice (some ⟨g,0,none⟩) l'.length cap) (l'.map (mapS op))∧LsOk w' g (l'.map (mapS op))) ∨
  ((∃ out,Series10.SortQ (L.map serOf) out 0)∧(doE op [nul] != 0) = true∧e = .returned (.tuple #[.slice none 0 0,.int .i64 (doE op [nul])])) ∨
  (∃ er : Int,(er != 0) = true∧Series10.SortQ (L.map serOf) [] er∧e = .returned (.tuple #[.slice none 0 0,.int .i64 er])))
theorem map_ser (op : ByteArray) (v : Value) (L : List Se) (w : World) (hv : Srs w v L) (hin : ∀ x ∈ L,Lbs w (.slice x.a x.n x.c) x.labs) (hr : ∀ x ∈ L,LbsR x.labs∧x.labs.length ≤ 4398046511104) (hl : L.length ≤ 1000000) : Calls Tryz.prog 74 #[.string op,v] w fun e w'=>MapR op L w e w':=by
 have hso:=sort_ser v L w hv hin hr hl
 by_cases hs : ∃ out,Series10.SortQ (L.map serOf) out 0
 · have hso2 : Calls Tryz.prog 73 #[v] w fun e w'=>∃ (l' : List Se) (g cap n : Nat),e = .returned (.tuple #[.slice (some ⟨g,0,none⟩) n cap,.int .i64 0])∧Hid (n = l'.length∧Series10.SortQ (L.map serOf) (l'.map serOf) 0∧l'.length = L.length∧w.heap.size ≤ g∧OwnR w' w.heap.size (.slice (some ⟨g,0,none⟩) n cap) l'∧LsOk w' g l'∧Below w.heap.size w w'):=hso.mono fun e w' ⟨hb,h⟩=>by
    rcases h with ⟨l',g,cap,hq,hll,hg,he,ho,hok⟩ | ⟨er,hne,hq,he⟩
    · exact ⟨l',g,cap,l'.length,he,rfl,hq,hll,hg,ho,hok,hb⟩
    · obtain ⟨out,h0⟩:=hs
      have:=(hq.one h0).2
      rw [this] at hne
      cases hne
   clear hso
   have hdo:=fun W=>do_row1 op nul W
   obtain ⟨E0,hE0⟩ : ∃ E,Hid (E = doE op [nul]):=⟨_,rfl⟩
   rw [← hE0.out] at hdo
   generalize doV op [nul] = R0 at *
   have hnul : ∀ W : World,Calls Tryz.prog 95 #[] W fun e w'=>e = .returned (.agg #[.int .i64 nul.kind,.int .i64 nul.n])∧Below W.heap.size W w':=fun W=>(null_any W).mono fun _ _ ⟨a,b⟩=>⟨a,b ▸ bW0 _ _⟩
   generalize nul = NU at hdo hnul
   cases hE : (E0 != 0) with
   | true =>
    go_enter Tryz.func74,Tryz.ntmps74
    go_wp2_with (first
     | (go_at_call 73;refine hso2.mono ?_;rintro e w1 ⟨l',g,cap,n,rfl,hall⟩;have hB1:=hall.out.2.2.2.2.2.2)
     | (go_at_call 95;refine (hnul _).mono ?_;rintro e w2 ⟨rfl,hb2⟩;have hB2:=hB1.trans (hb2.mono hB1.size))
     | (go_at_call 117;refine (hdo _).mono ?_;rintro e w3 ⟨rfl,hb3⟩;have hB3:=hB2.trans (hb3.mono hB2.size)))
    go_ret2
    refine ⟨hB3.alloc hB3.size _,.inr (.inl ⟨hs,by rw [← hE0.out];exact hE,by rw [← hE0.out];rfl⟩)⟩
   | false =>
    have hE00 : E0 = 0:=by simpa using hE
    go_enter Tryz.func74,Tryz.ntmps74
    go_wp2_with (first
     | (go_at_call 73;refine hso2.mono ?_;rintro e w1 ⟨l',g,cap,n,rfl,hall⟩;have hB1:=hall.out.2.2.2.2.2.2)
     | (go_at_call 95;refine (hnul _).mono ?_;rintro e w2 ⟨rfl,hb2⟩;have hB2:=hB1.trans (hb2.mono hB1.size))
     | (go_at_call 117;refine (hdo _).mono ?_;rintro e w3 ⟨rfl,hb3⟩;have hB3:=hB2.trans (hb3.mono hB2.size)))
    obtain ⟨hnl,hsq,hlen,hgw,ho1,hok1,_⟩:=hall.out
    have hz : Hid (doE op [nul] = 0):=hE0.out.symm.trans hE00
    have hs13 : Below w1.heap.size w1 (w3.alloc (.cells #[.int .i64 R0.kind,.int .i64 R0.n] 24)):=(hb2.trans (hb3.mono hb2.size)).alloc (Nat.le_trans hb2.size hb3.size) _
    have ho3 : Hid (OwnR (w3.alloc (.cells #[.int .i64 R0.kind,.int .i64 R0.n] 24)) w.heap.size (.slice (some ⟨g,0,none⟩) n cap) (mapTo op l' 0)):=by rw [mapTo_zero];exact ho1.stay hs13
    have hok3 : Hid (LsOk (w3.alloc (.cells #[.int .i64 R0.kind,.int .i64 R0.n] 24)) g (mapTo op l' 0)):=by rw [mapTo_zero];exact hok1.grow hs13
    have hB4 : Hid (Below w.heap.size w (w3.alloc (.cells #[.int .i64 R0.kind,.int .i64 R0.n] 24))):=hB3.alloc hB3.size _
    replace hsq : Hid (Series10.SortQ (L.map serOf) (l'.map serOf) 0):=hsq
    replace hnl : Hid (n = l'.length):=hnl
    replace hlen : Hid (l'.length = L.length):=hlen
    have hn6 : n ≤ 1000000:=by rw [hnl.out,hlen.out];exact hl
    clear hall ho1 hok1 hs13 hso2 hdo hnul
    go_loopw [32] (fun i wr=>∃ k : Nat,k ≤ n∧i = .int .i64 k∧Hid (OwnR wr w.heap.size (.slice (some ⟨g,0,none⟩) n cap) (mapTo op l' k))∧Hid (LsOk wr g (mapTo op l' k))∧Hid (Below w.heap.size w wr)) (fun i _=>n - (intOf i).toNat)
    case atStart=>exact ⟨0,Nat.zero_le _,rfl,ho3,hok3,hB4⟩
    case round =>
     obtain ⟨k,hk,rfl,ho,hok,hB⟩:=hrel
     by_cases hlt : k < n
     · have hki : (k : Int) < (n : Int):=by omega
       have hkl : k < l'.length:=by rw [← hnl.out];exact hlt
       have hml : Hid (n = (mapTo op l' k).length):=by show _ = _;rw [mapTo_len op l' k (by omega),hnl.out]
       have hat:=mapTo_at op l' k hkl
       have hst:=mapTo_set op l' k hkl
       obtain ⟨b,o,e,x0,x1,x2⟩:=sr_at ho.out.sls k (by rw [← hml.out];exact hlt)
       cases e
       simp only [Nat.zero_add] at x0 x1 x2
       rw [hat] at x0 x1 x2
       have hxin : l'.getD k se0 ∈ mapTo op l' k:=by
        rw [← hat,List.getD_eq_getElem?_getD,List.getElem?_eq_getElem (by rw [← hml.out];exact hlt)];exact List.getElem_mem _
       have hxok:=hok.out _ hxin
       obtain ⟨x,hx⟩ : ∃ x,Hid (x = l'.getD k se0):=⟨_,rfl⟩
       rw [← hx.out] at x0 x1 x2 hst hat hxok
       have hd:=sdo1b op x.v wr (.cells #[.slice x.a x.n x.c,.int .i64 x.v.kind,.int .i64 x.v.n] 86)
       have hms : Hid (mapS op x = { x with v:=doV op [x.v] }):=rfl
       generalize doV op [x.v] = R at *
       replace hst : Hid _:=hst
       replace hat : Hid _:=hat
       replace hxok : Hid (SeOk wr g x):=hxok
       go_wp2_with (first
        | (go_at_call 118;refine hd.mono ?_;rintro e w5 ⟨rfl,hb5⟩;have ho5:=ho.out.stay hb5;have hok5:=hok.out.grow hb5;have hB5:=hB.out.trans (hb5.mono hB.out.size);obtain ⟨⟨d0,d1,d2⟩,f0,f1,f2⟩:=own_cellS ho5 hml.out k hlt))
       have ho6:=own_storeVal ho5 hml.out k hlt R
       rw [hat.out,← hms.out,hst.out] at ho6
       refine ⟨⟨k + 1,by omega,by go_num,ho6,?_,?_⟩,?_⟩
       · intro z hz
         rw [← hst.out] at hz
         rcases List.mem_or_eq_of_mem_set hz with hz | hz
         · exact ((hok5 z hz).set).set
         · rw [hz,hms.out]
           exact SeOk.set (SeOk.set ⟨(hxok.out.grow hb5).1,(hxok.out).2⟩)
       · exact (hB5.setCell (p:=⟨g,k * 3 + 1,none⟩) hgw _).setCell (p:=⟨g,k * 3 + 2,none⟩) hgw _
       · simp [intOf];omega
     · obtain rfl : k = n:=by omega
       have hki : ¬ (k : Int) < (k : Int):=by omega
       have h1:=ho.out
       have h2:=hok.out
       rw [hnl.out,mapTo_all] at h1 h2
       have h3:=hB.out
       replace h1 : Hid _:=h1
       replace h2 : Hid _:=h2
       go_wp2
       go_ret2
       exact ⟨h3,.inl ⟨l',g,cap,hsq.out,hz.out,hlen.out,hgw,by rw [← hnl.out];rfl,h1.out,h2.out⟩⟩
 · have hso3 : Calls Tryz.prog 73 #[v] w fun e w'=>∃ er : Int,e = .returned (.tuple #[.slice none 0 0,.int .i64 er])∧(er != 0) = true∧Hid (Series10.SortQ (L.map serOf) [] er)∧Below w.heap.size w w':=hso.mono fun e w' ⟨hb,h⟩=>by
    rcases h with ⟨l',g,cap,hq,_⟩ | ⟨er,hne,hq,he⟩
    · exact absurd ⟨_,hq⟩ hs
    · exact ⟨er,he,hne,hq,hb⟩
   clear hso
   go_enter Tryz.func74,Tryz.ntmps74
   go_wp2_with (first
    | (go_at_call 73;refine hso3.mono ?_;rintro e w1 ⟨er,rfl,hne,hq,hB1⟩))
   go_ret2
   exact ⟨hB1,.inr (.inr ⟨er,hne,hq.out,rfl⟩)⟩
end Go.Proofs.YtdhlfpgibfaimaaGreatDoor

set_option maxRecDepth 100000
set_option maxHeartbeats 8000000
set_option linter.unusedVariables false
namespace Go.Proofs.YtdhlfpgibfaimaaGreatDoor
open Go.RowKit
theorem same_b (v u : Value) (l m : List Lb) (w : World) (hv : Lbs w v l) (hu : Lbs w u m) (hl : l.length ≤ 1000000000) (hm : m.length ≤ 1000000000) : Calls Tryz.prog 53 #[v,u] w fun e w'=>e = .returned (.bool (decide (l = m)))∧Below w.heap.size w w' :=
 (same_any v u l m w hv hu hl hm).mono fun e w' ⟨B,he,hB,hb⟩=>⟨by
  rw [he]
  by_cases h : l = m
  · rw [hB.2 h,decide_eq_true h]
  · rw [decide_eq_false h]
    cases B with
    | false=>rfl
    | true=>exact absurd (hB.1 rfl) h,hb⟩
def SameS (A B : List Se) : Prop:=A.map serOf = B.map serOf
noncomputable instance (A B : List Se) : Decidable (SameS A B):=Classical.propDecidable _
theorem same_take {A B : List Se} {k : Nat} (ha : k < A.length) (hb : k < B.length) (h : (A.take k).map serOf = (B.take k).map serOf) (h2 : serOf (A.getD k se0) = serOf (B.getD k se0)) : (A.take (k + 1)).map serOf = (B.take (k + 1)).map serOf:=by
 rw [List.take_succ_eq_append_getElem ha,List.take_succ_eq_append_getElem hb,List.map_append,List.map_append,h]
 rw [List.getD_eq_getElem?_getD,List.getElem?_eq_getElem ha,List.getD_eq_getElem?_getD,List.getElem?_eq_getElem hb] at h2
 congr 1
 simpa using h2
theorem same_not {A B : List Se} {k : Nat} (ha : k < A.length) (hb : k < B.length) (h2 : ¬ serOf (A.getD k se0) = serOf (B.getD k se0)) : ¬ SameS A B:=fun h=>h2 (by
 have:=congrArg (fun l=>l[k]?) h
 simp only [List.getElem?_map,List.getElem?_eq_getElem ha,List.getElem?_eq_getElem hb,Option.map_some] at this
 rw [List.getD_eq_getElem?_getD,List.getElem?_eq_getElem ha,List.getD_eq_getElem?_getD,List.getElem?_eq_getElem hb]
 exact Option.some.inj this)
theorem same_ser (v u : Value) (A B : List Se) (w : World) (hv : Srs w v A) (hu : Srs w u B) (hA : ∀ x ∈ A,Lbs w (.slice x.a x.n x.c) x.labs∧x.labs.length ≤ 1000000) (hB : ∀ x ∈ B,Lbs w (.slice x.a x.n x.c) x.labs∧x.labs.length ≤ 1000000) (la : A.length ≤ 1000000) (lb : B.length ≤ 1000000) :
 Calls Tryz.prog 22 #[v,u] w fun e w'=>e = .returned (.bool (decide (SameS A B)))∧Below w.heap.size w w':=by
 obtain ⟨a,c,rfl⟩:=hv.shape
 obtain ⟨a2,c2,rfl⟩:=hu.shape
 obtain ⟨R,hR⟩ : ∃ R,Hid (R = decide (SameS A B)):=⟨_,rfl⟩
 rw [← hR.out]
 by_cases hlen : A.length = B.length
 · have hmA : Hid (∀ k,k < A.length→A.getD k se0 ∈ A):=fun k hk=>by rw [List.getD_eq_getElem?_getD,List.getElem?_eq_getElem hk];exact List.getElem_mem hk
   have hmB : Hid (∀ k,k < B.length→B.getD k se0 ∈ B):=fun k hk=>by rw [List.getD_eq_getElem?_getD,List.getElem?_eq_getElem hk];exact List.getElem_mem hk
   rw [← hlen] at hu ⊢
   obtain ⟨n,hn⟩ : ∃ n,Hid (n = A.length):=⟨_,rfl⟩
   have hnB : Hid (n = B.length):=hn.out.trans hlen
   rw [← hn.out] at hv hu la ⊢
   clear hlen lb
   replace hv : Hid (Srs w (.slice a n c) A):=hv
   replace hu : Hid (Srs w (.slice a2 n c2) B):=hu
   replace hA : Hid (∀ x ∈ A,Lbs w (.slice x.a x.n x.c) x.labs∧x.labs.length ≤ 1000000):=hA
   replace hB : Hid (∀ x ∈ B,Lbs w (.slice x.a x.n x.c) x.labs∧x.labs.length ≤ 1000000):=hB
   go_enter Tryz.func22,Tryz.ntmps22
   go_wp2
   go_loopw [5] (fun i wr=>∃ k : Nat,k ≤ n∧i = .int .i64 k∧Hid ((A.take k).map serOf = (B.take k).map serOf)∧Hid (Below w.heap.size w wr)) (fun i _=>n - (intOf i).toNat)
   case atStart=>exact ⟨0,Nat.zero_le _,rfl,rfl,Below.refl _ _⟩
   case round =>
    obtain ⟨k,hk,rfl,htk,hBw⟩:=hrel
    by_cases hlt : k < n
    · have hki : (k : Int) < (n : Int):=by omega
      have hkA : k < A.length:=by rw [← hn.out];exact hlt
      have hkB : k < B.length:=by rw [← hnB.out];exact hlt
      obtain ⟨b,o,rfl,x0,x1,x2⟩:=sr_at (Sls.grow hv.out hBw.out) k hkA
      obtain ⟨b2,o2,rfl,y0,y1,y2⟩:=sr_at (Sls.grow hu.out hBw.out) k hkB
      have hx:=hA.out _ (hmA.out k hkA)
      have hy:=hB.out _ (hmB.out k hkB)
      have hst:=fun h=>same_take hkA hkB htk.out h
      have hnt:=fun h=>same_not (A:=A) (B:=B) hkA hkB h
      generalize A.getD k se0 = x at *
      generalize B.getD k se0 = y at *
      have hcall : ∀ p : Bel wr,Calls Tryz.prog 53 #[.slice x.a x.n x.c,.slice y.a y.n y.c] p.W fun e w'=>e = .returned (.bool (decide (x.labs = y.labs)))∧Below p.W.heap.size p.W w':=fun p=>same_b _ _ _ _ _ (hx.1.grow (hBw.out.trans (p.h.mono hBw.out.size))) (hy.1.grow (hBw.out.trans (p.h.mono hBw.out.size))) (by omega) (by omega)
      have c0 : ∀ p : Bel wr,p.W.cell? ⟨b,o + k * 3,none⟩ = some (.slice x.a x.n x.c):=fun p=>p.cell x0
      have c1 : ∀ p : Bel wr,p.W.cell? ⟨b,o + k * 3 + 1,none⟩ = some (.int .i64 x.v.kind):=fun p=>p.cell x1
      have c2' : ∀ p : Bel wr,p.W.cell? ⟨b,o + k * 3 + 2,none⟩ = some (.int .i64 x.v.n):=fun p=>p.cell x2
      have d0 : ∀ p : Bel wr,p.W.cell? ⟨b2,o2 + k * 3,none⟩ = some (.slice y.a y.n y.c):=fun p=>p.cell y0
      have d1 : ∀ p : Bel wr,p.W.cell? ⟨b2,o2 + k * 3 + 1,none⟩ = some (.int .i64 y.v.kind):=fun p=>p.cell y1
      have d2 : ∀ p : Bel wr,p.W.cell? ⟨b2,o2 + k * 3 + 2,none⟩ = some (.int .i64 y.v.n):=fun p=>p.cell y2
      clear x0 x1 x2 y0 y1 y2 hx hy
      replace hst : Hid _:=hst
      replace hnt : Hid _:=hnt
      have hBd:=hBw.out
      by_cases hvv : x.v = y.v
      · rw [← hvv] at d1 d2
        by_cases hll : x.labs = y.labs
        · have hs2 : Hid _:=hst.out (by unfold serOf;rw [hvv,hll])
          have hdd : decide (x.labs = y.labs) = true:=decide_eq_true hll
          rw [hdd] at hcall
          clear hvv hll hdd
          go_wp2
          refine wp_region_bel (by kernel_rfl) (by kernel_rfl) ?_
          repeat (go_big_quiet_step (exact Calls.bel (hcall _)))
          refine wpQuiet_nil ?_
          rintro W ⟨p,rfl⟩
          go_wp2
          refine ⟨⟨k + 1,by omega,by go_num,hs2,hBd.trans (p.h.mono hBd.size)⟩,?_⟩
          simp [intOf];omega
        · have hRf : Hid (R = false):=by
           show _ = _
           rw [hR.out];exact decide_eq_false (hnt.out fun h=>hll (congrArg Series10.Sr.labels h))
          have hdd : decide (x.labs = y.labs) = false:=decide_eq_false hll
          rw [hdd] at hcall
          clear hvv hll hdd
          go_wp2
          refine wp_region_bel (by kernel_rfl) (by kernel_rfl) ?_
          repeat (go_big_quiet_step (exact Calls.bel (hcall _)))
          refine wpQuiet_nil ?_
          rintro W ⟨p,rfl⟩
          go_wp2
          go_ret
          exact ⟨by rw [hRf.out];rfl,hBd.trans (p.h.mono hBd.size)⟩
      · have hRf : Hid (R = false):=by
         show _ = _
         rw [hR.out];exact decide_eq_false (hnt.out fun h=>hvv (congrArg Series10.Sr.value h))
        have hb3 : ((x.v.kind == y.v.kind) = false) ∨ ((x.v.kind == y.v.kind) = true∧(x.v.n == y.v.n) = false):=by
         cases e2 : (x.v.kind == y.v.kind) with
         | false=>exact .inl rfl
         | true =>
          cases e3 : (x.v.n == y.v.n) with
          | false=>exact .inr ⟨rfl,rfl⟩
          | true =>
           exfalso
           apply hvv
           have h1 : x.v.kind = y.v.kind:=by simpa using e2
           have h2 : x.v.n = y.v.n:=by simpa using e3
           cases hxv : x.v;cases hyv : y.v
           rw [hxv,hyv] at h1 h2
           simp only at h1 h2
           rw [h1,h2]
        clear hvv
        rcases hb3 with e1 | ⟨e1,e2⟩
        all_goals
         go_wp2
         refine wp_region_bel (by kernel_rfl) (by kernel_rfl) ?_
         repeat (go_big_quiet_step (exact Calls.bel (hcall _)))
         refine wpQuiet_nil ?_
         rintro W ⟨p,rfl⟩
         go_wp2
         go_ret
         exact ⟨by rw [hRf.out];rfl,hBd.trans (p.h.mono hBd.size)⟩
    · obtain rfl : k = n:=by omega
      have hki : ¬ (k : Int) < (k : Int):=by omega
      have hRt : Hid (R = true):=by
       show _ = _
       rw [hR.out]
       refine decide_eq_true ?_
       have h:=htk.out
       rw [List.take_of_length_le (by rw [← hn.out];omega),List.take_of_length_le (by rw [← hnB.out];omega)] at h
       exact h
      have hB':=hBw.out
      go_wp2
      go_ret
      exact ⟨by rw [hRt.out];rfl,hB'⟩
 · have hd : ((A.length : Int) == (B.length : Int)) = false:=by simp;omega
   have hd2 : ((A.length : Int) != (B.length : Int)) = true:=by simp;omega
   have hRf : Hid (R = false):=by
    show _ = _
    rw [hR.out];exact decide_eq_false fun h=>hlen (by have:=congrArg List.length h;simpa using this)
   clear hlen
   go_enter Tryz.func22,Tryz.ntmps22
   go_wp2
   go_ret
   exact ⟨by rw [hRf.out];rfl,Below.refl _ _⟩
theorem within_of {a b : List Lb} (ha : IsSet a) (hb : IsSet b) (h : withinB a b = true) : Series10.Within a b:=by
 rw [Series10.within_iff ha hb]
 intro x hx
 have:=List.all_eq_true.1 h x hx
 exact toList_eq this
def bigger (a b : List Lb) : List Lb:=if b.length < a.length then a else b
theorem bigger_set {a b : List Lb} (ha : IsSet a) (hb : IsSet b) : IsSet (bigger a b):=by unfold bigger;split;exact ha;exact hb
theorem fit_join {a b : List Lb} (ha : IsSet a) (hb : IsSet b) (h : fitB a b = true) : JoinQ a b (bigger a b) true:=by
 unfold fitB at h
 unfold bigger
 by_cases hc : b.length < a.length
 · rw [if_pos hc] at h ⊢
   have hw:=within_of hb ha h
   exact .inl ⟨rfl,ha,fun x=>⟨.inl,fun hx=>hx.elim id (hw x)⟩⟩
 · rw [if_neg hc] at h ⊢
   have hw:=within_of ha hb h
   exact .inl ⟨rfl,hb,fun x=>⟨.inr,fun hx=>hx.elim (hw x) id⟩⟩
def SeTy (w : World) (x : Se) : Prop:=∀ ad,x.a = some ad→∃ cur fr,w.heap[ad.block]? = some (.cells cur 122 fr)
def SeW (w : World) (x : Se) : Prop:=Lbs w (.slice x.a x.n x.c) x.labs∧SeTy w x
theorem SeW.grow {w w' : World} {x : Se} (h : SeW w x) (hb : Below w.heap.size w w') : SeW w' x:=⟨h.1.grow hb,fun ad e=>by
 obtain ⟨cur,fr,h2⟩:=h.2 ad e
 exact ⟨cur,fr,(hb.block _ (Array.getElem?_eq_some_iff.1 h2).1).trans h2⟩⟩
theorem OwnR.block {w : World} {base : Nat} {v : Value} {l : List Se} (h : OwnR w base v l) (k : Nat) (hk : v.ownBlock = some k) : ∃ cur fr,w.heap[k]? = some (.cells cur 86 fr):=by
 rcases h.2 with ⟨rfl,_⟩ | ⟨g,cap,cur,rfl,_,hg,_⟩
 · cases hk
 · cases hk;exact ⟨cur,_,hg⟩
theorem SeW.grown {w w' : World} {r : Option Nat} {x : Se} (h : SeW w x) (hg : w.grownBy w' r) (hr : ∀ k,r = some k→∃ cur fr,w.heap[k]? = some (.cells cur 86 fr)) : SeW w' x:=by
 have hne : ∀ ad,x.a = some ad→some ad.block ≠ r:=fun ad e e2=>by
  obtain ⟨cur,fr,h1⟩:=h.2 ad e
  obtain ⟨cur2,fr2,h2⟩:=hr ad.block e2.symm
  rw [h1] at h2
  injection h2 with h2
  injection h2 with _ h3 _
  exact absurd h3 (by decide)
 refine ⟨?_,fun ad e=>?_⟩
 · obtain ⟨a,c,e,hn,hc⟩:=id h.1
   rcases hc with hc | ⟨b,o',rfl,hc⟩
   · exact ⟨a,c,e,hn,.inl hc⟩
   · have h1:=h.1
     have hb:=hne _ (by injection e)
     rw [e] at h1 ⊢
     exact Sls.kept h1 hg hb
 · obtain ⟨cur,fr,h1⟩:=h.2 ad e
   refine ⟨cur,fr,?_⟩
   obtain ⟨_,_,_,_,hk⟩:=hg
   exact (hk _ (Array.getElem?_eq_some_iff.1 h1).1 (hne ad e)).trans h1
theorem SeW.ok {w : World} {g : Nat} {x : Se} (h : SeW w x) (hg : ∃ cur fr,w.heap[g]? = some (.cells cur 86 fr)) : SeOk w g x:=⟨h.1,fun ad e e2=>by
 obtain ⟨cur,fr,h1⟩:=h.2 ad e
 obtain ⟨cur2,fr2,h2⟩:=hg
 rw [← e2,h1] at h2
 injection h2 with h2
 injection h2 with _ h3 _
 exact absurd h3 (by decide)⟩
theorem seW_own {w : World} {base : Nat} {a : Option Addr} {n c : Nat} {l : List Lb} {v : Vl} (h : OwnL w base (.slice a n c) l) : SeW w ⟨a,n,c,l,v⟩:=by
 refine ⟨h.sls,fun ad e=>?_⟩
 simp only at e
 subst e
 rcases h.2 with ⟨e,_⟩ | ⟨g,cap,cur,e,_,hg,_⟩
 · cases e
 · cases e;exact ⟨cur,_,hg⟩
def joinP (op : ByteArray) (x y : Series10.Sr) : Option Series10.Sr:=if fitB x.labels y.labels = true then some ⟨bigger x.labels y.labels,doV op [x.value,y.value]⟩ else none
def joinX (op : ByteArray) (x : Series10.Sr) (l : List Series10.Sr) : List Series10.Sr:=l.filterMap (joinP op x)
def joinA (op : ByteArray) (k l : List Series10.Sr) : List Series10.Sr:=k.flatMap fun x=>joinX op x l
theorem joinX_take (op : ByteArray) (x : Series10.Sr) (B : List Se) (m : Nat) (h : m < B.length) : joinX op x ((B.take (m + 1)).map serOf) = joinX op x ((B.take m).map serOf) ++ (joinP op x (serOf (B.getD m se0))).toList:=by
 unfold joinX
 rw [List.take_succ_eq_append_getElem h,List.map_append,List.filterMap_append,List.getD_eq_getElem?_getD,List.getElem?_eq_getElem h]
 congr 1
theorem joinA_take (op : ByteArray) (A : List Se) (l : List Series10.Sr) (k : Nat) (h : k < A.length) : joinA op ((A.take (k + 1)).map serOf) l = joinA op ((A.take k).map serOf) l ++ joinX op (serOf (A.getD k se0)) l:=by
 unfold joinA
 rw [List.take_succ_eq_append_getElem h,List.map_append,List.flatMap_append,List.getD_eq_getElem?_getD,List.getElem?_eq_getElem h]
 congr 1
 simp
def scal (v : Vl) : Se:=⟨none,0,0,[],v⟩
theorem scal_row (W : World) (v : Vl) : Srs (W.alloc (.cells #[.slice none 0 0,.int .i64 v.kind,.int .i64 v.n] 86)) (.slice (some ⟨W.heap.size,0,none⟩) 1 1) [scal v]:=sls_one W (scal v) _ 86 rfl
theorem scalar_any (v : Vl) (w : World) : Calls Tryz.prog 47 #[vlV v] w fun e w'=>∃ u,e = .returned u∧Srs w' u [scal v]∧Below w.heap.size w w':=by
 have ha:=vlNew w v
 obtain ⟨a0,a1⟩:=ha.cells
 have hr:=scal_row (w.alloc (vlO v)) v
 rw [World.size_alloc] at hr
 replace hr : Hid _:=hr
 have hb : Hid (Below w.heap.size w ((w.alloc (vlO v)).alloc (.cells #[.slice none 0 0,.int .i64 v.kind,.int .i64 v.n] 86))):=(bW0 w _).alloc (by simp) _
 unfold vlV
 go_enter Tryz.func47,Tryz.ntmps47
 go_wp2
 go_ret
 exact ⟨_,rfl,hr.out,hb.out⟩
theorem rscalar_any (v : Vl) (w : World) : Calls Tryz.prog 24 #[vlV v] w fun e w'=>∃ u,e = .returned u∧Srs w' u [scal v]∧Below w.heap.size w w':=by
 have ha:=vlNew w v
 obtain ⟨a0,a1⟩:=ha.cells
 have hr:=scal_row (w.alloc (vlO v)) v
 rw [World.size_alloc] at hr
 replace hr : Hid _:=hr
 have hb : Hid (Below w.heap.size w ((w.alloc (vlO v)).alloc (.cells #[.slice none 0 0,.int .i64 v.kind,.int .i64 v.n] 86))):=(bW0 w _).alloc (by simp) _
 unfold vlV
 go_enter Tryz.func24,Tryz.ntmps24
 go_wp2
 go_ret
 exact ⟨_,rfl,hr.out,hb.out⟩
end Go.Proofs.YtdhlfpgibfaimaaGreatDoor
