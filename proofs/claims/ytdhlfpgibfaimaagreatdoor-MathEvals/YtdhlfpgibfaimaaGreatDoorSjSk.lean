import Derived.Test.YtdhlfpgibfaimaaGreatDoorCpAr
import Derived.Test.YtdhlfpgibfaimaaGreatDoorSm
import Derived.BigQuiet
import Derived.Test.YtdhlfpgibfaimaaGreatDoorSaSbSd
set_option maxRecDepth 100000
set_option maxHeartbeats 8000000
set_option linter.unusedVariables false
namespace Go.Proofs.YtdhlfpgibfaimaaGreatDoor
open Go.RowKit
theorem eql_some (l m : List Lb) (b o b2 o2 c c2 : Nat) (w : World) (hl : l.length ≤ 4398046511104) (hlm : l.length = m.length)
 (h1 : ∀ t,t < l.length→At encL w b (o + t * 2) (l.getD t lb0)) (h2 : ∀ t,t < m.length→At encL w b2 (o2 + t * 2) (m.getD t lb0)) :
 Calls Tryz.prog 151 #[.slice (some ⟨b,o,none⟩) l.length c,.slice (some ⟨b2,o2,none⟩) l.length c2] w fun e w'=>SameQ l m w e w':=by
 obtain ⟨n,hn⟩ : ∃ n,Hid (n = l.length):=⟨_,rfl⟩
 have hnl : Hid (n = m.length):=hn.out.trans hlm
 rw [← hn.out] at hl h1 ⊢
 rw [← hnl.out] at h2
 clear hlm
 replace h1 : Hid _:=h1
 replace h2 : Hid _:=h2
 go_enter Tryz.func151,Tryz.ntmps151
 go_wp2
 go_loopw [13] (fun i wr=>∃ k d : Nat,k ≤ n∧i = .int .i64 k∧Hid (l.take k = m.take k)∧wr = w.drewN d) (fun i _=>n - (intOf i).toNat)
 case atStart=>exact ⟨0,0,Nat.zero_le _,rfl,rfl,rfl⟩
 case round =>
  obtain ⟨k,d,hk,rfl,htk,rfl⟩:=hrel
  by_cases hlt : k < n
  · obtain ⟨x0,x1⟩:=at_lb (h1.out k hlt)
    obtain ⟨y0,y1⟩:=at_lb (h2.out k hlt)
    have hki : (k : Int) < (n : Int):=by omega
    clear h1 h2
    obtain ⟨p,hp1⟩ : ∃ p,Hid (l.getD k lb0 = p):=⟨_,rfl⟩
    obtain ⟨q,hp2⟩ : ∃ q,Hid (m.getD k lb0 = q):=⟨_,rfl⟩
    rw [hp1.out] at x0 x1
    rw [hp2.out] at y0 y1
    by_cases hpq : p = q
    · subst hpq
      have hst : Hid (l.take (k + 1) = m.take (k + 1)):=by
       show _ = _
       rw [ltake_getD l lb0 k (by rw [← hn.out];exact hlt),ltake_getD m lb0 k (by rw [← hnl.out];exact hlt),hp1.out,hp2.out,htk.out]
      obtain ⟨n1,t1⟩:=p
      simp only [] at x0 x1 y0 y1
      go_wp2
      go_quiet (fail)
      go_wp2
      refine ⟨⟨k + 1,_,by omega,by go_num,hst,rfl⟩,?_⟩
      simp [intOf];omega
    · have hne : Hid (l ≠ m):=fun e=>hpq (by rw [← hp1.out,← hp2.out,e])
      obtain ⟨n1,t1⟩:=p
      obtain ⟨n2,t2⟩:=q
      simp only [] at x0 x1 y0 y1
      have hb3 : ((n1.toList == n2.toList) = false) ∨ ((n1.toList == n2.toList) = true∧(t1.toList == t2.toList) = false):=by
       cases e2 : (n1.toList == n2.toList) with
       | false=>exact .inl rfl
       | true =>
        cases e3 : (t1.toList == t2.toList) with
        | false=>exact .inr ⟨rfl,rfl⟩
        | true =>
         exfalso
         exact hpq (lb_ext (toList_eq e2) (toList_eq e3))
      clear hpq
      rcases hb3 with e1 | ⟨e1,e2⟩
      all_goals
       go_wp2
       go_quiet (fail)
       go_wp2
       go_ret
       refine ⟨false,rfl,⟨(fun h=>by cases h),fun h=>absurd h hne.out⟩,?_⟩
       exact below_drewN (below_drewN (Below.refl _ _) _) _
  · obtain rfl : k = n:=by omega
    have hki : ¬ (k : Int) < (k : Int):=by omega
    have heq : Hid (l = m):=by
     have h:=htk.out
     rw [List.take_of_length_le (by rw [← hn.out];omega),List.take_of_length_le (by rw [← hnl.out];omega)] at h
     exact h
    clear h1 h2
    go_wp2
    go_ret
    exact ⟨true,rfl,⟨fun _=>heq.out,fun _=>rfl⟩,below_drewN (Below.refl _ _) _⟩
theorem eql_len (n m c c2 : Nat) (a a2 : Option Addr) (w : World) (hn : n ≤ 9223372036854775807) (hm : m ≤ 9223372036854775807) (h : n ≠ m) : Calls Tryz.prog 151 #[.slice a n c,.slice a2 m c2] w fun e w'=>e = .returned (.bool false)∧w' = w:=by
 have hd : ((n : Int) == (m : Int)) = false:=by simp;omega
 have hd2 : ((n : Int) != (m : Int)) = true:=by simp;omega
 go_enter Tryz.func151,Tryz.ntmps151
 go_wp2
 go_ret
 exact ⟨rfl,rfl⟩
theorem eql_none (c c2 : Nat) (a a2 : Option Addr) (w : World) : Calls Tryz.prog 151 #[.slice a 0 c,.slice a2 0 c2] w fun e w'=>e = .returned (.bool true)∧w' = w:=by
 go_enter Tryz.func151,Tryz.ntmps151
 go_wp2
 refine wp_loop_rounds 1 ?_
 rw [rounds_succ]
 go_wp2
 go_ret
 exact ⟨rfl,rfl⟩
theorem eql_any (v u : Value) (l m : List Lb) (w : World) (hv : Lbs w v l) (hu : Lbs w u m) (hl : l.length ≤ 4398046511104) (hm : m.length ≤ 4398046511104) : Calls Tryz.prog 151 #[v,u] w fun e w'=>SameQ l m w e w':=by
 obtain ⟨a,c,rfl,_,h1⟩:=hv
 obtain ⟨a2,c2,rfl,_,h2⟩:=hu
 by_cases hlm : l.length = m.length
 · rcases h1 with rfl | ⟨b,o,rfl,h1⟩
   · have : m = []:=List.length_eq_zero_iff.1 hlm.symm
     subst this
     refine (eql_none c c2 a a2 w).mono ?_
     rintro e w' ⟨rfl,rfl⟩
     exact ⟨true,rfl,⟨fun _=>rfl,fun _=>rfl⟩,Below.refl _ _⟩
   · rcases h2 with rfl | ⟨b2,o2,rfl,h2⟩
     · have : l = []:=List.length_eq_zero_iff.1 hlm
       subst this
       refine (eql_none c c2 _ a2 w).mono ?_
       rintro e w' ⟨rfl,rfl⟩
       exact ⟨true,rfl,⟨fun _=>rfl,fun _=>rfl⟩,Below.refl _ _⟩
     · rw [← hlm]
       exact eql_some l m b o b2 o2 c c2 w hl hlm h1 h2
 · refine (eql_len _ _ c c2 a a2 w (by omega) (by omega) hlm).mono ?_
   rintro e w' ⟨rfl,rfl⟩
   exact ⟨false,rfl,⟨(fun h=>by cases h),fun h=>absurd (congrArg List.length h) hlm⟩,Below.refl _ _⟩
def withinB (a b : List Lb) : Bool:=a.all fun x=>(getL b x.name).toList == x.value.toList
theorem within_any (v u : Value) (a b : List Lb) (w : World) (hv : Lbs w v a) (hu : Lbs w u b) (ha : a.length ≤ 1000000) (hb : b.length ≤ 1000000) : Calls Tryz.prog 203 #[v,u] w fun e w'=>e = .returned (.bool (withinB a b))∧Below w.heap.size w w':=by
 obtain ⟨a1,c1,rfl⟩:=hv.shape
 have hg : ∀ n W,Below w.heap.size w W→Calls Tryz.prog 241 #[u,.string n] W fun e w'=>e = .returned (.string (getL b n))∧Below W.heap.size W w':=fun n W h=>get_any u b n W (hu.grow h) hb
 clear hu
 replace hv : Hid (Lbs w (.slice a1 a.length c1) a):=hv
 obtain ⟨R,hR⟩ : ∃ R,Hid (R = withinB a b):=⟨_,rfl⟩
 rw [← hR.out]
 go_enter Tryz.func203,Tryz.ntmps203
 go_wp2
 go_loopw [9] (fun i wr=>∃ k : Nat,k ≤ a.length∧i = .int .i64 k∧Hid (∀ j,j < k→((getL b (a.getD j lb0).name).toList == (a.getD j lb0).value.toList) = true)∧Hid (Below w.heap.size w wr)) (fun i _=>a.length - (intOf i).toNat)
 case atStart=>exact ⟨0,Nat.zero_le _,rfl,fun j hj=>absurd hj (Nat.not_lt_zero _),Below.refl _ _⟩
 case round =>
  obtain ⟨k,hk,rfl,hall,hB⟩:=hrel
  by_cases hlt : k < a.length
  · have hki : (k : Int) < (a.length : Int):=by omega
    obtain ⟨b1,o1,rfl,x0,x1⟩:=lb_at (Sls.grow hv.out hB.out) k hlt
    have hB1:=hB.out.alloc hB.out.size (.cells #[.string (a.getD k lb0).name,.string (a.getD k lb0).value] 122)
    have hcall : ∀ p : Bel (wr.alloc (.cells #[.string (a.getD k lb0).name,.string (a.getD k lb0).value] 122)),Calls Tryz.prog 241 #[u,.string (a.getD k lb0).name] p.W fun e w'=>e = .returned (.string (getL b (a.getD k lb0).name))∧Below p.W.heap.size p.W w':=fun p=>hg _ _ (hB1.trans (p.h.mono hB1.size))
    have hmem : Hid (a.getD k lb0 ∈ a):=by
     show _ ∈ _
     rw [List.getD_eq_getElem?_getD,List.getElem?_eq_getElem hlt];exact List.getElem_mem hlt
    obtain ⟨x,hx⟩ : ∃ x,Hid (x = a.getD k lb0):=⟨_,rfl⟩
    rw [← hx.out] at x0 x1 hB1 hcall hmem
    obtain ⟨xn,xv⟩:=x
    simp only at x0 x1 hB1 hcall hmem
    have c0 : ∀ p : Bel (wr.alloc (.cells #[.string xn,.string xv] 122)),p.W.cell? ⟨wr.heap.size,0,none⟩ = some (.string xn):=fun p=>p.cell (by simp [go_sem])
    have c1 : ∀ p : Bel (wr.alloc (.cells #[.string xn,.string xv] 122)),p.W.cell? ⟨wr.heap.size,1,none⟩ = some (.string xv):=fun p=>p.cell (by simp [go_sem])
    generalize hgv : getL b xn = gv at *
    cases he : gv.toList == xv.toList with
    | true =>
     have hall2 : Hid (∀ j,j < k + 1→((getL b (a.getD j lb0).name).toList == (a.getD j lb0).value.toList) = true):=fun j hj=>by
      by_cases e : j = k
      · subst e;rw [← hx.out];show ((getL b xn).toList == xv.toList) = true;rw [hgv];exact he
      · exact hall.out j (by omega)
     go_wp2
     refine wp_region_bel (by kernel_rfl) (by kernel_rfl) ?_
     repeat (go_big_quiet_step (exact Calls.bel (hcall _)))
     refine wpQuiet_nil ?_
     rintro W ⟨p,rfl⟩
     go_wp2
     refine ⟨⟨k + 1,by omega,by go_num,hall2,hB1.trans (p.h.mono hB1.size)⟩,?_⟩
     simp [intOf];omega
    | false =>
     have hRf : Hid (R = false):=by
      show _ = _
      rw [hR.out]
      unfold withinB
      rw [List.all_eq_false]
      exact ⟨_,hmem.out,by show ¬ ((getL b xn).toList == xv.toList) = true;rw [hgv,he];decide⟩
     go_wp2
     refine wp_region_bel (by kernel_rfl) (by kernel_rfl) ?_
     repeat (go_big_quiet_step (exact Calls.bel (hcall _)))
     refine wpQuiet_nil ?_
     rintro W ⟨p,rfl⟩
     go_wp2
     go_ret
     exact ⟨by rw [hRf.out];rfl,hB1.trans (p.h.mono hB1.size)⟩
  · obtain rfl : k = a.length:=by omega
    have hki : ¬ (a.length : Int) < (a.length : Int):=by omega
    have hRt : Hid (R = true):=by
     show _ = _
     rw [hR.out]
     unfold withinB
     rw [List.all_eq_true]
     intro x hx
     obtain ⟨j,hj,rfl⟩:=List.getElem_of_mem hx
     have:=hall.out j hj
     rw [List.getD_eq_getElem?_getD,List.getElem?_eq_getElem hj] at this
     exact this
    have hB':=hB.out
    go_wp2
    go_ret
    exact ⟨by rw [hRt.out];rfl,hB'⟩
def fitB (a b : List Lb) : Bool:=if b.length < a.length then withinB b a else withinB a b
theorem fit_any (v u : Value) (a b : List Lb) (w : World) (hv : Lbs w v a) (hu : Lbs w u b) (ha : a.length ≤ 1000000) (hb : b.length ≤ 1000000) : Calls Tryz.prog 158 #[v,u] w fun e w'=>e = .returned (.bool (fitB a b))∧Below w.heap.size w w':=by
 have h1:=within_any v u a b w hv hu ha hb
 have h2:=within_any u v b a w hu hv hb ha
 obtain ⟨a1,c1,rfl⟩:=hv.shape
 obtain ⟨a2,c2,rfl⟩:=hu.shape
 unfold fitB
 by_cases hc : b.length < a.length
 · have hci : (b.length : Int) < (a.length : Int):=by omega
   rw [if_pos hc]
   clear h1
   generalize withinB b a = R at *
   go_enter Tryz.func158,Tryz.ntmps158
   go_wp2_with (first | (go_at_call 203;refine h2.mono ?_;rintro e w1 ⟨rfl,hb1⟩))
   go_ret
   exact ⟨rfl,hb1⟩
 · have hci : ¬ (b.length : Int) < (a.length : Int):=by omega
   rw [if_neg hc]
   clear h2
   generalize withinB a b = R at *
   go_enter Tryz.func158,Tryz.ntmps158
   go_wp2_with (first | (go_at_call 203;refine h1.mono ?_;rintro e w1 ⟨rfl,hb1⟩))
   go_ret
   exact ⟨rfl,hb1⟩
structure Se where
 a : Option Addr
 n : Nat
 c : Nat
 labs : List Lb
 v : Vl
def se0 : Se:=⟨none,0,0,[],zer⟩
def encR : Enc Se where
 arr x:=[.slice x.a x.n x.c,.int .i64 x.v.kind,.int .i64 x.v.n]
 d:=se0
 k:=3
 len _:=rfl
 one _ u hu:=by simp at hu;rcases hu with rfl | rfl | rfl <;> rfl
 pos:=by decide
def TR : RowTy encR where
 st:=43
 et:=86
 z:=.agg #[.slice none 0 0,.int .i64 0,.int .i64 0]
 bytes:=40
 hu:=Tryz.underlying43
 hi:=by kernel_rfl
 hz:=rfl
 hb:=by decide
abbrev Srs:=Sls encR
abbrev OwnR:=OwnS TR
def serOf (x : Se) : Series10.Sr:=⟨x.labs,x.v⟩
def SeOk (w : World) (g : Nat) (x : Se) : Prop:=Lbs w (.slice x.a x.n x.c) x.labs∧∀ ad,x.a = some ad→ad.block ≠ g
def LsOk (w : World) (g : Nat) (L : List Se) : Prop:=∀ x ∈ L,SeOk w g x
theorem SeOk.grow {w w' : World} {g : Nat} {x : Se} (h : SeOk w g x) (hb : Below w.heap.size w w') : SeOk w' g x:=⟨h.1.grow hb,h.2⟩
theorem LsOk.grow {w w' : World} {g : Nat} {L : List Se} (h : LsOk w g L) (hb : Below w.heap.size w w') : LsOk w' g L:=fun x hx=>(h x hx).grow hb
theorem SeOk.set {w : World} {g o : Nat} {u : Value} {x : Se} (h : SeOk w g x) : SeOk (w.setCell ⟨g,o,none⟩ u) g x:=by
 refine ⟨?_,h.2⟩
 obtain ⟨a,c,e,hn,hc⟩:=h.1
 refine ⟨a,c,e,hn,?_⟩
 rcases hc with hc | ⟨b,o',rfl,hc⟩
 · exact .inl hc
 · injection e with e1 e2 e3
   have hne:=h.2 _ e1
   refine .inr ⟨b,o',rfl,fun t ht i y hy=>?_⟩
   rw [World.cell?_setCell_other _ _ _ _ (fun e=>hne (congrArg Addr.block e).symm)]
   exact hc t ht i y hy
theorem sr_at {w : World} {a : Option Addr} {n c : Nat} {l : List Se} (h : Srs w (.slice a n c) l) (t : Nat) (ht : t < l.length) : ∃ b o,a = some ⟨b,o,none⟩∧w.cell? ⟨b,o + t * 3,none⟩ = some (.slice (l.getD t se0).a (l.getD t se0).n (l.getD t se0).c)∧w.cell? ⟨b,o + t * 3 + 1,none⟩ = some (.int .i64 (l.getD t se0).v.kind)∧w.cell? ⟨b,o + t * 3 + 2,none⟩ = some (.int .i64 (l.getD t se0).v.n):=by
 obtain ⟨b,o,e,h⟩:=h.at t ht
 exact ⟨b,o,e,h 0 _ rfl,h 1 _ rfl,h 2 _ rfl⟩
theorem flatR_set (xs : List Se) (j : Nat) (x : Se) : flat encR (xs.set j x) = (((flat encR xs).set (j * 3) (.slice x.a x.n x.c)).set (j * 3 + 1) (.int .i64 x.v.kind)).set (j * 3 + 2) (.int .i64 x.v.n):=by
 induction xs generalizing j with
 | nil=>simp [flat]
 | cons a r ih =>
  cases j with
  | zero=>rfl
  | succ j =>
   show encR.arr a ++ flat encR (r.set j x) = ((((encR.arr a ++ flat encR r)).set ((j + 1) * 3) _).set ((j + 1) * 3 + 1) _).set ((j + 1) * 3 + 2) _
   rw [ih,show (j + 1) * 3 = j * 3 + 1 + 1 + 1 by omega]
   rfl
theorem own_storeR {w : World} {base g n cap : Nat} {xs : List Se} (h : OwnR w base (.slice (some ⟨g,0,none⟩) n cap) xs) (hn : n = xs.length) (j : Nat) (x : Se) : OwnR (((w.setCell ⟨g,j * 3,none⟩ (.slice x.a x.n x.c)).setCell ⟨g,j * 3 + 1,none⟩ (.int .i64 x.v.kind)).setCell ⟨g,j * 3 + 2,none⟩ (.int .i64 x.v.n)) base (.slice (some ⟨g,0,none⟩) n cap) (xs.set j x):=by
 subst hn
 have h1:=(World.ownsRow.stored h (j * 3) (.slice x.a x.n x.c)).1
 have h2:=(World.ownsRow.stored h1 (j * 3 + 1) (.int .i64 x.v.kind)).1
 have h3:=(World.ownsRow.stored h2 (j * 3 + 2) (.int .i64 x.v.n)).1
 unfold OwnR OwnS
 rw [List.length_set,flatR_set]
 exact h3
theorem own_cellS {w : World} {base g n cap : Nat} {xs : List Se} (h : OwnR w base (.slice (some ⟨g,0,none⟩) n cap) xs) (hn : n = xs.length) (j : Nat) (hj : j < n) :
 (w.cell? ⟨g,j * 3,none⟩ = some (.slice (xs.getD j se0).a (xs.getD j se0).n (xs.getD j se0).c)∧w.cell? ⟨g,j * 3 + 1,none⟩ = some (.int .i64 (xs.getD j se0).v.kind)∧w.cell? ⟨g,j * 3 + 2,none⟩ = some (.int .i64 (xs.getD j se0).v.n))∧(w.frozen? ⟨g,j * 3,none⟩ = false∧w.frozen? ⟨g,j * 3 + 1,none⟩ = false∧w.frozen? ⟨g,j * 3 + 2,none⟩ = false):=by
 obtain ⟨c0,f0⟩:=h.cellR hn j 0 hj (by decide)
 obtain ⟨c1,f1⟩:=h.cellR hn j 1 hj (by decide)
 obtain ⟨c2,f2⟩:=h.cellR hn j 2 hj (by decide)
 exact ⟨⟨c0,c1,c2⟩,f0,f1,f2⟩
theorem mk_self {l : List Lb} (h : IsSet l) : MkQ l l 0:=.inr (.inr (.inr ⟨h.1,h.2.2,rfl,h.2.1,List.Perm.refl _⟩))
def padR (l : List Se) (n : Nat) : List Se:=l ++ List.replicate (n - l.length) se0
theorem padR_len (l : List Se) (n : Nat) (h : l.length ≤ n) : (padR l n).length = n:=by unfold padR;rw [List.length_append,List.length_replicate];omega
theorem padR_set (l : List Se) (n : Nat) (h : l.length < n) (y : Se) : (padR l n).set l.length y = padR (l ++ [y]) n:=by
 unfold padR
 rw [List.set_append_right _ _ (Nat.le_refl _),Nat.sub_self,List.length_append,show n - l.length = (n - (l.length + 1)) + 1 by omega,List.replicate_succ,List.append_assoc]
 rfl
theorem padR_full (l : List Se) : padR l l.length = l:=by simp [padR]
def SetsR (L : List Se) (w : World) (e : Ending) (w' : World) : Prop :=
 Below w.heap.size w w'∧(((∀ x ∈ L,IsSet x.labs)∧∃ L',e = .returned (.tuple #[.slice (some ⟨w.heap.size,0,none⟩) L.length L.length,.int .i64 0])∧OwnR w' w.heap.size (.slice (some ⟨w.heap.size,0,none⟩) L.length L.length) L'∧LsOk w' w.heap.size L'∧L'.map serOf = L.map serOf) ∨
  ((∃ x ∈ L,¬ IsSet x.labs)∧e = .returned (.tuple #[.slice none 0 0,.int .i64 90])))
theorem make_case (l : List Lb) : IsSet l ∨ (¬ IsSet l∧∃ out,MkQ l out 0∧out ≠ l) ∨ (¬ IsSet l∧∀ out e,MkQ l out e→e ≠ 0):=by
 by_cases h : IsSet l
 · exact .inl h
 · by_cases h2 : ∃ out,MkQ l out 0
   · obtain ⟨out,hq⟩:=h2
     exact .inr (.inl ⟨h,out,hq,fun e=>h (e ▸ hq.set rfl)⟩)
   · exact .inr (.inr ⟨h,fun out e hq h0=>h2 ⟨out,h0 ▸ hq⟩⟩)
theorem sets_any (v : Value) (L : List Se) (w : World) (hv : Srs w v L) (hin : ∀ x ∈ L,Lbs w (.slice x.a x.n x.c) x.labs) (hr : ∀ x ∈ L,LbsR x.labs∧x.labs.length ≤ 4398046511104) (hl : L.length ≤ 1000000) : Calls Tryz.prog 114 #[v] w fun e w'=>SetsR L w e w':=by
 obtain ⟨a2,c2,rfl⟩:=hv.shape
 replace hv : Hid (Srs w (.slice a2 L.length c2) L):=hv
 have hmem : ∀ k,k < L.length→L.getD k se0 ∈ L:=fun k hk=>by rw [List.getD_eq_getElem?_getD,List.getElem?_eq_getElem hk];exact List.getElem_mem hk
 have hmk : ∀ W : World,(Instr.makeSlice 43 (.int .i64 (L.length : Int)) (.int .i64 (L.length : Int))).run Tryz.prog W = .ok (.slice (some ⟨W.heap.size,0,none⟩) L.length L.length) (W.alloc (.cells (madeCells TR.z.cells (L.length * encR.k)) 86)):=run_makeR TR L.length (by omega)
 have hb0 : Hid (Below w.heap.size w (w.alloc (.cells (madeCells TR.z.cells (L.length * encR.k)) 86))):=(Below.refl _ w).alloc (Nat.le_refl _) _
 have ho0 : Hid (OwnR (w.alloc (.cells (madeCells TR.z.cells (L.length * encR.k)) 86)) w.heap.size (.slice (some ⟨w.heap.size,0,none⟩) L.length L.length) (padR [] L.length)):=own_madeR TR rfl w L.length (by omega)
 generalize madeCells TR.z.cells (L.length * encR.k) = cs at *
 replace hin : Hid (∀ x ∈ L,Lbs w (.slice x.a x.n x.c) x.labs):=hin
 replace hr : Hid (∀ x ∈ L,LbsR x.labs∧x.labs.length ≤ 4398046511104):=hr
 replace hmem : Hid (∀ k,k < L.length→L.getD k se0 ∈ L):=hmem
 go_enter Tryz.func114,Tryz.ntmps114
 go_wp2
 go_loopw [14] (fun i wr=>∃ L' : List Se,L'.length ≤ L.length∧i = .int .i64 L'.length∧Hid (OwnR wr w.heap.size (.slice (some ⟨w.heap.size,0,none⟩) L.length L.length) (padR L' L.length))∧Hid (LsOk wr w.heap.size L')∧Hid (L'.map serOf = (L.take L'.length).map serOf)∧Hid (∀ x ∈ L.take L'.length,IsSet x.labs)∧Hid (Below w.heap.size w wr)) (fun i _=>L.length - (intOf i).toNat)
 case atStart=>exact ⟨[],Nat.zero_le _,rfl,ho0,(fun x hx=>by cases hx),rfl,(fun x hx=>by simp at hx),hb0⟩
 case round =>
  obtain ⟨L',hk,rfl,ho,hok,hmap,hsets,hB⟩:=hrel
  by_cases hlt : L'.length < L.length
  · have hki : (L'.length : Int) < (L.length : Int):=by omega
    obtain ⟨b1,o1,rfl,x0,x1,x2⟩:=sr_at (Sls.grow hv.out hB.out) L'.length hlt
    have hx : Hid (L.getD L'.length se0 ∈ L):=hmem.out _ hlt
    obtain ⟨x,hxe⟩ : ∃ x,Hid (x = L.getD L'.length se0):=⟨_,rfl⟩
    rw [← hxe.out] at x0 x1 x2 hx
    have hlb:=hin.out x hx.out
    obtain ⟨hr1,hr2⟩:=hr.out x hx.out
    have hgl : w.heap.size < wr.heap.size:=(ho.out.lt w.heap.size rfl).2
    have hbox : Below wr.heap.size wr (wr.alloc (.cells #[.slice x.a x.n x.c,.int .i64 x.v.kind,.int .i64 x.v.n] 86)):=(Below.refl _ _).alloc (Nat.le_refl _) _
    have hBx:=hB.out.trans (hbox.mono hB.out.size)
    have hmake:=make_any _ x.labs _ (hlb.grow hBx) hr1 hr2
    have hbc : ∀ W,Below (wr.alloc (.cells #[.slice x.a x.n x.c,.int .i64 x.v.kind,.int .i64 x.v.n] 86)).heap.size (wr.alloc (.cells #[.slice x.a x.n x.c,.int .i64 x.v.kind,.int .i64 x.v.n] 86)) W→W.cell? ⟨wr.heap.size,0,none⟩ = some (.slice x.a x.n x.c)∧W.cell? ⟨wr.heap.size,1,none⟩ = some (.int .i64 x.v.kind)∧W.cell? ⟨wr.heap.size,2,none⟩ = some (.int .i64 x.v.n):=fun W h=>⟨(h.cell (p:=⟨wr.heap.size,0,none⟩) (by simp)).trans (by simp [go_sem]),(h.cell (p:=⟨wr.heap.size,1,none⟩) (by simp)).trans (by simp [go_sem]),(h.cell (p:=⟨wr.heap.size,2,none⟩) (by simp)).trans (by simp [go_sem])⟩
    have hlk : ∀ W,Below w.heap.size w W→Lbs W (.slice x.a x.n x.c) x.labs:=fun W h=>hlb.grow h
    have hin2 : Hid (x ∈ L):=hx
    have hXs : ∀ o : Obj,(wr.alloc o).heap.size = wr.heap.size + 1:=fun o=>World.size_alloc wr o
    have ho1:=ho.out.alloc (.cells #[.slice x.a x.n x.c,.int .i64 x.v.kind,.int .i64 x.v.n] 86)
    have hok1:=hok.out.grow hbox
    rcases make_case x.labs with hset | ⟨hns,out0,hq0,hne⟩ | ⟨hns,hno⟩
    · have hps : Hid (∀ y,(padR L' L.length).set L'.length y = padR (L' ++ [y]) L.length):=fun y=>padR_set L' L.length hlt y
      have hpl : Hid (L.length = (padR L' L.length).length):=(padR_len L' L.length (by omega)).symm
      have hmk2:=mk_self hset
      have htk : Hid (L.take (L'.length + 1) = L.take L'.length ++ [x]):=by
       show _ = _
       rw [List.take_succ_eq_append_getElem hlt,hxe.out,List.getD_eq_getElem?_getD,List.getElem?_eq_getElem hlt]
       rfl
      go_wp2_with (first
       | (go_at_call 150;refine hmake.mono ?_;rintro e w1 ⟨u7,out,er,rfl,hq,ho7,hb1⟩;obtain ⟨rfl,rfl⟩:=hq.one hmk2;obtain ⟨a7,c7,rfl⟩:=ho7.shape;have hB1:=hBx.trans (hb1.mono hBx.size);obtain ⟨y0,y1,y2⟩:=hbc w1 hb1;have hl1:=hlk w1 hB1)
       | (go_at_call 151;refine (eql_any _ _ _ x.labs w1 ho7.sls hl1 (by omega) (by omega)).mono ?_;rintro e w2 ⟨B,rfl,hBi,hb2⟩;obtain rfl:=hBi.2 rfl;have hB2:=hB1.trans (hb2.mono hB1.size);obtain ⟨y0,y1,y2⟩:=hbc w2 (hb1.trans (hb2.mono hb1.size));have ho2:=(ho1.stay hb1).stay hb2;obtain ⟨⟨d0,d1,d2⟩,f0,f1,f2⟩:=own_cellS ho2 hpl.out L'.length hlt))
      have hy : SeOk w2 w.heap.size ⟨a7,x.labs.length,c7,x.labs,x.v⟩:=by
       refine ⟨ho7.sls.grow hb2,fun ad e=>?_⟩
       have hA7:=e
       simp only at hA7
       subst hA7
       have:=(ho7.lt ad.block rfl).1
       rw [hXs] at this
       omega
      have ho3:=own_storeR ho2 hpl.out L'.length ⟨a7,x.labs.length,c7,x.labs,x.v⟩
      rw [hps.out] at ho3
      simp only at ho3
      refine ⟨⟨L' ++ [⟨a7,x.labs.length,c7,x.labs,x.v⟩],by simp;omega,by simp,?_,?_,?_,?_,?_⟩,?_⟩
      · exact ho3
      · intro z hz
        rcases List.mem_append.1 hz with hz | hz
        · exact (((hok1.grow hb1).grow hb2 z hz).set.set).set
        · rw [List.mem_singleton.1 hz];exact hy.set.set.set
      · show _ = _
        rw [List.length_append,List.length_singleton,htk.out,List.map_append,List.map_append,hmap.out]
        rfl
      · intro z hz
        rw [List.length_append,List.length_singleton,htk.out] at hz
        rcases List.mem_append.1 hz with hz | hz
        · exact hsets.out z hz
        · rw [List.mem_singleton.1 hz];exact hset
      · exact ((hB2.setCell (p:=⟨w.heap.size,L'.length * 3,none⟩) (Nat.le_refl _) _).setCell (p:=⟨w.heap.size,L'.length * 3 + 1,none⟩) (Nat.le_refl _) _).setCell (p:=⟨w.heap.size,L'.length * 3 + 2,none⟩) (Nat.le_refl _) _
      · simp [intOf];omega
    · have hrr : Hid (∃ x ∈ L,¬ IsSet x.labs):=⟨x,hin2.out,hns⟩
      go_wp2_with (first
       | (go_at_call 150;refine hmake.mono ?_;rintro e w1 ⟨u7,out,er,rfl,hq,ho7,hb1⟩;obtain ⟨rfl,rfl⟩:=hq.one hq0;obtain ⟨a7,c7,rfl⟩:=ho7.shape;have hB1:=hBx.trans (hb1.mono hBx.size);obtain ⟨y0,y1,y2⟩:=hbc w1 hb1;have hl1:=hlk w1 hB1;have hol:=(hq.set rfl).2.2)
       | (go_at_call 151;refine (eql_any _ _ _ x.labs w1 ho7.sls hl1 (by omega) (by omega)).mono ?_;rintro e w2 ⟨B,rfl,hBi,hb2⟩;have hB2:=hB1.trans (hb2.mono hB1.size);obtain rfl : B = false:=(by cases hb : B with | false=>rfl | true=>exact absurd (hBi.1 hb) hne)))
      go_ret2
      exact ⟨hB2,.inr ⟨hrr.out,rfl⟩⟩
    · have hrr : Hid (∃ x ∈ L,¬ IsSet x.labs):=⟨x,hin2.out,hns⟩
      go_wp2_with (first
       | (go_at_call 150;refine hmake.mono ?_;rintro e w1 ⟨u7,out,er,rfl,hq,ho7,hb1⟩;have hen : (er != 0) = true:=(by simpa using hno _ _ hq);have hB1:=hBx.trans (hb1.mono hBx.size)))
      go_ret2
      exact ⟨hB1,.inr ⟨hrr.out,rfl⟩⟩
  · have hkk : L'.length = L.length:=by omega
    have hki : ¬ (L'.length : Int) < (L.length : Int):=by omega
    have h1:=ho.out
    rw [show padR L' L.length = L' by rw [← hkk];exact padR_full L'] at h1
    have h2:=hmap.out
    rw [List.take_of_length_le (by omega)] at h2
    have h3:=hsets.out
    rw [List.take_of_length_le (by omega)] at h3
    have h4:=hok.out
    have h5:=hB.out
    replace h1 : Hid _:=h1
    replace h2 : Hid _:=h2
    replace h3 : Hid _:=h3
    replace h4 : Hid _:=h4
    clear hmap
    go_wp2
    go_ret2
    exact ⟨h5,.inl ⟨h3.out,L',rfl,h1.out,h4.out,h2.out⟩⟩
end Go.Proofs.YtdhlfpgibfaimaaGreatDoor
