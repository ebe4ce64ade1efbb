/- StLs;Sh;SoMk. -/
import Derived.Test.YtdhlfpgibfaimaaGreatDoorNmQb
import Derived.Shelf.SlSortCmp.NoneTotal
import Derived.Shelf.Small.Strs
import Derived.Shelf.SlGeneric
import Derived.Shelf.Small.Wraps
import Derived.Shelf.Strings.Prefix
import Derived.Ground.SlgnProg
import Derived.Ground.SlsfProg
import Derived.Shelf.SlicesG.Turned
import Derived.Test.YtdhlfpgibfaimaaGreatDoorProg
import Derived.Lib.AppendZeros
import Derived.Sort.OwnSorted

set_option maxRecDepth 100000
set_option maxHeartbeats 2000000
set_option linter.unusedVariables false
namespace Go.Proofs.YtdhlfpgibfaimaaGreatDoor
open Go.RowKit
open Classical in
noncomputable def setB (l : List Lb) : Bool:=decide (IsSet l)
theorem setB_iff {l : List Lb} : setB l = true ↔ IsSet l:=by simp [setB]
theorem setB_no {l : List Lb} (h : ¬ IsSet l) : setB l = false:=by simp [setB,h]
def Okl (l : List Lb) : Prop:=(∀ a ∈ l,IsLb a)∧Rise l
theorem Okl.nil : Okl []:=⟨(fun a h=>by cases h),List.Pairwise.nil⟩
theorem rise_snoc {l : List Lb} {a : Lb} (h : Rise l) (ha : ∀ b ∈ l,Nlt b a) : Rise (l ++ [a]):=by
 unfold Rise
 rw [List.pairwise_append]
 exact ⟨h,List.pairwise_cons.2 ⟨(fun b hb=>by cases hb),List.Pairwise.nil⟩,fun b hb c hc=>by
  have : c = a:=by simpa using hc
  subst this;exact ha b hb⟩
theorem okl_snoc {l : List Lb} {a : Lb} (h : Okl l) (hl : IsLb a) (ha : l = [] ∨ ∃ m b,l = m ++ [b]∧Nlt b a) : Okl (l ++ [a]):=by
 refine ⟨fun b hb=>?_,rise_snoc h.2 fun b hb=>?_⟩
 · rcases List.mem_append.1 hb with hb | hb
   · exact h.1 b hb
   · have : b = a:=by simpa using hb
     subst this;exact hl
 · rcases ha with rfl | ⟨m,c,rfl,hc⟩
   · cases hb
   · rcases List.mem_append.1 hb with hb | hb
     · have h2:=h.2
       unfold Rise at h2
       rw [List.pairwise_append] at h2
       exact (h2.2.2 b hb c (by simp)).trans hc
     · have : b = c:=by simpa using hb
       subst this;exact hc
theorem okl_zero {l : List Lb} (h0 : 0 < l.length) (hl : IsLb (l.getD 0 lb0)) : Okl (l.take 1):=by
 rw [ltake_getD l lb0 0 h0]
 exact okl_snoc Okl.nil hl (.inl rfl)
theorem okl_succ {l : List Lb} {j : Nat} (h : Okl (l.take (j + 1))) (hk : j + 1 < l.length) (hl : IsLb (l.getD (j + 1) lb0)) (hn : Nlt (l.getD j lb0) (l.getD (j + 1) lb0)) : Okl (l.take (j + 1 + 1)):=by
 rw [ltake_getD l lb0 (j + 1) hk]
 refine okl_snoc h hl (.inr ⟨l.take j,l.getD j lb0,ltake_getD l lb0 j (by omega),hn⟩)
theorem not_okl_lb {l : List Lb} {k : Nat} (hk : k < l.length) (h : ¬ IsLb (l.getD k lb0)) : ¬ Okl l:=fun g=>h (g.1 _ (lgetD_mem l lb0 k hk))
theorem not_okl_lt {l : List Lb} {j : Nat} (hk : j + 1 < l.length) (h : ¬ Nlt (l.getD j lb0) (l.getD (j + 1) lb0)) : ¬ Okl l:=by
 rintro ⟨_,g⟩
 unfold Rise at g
 rw [List.pairwise_iff_getElem] at g
 refine h ?_
 have:=g j (j + 1) (by omega) hk (by omega)
 rw [List.getD_eq_getElem?_getD,List.getD_eq_getElem?_getD,List.getElem?_eq_getElem (by omega),List.getElem?_eq_getElem hk]
 exact this
theorem set_of_okl {l : List Lb} (h : ¬ Okl l) : ¬ IsSet l:=fun g=>h ⟨g.1,g.2.1⟩
theorem nlt_less (a b : Lb) : Op.bytesLess a.name.toList b.name.toList = decide (Nlt a b):=less_cmp _ _
theorem LbsR.at {l : List Lb} (h : LbsR l) {k : Nat} (hk : k < l.length) : LbR (l.getD k lb0):=h _ (lgetD_mem l lb0 k hk)
theorem set_any (v : Value) (l : List Lb) (w : World) (hv : Lbs w v l) (hr : LbsR l) (hlen : l.length ≤ 9223372036854775807) : Calls Tryz.prog 76 #[v] w fun e w'=>e = .returned (.bool (setB l))∧Below w.heap.size w w':=by
 obtain ⟨a,c,rfl⟩:=hv.shape
 replace hv : Hid _:=hv
 replace hr : Hid _:=hr
 go_enter Tryz.func76,Tryz.ntmps76
 go_wp2
 go_loopw [3] (fun i wr=>∃ k : Nat,k ≤ l.length∧i = .int .i64 k∧Okl (l.take k)∧Below w.heap.size w wr) (fun i _=>l.length - (intOf i).toNat)
 case atStart=>exact ⟨0,Nat.zero_le _,rfl,Okl.nil,Below.refl _ _⟩
 case round =>
  obtain ⟨k,hk,rfl,hok,hB⟩:=hrel
  by_cases hlt : k < l.length
  · have hki : (k : Int) < (l.length : Int):=by omega
    obtain ⟨b,o,rfl,hc0,hc1⟩:=lb_at (Sls.grow hv.out hB) k hlt
    have hI:=fun W=>calls_alloc (is_any (l.getD k lb0) W (LbsR.at hr.out hlt))
    have c0 : ∀ p : Bel wr,p.W.cell? ⟨b,o + k * 2,none⟩ = some (.string (l.getD k lb0).name):=fun p=>p.cell hc0
    have c1 : ∀ p : Bel wr,p.W.cell? ⟨b,o + k * 2 + 1,none⟩ = some (.string (l.getD k lb0).value):=fun p=>p.cell hc1
    clear hc0 hc1
    cases hlb : lbB (l.getD k lb0) with
    | false =>
     have hn : Hid (setB l = false):=setB_no (set_of_okl (not_okl_lb hlt (fun h=>by rw [lbB_iff.2 h] at hlb;cases hlb)))
     rw [hlb] at hI
     clear hlb
     generalize l.getD k lb0 = x at *
     obtain ⟨n,u⟩:=x
     unfold lbV at hI
     simp only at hI c0 c1
     go_wp2
     refine wp_region_bel (by kernel_rfl) (by kernel_rfl) ?_
     repeat (go_big_quiet_step ((go_at_call 120;exact Calls.bel (hI _))))
     refine wpQuiet_nil ?_
     rintro _ ⟨⟨wq,hq⟩,rfl⟩
     go_wp2
     go_ret
     exact ⟨by rw [hn.out];rfl,hB.trans (hq.mono hB.size)⟩
    | true =>
     have hil : IsLb (l.getD k lb0):=lbB_iff.1 hlb
     rw [hlb] at hI
     clear hlb
     cases k with
     | zero =>
      have hok2:=okl_zero hlt hil
      generalize l.getD 0 lb0 = x at *
      obtain ⟨n,u⟩:=x
      unfold lbV at hI
      simp only [Nat.zero_mul,Nat.add_zero] at hI c0 c1
      clear hil
      simp only [Int.natCast_zero] at hki ⊢
      go_wp2
      refine wp_region_bel (by kernel_rfl) (by kernel_rfl) ?_
      repeat (go_big_quiet_step ((go_at_call 120;exact Calls.bel (hI _))))
      refine wpQuiet_nil ?_
      rintro _ ⟨⟨wq,hq⟩,rfl⟩
      go_wp2
      refine ⟨⟨0 + 1,by omega,by go_num,hok2,hB.trans (hq.mono hB.size)⟩,?_⟩
      simp [intOf];omega
     | succ j =>
      obtain ⟨b',o',e,hd0,hd1⟩:=lb_at (Sls.grow hv.out hB) j (by omega)
      cases e
      have d0 : ∀ p : Bel wr,p.W.cell? ⟨b,o + j * 2,none⟩ = some (.string (l.getD j lb0).name):=fun p=>p.cell hd0
      clear hd0 hd1
      have hless:=nlt_less (l.getD j lb0) (l.getD (j + 1) lb0)
      by_cases hnl : Nlt (l.getD j lb0) (l.getD (j + 1) lb0)
      · have hok2:=okl_succ hok hlt hil hnl
        rw [decide_eq_true hnl] at hless
        have hle : Op.bytesLess (l.getD (j + 1) lb0).name.toList (l.getD j lb0).name.toList = false:=by rw [nlt_less];exact decide_eq_false hnl.asymm
        have hne : ((l.getD (j + 1) lb0).name.toList == (l.getD j lb0).name.toList) = false:=toList_ne (Ne.symm hnl.irrefl)
        clear hil hnl
        generalize l.getD (j + 1) lb0 = x at *
        generalize l.getD j lb0 = y at *
        obtain ⟨n,u⟩:=x
        obtain ⟨n2,u2⟩:=y
        unfold lbV at hI
        simp only at hI c0 c1 d0 hless hle hne
        go_wp2
        refine wp_region_bel (by kernel_rfl) (by kernel_rfl) ?_
        repeat (go_big_quiet_step ((go_at_call 120;exact Calls.bel (hI _))))
        refine wpQuiet_nil ?_
        rintro _ ⟨⟨wq,hq⟩,rfl⟩
        go_wp2
        refine ⟨⟨j + 1 + 1,by omega,by go_num,hok2,hB.trans (hq.mono hB.size)⟩,?_⟩
        simp [intOf];omega
      · have hn : Hid (setB l = false):=setB_no (set_of_okl (not_okl_lt hlt hnl))
        have hor : Op.bytesLess (l.getD (j + 1) lb0).name.toList (l.getD j lb0).name.toList = true ∨ (Op.bytesLess (l.getD (j + 1) lb0).name.toList (l.getD j lb0).name.toList = false∧((l.getD (j + 1) lb0).name.toList == (l.getD j lb0).name.toList) = true):=by
         rcases nlt_total (l.getD (j + 1) lb0) (l.getD j lb0) with h | h | h
         · exact .inl (by rw [nlt_less];exact decide_eq_true h)
         · refine .inr ⟨?_,by rw [h];simp⟩
           rw [nlt_less];exact decide_eq_false fun g=>g.irrefl h
         · exact absurd h hnl
        clear hil hnl hless
        generalize l.getD (j + 1) lb0 = x at *
        generalize l.getD j lb0 = y at *
        obtain ⟨n,u⟩:=x
        obtain ⟨n2,u2⟩:=y
        unfold lbV at hI
        simp only at hI c0 c1 d0 hor
        rcases hor with hor | ⟨hor,hor2⟩
        all_goals
         go_wp2
         refine wp_region_bel (by kernel_rfl) (by kernel_rfl) ?_
         repeat (go_big_quiet_step ((go_at_call 120;exact Calls.bel (hI _))))
         refine wpQuiet_nil ?_
         rintro _ ⟨⟨wq,hq⟩,rfl⟩
         go_wp2
         go_ret
         exact ⟨by rw [hn.out];rfl,hB.trans (hq.mono hB.size)⟩
  · obtain rfl : k = l.length:=by omega
    have hki : ¬ (l.length : Int) < (l.length : Int):=by omega
    rw [List.take_of_length_le (Nat.le_refl _)] at hok
    have hn : Hid (setB l = decide ((l.length : Int) ≤ 16)):=by
     show _ = _
     rw [Bool.eq_iff_iff,setB_iff,decide_eq_true_eq]
     exact ⟨fun h=>by have:=h.2.2;omega,fun h=>⟨hok.1,hok.2,by omega⟩⟩
    clear hok
    go_wp2
    go_ret
    exact ⟨by rw [hn.out];rfl,hB⟩
end Go.Proofs.YtdhlfpgibfaimaaGreatDoor
namespace Go.Proofs.YtdhlfpgibfaimaaGreatDoor
open Go.RowKit Go.Sort
instance : Inhabited Lb:=⟨lb0⟩
theorem cmpB_trans {a b c : Lb} (h : cmpB a b = -1) (g : cmpB b c = -1) : cmpB a c = -1:=by
 unfold cmpB at *
 rcases cmpL_in (numsS a.name) (numsS b.name) with h1 | h1 | h1
 · rcases cmpL_in (numsS b.name) (numsS c.name) with h2 | h2 | h2
   · rw [cmpL_trans h1 h2];rfl
   · rw [← cmpL_eq h2,h1];rfl
   · rw [h2] at g;simp at g
 · have e:=cmpL_eq h1
   rw [h1] at h
   simp at h
   rw [e]
   rcases cmpL_in (numsS b.name) (numsS c.name) with h2 | h2 | h2
   · rw [h2];rfl
   · rw [h2] at g ⊢
     simp at g ⊢
     exact cmpL_trans h g
   · rw [h2] at g;simp at g
 · rw [h1] at h;simp at h
theorem lt_iff (x y : Lb) : ltOf cmpB x y = true ↔ cmpB x y = -1:=by
 unfold ltOf
 rw [decide_eq_true_eq]
 rcases cmpB_in x y with h | h | h <;> rw [h] <;> decide
theorem lt_no (x y : Lb) : ltOf cmpB x y = false ↔ cmpB x y ≠ -1:=by
 have:=lt_iff x y
 cases h : ltOf cmpB x y <;> rw [h] at this <;> simp_all
theorem swo_lb : SWO (ltOf cmpB) where
 irrefl x:=by rw [lt_no,cmpB_eq.2 rfl];decide
 trans x y z h1 h2:=by rw [lt_iff] at *;exact cmpB_trans h1 h2
 ntrans x y z h1 h2:=by
  rw [lt_no] at *
  intro h
  rcases cmpB_in x y with a | a | a
  · exact h1 a
  · rw [cmpB_eq.1 a] at h;exact h2 h
  · have b : cmpB y x = -1:=by rw [cmpB_neg,a]
    exact h2 (cmpB_trans b h)
theorem lt_tot (x y : Lb) (h1 : ltOf cmpB x y = false) (h2 : ltOf cmpB y x = false) : x = y:=by
 rw [lt_no] at *
 rw [cmpB_neg] at h2
 rcases cmpB_in x y with a | a | a
 · exact absurd a h1
 · exact cmpB_eq.1 a
 · rw [a] at h2;exact absurd rfl h2
def sortL (l : List Lb) : List Lb:=l.mergeSort fun x y=>!(ltOf cmpB) y x
theorem sortL_perm (l : List Lb) : (sortL l).Perm l:=List.mergeSort_perm _ _
def Srt (l : List Lb) : Prop:=l.Pairwise fun x y=>cmpB y x ≠ -1
theorem sortL_srt (l : List Lb) : Srt (sortL l):=by
 have h:=List.pairwise_mergeSort (le:=fun x y=>!(ltOf cmpB) y x) (fun a b c h1 h2=>by
  simp only [Bool.not_eq_true',lt_no] at *
  intro h
  rcases cmpB_in b a with e | e | e
  · exact h1 e
  · rw [← cmpB_eq.1 e] at h;exact h2 h
  · have e2 : cmpB a b = -1:=by rw [cmpB_neg,e]
    exact h2 (cmpB_trans h e2)) (fun a b=>by
  cases h : ltOf cmpB b a with
  | false=>simp
  | true =>
   have : ltOf cmpB a b = false:=by
    rw [lt_no];rw [lt_iff,cmpB_neg] at h;omega
   simp [this]) l
 refine List.Pairwise.imp (fun {x y} hxy=>?_) h
 rw [← lt_no];simpa using hxy
def Nbr (l : List Lb) : Prop:=∀ j,j + 1 < l.length→(l.getD j lb0).name ≠ (l.getD (j + 1) lb0).name
theorem cmpB_name {x y : Lb} (h : cmpB y x ≠ -1) (hn : x.name ≠ y.name) : Nlt x y:=by
 rcases nlt_total x y with a | a | a
 · exact a
 · exact absurd a hn
 · exfalso
   refine h ?_
   unfold Nlt at a
   unfold cmpB
   rw [a];rfl
theorem Srt.rise {l : List Lb} (h : Srt l) (hn : Nbr l) : Rise l:=by
 induction l with
 | nil=>exact List.Pairwise.nil
 | cons a l ih =>
  have h1:=List.pairwise_cons.1 h
  have ht : Rise l:=ih h1.2 (fun j hj=>hn (j + 1) (by simpa using hj))
  refine List.pairwise_cons.2 ⟨fun b hb=>?_,ht⟩
  cases l with
  | nil=>cases hb
  | cons c l =>
   have hac : Nlt a c:=cmpB_name (h1.1 c (by simp)) (hn 0 (by simp))
   rcases List.mem_cons.1 hb with rfl | hb
   · exact hac
   · exact hac.trans (ht.head b hb)
theorem not_apart {l : List Lb} {j : Nat} (hj : j + 1 < l.length) (e : (l.getD j lb0).name = (l.getD (j + 1) lb0).name) : ¬ Apart l:=by
 intro h
 unfold Apart at h
 rw [List.pairwise_iff_getElem] at h
 have:=h j (j + 1) (by omega) hj (by omega)
 refine this ?_
 rw [List.getD_eq_getElem?_getD,List.getD_eq_getElem?_getD,List.getElem?_eq_getElem (by omega),List.getElem?_eq_getElem hj] at e
 exact e
theorem make_rep {l : List Lb} (hl : ∀ a ∈ l,IsLb a) {j : Nat} (hj : j + 1 < (sortL l).length) (e : ((sortL l).getD j lb0).name = ((sortL l).getD (j + 1) lb0).name) : MkQ l [] 8 :=
 .inr (.inl ⟨hl,fun h=>not_apart hj e (h.perm (sortL_perm l).symm),rfl,rfl⟩)
theorem make_many {l : List Lb} (hl : ∀ a ∈ l,IsLb a) (hn : Nbr (sortL l)) (h : 16 < l.length) : MkQ l [] 6 :=
 .inr (.inr (.inl ⟨hl,((sortL_srt l).rise hn).apart.perm (sortL_perm l),h,rfl,rfl⟩))
theorem make_ok {l : List Lb} (hl : ∀ a ∈ l,IsLb a) (hn : Nbr (sortL l)) (h : l.length ≤ 16) : MkQ l (sortL l) 0 :=
 .inr (.inr (.inr ⟨hl,h,rfl,(sortL_srt l).rise hn,sortL_perm l⟩))
theorem make_lb {l : List Lb} {k : Nat} (hk : k < l.length) (h : ¬ IsLb (l.getD k lb0)) : MkQ l [] 90 :=
 .inl ⟨⟨_,lgetD_mem l lb0 k hk,h⟩,rfl,rfl⟩
def cpt : List Lb→List Lb
 | []=>[]
 | [a]=>[a]
 | a :: b :: l=>if a = b then cpt (b :: l) else a :: cpt (b :: l)
theorem cpt_mem : ∀ (l : List Lb) (x : Lb),x ∈ cpt l ↔ x ∈ l
 | [],x=>by simp [cpt]
 | [a],x=>by simp [cpt]
 | a :: b :: l,x=>by
  have ih:=cpt_mem (b :: l) x
  unfold cpt
  by_cases e : a = b
  · rw [if_pos e,ih,e];simp
  · rw [if_neg e,List.mem_cons,ih,List.mem_cons];simp
theorem cpt_sub : ∀ (l : List Lb),(cpt l).Sublist l
 | []=>by simp [cpt]
 | [a]=>by simp [cpt]
 | a :: b :: l=>by
  have ih:=cpt_sub (b :: l)
  unfold cpt
  by_cases e : a = b
  · rw [if_pos e];exact ih.cons _
  · rw [if_neg e];exact ih.cons_cons _
theorem cpt_nodup : ∀ {l : List Lb},Srt l→(cpt l).Nodup
 | [],_=>by simp [cpt]
 | [a],_=>by simp [cpt]
 | a :: b :: l,h=>by
  have h1:=List.pairwise_cons.1 h
  have ih:=cpt_nodup h1.2
  unfold cpt
  by_cases e : a = b
  · rw [if_pos e];exact ih
  · rw [if_neg e]
    refine List.nodup_cons.2 ⟨fun hm=>?_,ih⟩
    have hm2:=(cpt_mem (b :: l) a).1 hm
    rcases List.mem_cons.1 hm2 with rfl | hm3
    · exact e rfl
    · have h2:=(List.pairwise_cons.1 h1.2).1 a hm3
      have h3:=h1.1 b (by simp)
      refine e (lt_tot a b ?_ ?_)
      · rw [lt_no];exact h2
      · rw [lt_no];exact h3
theorem join_make {a b out : List Lb} {e : Int} (ha : ∀ x ∈ a,IsLb x) (hb : ∀ x ∈ b,IsLb x) (h : MkQ (cpt (sortL (a ++ b))) out e) : JoinQ a b out (decide (e = 0)):=by
 have hm : ∀ x,x ∈ cpt (sortL (a ++ b)) ↔ x ∈ a ∨ x ∈ b:=fun x=>by rw [cpt_mem,(sortL_perm _).mem_iff,List.mem_append]
 have hlb : ∀ x ∈ cpt (sortL (a ++ b)),IsLb x:=fun x hx=>((hm x).1 hx).elim (ha x) (hb x)
 have hnd:=cpt_nodup (sortL_srt (a ++ b))
 generalize cpt (sortL (a ++ b)) = m at *
 rcases h with ⟨⟨x,hx,nx⟩,rfl,rfl⟩ | ⟨_,h2,rfl,rfl⟩ | ⟨_,_,h3,rfl,rfl⟩ | ⟨h1,h2,rfl,h3,h4⟩
 · exact absurd (hlb x hx) nx
 · refine .inr ⟨by decide,rfl,fun c hc=>h2 ?_⟩
   have hcm : ∀ x,x ∈ c ↔ x ∈ m:=fun x=>(hc.2 x).trans (hm x).symm
   exact List.Pairwise.imp_of_mem (fun {p q} hp hq hne e=>hne (hc.1.2.1.one ((hcm p).2 hp) ((hcm q).2 hq) e)) hnd
 · refine .inr ⟨by decide,rfl,fun c hc=>?_⟩
   have : m.length ≤ c.length:=nodup_len hnd (fun x hx=>(hc.2 x).2 ((hm x).1 hx))
   have:=hc.1.2.2
   omega
 · exact .inl ⟨by decide,⟨fun x hx=>h1 x (h4.mem_iff.1 hx),h3,by rw [h4.length_eq];exact h2⟩,fun x=>h4.mem_iff.trans (hm x)⟩
end Go.Proofs.YtdhlfpgibfaimaaGreatDoor

namespace Go.Proofs
open Go.Shelf
def Tryz.lays106_ren : Go.Shelf.Ren:=⟨fun | 106=>228 | 213=>259 | 265=>289 | n=>n,fun | 9=>9 | 3=>3 | n=>n,fun | n=>n⟩
theorem Tryz.lays106 : Go.Proofs.Lays.n106 Tryz.prog Tryz.lays106_ren:={
 mixed:=by kernel_rfl
 f106:=Tryz.func228.trans (congrArg some (by kernel_rfl))
 f213:=Tryz.func259.trans (congrArg some (by kernel_rfl))
 f265:=Tryz.func289.trans (congrArg some (by kernel_rfl))
 t3:=Tryz.underlying3
 a3:=Tryz.isAgg3
 z3:=Tryz.sizeOf3
 v3:=Tryz.zeroValue3
 t9:=Tryz.underlying9
 a9:=Tryz.isAgg9
 z9:=Tryz.sizeOf9
 v9:=Tryz.zeroValue9 }
open Go.RowKit in
theorem Tryz.strings_Compare (a b : ByteArray) (w : World) :
 Calls Tryz.prog 228 #[.string a,.string b] w fun e w'=>e = .returned (.int .i64 (Lib.compareBytes a.data.toList b.data.toList))∧w' = w:=Any.strings_Compare Tryz.lays106 a b w
def Tryz.sortL_ren : Go.Shelf.Ren:=⟨fun | 6=>219 | 15=>72 | 14=>255 | 28=>112 | 29=>113 | 20=>280 | 21=>281 | 22=>282 | 23=>283 | 24=>284 | 25=>285 | 26=>286 | 27=>287 | 46=>300 | 47=>145 | 48=>146 | 49=>301 | 50=>302 | 57=>306 | n=>n,fun | 22=>84 | 24=>122 | 25=>202 | 3=>3 | 39=>113 | 0=>0 | 53=>144 | 55=>146 | 4=>4 | 46=>137 | 45=>136 | 50=>141 | 5=>5 | 9=>9 | 66=>168 | 70=>172 | 76=>197 | 77=>198 | n=>n,fun | n=>n⟩
theorem Tryz.sortL : Go.Proofs.SlLaysF0.n6 Tryz.prog Tryz.sortL_ren:={
 mixed:=by kernel_rfl
 f6:=⟨Tryz.f219.name,by decide,Tryz.func219.trans (congrArg some (by kernel_rfl))⟩
 f14:=⟨Tryz.f255.name,by decide,Tryz.func255.trans (congrArg some (by kernel_rfl))⟩
 f15:=Tryz.func72.trans (congrArg some (by kernel_rfl))
 f20:=⟨Tryz.f280.name,by decide,Tryz.func280.trans (congrArg some (by kernel_rfl))⟩
 f21:=⟨Tryz.f281.name,by decide,Tryz.func281.trans (congrArg some (by kernel_rfl))⟩
 f22:=⟨Tryz.f282.name,by decide,Tryz.func282.trans (congrArg some (by kernel_rfl))⟩
 f23:=⟨Tryz.f283.name,by decide,Tryz.func283.trans (congrArg some (by kernel_rfl))⟩
 f24:=⟨Tryz.f284.name,by decide,Tryz.func284.trans (congrArg some (by kernel_rfl))⟩
 f25:=⟨Tryz.f285.name,by decide,Tryz.func285.trans (congrArg some (by kernel_rfl))⟩
 f26:=⟨Tryz.f286.name,by decide,Tryz.func286.trans (congrArg some (by kernel_rfl))⟩
 f27:=⟨Tryz.f287.name,by decide,Tryz.func287.trans (congrArg some (by kernel_rfl))⟩
 f28:=Tryz.func112.trans (congrArg some (by kernel_rfl))
 f29:=Tryz.func113.trans (congrArg some (by kernel_rfl))
 f46:=⟨Tryz.f300.name,by decide,Tryz.func300.trans (congrArg some (by kernel_rfl))⟩
 f47:=Tryz.func145.trans (congrArg some (by kernel_rfl))
 f48:=Tryz.func146.trans (congrArg some (by kernel_rfl))
 f49:=⟨Tryz.f301.name,by decide,Tryz.func301.trans (congrArg some (by kernel_rfl))⟩
 f50:=⟨Tryz.f302.name,by decide,Tryz.func302.trans (congrArg some (by kernel_rfl))⟩
 f57:=⟨Tryz.f306.name,by decide,Tryz.func306.trans (congrArg some (by kernel_rfl))⟩
 t0:=Tryz.underlying0
 a0:=Tryz.isAgg0
 z0:=Tryz.sizeOf0
 v0:=Tryz.zeroValue0
 t3:=Tryz.underlying3
 a3:=Tryz.isAgg3
 z3:=Tryz.sizeOf3
 v3:=Tryz.zeroValue3
 t4:=Tryz.underlying4
 a4:=Tryz.isAgg4
 z4:=Tryz.sizeOf4
 v4:=Tryz.zeroValue4
 t5:=Tryz.underlying5
 a5:=Tryz.isAgg5
 z5:=Tryz.sizeOf5
 v5:=Tryz.zeroValue5
 t9:=Tryz.underlying9
 a9:=Tryz.isAgg9
 z9:=Tryz.sizeOf9
 v9:=Tryz.zeroValue9
 t22:=Tryz.underlying84
 a22:=Tryz.isAgg84
 z22:=Tryz.sizeOf84
 v22:=Tryz.zeroValue84
 t25:=Tryz.underlying202
 a25:=Tryz.isAgg202
 z25:=Tryz.sizeOf202
 v25:=Tryz.zeroValue202
 t39:=Tryz.underlying113
 a39:=Tryz.isAgg113
 z39:=Tryz.sizeOf113
 v39:=Tryz.zeroValue113
 t45:=Tryz.underlying136
 a45:=Tryz.isAgg136
 z45:=Tryz.sizeOf136
 v45:=Tryz.zeroValue136
 t46:=Tryz.underlying137
 a46:=Tryz.isAgg137
 z46:=Tryz.sizeOf137
 v46:=Tryz.zeroValue137
 t50:=Tryz.underlying141
 a50:=Tryz.isAgg141
 z50:=Tryz.sizeOf141
 v50:=Tryz.zeroValue141
 t53:=Tryz.underlying144
 a53:=Tryz.isAgg144
 z53:=Tryz.sizeOf144
 v53:=Tryz.zeroValue144
 t55:=Tryz.underlying146
 a55:=Tryz.isAgg146
 z55:=Tryz.sizeOf146
 v55:=Tryz.zeroValue146
 t66:=Tryz.underlying168
 a66:=Tryz.isAgg168
 z66:=Tryz.sizeOf168
 v66:=Tryz.zeroValue168
 t70:=Tryz.underlying172
 a70:=Tryz.isAgg172
 z70:=Tryz.sizeOf172
 v70:=Tryz.zeroValue172
 t76:=Tryz.underlying197
 a76:=Tryz.isAgg197
 z76:=Tryz.sizeOf197
 v76:=Tryz.zeroValue197
 t77:=Tryz.underlying198
 a77:=Tryz.isAgg198
 z77:=Tryz.sizeOf198
 v77:=Tryz.zeroValue198 }
end Go.Proofs

set_option maxRecDepth 100000
set_option maxHeartbeats 4000000
set_option linter.unusedVariables false
namespace Go.Proofs.YtdhlfpgibfaimaaGreatDoor
open Go.RowKit Go.Sort Go.Shelf
theorem compare_list : ∀ x y : List UInt8,Lib.compareBytes x y = cmpL (x.map fun b=>(b.toNat : Int)) (y.map fun b=>(b.toNat : Int))
 | [],[]=>by simp [Lib.compareBytes,cmpL]
 | [],_ :: _=>by simp [Lib.compareBytes,cmpL]
 | _ :: _,[]=>by simp [Lib.compareBytes,cmpL]
 | a :: x,b :: y=>by
  have ih:=compare_list x y
  rw [Lib.compareBytes,List.map_cons,List.map_cons,cmpL,ih]
  have e1 : (a < b) ↔ (a.toNat : Int) < (b.toNat : Int):=by rw [UInt8.lt_iff_toNat_lt];omega
  have e2 : (b < a) ↔ (b.toNat : Int) < (a.toNat : Int):=by rw [UInt8.lt_iff_toNat_lt];omega
  by_cases h1 : a < b
  · rw [if_pos h1,if_pos (e1.1 h1)]
  · rw [if_neg h1,if_neg (fun h=>h1 (e1.2 h))]
    by_cases h2 : b < a
    · rw [if_pos h2,if_pos (e2.1 h2)]
    · rw [if_neg h2,if_neg (fun h=>h2 (e2.2 h))]
theorem compare_str (a b : ByteArray) : Lib.compareBytes a.data.toList b.data.toList = cmpL (numsS a) (numsS b):=compare_list _ _
theorem scmp_any (a b : ByteArray) (w : World) : Calls Tryz.prog 228 #[.string a,.string b] w fun e w'=>e = .returned (.int .i64 (cmpL (numsS a) (numsS b)))∧w' = w:=by
 rw [← compare_str];exact Tryz.strings_Compare a b w
theorem compareLabel_any (x y : Lb) (w : World) : Calls Tryz.prog 179 #[lbV x,lbV y] w fun e w'=>e = .returned (.int .i64 (cmpB x y))∧∃ q os,w' = grow (w.drewN q) os:=by
 obtain ⟨n1,v1⟩:=x
 obtain ⟨n2,v2⟩:=y
 have h1:=fun W=>scmp_any n1 n2 W
 have h2:=fun W=>scmp_any v1 v2 W
 unfold lbV
 simp only
 by_cases hn : n1 = n2
 · subst hn
   have hc : Hid (cmpB ⟨n1,v1⟩ ⟨n1,v2⟩ = cmpL (numsS v1) (numsS v2)):=by
    show _ = _
    unfold cmpB
    simp only [cmpL_self,if_true]
   go_enter Tryz.func179,Tryz.ntmps179
   go_wp2_with (first | (go_at_call 228;refine (h2 _).mono ?_;rintro e wx ⟨rfl,hwx⟩;subst wx))
   go_ret
   exact ⟨by rw [hc.out];rfl,0,_,by rw [alloc_eq_grow,alloc_eq_grow,grow_grow];rfl⟩
 · have hne:=toList_ne hn
   have hc : Hid (cmpB ⟨n1,v1⟩ ⟨n2,v2⟩ = cmpL (numsS n1) (numsS n2)):=by
    show _ = _
    unfold cmpB
    simp only
    rw [if_neg (fun h=>hn (numsS_inj (cmpL_eq h)))]
   clear hn
   go_enter Tryz.func179,Tryz.ntmps179
   go_wp2_with (first | (go_at_call 228;refine (h1 _).mono ?_;rintro e wx ⟨rfl,hwx⟩;subst wx))
   go_ret
   exact ⟨by rw [hc.out];rfl,0,_,by rw [alloc_eq_grow,alloc_eq_grow,grow_grow];rfl⟩
theorem flatK_flat (l : List Lb) : flatK encL.arr 2 l.toArray = (flat encL l).toArray:=by
 refine ext_get! (by simp [flat_len];rfl) fun t ht=>?_
 have ht' : t < l.length * 2:=by simpa using ht
 rw [get_flatK _ _ _ t (by simpa using ht')]
 have hd : t / 2 < l.length:=by omega
 have h:=flat_get (E:=encL) l (t / 2) (t % 2) hd (Nat.mod_lt _ (by decide))
 rw [show t / 2 * encL.k + t % 2 = t by show t / 2 * 2 + t % 2 = t;omega] at h
 have e1 : l.toArray[t / 2]! = l.getD (t / 2) encL.d:=by
  rw [getElem!_pos _ _ (by simpa using hd)];simp [hd]
 rw [e1]
 have e2 : (flat encL l).toArray[t]! = (flat encL l)[t]?.getD default:=by simp [Array.getElem!_eq_getD,Array.getD_eq_getD_getElem?]
 rw [e2,h]
 simp
theorem putCells_take (cur F : Array Value) (h : F.size ≤ cur.size) : (putCells id 0 F cur).toList.take F.size = F.toList:=by
 apply List.ext_getElem?
 intro j
 by_cases hj : j < F.size
 · rw [List.getElem?_take_of_lt hj,Array.getElem?_toList,Array.getElem?_toList]
   simp [putCells,hj,show j < cur.size by omega]
 · rw [List.getElem?_take_eq_none (by omega),List.getElem?_eq_none (by simp;omega)]
theorem heap_sortedK {w : World} {g n : Nat} {os : Array Obj} {cur : Array Value} {e : TypeId} {fr : Nat × Nat} (F : Array Value) (hb : w.heap[g]? = some (.cells cur e fr)) :
 (grow (putRow id (Sort.ahead w n) g 0 F) os).heap[g]? = some (.cells (putCells id 0 F cur) e fr):=by
 have hg : g < w.heap.size:=(Array.getElem?_eq_some_iff.1 hb).1
 rw [heap_grow_old _ _ (by simpa using hg)]
 simp [putRow,mapBlock,Sort.ahead,Array.getElem?_modify,hb,onCells]
theorem grownBy_sortedK {w : World} {g n : Nat} {os : Array Obj} (F : Array Value) : w.grownBy (grow (putRow id (Sort.ahead w n) g 0 F) os) (some g):=by
 refine ⟨rfl,rfl,rfl,by simp,fun k hk hne=>?_⟩
 rw [heap_grow_old _ _ (by simpa using hk)]
 have : g ≠ k:=fun e=>hne (by rw [e])
 simp [putRow,mapBlock,Sort.ahead,Array.getElem?_modify,this]
theorem sort_any (base : Nat) (v : Value) (l : List Lb) (w : World) (hown : OwnL w base v l) (hl : l.length ≤ 4398046511104) : Calls Tryz.prog 219 #[v,.func (.func 179) #[] #[]] w fun e w'=>e = .returned (.tuple #[])∧OwnL w' base v (sortL l)∧w.grownBy w' v.ownBlock:=by
 rcases hown.2 with ⟨rfl,h0⟩ | ⟨g,cap,cur,rfl,hbg,hg,hnc,hcm,hcs,htake⟩
 · have : l = []:=List.length_eq_zero_iff.1 h0
   subst this
   have:=AnyF.slices_SortFunc_none Tryz.sortL none 0 (.func (.func 179) #[] #[]) w
   change Calls Tryz.prog 219 _ _ _ at this
   refine this.mono ?_
   rintro e w' ⟨rfl,rfl⟩
   have h0 : sortL [] = []:=by simp [sortL]
   rw [h0]
   exact ⟨rfl,OwnS.nil _ _,grown_refl _ _⟩
 · have eg : ∀ args w,(callFunc 179 args).run Tryz.prog w = .ok (.enter 179 args) w:=enters_of Tryz.func179 (by kernel_rfl) rfl
   have hgl : g < w.heap.size:=(Array.getElem?_eq_some_iff.1 hg).1
   have hH : HoldsK encL.arr 2 w g 0 l.toArray:=by
    unfold HoldsK
    rw [flatK_flat]
    intro j hj
    have hj' : j < l.length * encL.k:=by simpa [flat_len] using hj
    refine ⟨?_,by simp [World.frozen?,hg]⟩
    have hf : j < (flat encL l).length:=by rw [flat_len];exact hj'
    have:=World.ownsRow.cells hown (g:=g) rfl j ((flat encL l)[j]) (List.getElem?_eq_getElem hf)
    rw [ladd_at] at this
    rw [this,getElem!_pos _ _ (by simpa using hf)]
    simp
   have hcon:=AnyQ.slices_SortFunc_total Tryz.sortL 2 Tryz.isAgg122 Tryz.sizeOf122 encL.arr (fun _=>rfl) encL.one cmpB swo_lb 179 #[] g 0 cap l.toArray w eg (fun _ _ _ _ x y=>compareLabel_any x y _) hH hgl (by simp;omega) lt_tot
   change Calls Tryz.prog 219 _ _ _ at hcon
   simp only [List.size_toArray] at hcon
   refine hcon.mono ?_
   rintro e w' ⟨rfl,n,os,rfl⟩
   have hsl : (l.mergeSort fun x y=>!(ltOf cmpB) y x) = sortL l:=rfl
   simp only [hsl]
   unfold sortWorldK putRowK
   rw [flatK_flat]
   have hlen : (sortL l).length = l.length:=(sortL_perm l).length_eq
   refine ⟨trivial,?_,grownBy_sortedK _⟩
   show World.ownsRow _ _ _ _ _ _ _
   unfold World.ownsRow
   rw [hlen]
   refine ⟨by rw [flat_len,hlen],.inr ⟨g,cap,_,rfl,hbg,heap_sortedK _ hg,hnc,hcm,by simp [putCells];exact hcs,?_⟩⟩
   have hfs : (flat encL (sortL l)).toArray.size = l.length * encL.k:=by simp [flat_len,hlen]
   rw [← hfs]
   refine putCells_take cur _ ?_
   rw [hfs,hcs]
   exact Nat.mul_le_mul_right _ hnc
theorem info52 : (Tryz.prog.info? 122).map (fun i=>(i.zero,i.size,i.bytes)) = some (some (.agg #[.string ⟨#[]⟩,.string ⟨#[]⟩]),2,32):=TL.hi
theorem grow_nil (n : Nat) (w : World) (hn : n ≤ 4398046511104) : Calls Tryz.prog 254 #[.slice none 0 0,.int .i64 n] w fun e w'=>∃ v,e = .returned v∧OwnL w' w.heap.size v []∧Below w.heap.size w w':=by
 by_cases h0 : n = 0
 · subst h0
   go_enter Tryz.func254,Tryz.ntmps254
   go_wp2_with fail
   go_ret
   exact ⟨_,rfl,OwnS.nil _ _,Below.refl _ _⟩
 · have d1 : decide ((n : Int) < 0) = false:=by simp
   have d2 : (0 : Int) < (n : Int):=by omega
   obtain ⟨i0,hi,hz0,hz1,hz2⟩:=info_parts info52
   have hr:=Lib.run_append_nil_zeros (P:=Tryz.prog) w 84 3 84 122 i0 _ .i64 .i64 Tryz.underlying84 Tryz.underlying3 hi hz0 n (by omega) (by rw [hz1];decide) (by omega) (by rw [hz2];show n * 32 ≤ _;omega)
   have hcap:=grownCap_ge w n 0 122
   have hcm:=grownCap_le_maxLen w n 0 122 (by unfold maxLen;omega)
   generalize grownCap w n 0 122 = cap at *
   have ho:=World.ownsRow_made (base:=w.heap.size) (e:=122) (size:=2) w.drew (Builtin.zeroCells (Value.agg #[.string ⟨#[]⟩,.string ⟨#[]⟩]).cells n ++ Builtin.zeroCells (Value.agg #[.string ⟨#[]⟩,.string ⟨#[]⟩]).cells (cap - n)) cap (Nat.le_refl _) hcm (by rw [Array.size_append,size_zeroCells,size_zeroCells];simp [Value.cells];omega)
   go_enter Tryz.func254,Tryz.ntmps254
   go_wp2_with (first | (at_builtin;refine Lib.wpList_append_run _ rfl _ _ 84 3 rfl (.slice none 0 0) (.int .i64 (n : Int)) rfl rfl _ _ hr ?_))
   go_ret
   exact ⟨_,rfl,ho,((Below.refl _ w).drew).alloc (Nat.le_refl _) _⟩
def Lss (w : World) (v : Value) (ls : List (List Lb)) : Prop:=∃ b o c,v = .slice (some ⟨b,o,none⟩) ls.length c∧∀ t,t < ls.length→∃ u,w.cell? ⟨b,o + t,none⟩ = some u∧Lbs w u (ls.getD t [])
def totL (ls : List (List Lb)) : Nat:=(ls.map List.length).sum
theorem totL_take (ls : List (List Lb)) (k : Nat) (h : k < ls.length) : totL (ls.take (k + 1)) = totL (ls.take k) + (ls.getD k []).length:=by
 unfold totL
 rw [List.take_succ_eq_append_getElem h,List.map_append,List.sum_append]
 simp [h]
theorem totL_le (ls : List (List Lb)) (k : Nat) : totL (ls.take k) ≤ totL ls:=by
 unfold totL
 have h : (ls.map List.length).sum = ((ls.take k).map List.length).sum + ((ls.drop k).map List.length).sum:=by
  rw [← List.sum_append,← List.map_append,List.take_append_drop]
 omega
theorem flatten_take (ls : List (List Lb)) (k : Nat) (h : k < ls.length) : (ls.take (k + 1)).flatten = (ls.take k).flatten ++ ls.getD k []:=by
 rw [List.take_succ_eq_append_getElem h,List.flatten_append]
 simp [h]
theorem flatten_len (ls : List (List Lb)) : ls.flatten.length = totL ls:=by unfold totL;rw [List.length_flatten]
theorem concat_any (v : Value) (ls : List (List Lb)) (w : World) (h : Lss w v ls) (hl : ls.length ≤ 1000) (ht : totL ls ≤ 4398046511104) :
 Calls Tryz.prog 218 #[v] w fun e w'=>∃ v',e = .returned v'∧OwnL w' w.heap.size v' ls.flatten∧Below w.heap.size w w':=by
 obtain ⟨b,o,c,rfl,hcs⟩:=h
 obtain ⟨n,hn⟩ : ∃ n,Hid (n = ls.length):=⟨_,rfl⟩
 rw [← hn.out]
 have hn3 : n ≤ 1000:=by rw [hn.out];exact hl
 have hg : Hid (∀ W,Below w.heap.size w W→∀ t,t < n→∃ u,W.cell? ⟨b,o + t,none⟩ = some u∧Lbs W u (ls.getD t [])):=by
  show ∀ W,_→_
  intro W hW t htn
  obtain ⟨u,h1,h2⟩:=hcs t (by rw [← hn.out];exact htn)
  exact ⟨u,(hW.cell (p:=⟨b,o + t,none⟩) (World.block_lt_of_cell? w _ h1)).trans h1,h2.grow hW⟩
 obtain ⟨T,hT⟩ : ∃ T,Hid (T = totL ls):=⟨_,rfl⟩
 have hT3 : T ≤ 4398046511104:=by rw [hT.out];exact ht
 have htk : Hid (∀ k,totL (ls.take k) ≤ T):=fun k=>by rw [hT.out];exact totL_le ls k
 clear hcs ht
 go_enter Tryz.func218,Tryz.ntmps218
 go_wp2_with fail
 go_loopw [3,11] (fun z i wr=>∃ k s : Nat,k ≤ n∧i = .int .i64 k∧z = .int .i64 s∧Hid (s = totL (ls.take k))∧w = wr) (fun _ i _=>n - (intOf i).toNat)
 case atStart=>exact ⟨0,0,Nat.zero_le _,rfl,rfl,rfl,rfl⟩
 case round =>
  obtain ⟨k,s,hk,rfl,rfl,hs,rfl⟩:=hrel
  by_cases hlt : k < n
  · have hki : (k : Int) < (n : Int):=by omega
    obtain ⟨u,hu,hc⟩:=hg.out w (Below.refl _ _) k hlt
    have hst : Hid (s + (ls.getD k []).length = totL (ls.take (k + 1))):=by
     show _ = _
     rw [totL_take ls k (by rw [← hn.out];exact hlt),← hs.out]
    have hsT:=htk.out (k + 1)
    obtain ⟨au,cu,eu⟩:=hc.shape
    rw [← hst.out] at hsT
    clear hc
    generalize (ls.getD k []).length = q at *
    subst eu
    have hw1 : IntKind.i64.wrap ((s : Int) + (q : Int)) = (s : Int) + (q : Int):=Go.IntWalk.i64_in _ (by omega)
    have hw2 : decide ((s : Int) + (q : Int) < 0) = false:=by simp;omega
    go_wp2_with fail
    refine ⟨⟨k + 1,s + q,by omega,by go_num,by go_num,hst,trivial⟩,?_⟩
    simp [intOf];omega
  · obtain rfl : k = n:=by omega
    have hkd : decide ((k : Int) < (k : Int)) = false:=by simp
    have hs2:=hs.out
    rw [List.take_of_length_le (by rw [hn.out];omega)] at hs2
    have hsT:=htk.out k
    rw [← hs.out] at hsT
    replace hs2 : Hid _:=hs2
    have hgr:=grow_nil s w (by omega)
    go_wp2_with (first | (go_at_call 254;refine hgr.mono ?_;rintro e w1 ⟨v1,rfl,ho1,hb1⟩))
    go_loopw [6,27] (fun u i wr=>∃ j : Nat,j ≤ k∧i = .int .i64 j∧OwnL wr w.heap.size u (ls.take j).flatten∧Below w.heap.size w wr) (fun _ i _=>k - (intOf i).toNat)
    case atStart=>exact ⟨0,Nat.zero_le _,rfl,ho1,hb1⟩
    case round =>
     clear ho1 hb1 hgr
     obtain ⟨j,hj,rfl,hoj,hbj⟩:=hrel
     by_cases hlt2 : j < k
     · have hji : (j : Int) < (k : Int):=by omega
       obtain ⟨u,hu,hc⟩:=hg.out wr hbj j hlt2
       have hft : Hid ((ls.take (j + 1)).flatten = (ls.take j).flatten ++ ls.getD j []):=flatten_take ls j (by rw [← hn.out];exact hlt2)
       have hlen : (ls.take j).flatten.length + (ls.getD j []).length ≤ 4398046511104:=by
        have h1:=htk.out (j + 1)
        rw [totL_take ls j (by rw [← hn.out];exact hlt2),← flatten_len] at h1
        omega
       have hsz:=hbj.size
       generalize ls.getD j [] = l2 at *
       generalize (ls.take j).flatten = l1 at *
       obtain ⟨au,cu,rfl⟩:=hc.shape
       go_wp2_with (first | (at_builtin;refine appRb TL rfl (.tmp 31) (.tmp 32) rfl w.heap.size _ _ l1 l2 rfl rfl hoj hc hsz hlen (by show _ * 32 ≤ _;omega) ?_;intro v2 w2 ho2 hg2))
       refine ⟨⟨j + 1,by omega,by go_num,by rw [hft.out];exact ho2,hbj.trans (hoj.grows hsz hg2)⟩,?_⟩
       simp [intOf];omega
     · obtain rfl : j = k:=by omega
       have hjd : decide ((j : Int) < (j : Int)) = false:=by simp
       rw [List.take_of_length_le (by rw [hn.out];omega)] at hoj
       go_wp2_with fail
       go_ret
       exact ⟨_,rfl,hoj,hbj⟩
theorem sorted_any (v : Value) (ls : List (List Lb)) (w : World) (h : Lss w v ls) (hl : ls.length ≤ 1000) (ht : totL ls ≤ 4398046511104) :
 Calls Tryz.prog 176 #[v] w fun e w'=>∃ v',e = .returned v'∧OwnL w' w.heap.size v' (sortL ls.flatten)∧Below w.heap.size w w':=by
 have hc:=concat_any v ls w h hl (by omega)
 have hfl : ls.flatten.length ≤ 4398046511104:=by rw [flatten_len];exact ht
 have hs:=fun v1 w1 (ho : OwnL w1 w.heap.size v1 ls.flatten)=>sort_any w.heap.size v1 ls.flatten w1 ho hfl
 clear h ht hl
 generalize ls.flatten = l at *
 go_enter Tryz.func176,Tryz.ntmps176
 go_wp2_with (first
  | (go_at_call 218;refine hc.mono ?_;rintro e w1 ⟨v1,rfl,ho1,hb1⟩)
  | (go_at_call 219;refine (hs _ _ ho1).mono ?_;rintro e w2 ⟨rfl,ho2,hg2⟩))
 go_ret
 exact ⟨_,rfl,ho2,hb1.trans (ho1.grows hb1.size hg2)⟩
end Go.Proofs.YtdhlfpgibfaimaaGreatDoor
namespace Go.Proofs.YtdhlfpgibfaimaaGreatDoor
open Go.RowKit
open Classical in
noncomputable def repB (l : List Lb) : Bool:=decide (¬ Nbr l)
theorem repB_no {l : List Lb} (h : Nbr l) : repB l = false:=by simp [repB,h]
theorem repB_yes {l : List Lb} (h : ¬ Nbr l) : repB l = true:=by simp [repB,h]
def NbrTo (l : List Lb) (k : Nat) : Prop:=∀ j,j + 1 < k→(l.getD j lb0).name ≠ (l.getD (j + 1) lb0).name
theorem repeatsName_any (v : Value) (l : List Lb) (w : World) (hv : Lbs w v l) (hlen : l.length ≤ 4398046511104) : Calls Tryz.prog 177 #[v] w fun e w'=>e = .returned (.bool (repB l))∧Below w.heap.size w w':=by
 obtain ⟨a,c,rfl⟩:=hv.shape
 replace hv : Hid _:=hv
 go_enter Tryz.func177,Tryz.ntmps177
 go_wp2
 go_loopw [3] (fun i wr=>∃ k d : Nat,0 < k∧(k ≤ l.length ∨ k = 1)∧i = .int .i64 k∧NbrTo l k∧wr = w.drewN d) (fun i _=>l.length - (intOf i).toNat)
 case atStart=>exact ⟨1,0,by omega,.inr rfl,rfl,fun j hj=>by omega,rfl⟩
 case round =>
  obtain ⟨k,d,hk0,hk,rfl,hto,rfl⟩:=hrel
  by_cases hlt : k < l.length
  · obtain ⟨j,rfl⟩ : ∃ j,k = j + 1:=⟨k - 1,by omega⟩
    have hki : ((j + 1 : Nat) : Int) < (l.length : Int):=by omega
    obtain ⟨b,o,rfl,x0,x1⟩:=lb_at hv.out (j + 1) hlt
    obtain ⟨b',o',e,y0,y1⟩:=lb_at hv.out j (by omega)
    cases e
    by_cases hn : (l.getD (j + 1) lb0).name = (l.getD j lb0).name
    · have hR : Hid (repB l = true):=repB_yes fun h=>h j hlt hn.symm
      rw [hn] at x0
      clear hn
      generalize (l.getD j lb0).name = s at *
      go_wp2
      go_quiet (fail)
      go_wp2
      go_ret
      exact ⟨by rw [hR.out];rfl,below_drewN (below_drewN (Below.refl _ _) _) _⟩
    · have hst : NbrTo l (j + 1 + 1):=by
       intro i hi
       by_cases e : i = j
       · subst e;exact fun h=>hn h.symm
       · exact hto i (by omega)
      have hne:=toList_ne hn
      clear hn
      generalize (l.getD j lb0).name = s at *
      generalize (l.getD (j + 1) lb0).name = t at *
      go_wp2
      go_quiet (fail)
      go_wp2
      refine ⟨⟨j + 1 + 1,_,by omega,.inl (by omega),by go_num,hst,rfl⟩,?_⟩
      simp [intOf];omega
  · have hki : ¬ (k : Int) < (l.length : Int):=by omega
    have hR : Hid (repB l = false):=repB_no fun j hj=>hto j (by omega)
    go_wp2
    go_ret
    exact ⟨by rw [hR.out];rfl,below_drewN (Below.refl _ _) _⟩
def MakeR (l : List Lb) (w : World) (e : Ending) (w' : World) : Prop:=∃ u out er,e = .returned (.tuple #[u,.int .i64 er])∧MkQ l out er∧OwnL w' w.heap.size u out∧Below w.heap.size w w'
theorem lss_one {w : World} {v : Value} {l : List Lb} (hv : Lbs w v l) (ty : TypeId) : Lss (w.alloc (.cells #[v] ty)) (.slice (some ⟨w.heap.size,0,none⟩) 1 1) [l]:=by
 refine ⟨w.heap.size,0,1,rfl,fun t ht=>⟨v,?_,?_⟩⟩
 · have : t = 0:=by simpa using ht
   subst this
   simp only [World.cell?,heap_new]
   rfl
 · have : t = 0:=by simpa using ht
   subst this
   exact hv.alloc _
theorem make_any (v : Value) (l : List Lb) (w : World) (hv : Lbs w v l) (hr : LbsR l) (hlen : l.length ≤ 4398046511104) : Calls Tryz.prog 150 #[v] w fun e w'=>MakeR l w e w':=by
 obtain ⟨a,c,rfl⟩:=hv.shape
 replace hv : Hid _:=hv
 replace hr : Hid _:=hr
 go_enter Tryz.func150,Tryz.ntmps150
 go_wp2
 go_loopw [9] (fun i wr=>∃ k : Nat,k ≤ l.length∧i = .int .i64 k∧(∀ x ∈ l.take k,IsLb x)∧Below w.heap.size w wr) (fun i _=>l.length - (intOf i).toNat)
 case atStart=>exact ⟨0,Nat.zero_le _,rfl,fun x hx=>by simp at hx,Below.refl _ _⟩
 case round =>
  obtain ⟨k,hk,rfl,hall,hB⟩:=hrel
  have hBz:=hB.size
  by_cases hlt : k < l.length
  · have hki : (k : Int) < (l.length : Int):=by omega
    obtain ⟨b,o,rfl,x0,x1⟩:=lb_at (Sls.grow hv.out hB) k hlt
    have hI:=fun W=>mayBe_any (l.getD k lb0) W (LbsR.at hr.out hlt)
    cases hlb : lbB (l.getD k lb0) with
    | false =>
     have hQ : MkQ l [] 90:=make_lb hlt (fun h=>by rw [lbB_iff.2 h] at hlb;cases hlb)
     rw [hlb] at hI
     clear hlb
     generalize l.getD k lb0 = x at *
     obtain ⟨n,u⟩:=x
     unfold lbV lbO at hI
     simp only at hI x0 x1
     go_wp2_with (first | (go_at_call 175;refine (hI _).mono ?_;rintro e wx ⟨rfl,hwx⟩;subst wx))
     go_ret2
     refine ⟨_,[],90,rfl,hQ,OwnS.nil _ _,?_⟩
     exact (hB.alloc hBz _).alloc (by simp;omega) _
    | true =>
     have hst : ∀ x ∈ l.take (k + 1),IsLb x:=by
      rw [ltake_getD l lb0 k hlt]
      intro x hx
      rcases List.mem_append.1 hx with hx | hx
      · exact hall x hx
      · have : x = l.getD k lb0:=by simpa using hx
        rw [this];exact lbB_iff.1 hlb
     rw [hlb] at hI
     clear hlb
     generalize l.getD k lb0 = x at *
     obtain ⟨n,u⟩:=x
     unfold lbV lbO at hI
     simp only at hI x0 x1
     go_wp2_with (first | (go_at_call 175;refine (hI _).mono ?_;rintro e wx ⟨rfl,hwx⟩;subst wx))
     refine ⟨⟨k + 1,by omega,by go_num,hst,?_⟩,?_⟩
     · exact (hB.alloc hBz _).alloc (by simp;omega) _
     · simp [intOf];omega
  · obtain rfl : k = l.length:=by omega
    have hki : ¬ (l.length : Int) < (l.length : Int):=by omega
    rw [List.take_of_length_le (Nat.le_refl _)] at hall
    have hvr:=Sls.grow hv.out hB
    have hs:=sorted_any _ [l] _ (lss_one hvr 84) (by simp) (by simp [totL];omega)
    simp only [List.flatten_cons,List.flatten_nil,List.append_nil] at hs
    have hln : (sortL l).length = l.length:=(sortL_perm l).length_eq
    have hrep:=fun v2 W (h : Lbs W v2 (sortL l))=>repeatsName_any v2 (sortL l) W h (by omega)
    have hBn : Below w.heap.size w (wr.alloc (.cells #[.slice a l.length c] 84)):=hB.alloc hBz _
    by_cases hnb : Nbr (sortL l)
    · have hR:=repB_no hnb
      rw [hR] at hrep
      by_cases h16 : 16 < l.length
      · have hQ:=make_many hall hnb h16
        have h16i : (16 : Int) < (l.length : Int):=by omega
        clear hnb hR hall
        go_wp2_with (first
         | (go_at_call 176;refine hs.mono ?_;rintro e w1 ⟨v1,rfl,ho1,hb1⟩;obtain ⟨a1,c1,rfl⟩:=ho1.shape;rw [hln] at *)
         | (go_at_call 177;refine (hrep _ _ ho1.sls).mono ?_;rintro e w2 ⟨rfl,hb2⟩))
        go_ret2
        have hB1:=hBn.trans (hb1.mono hBn.size)
        exact ⟨_,[],6,rfl,hQ,OwnS.nil _ _,hB1.trans (hb2.mono hB1.size)⟩
      · have hQ:=make_ok hall hnb (by omega)
        have h16i : ¬ (16 : Int) < (l.length : Int):=by omega
        clear hnb hR hall
        go_wp2_with (first
         | (go_at_call 176;refine hs.mono ?_;rintro e w1 ⟨v1,rfl,ho1,hb1⟩;obtain ⟨a1,c1,rfl⟩:=ho1.shape;rw [hln] at *)
         | (go_at_call 177;refine (hrep _ _ ho1.sls).mono ?_;rintro e w2 ⟨rfl,hb2⟩))
        go_ret2
        have hB1:=hBn.trans (hb1.mono hBn.size)
        exact ⟨_,sortL l,0,rfl,hQ,OwnS.wide (ho1.stay hb2) hBn.size,hB1.trans (hb2.mono hB1.size)⟩
    · have hR:=repB_yes hnb
      rw [hR] at hrep
      have hQ : MkQ l [] 8:=by
       apply Classical.byContradiction
       intro hno
       refine hnb fun j hj e=>hno (make_rep hall hj e)
      clear hnb hR hall
      go_wp2_with (first
       | (go_at_call 176;refine hs.mono ?_;rintro e w1 ⟨v1,rfl,ho1,hb1⟩;obtain ⟨a1,c1,rfl⟩:=ho1.shape;rw [hln] at *)
       | (go_at_call 177;refine (hrep _ _ ho1.sls).mono ?_;rintro e w2 ⟨rfl,hb2⟩))
      go_ret2
      have hB1:=hBn.trans (hb1.mono hBn.size)
      exact ⟨_,[],8,rfl,hQ,OwnS.nil _ _,hB1.trans (hb2.mono hB1.size)⟩
end Go.Proofs.YtdhlfpgibfaimaaGreatDoor
