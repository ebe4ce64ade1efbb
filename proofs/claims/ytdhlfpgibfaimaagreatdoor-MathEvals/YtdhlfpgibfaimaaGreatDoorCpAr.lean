import Derived.Test.YtdhlfpgibfaimaaGreatDoorStLsSoMk
import Derived.Laws.IdiomCopy
import Derived.Lib.EndianMore
import Derived.Deep.Slices
import Derived.Deep.Fields
import Derived.ChangeArms
import Derived.ProofKit
import Derived.SizedLaws
set_option maxRecDepth 100000
set_option maxHeartbeats 4000000
set_option linter.unusedVariables false
namespace Go.Proofs.YtdhlfpgibfaimaaGreatDoor
open Go.RowKit
theorem cpt_snoc : ∀ (p : List Lb) (y x : Lb),cpt (p ++ [y,x]) = if y = x then cpt (p ++ [y]) else cpt (p ++ [y]) ++ [x]
 | [],y,x=>by
  by_cases h : y = x
  · simp [cpt,h]
  · simp [cpt,h]
 | [a],y,x=>by
  have ih:=cpt_snoc [] y x
  simp only [List.nil_append,List.singleton_append] at ih ⊢
  have e1 : cpt [a,y,x] = if a = y then cpt [y,x] else a :: cpt [y,x]:=rfl
  have e2 : cpt [a,y] = if a = y then [y] else [a,y]:=rfl
  rw [e1,ih,e2]
  by_cases h : a = y <;> by_cases e : y = x <;> simp [h,e,cpt]
 | a :: b :: p,y,x=>by
  have ih:=cpt_snoc (b :: p) y x
  simp only [List.cons_append] at ih ⊢
  by_cases h : a = b
  · rw [cpt,if_pos h,ih,cpt,if_pos h]
  · rw [cpt,if_neg h,ih,cpt,if_neg h]
    by_cases e : y = x
    · simp [e]
    · simp [e]
theorem cpt_take (l : List Lb) (m : Nat) (hm : m + 1 < l.length) : cpt (l.take (m + 1 + 1)) = if l.getD m lb0 = l.getD (m + 1) lb0 then cpt (l.take (m + 1)) else cpt (l.take (m + 1)) ++ [l.getD (m + 1) lb0]:=by
 rw [ltake_getD l lb0 (m + 1) hm,ltake_getD l lb0 m (by omega),List.append_assoc]
 exact cpt_snoc _ _ _
def RowL (w : World) (g : Nat) (L : List Lb) : Prop:=(∀ t,t < L.length→w.cell? ⟨g,t * 2,none⟩ = some (.string (L.getD t lb0).name)∧w.cell? ⟨g,t * 2 + 1,none⟩ = some (.string (L.getD t lb0).value))∧∀ x,w.frozen? ⟨g,x,none⟩ = false
theorem RowL.drewN {w : World} {g : Nat} {L : List Lb} (h : RowL w g L) (d : Nat) : RowL (w.drewN d) g L:=h
theorem RowL.set {w : World} {g : Nat} {L : List Lb} (h : RowL w g L) {k : Nat} (hk : k < L.length) (x : Lb) : RowL ((w.setCell ⟨g,k * 2,none⟩ (.string x.name)).setCell ⟨g,k * 2 + 1,none⟩ (.string x.value)) g (L.set k x):=by
 obtain ⟨h1,h2⟩:=h
 refine ⟨fun t ht=>?_,fun y=>by simp [h2]⟩
 rw [List.length_set] at ht
 by_cases e : t = k
 · subst e
   have hg : (L.set t x).getD t lb0 = x:=by simp [hk]
   rw [hg]
   refine ⟨?_,?_⟩
   · rw [World.cell?_setCell_other _ _ _ _ (by simp)]
     exact World.cell?_setCell_same _ _ _ (h1 t ht).1
   · have h3 : (w.setCell ⟨g,t * 2,none⟩ (.string x.name)).cell? ⟨g,t * 2 + 1,none⟩ = some (.string (L.getD t lb0).value):=by
      rw [World.cell?_setCell_other _ _ _ _ (by simp)]
      exact (h1 t ht).2
     exact World.cell?_setCell_same _ _ _ h3
 · have hg : (L.set k x).getD t lb0 = L.getD t lb0:=by
    rw [List.getD_eq_getElem?_getD,List.getD_eq_getElem?_getD,List.getElem?_set_ne (Ne.symm e)]
   rw [hg]
   refine ⟨?_,?_⟩
   · rw [World.cell?_setCell_other _ _ _ _ (by intro h;injection h with _ h _;omega),World.cell?_setCell_other _ _ _ _ (by intro h;injection h with _ h _;omega)]
     exact (h1 t ht).1
   · rw [World.cell?_setCell_other _ _ _ _ (by intro h;injection h with _ h _;omega),World.cell?_setCell_other _ _ _ _ (by intro h;injection h with _ h _;omega)]
     exact (h1 t ht).2
theorem OwnL.row {w : World} {base g cap : Nat} {l : List Lb} (h : OwnL w base (.slice (some ⟨g,0,none⟩) l.length cap) l) : RowL w g l:=by
 refine ⟨fun t ht=>?_,fun x=>?_⟩
 · obtain ⟨b,o,e,h1,h2⟩:=lb_at h.sls t ht
   cases e
   simp only [Nat.zero_add] at h1 h2
   exact ⟨h1,h2⟩
 · rcases h.2 with ⟨e,_⟩ | ⟨g',cap',cur,e,_,hg,_⟩
   · cases e
   · cases e
     simp [World.frozen?,hg]
theorem RowL.sls {w : World} {g n cap : Nat} {L : List Lb} (h : RowL w g L) (hn : n ≤ L.length) (hc : n ≤ cap) : Lbs w (.slice (some ⟨g,0,none⟩) n cap) (L.take n):=by
 have hl : (L.take n).length = n:=by rw [List.length_take];omega
 refine ⟨_,cap,by rw [hl],⟨(fun e=>by cases e),by rw [hl];exact hc⟩,.inr ⟨g,0,rfl,fun t ht i u hu=>?_⟩⟩
 rw [hl] at ht
 obtain ⟨h1,h2⟩:=h.1 t (by omega)
 have hg : (L.take n).getD t encL.d = L.getD t lb0:=by
  rw [List.getD_eq_getElem?_getD,List.getD_eq_getElem?_getD,List.getElem?_take_of_lt ht];rfl
 rw [hg] at hu
 show w.cell? ⟨g,0 + t * 2 + i,none⟩ = some u
 rw [Nat.zero_add]
 match i,hu with
 | 0,hu=>cases hu;exact h1
 | 1,hu=>cases hu;exact h2
structure CptI (l : List Lb) (m kk : Nat) (L : List Lb) : Prop where
 len : L.length = l.length
 m1 : kk < m
 ml : m ≤ l.length
 low : L.take kk = cpt (l.take m)
 high : ∀ t,m ≤ t + 1→t < l.length→L.getD t lb0 = l.getD t lb0
theorem CptI.skip {l L : List Lb} {m kk : Nat} (h : CptI l (m + 1) kk L) (hm : m + 1 < l.length) (e : l.getD m lb0 = l.getD (m + 1) lb0) : CptI l (m + 1 + 1) kk L :=
 ⟨h.len,by have:=h.m1;omega,by omega,by rw [cpt_take l m hm,if_pos e];exact h.low,fun t ht hl=>h.high t (by omega) hl⟩
theorem CptI.keep {l L : List Lb} {m kk : Nat} (h : CptI l (m + 1) kk L) (hm : m + 1 < l.length) (e : l.getD m lb0 ≠ l.getD (m + 1) lb0) : CptI l (m + 1 + 1) (kk + 1) (L.set kk (l.getD (m + 1) lb0)):=by
 have h1:=h.m1
 refine ⟨by rw [List.length_set];exact h.len,by omega,by omega,?_,fun t ht hl=>?_⟩
 · rw [cpt_take l m hm,if_neg e,← h.low]
   have hk : kk < L.length:=by rw [h.len];omega
   rw [ltake_getD _ lb0 kk (by rw [List.length_set];exact hk)]
   congr 1
   · rw [List.take_set_of_le (Nat.le_refl _)]
   · simp [hk]
 · rw [List.getD_eq_getElem?_getD,List.getElem?_set_ne (by omega),← List.getD_eq_getElem?_getD]
   exact h.high t (by omega) hl
theorem CptI.start {l : List Lb} {k : Nat} (hk : k + 1 < l.length) (hc : cpt (l.take (k + 1)) = l.take (k + 1)) (e : l.getD k lb0 = l.getD (k + 1) lb0) : CptI l (k + 1 + 1) (k + 1) l :=
 ⟨rfl,by omega,by omega,by rw [cpt_take l k hk,if_pos e,hc],fun _ _ _=>rfl⟩
theorem cpt_one {l : List Lb} (h : l.length < 2) : cpt l = l:=by
 match l,h with
 | [],_=>rfl
 | [a],_=>rfl
theorem zeros_len (n : Nat) : (Builtin.zeroCells (Value.agg #[.string ⟨#[]⟩,.string ⟨#[]⟩]).cells n).toList.length = n * 2:=by
 simp [Builtin.zeroCells,Value.cells]
theorem zeros_one (n : Nat) : ∀ v ∈ (Builtin.zeroCells (Value.agg #[.string ⟨#[]⟩,.string ⟨#[]⟩]).cells n).toList,v.oneCell' = true:=by
 intro v hv
 simp [Builtin.zeroCells,Value.cells] at hv
 obtain ⟨a,_,rfl⟩:=hv
 have h2 : a % 2 = 0 ∨ a % 2 = 1:=by omega
 rcases h2 with h | h <;> rw [h] <;> rfl
theorem clear_any {w : World} {g : Nat} {L : List Lb} (h : RowL w g L) (k : Nat) (hk : k < L.length) (c : Nat) (ty : TypeId) :
 (Builtin.clear_ #[84] ty #[.slice (some ⟨g,k * 2,none⟩) (L.length - k) c]).run Tryz.prog w = .ok (.tuple #[]) (w.setCells g (k * 2) (Builtin.zeroCells (Value.agg #[.string ⟨#[]⟩,.string ⟨#[]⟩]).cells (L.length - k)).toList):=by
 have hcell : ∀ x,x < L.length * 2→(w.cell? ⟨g,x,none⟩).isSome = true:=fun x hx=>by
  obtain ⟨h1,h2⟩:=h.1 (x / 2) (by omega)
  have hm : x = x / 2 * 2 ∨ x = x / 2 * 2 + 1:=by omega
  rcases hm with hm | hm
  · rw [hm,h1];rfl
  · rw [hm,h2];rfl
 have hst:=run_storeCells_cells (P:=Tryz.prog) g (k * 2) (Builtin.zeroCells (Value.agg #[.string ⟨#[]⟩,.string ⟨#[]⟩]).cells (L.length - k)).toList 0 w
  (fun j hj=>by rw [zeros_len] at hj;exact hcell _ (by omega)) (fun j hj=>h.2 _) (zeros_one _)
 simp only [Nat.add_zero] at hst
 obtain ⟨m,hm⟩ : ∃ m,L.length - k = m + 1:=⟨L.length - k - 1,by omega⟩
 rw [hm] at hst ⊢
 simp [Builtin.clear_,run_underlying Tryz.underlying84,Tryz.zeroValue122,hst]
theorem lbs_setCells {w : World} {g n cap k : Nat} {l : List Lb} {vs : List Value} (h : Lbs w (.slice (some ⟨g,0,none⟩) n cap) l) (hk : n ≤ k) : Lbs (w.setCells g (k * 2) vs) (.slice (some ⟨g,0,none⟩) n cap) l:=by
 obtain ⟨a,c,e,hn,h⟩:=h
 have hln : n = l.length:=by cases e;rfl
 refine ⟨a,c,e,hn,?_⟩
 rcases h with h | ⟨b,o,e2,h⟩
 · exact .inl h
 · cases e
   cases e2
   refine .inr ⟨g,0,rfl,fun t ht i u hu=>?_⟩
   have hi : i < 2:=by
    have : i < (encL.arr (l.getD t encL.d)).length:=by
     rcases Nat.lt_or_ge i (encL.arr (l.getD t encL.d)).length with h | h
     · exact h
     · rw [List.getElem?_eq_none h] at hu;cases hu
    rw [encL.len] at this
    exact this
   rw [World.cell?_setCells_out g vs (k * 2) w _ (fun _ _=>.inl (by show 0 + t * 2 + i < k * 2;omega))]
   exact h t ht i u hu
theorem compact_some (l : List Lb) (g cap : Nat) (w : World) (hrow : RowL w g l) (hn : 2 ≤ l.length) (hl : l.length ≤ 1000000) (hcap : l.length ≤ cap) (hcm : cap ≤ maxLen) :
 Calls Tryz.prog 204 #[.slice (some ⟨g,0,none⟩) l.length cap] w fun e w'=>∃ u,e = .returned u∧Lbs w' u (cpt l)∧Below g w w':=by
 have hni : ¬ (l.length : Int) < 2:=by omega
 obtain ⟨n,hN⟩ : ∃ n,Hid (n = l.length):=⟨_,rfl⟩
 rw [← hN.out] at hn hl hcap hni ⊢
 replace hrow : Hid (RowL w g l):=hrow
 unfold maxLen at hcm
 go_enter Tryz.func204,Tryz.ntmps204
 go_wp2
 go_loopw [3] (fun i wr=>∃ k d : Nat,1 ≤ k∧k ≤ n∧i = .int .i64 k∧Hid (cpt (l.take k) = l.take k)∧wr = w.drewN d) (fun i _=>n - (intOf i).toNat)
 case atStart=>exact ⟨1,0,by omega,by omega,rfl,cpt_one (by rw [List.length_take];omega),rfl⟩
 case round =>
  obtain ⟨k,d,hk1,hkn,rfl,hcp,rfl⟩:=hrel
  by_cases hlt : k < n
  · obtain ⟨j,rfl⟩ : ∃ j,k = j + 1:=⟨k - 1,by omega⟩
    have hki : ((j + 1 : Nat) : Int) < (n : Int):=by omega
    have hll : j + 1 < l.length:=by rw [← hN.out];exact hlt
    obtain ⟨x0,x1⟩:=hrow.out.1 (j + 1) hll
    obtain ⟨y0,y1⟩:=hrow.out.1 j (by omega)
    have hct:=cpt_take l j hll
    by_cases hpq : l.getD j lb0 = l.getD (j + 1) lb0
    · have hI : Hid (CptI l (j + 1 + 1) (j + 1) l):=CptI.start hll hcp.out hpq
      rw [← hpq] at x0 x1
      clear hct hpq
      generalize l.getD j lb0 = x at *
      obtain ⟨nx,vx⟩:=x
      simp only at x0 x1 y0 y1
      go_wp2
      go_quiet (fail)
      go_wp2
      clear x0 x1 y0 y1
      go_loopw [3,5] (fun s3 s5 wr=>∃ (kk i : Nat) (L : List Lb),s3 = .int .i64 kk∧s5 = .int .i64 ((i + 1 : Nat) : Int)∧Hid (CptI l (j + 1 + i + 1) kk L)∧Hid (RowL wr g L)∧Hid (Below g w wr)) (fun _ s5 _=>n - (intOf s5).toNat)
      case atStart=>exact ⟨j + 1,0,l,rfl,rfl,hI,hrow.out.drewN _,below_drewN (Below.refl _ _) _⟩
      case round =>
       obtain ⟨kk,i,L,rfl,rfl,hI2,hR2,hB2⟩:=hrel
       have hkk:=hI2.out.m1
       have hml:=hI2.out.ml
       rw [← hN.out] at hml
       have hLl : Hid (L.length = n):=hI2.out.len.trans hN.out.symm
       by_cases hlt2 : j + 1 + i + 1 < n
       · have hll2 : j + 1 + i + 1 < l.length:=by rw [← hN.out];exact hlt2
         obtain ⟨x0,x1⟩:=hR2.out.1 (j + 1 + i + 1) (by rw [hLl.out];exact hlt2)
         obtain ⟨y0,y1⟩:=hR2.out.1 (j + 1 + i) (by rw [hLl.out];omega)
         obtain ⟨z0,z1⟩:=hR2.out.1 kk (by rw [hLl.out];omega)
         rw [hI2.out.high (j + 1 + i + 1) (by omega) hll2] at x0 x1
         rw [hI2.out.high (j + 1 + i) (by omega) (by omega)] at y0 y1
         rw [show (j + 1 + i + 1) * 2 = (j + 1) * 2 + (i + 1) * 2 by omega] at x0 x1
         rw [show (j + 1 + i) * 2 = (j + 1) * 2 + i * 2 by omega] at y0 y1
         have hf:=hR2.out.2
         have hdc : decide (((i + 1 : Nat) : Int) < ((n - (j + 1) : Nat) : Int)) = true:=by simp;omega
         by_cases hpq : l.getD (j + 1 + i) lb0 = l.getD (j + 1 + i + 1) lb0
         · have hI3 : Hid (CptI l (j + 1 + i + 1 + 1) kk L):=hI2.out.skip hll2 hpq
           rw [← hpq] at x0 x1
           clear hpq z0 z1 hf
           generalize l.getD (j + 1 + i) lb0 = x at *
           obtain ⟨nx,vx⟩:=x
           simp only at x0 x1 y0 y1
           go_wp2
           go_quiet (fail)
           go_wp2
           refine ⟨⟨kk,i + 1,L,rfl,by go_num,hI3,hR2.out.drewN _,below_drewN hB2.out _⟩,?_⟩
           simp [intOf];omega
         · have hI3 : Hid (CptI l (j + 1 + i + 1 + 1) (kk + 1) (L.set kk (l.getD (j + 1 + i + 1) lb0))):=hI2.out.keep hll2 hpq
           have hR3 : Hid (∀ d,RowL (((wr.drewN d).setCell ⟨g,kk * 2,none⟩ (.string (l.getD (j + 1 + i + 1) lb0).name)).setCell ⟨g,kk * 2 + 1,none⟩ (.string (l.getD (j + 1 + i + 1) lb0).value)) g (L.set kk (l.getD (j + 1 + i + 1) lb0))):=fun d=>(hR2.out.drewN d).set (by rw [hLl.out];omega) _
           have hb3 : (((l.getD (j + 1 + i + 1) lb0).name.toList == (l.getD (j + 1 + i) lb0).name.toList) = false) ∨ (((l.getD (j + 1 + i + 1) lb0).name.toList == (l.getD (j + 1 + i) lb0).name.toList) = true∧((l.getD (j + 1 + i + 1) lb0).value.toList == (l.getD (j + 1 + i) lb0).value.toList) = false):=by
            cases e2 : ((l.getD (j + 1 + i + 1) lb0).name.toList == (l.getD (j + 1 + i) lb0).name.toList) with
            | false=>exact .inl rfl
            | true =>
             cases e3 : ((l.getD (j + 1 + i + 1) lb0).value.toList == (l.getD (j + 1 + i) lb0).value.toList) with
             | false=>exact .inr ⟨rfl,rfl⟩
             | true =>
              exfalso
              exact hpq (lb_ext (toList_eq e2).symm (toList_eq e3).symm)
           clear hpq
           generalize l.getD (j + 1 + i + 1) lb0 = x at *
           generalize l.getD (j + 1 + i) lb0 = y at *
           obtain ⟨nx,vx⟩:=x
           obtain ⟨ny,vy⟩:=y
           simp only at x0 x1 y0 y1 hR3 hb3
           have hkki : (kk : Int) < (n : Int):=by omega
           rcases hb3 with e1 | ⟨e1,e2⟩
           all_goals
            go_wp2
            go_quiet (fail)
            go_wp2
            refine ⟨⟨kk + 1,i + 1,_,by go_num,by go_num,hI3,hR3.out _,?_⟩,?_⟩
            · exact ((below_drewN hB2.out _).setCell (Nat.le_refl _) _).setCell (Nat.le_refl _) _
            · simp [intOf];omega
       · have hme : j + 1 + i + 1 = n:=by omega
         have hlow : Hid (L.take kk = cpt l):=by
          show _ = _
          rw [hI2.out.low,List.take_of_length_le (by rw [← hN.out];omega)]
         have hdc : decide (((i + 1 : Nat) : Int) < ((n - (j + 1) : Nat) : Int)) = false:=by simp;omega
         have hcl:=fun c ty=>clear_any hR2.out kk (by rw [hLl.out];omega) c ty
         rw [hLl.out] at hcl
         have hsl:=hR2.out.sls (n:=kk) (cap:=cap) (by rw [hLl.out];omega) (by omega)
         rw [hlow.out] at hsl
         have hkki : (kk : Int) ≤ (n : Int):=by omega
         go_wp2
         go_ret
         exact ⟨_,rfl,lbs_setCells hsl (Nat.le_refl _),hB2.out.trans (Lib.below_setCells_w (Nat.le_refl _) _ _ _)⟩
    · have hst : Hid (cpt (l.take (j + 1 + 1)) = l.take (j + 1 + 1)):=by
       show _ = _
       rw [hct,if_neg hpq,hcp.out,ltake_getD l lb0 (j + 1) hll]
      have hb3 : (((l.getD (j + 1) lb0).name.toList == (l.getD j lb0).name.toList) = false) ∨ (((l.getD (j + 1) lb0).name.toList == (l.getD j lb0).name.toList) = true∧((l.getD (j + 1) lb0).value.toList == (l.getD j lb0).value.toList) = false):=by
       cases e2 : ((l.getD (j + 1) lb0).name.toList == (l.getD j lb0).name.toList) with
       | false=>exact .inl rfl
       | true =>
        cases e3 : ((l.getD (j + 1) lb0).value.toList == (l.getD j lb0).value.toList) with
        | false=>exact .inr ⟨rfl,rfl⟩
        | true =>
         exfalso
         exact hpq (lb_ext (toList_eq e2).symm (toList_eq e3).symm)
      clear hpq hct
      generalize l.getD (j + 1) lb0 = x at *
      generalize l.getD j lb0 = y at *
      obtain ⟨nx,vx⟩:=x
      obtain ⟨ny,vy⟩:=y
      simp only at x0 x1 y0 y1 hb3
      rcases hb3 with e1 | ⟨e1,e2⟩
      all_goals
       go_wp2
       go_quiet (fail)
       go_wp2
       refine ⟨⟨j + 1 + 1,_,by omega,by omega,by go_num,hst,rfl⟩,?_⟩
       simp [intOf];omega
  · obtain rfl : k = n:=by omega
    have hki : ¬ (k : Int) < (k : Int):=by omega
    have hc2:=hcp.out
    rw [List.take_of_length_le (by rw [← hN.out];exact Nat.le_refl _)] at hc2
    have hsl:=(hrow.out.drewN d).sls (n:=k) (cap:=cap) (by rw [← hN.out];exact Nat.le_refl _) (by omega)
    rw [List.take_of_length_le (by rw [← hN.out];exact Nat.le_refl _),← hc2] at hsl
    clear hc2
    go_wp2
    go_ret
    exact ⟨_,rfl,hsl,below_drewN (Below.refl _ _) _⟩
theorem compact_few (a : Option Addr) (n c : Nat) (w : World) (h : n < 2) : Calls Tryz.prog 204 #[.slice a n c] w fun e w'=>e = .returned (.slice a n c)∧w' = w:=by
 have hni : (n : Int) < 2:=by omega
 go_enter Tryz.func204,Tryz.ntmps204
 go_wp2
 go_ret
 exact ⟨rfl,rfl⟩
theorem compact_any (base : Nat) (v : Value) (l : List Lb) (w : World) (hown : OwnL w base v l) (hl : l.length ≤ 1000000) : Calls Tryz.prog 204 #[v] w fun e w'=>∃ u,e = .returned u∧Lbs w' u (cpt l)∧Below base w w':=by
 by_cases h2 : l.length < 2
 · obtain ⟨a,c,rfl⟩:=hown.shape
   refine (compact_few a l.length c w h2).mono ?_
   rintro e w' ⟨rfl,rfl⟩
   exact ⟨_,rfl,by rw [cpt_one h2];exact hown.sls,Below.refl _ _⟩
 · rcases hown.2 with ⟨rfl,h0⟩ | ⟨g,cap,cur,rfl,hbg,hg,hnc,hcm,hcs,htake⟩
   · omega
   · refine (compact_some l g cap w (OwnL.row hown) (by omega) hl hnc hcm).mono ?_
     rintro e w' ⟨u,rfl,h3,h4⟩
     exact ⟨u,rfl,h3,h4.mono hbg⟩
theorem lss_two {w : World} {v1 v2 : Value} {a b : List Lb} (h1 : Lbs w v1 a) (h2 : Lbs w v2 b) (ty : TypeId) : Lss (w.alloc (.cells #[v1,v2] ty)) (.slice (some ⟨w.heap.size,0,none⟩) 2 2) [a,b]:=by
 refine ⟨w.heap.size,0,2,rfl,fun t ht=>?_⟩
 have h : t = 0 ∨ t = 1:=by simp at ht;omega
 rcases h with rfl | rfl
 · exact ⟨v1,by simp only [World.cell?,heap_new];rfl,h1.alloc _⟩
 · exact ⟨v2,by simp only [World.cell?,heap_new];rfl,h2.alloc _⟩
def JoinR (a b : List Lb) (w : World) (e : Ending) (w' : World) : Prop:=∃ u out ok,e = .returned (.tuple #[u,.bool ok])∧JoinQ a b out ok∧OwnL w' w.heap.size u out∧Below w.heap.size w w'
theorem LbsR.app {a b : List Lb} (ha : LbsR a) (hb : LbsR b) : LbsR (a ++ b):=fun x hx=>(List.mem_append.1 hx).elim (ha x) (hb x)
theorem join_any (v1 v2 : Value) (a b : List Lb) (w : World) (h1 : Lbs w v1 a) (h2 : Lbs w v2 b) (ha : ∀ x ∈ a,IsLb x) (hb : ∀ x ∈ b,IsLb x) (ra : LbsR a) (rb : LbsR b) (hla : a.length ≤ 10000) (hlb : b.length ≤ 10000) :
 Calls Tryz.prog 159 #[v1,v2] w fun e w'=>JoinR a b w e w':=by
 obtain ⟨a1,c1,rfl⟩:=h1.shape
 obtain ⟨a2,c2,rfl⟩:=h2.shape
 have hs:=sorted_any _ [a,b] _ (lss_two h1 h2 84) (by simp) (by simp [totL];omega)
 have hfl : ([a,b] : List (List Lb)).flatten = a ++ b:=by simp
 rw [hfl] at hs
 have hsl : (sortL (a ++ b)).length ≤ 20000:=by rw [(sortL_perm _).length_eq,List.length_append];omega
 have hc:=fun base v W (h : OwnL W base v (sortL (a ++ b)))=>compact_any base v _ W h (by omega)
 have hr : LbsR (cpt (sortL (a ++ b))):=fun x hx=>(ra.app rb) x ((sortL_perm _).mem_iff.1 ((cpt_mem _ x).1 hx))
 have hcl : (cpt (sortL (a ++ b))).length ≤ 20000:=Nat.le_trans (cpt_sub _).length_le hsl
 have hm:=fun v W (h : Lbs W v (cpt (sortL (a ++ b))))=>make_any v _ W h hr (by omega)
 have hQ : Hid (∀ out e,MkQ (cpt (sortL (a ++ b))) out e→JoinQ a b out (decide (e = 0))):=fun out e h=>join_make ha hb h
 have hb0 : Below w.heap.size w (w.alloc (.cells #[.slice a1 a.length c1,.slice a2 b.length c2] 84)):=(Below.refl _ w).alloc (Nat.le_refl _) _
 clear h1 h2 ha hb ra rb hr hfl hsl hcl
 generalize cpt (sortL (a ++ b)) = m at *
 generalize sortL (a ++ b) = s at *
 go_enter Tryz.func159,Tryz.ntmps159
 go_wp2_with (first
  | (go_at_call 176;refine hs.mono ?_;rintro e w1 ⟨u1,rfl,ho1,hb1⟩)
  | (go_at_call 204;refine (hc _ _ _ ho1).mono ?_;rintro e w2 ⟨u2,rfl,hl2,hb2⟩)
  | (go_at_call 150;refine (hm _ _ hl2).mono ?_;rintro e w3 ⟨u3,out,er,rfl,hq3,ho3,hb3⟩))
 have hB1:=hb0.trans (hb1.mono hb0.size)
 have hB2 : Below w.heap.size w w2:=hB1.trans (hb2.mono hb0.size)
 have hB3:=hB2.trans (hb3.mono hB2.size)
 go_ret2
 refine ⟨_,out,_,rfl,?_,OwnS.wide ho3 hB2.size,hB3⟩
 have:=hQ.out out er hq3
 rw [show decide (er = 0) = (er == 0) by rw [Bool.eq_iff_iff];simp] at this
 exact this
theorem getL_cons (a : Lb) (l : List Lb) (n : ByteArray) : getL (a :: l) n = if a.name = n then a.value else getL l n:=by
 unfold getL
 by_cases h : a.name = n
 · simp [h]
 · simp [h]
def noTo (l : List Lb) (n : ByteArray) (k : Nat) : Prop:=∀ j,j < k→(l.getD j lb0).name ≠ n
theorem getL_at {l : List Lb} {n : ByteArray} : ∀ {k : Nat},k < l.length→noTo l n k→(l.getD k lb0).name = n→getL l n = (l.getD k lb0).value:=by
 induction l with
 | nil=>intro k hk;simp at hk
 | cons a l ih =>
  intro k hk hno e
  rw [getL_cons]
  cases k with
  | zero=>rw [if_pos (by simpa using e)];rfl
  | succ k =>
   rw [if_neg (by have:=hno 0 (by omega);simpa using this)]
   exact ih (by simpa using hk) (fun j hj=>by have:=hno (j + 1) (by omega);simpa using this) (by simpa using e)
theorem getL_no {l : List Lb} {n : ByteArray} (h : noTo l n l.length) : getL l n = ⟨#[]⟩:=by
 refine getL_none fun a ha=>?_
 obtain ⟨k,hk,rfl⟩:=List.mem_iff_getElem.1 ha
 have:=h k hk
 rw [List.getD_eq_getElem?_getD,List.getElem?_eq_getElem hk] at this
 exact this
theorem noTo_succ {l : List Lb} {n : ByteArray} {k : Nat} (h : noTo l n k) (e : (l.getD k lb0).name ≠ n) : noTo l n (k + 1):=by
 intro j hj
 by_cases h2 : j = k
 · subst h2;exact e
 · exact h j (by omega)
theorem get_any (v : Value) (l : List Lb) (n : ByteArray) (w : World) (hv : Lbs w v l) (hl : l.length ≤ 1000000) : Calls Tryz.prog 241 #[v,.string n] w fun e w'=>e = .returned (.string (getL l n))∧Below w.heap.size w w':=by
 obtain ⟨a,c,rfl⟩:=hv.shape
 replace hv : Hid (Lbs w (.slice a l.length c) l):=hv
 go_enter Tryz.func241,Tryz.ntmps241
 go_wp2
 go_loopw [9] (fun i wr=>∃ k : Nat,k ≤ l.length∧i = .int .i64 k∧noTo l n k∧Below w.heap.size w wr) (fun i _=>l.length - (intOf i).toNat)
 case atStart=>exact ⟨0,Nat.zero_le _,rfl,fun j hj=>absurd hj (Nat.not_lt_zero _),Below.refl _ _⟩
 case round =>
  obtain ⟨k,hk,rfl,hno,hB⟩:=hrel
  have hbz:=hB.size
  by_cases hlt : k < l.length
  · have hki : (k : Int) < (l.length : Int):=by omega
    obtain ⟨b,o,rfl,x0,x1⟩:=lb_at (Sls.grow hv.out hB) k hlt
    by_cases he : (l.getD k lb0).name = n
    · have hg : Hid (getL l n = (l.getD k lb0).value):=getL_at hlt hno he
      rw [he] at x0
      clear he
      generalize (l.getD k lb0).value = u at *
      go_wp2
      go_ret
      exact ⟨by rw [hg.out];rfl,hB.alloc hbz _⟩
    · have hst:=noTo_succ hno he
      have hne:=toList_ne he
      clear he
      generalize (l.getD k lb0).value = u at *
      generalize (l.getD k lb0).name = m at *
      go_wp2
      refine ⟨⟨k + 1,by omega,by go_num,hst,hB.alloc hbz _⟩,?_⟩
      simp [intOf];omega
  · obtain rfl : k = l.length:=by omega
    have hki : ¬ (l.length : Int) < (l.length : Int):=by omega
    have hg : Hid (getL l n = ⟨#[]⟩):=getL_no hno
    go_wp2
    go_ret
    exact ⟨by rw [hg.out];rfl,hB⟩
def opB (o : ByteArray) : Bool:=o.toList == [61] || (o.toList == [33,61] || (o.toList == [94,61] || o.toList == [33,94]))
def preB (v s : ByteArray) : Bool:=decide (s.size ≤ v.size) && ((v.extract 0 s.size).toList == s.toList)
def mtV (m : Mt) : Value:=.agg #[.string m.name,.string m.op,.string m.value]
def holdsB (op val v : ByteArray) : Bool:=if op.toList == [61] then v.toList == val.toList else if op.toList == [33,61] then !(v.toList == val.toList) else if op.toList == [94,61] then preB v val else if op.toList == [33,94] then !preB v val else false
def MtR (m : Mt) : Prop:=m.name.size ≤ reachBytes∧m.op.size ≤ reachBytes∧m.value.size ≤ reachBytes
def MtsR (l : List Mt) : Prop:=∀ m ∈ l,MtR m
end Go.Proofs.YtdhlfpgibfaimaaGreatDoor
namespace Go.Proofs.YtdhlfpgibfaimaaGreatDoor
open Go.RowKit Go.ChangeShapes Go.WideShapes Go.ChangeAt Go.Deep
def Fits {H : Type} (d : DataW H) (t : TypeId) : Prop:=∀ q ∈ d.weights Tryz.prog t,q ≤ reachBytes
theorem weightsAll_in {H : Type} {P : Program} {e : TypeId} {d : DataW H} : ∀ {l : List (DataW H)},d ∈ l→∀ n ∈ d.weights P e,n ∈ DataW.weightsAll P e l
 | [],h,_,_=>by cases h
 | x :: r,h,n,hn=>by
  simp only [DataW.weightsAll,List.mem_append]
  rcases List.mem_cons.1 h with rfl | h
  · exact .inl hn
  · exact .inr (weightsAll_in h n hn)
section
variable {H : Type} {enc : TypeId × Value→H} {W : World} {n : Nat}
theorem cells_at {b o k : Nat} {cs : List Value} (h : W.cells? 0 ⟨b,o,none⟩ k = some cs) : cs.length = k∧∀ i u,cs[i]? = some u→W.cell? ⟨b,o + i,none⟩ = some u:=by
 obtain ⟨_,hlen,hcell⟩:=World.cells?_some h
 refine ⟨hlen,fun i u hu=>?_⟩
 have hi : i < k:=by
  rw [← hlen]
  rcases Nat.lt_or_ge i cs.length with h | h
  · exact h
  · rw [List.getElem?_eq_none h] at hu;cases hu
 have e:=hcell i hi
 rw [ladd_at] at e
 rw [e];exact hu
theorem str_of_trod {v : Value} {x : DataW H × List MemPlace} (h : DataW.trod enc Tryz.prog W 0 (fun _=>true) true n 9 [v] = some x) (hF : Fits x.1 9) : ∃ s,v = .string s∧s.size ≤ reachBytes:=by
 obtain ⟨s,e,hx,_⟩:=DataW.trod_string Tryz.underlying9 h
 simp at e
 refine ⟨s,e,?_⟩
 exact hF s.size (by rw [hx];simp [DataW.weights])
theorem fits_field {ts : List TypeId} {ds : List (DataW H)} {t : TypeId} {d : DataW H} {j st : Nat} {x : DataW H} (hF : Fits x st) (hx : ∀ q ∈ DataW.weightsEach Tryz.prog ts ds,q ∈ x.weights Tryz.prog st) (h1 : ts[j]? = some t) (h2 : ds[j]? = some d) : Fits d t:=fun q hq=>hF q (hx q (DataW.weights_mem_each h1 h2 q hq))
theorem lb_of_trod {cs : List Value} {x : DataW H × List MemPlace} (hl : cs.length = 2) (h : DataW.trod enc Tryz.prog W 0 (fun _=>true) true n 122 cs = some x) (hF : Fits x.1 122) : ∃ p : Lb,cs = encL.arr p∧LbR p:=by
 match cs,hl with
 | [v0,v1],_ =>
  obtain ⟨xs,k,_,hxx,_,hxl,hf⟩:=DataW.trod_struct Tryz.underlying122 h
  have g0 : DataW.trod enc Tryz.prog W 0 (fun _=>true) true k 9 (([v0,v1].drop 0).take (Tryz.prog.cellsOf 9)) = xs[0]?:=hf 0 _ rfl
  have g1 : DataW.trod enc Tryz.prog W 0 (fun _=>true) true k 9 (([v0,v1].drop 1).take (Tryz.prog.cellsOf 9)) = xs[1]?:=hf 1 _ rfl
  have k9 : Tryz.prog.cellsOf 9 = 1:=by kernel_rfl
  simp only [k9,List.drop_zero,List.drop_succ_cons,List.take_succ_cons,List.take_zero] at g0 g1
  match xs,hxl with
  | [y0,y1],_ =>
   simp at g0 g1
   have hw : ∀ q ∈ DataW.weightsEach Tryz.prog [9,9] [y0.1,y1.1],q ∈ x.1.weights Tryz.prog 122:=fun q hq=>by
    rw [hxx];simp only [DataW.weights,Tryz.underlying122];exact hq
   obtain ⟨s0,rfl,r0⟩:=str_of_trod g0 (fits_field (j:=0) hF hw rfl rfl)
   obtain ⟨s1,rfl,r1⟩:=str_of_trod g1 (fits_field (j:=1) hF hw rfl rfl)
   exact ⟨⟨s0,s1⟩,rfl,r0,r1⟩
def TxsR (l : List ByteArray) : Prop:=∀ s ∈ l,s.size ≤ reachBytes
end
end Go.Proofs.YtdhlfpgibfaimaaGreatDoor
