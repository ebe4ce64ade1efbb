/- SlSn;So2Sp. -/
import Derived.Test.YtdhlfpgibfaimaaGreatDoorSjSk
import Derived.Test.YtdhlfpgibfaimaaGreatDoorRmRp
import Derived.Shelf.SlSortCmp.QuietGrown
import Derived.Shelf.SlSortCmp.NoneTotal

set_option maxRecDepth 100000
set_option maxHeartbeats 2000000
set_option linter.unusedVariables false
namespace Go.Proofs
open Go.Shelf
def Tryz.sortR_ren : Go.Shelf.Ren:=⟨fun | 6=>152 | 15=>72 | 14=>178 | 28=>112 | 29=>113 | 20=>220 | 21=>221 | 22=>222 | 23=>223 | 24=>224 | 25=>225 | 26=>226 | 27=>227 | 46=>256 | 47=>145 | 48=>146 | 49=>257 | 50=>258 | 57=>288 | n=>n,fun | 22=>43 | 24=>86 | 25=>177 | 3=>3 | 39=>113 | 0=>0 | 53=>144 | 55=>146 | 4=>4 | 46=>137 | 45=>136 | 50=>141 | 5=>5 | 9=>9 | 66=>168 | 70=>172 | 76=>197 | 77=>198 | n=>n,fun | n=>n⟩
theorem Tryz.sortR : Go.Proofs.SlLaysF0.n6 Tryz.prog Tryz.sortR_ren:={
 mixed:=by kernel_rfl
 f6:=⟨Tryz.f152.name,by decide,Tryz.func152.trans (congrArg some (by kernel_rfl))⟩
 f14:=⟨Tryz.f178.name,by decide,Tryz.func178.trans (congrArg some (by kernel_rfl))⟩
 f15:=Tryz.func72.trans (congrArg some (by kernel_rfl))
 f20:=⟨Tryz.f220.name,by decide,Tryz.func220.trans (congrArg some (by kernel_rfl))⟩
 f21:=⟨Tryz.f221.name,by decide,Tryz.func221.trans (congrArg some (by kernel_rfl))⟩
 f22:=⟨Tryz.f222.name,by decide,Tryz.func222.trans (congrArg some (by kernel_rfl))⟩
 f23:=⟨Tryz.f223.name,by decide,Tryz.func223.trans (congrArg some (by kernel_rfl))⟩
 f24:=⟨Tryz.f224.name,by decide,Tryz.func224.trans (congrArg some (by kernel_rfl))⟩
 f25:=⟨Tryz.f225.name,by decide,Tryz.func225.trans (congrArg some (by kernel_rfl))⟩
 f26:=⟨Tryz.f226.name,by decide,Tryz.func226.trans (congrArg some (by kernel_rfl))⟩
 f27:=⟨Tryz.f227.name,by decide,Tryz.func227.trans (congrArg some (by kernel_rfl))⟩
 f28:=Tryz.func112.trans (congrArg some (by kernel_rfl))
 f29:=Tryz.func113.trans (congrArg some (by kernel_rfl))
 f46:=⟨Tryz.f256.name,by decide,Tryz.func256.trans (congrArg some (by kernel_rfl))⟩
 f47:=Tryz.func145.trans (congrArg some (by kernel_rfl))
 f48:=Tryz.func146.trans (congrArg some (by kernel_rfl))
 f49:=⟨Tryz.f257.name,by decide,Tryz.func257.trans (congrArg some (by kernel_rfl))⟩
 f50:=⟨Tryz.f258.name,by decide,Tryz.func258.trans (congrArg some (by kernel_rfl))⟩
 f57:=⟨Tryz.f288.name,by decide,Tryz.func288.trans (congrArg some (by kernel_rfl))⟩
 t0:=Tryz.underlying0
 a0:=Tryz.isAgg0
 z0:=Tryz.sizeOf0
 v0:=Tryz.zeroValue0
 t3:=Tryz.underlying3
 a3:=Tryz.isAgg3
 z3:=Tryz.sizeOf3
 v3:=Tryz.zeroValue3
 t4:=Tryz.underlying4
 a4:=Tryz.isAgg4
 z4:=Tryz.sizeOf4
 v4:=Tryz.zeroValue4
 t5:=Tryz.underlying5
 a5:=Tryz.isAgg5
 z5:=Tryz.sizeOf5
 v5:=Tryz.zeroValue5
 t9:=Tryz.underlying9
 a9:=Tryz.isAgg9
 z9:=Tryz.sizeOf9
 v9:=Tryz.zeroValue9
 t22:=Tryz.underlying43
 a22:=Tryz.isAgg43
 z22:=Tryz.sizeOf43
 v22:=Tryz.zeroValue43
 t25:=Tryz.underlying177
 a25:=Tryz.isAgg177
 z25:=Tryz.sizeOf177
 v25:=Tryz.zeroValue177
 t39:=Tryz.underlying113
 a39:=Tryz.isAgg113
 z39:=Tryz.sizeOf113
 v39:=Tryz.zeroValue113
 t45:=Tryz.underlying136
 a45:=Tryz.isAgg136
 z45:=Tryz.sizeOf136
 v45:=Tryz.zeroValue136
 t46:=Tryz.underlying137
 a46:=Tryz.isAgg137
 z46:=Tryz.sizeOf137
 v46:=Tryz.zeroValue137
 t50:=Tryz.underlying141
 a50:=Tryz.isAgg141
 z50:=Tryz.sizeOf141
 v50:=Tryz.zeroValue141
 t53:=Tryz.underlying144
 a53:=Tryz.isAgg144
 z53:=Tryz.sizeOf144
 v53:=Tryz.zeroValue144
 t55:=Tryz.underlying146
 a55:=Tryz.isAgg146
 z55:=Tryz.sizeOf146
 v55:=Tryz.zeroValue146
 t66:=Tryz.underlying168
 a66:=Tryz.isAgg168
 z66:=Tryz.sizeOf168
 v66:=Tryz.zeroValue168
 t70:=Tryz.underlying172
 a70:=Tryz.isAgg172
 z70:=Tryz.sizeOf172
 v70:=Tryz.zeroValue172
 t76:=Tryz.underlying197
 a76:=Tryz.isAgg197
 z76:=Tryz.sizeOf197
 v76:=Tryz.zeroValue197
 t77:=Tryz.underlying198
 a77:=Tryz.isAgg198
 z77:=Tryz.sizeOf198
 v77:=Tryz.zeroValue198 }
end Go.Proofs
namespace Go.Proofs.YtdhlfpgibfaimaaGreatDoor
open Go.RowKit Go.Sort Go.Shelf
theorem compare_gr (v u : Value) (a b : List Lb) (w : World) (hv : Lbs w v a) (hu : Lbs w u b) (hla : a.length ≤ 1000000) (hlb : b.length ≤ 1000000) :
 Calls Tryz.prog 154 #[v,u] w fun e w'=>e = .returned (.int .i64 (cmpS a b))∧∃ q os,w' = grow (w.drewN q) os:=by
 obtain ⟨a1,c1,rfl⟩:=hv.shape
 obtain ⟨a2,c2,rfl⟩:=hu.shape
 replace hv : Hid (Lbs w (.slice a1 a.length c1) a):=hv
 replace hu : Hid (Lbs w (.slice a2 b.length c2) b):=hu
 obtain ⟨M,hM⟩ : ∃ M : Nat,Hid (M = min a.length b.length):=⟨_,rfl⟩
 have hmin : min (a.length : Int) (b.length : Int) = (M : Int):=by rw [hM.out];omega
 have hMa : M ≤ a.length:=by rw [hM.out];omega
 have hMb : M ≤ b.length:=by rw [hM.out];omega
 go_enter Tryz.func154,Tryz.ntmps154
 go_wp2
 clear hmin
 go_loopw [11] (fun i wr=>∃ k d : Nat,k ≤ M∧i = .int .i64 k∧Hid (a.take k = b.take k)∧wr = w.drewN d) (fun i _=>M - (intOf i).toNat)
 case atStart=>exact ⟨0,0,Nat.zero_le _,rfl,rfl,rfl⟩
 case round =>
  obtain ⟨k,d,hk,rfl,htk,rfl⟩:=hrel
  by_cases hlt : k < M
  · have hki : (k : Int) < (M : Int):=by omega
    have hka : (k : Int) < (a.length : Int):=by omega
    have hkb : (k : Int) < (b.length : Int):=by omega
    obtain ⟨b1,o1,rfl,x0,x1⟩:=lb_at hv.out k (by omega)
    obtain ⟨b2,o2,rfl,y0,y1⟩:=lb_at hu.out k (by omega)
    by_cases hpq : a.getD k lb0 = b.getD k lb0
    · have hst : Hid (a.take (k + 1) = b.take (k + 1)):=by
       show _ = _
       rw [ltake_getD a lb0 k (by omega),ltake_getD b lb0 k (by omega),htk.out,hpq]
      rw [hpq] at x0 x1
      clear hpq
      generalize b.getD k lb0 = x at *
      obtain ⟨nx,vx⟩:=x
      simp only at x0 x1 y0 y1
      go_wp2
      go_quiet (fail)
      go_wp2
      refine ⟨⟨k + 1,_,by omega,by go_num,hst,rfl⟩,?_⟩
      simp [intOf];omega
    · have hR : Hid (cmpS a b = cmpB (a.getD k lb0) (b.getD k lb0)):=cmpS_at htk.out (by omega) (by omega) hpq
      have hc:=fun W=>compareLabel_any (a.getD k lb0) (b.getD k lb0) W
      have hb3 : (((a.getD k lb0).name.toList == (b.getD k lb0).name.toList) = false) ∨ (((a.getD k lb0).name.toList == (b.getD k lb0).name.toList) = true∧((a.getD k lb0).value.toList == (b.getD k lb0).value.toList) = false):=by
       cases e2 : ((a.getD k lb0).name.toList == (b.getD k lb0).name.toList) with
       | false=>exact .inl rfl
       | true =>
        cases e3 : ((a.getD k lb0).value.toList == (b.getD k lb0).value.toList) with
        | false=>exact .inr ⟨rfl,rfl⟩
        | true =>
         exfalso
         exact hpq (lb_ext (toList_eq e2) (toList_eq e3))
      clear hpq
      generalize a.getD k lb0 = x at *
      generalize b.getD k lb0 = y at *
      generalize cmpB x y = C at *
      obtain ⟨nx,vx⟩:=x
      obtain ⟨ny,vy⟩:=y
      unfold lbV at hc
      simp only at x0 x1 y0 y1 hb3 hc
      rcases hb3 with e1 | ⟨e1,e2⟩
      all_goals
       go_wp2
       go_quiet (fail)
       go_wp2
       obtain ⟨D,hD⟩ : ∃ D,(w.drewN d).drewN nq = w.drewN D:=⟨_,World.drewN_drewN _ _ _⟩
       rw [hD]
       obtain ⟨wz,hz⟩ : ∃ wz,Hid (wz = w.drewN D):=⟨_,rfl⟩
       rw [← hz.out]
       have hws : wz.heap.size = w.heap.size:=by rw [hz.out];rfl
       have hwc : ∀ p v,w.cell? p = some v→wz.cell? p = some v:=fun p v h=>by rw [hz.out];exact h
       have c0 : ∀ p : GrownBy,(grow (wz.drewN p.n) p.os).cell? ⟨b1,o1 + k * 2,none⟩ = some (.string nx):=fun p=>cell_grown (by rw [hws];exact World.block_lt_of_cell? w _ x0) (hwc _ _ x0) p.n p.os
       have d0 : ∀ p : GrownBy,(grow (wz.drewN p.n) p.os).cell? ⟨b1,o1 + k * 2 + 1,none⟩ = some (.string vx):=fun p=>cell_grown (by rw [hws];exact World.block_lt_of_cell? w _ x1) (hwc _ _ x1) p.n p.os
       have c1' : ∀ p : GrownBy,(grow (wz.drewN p.n) p.os).cell? ⟨b2,o2 + k * 2,none⟩ = some (.string ny):=fun p=>cell_grown (by rw [hws];exact World.block_lt_of_cell? w _ y0) (hwc _ _ y0) p.n p.os
       have d1' : ∀ p : GrownBy,(grow (wz.drewN p.n) p.os).cell? ⟨b2,o2 + k * 2 + 1,none⟩ = some (.string vy):=fun p=>cell_grown (by rw [hws];exact World.block_lt_of_cell? w _ y1) (hwc _ _ y1) p.n p.os
       refine wp_region_quiet_grown (by kernel_rfl) (by kernel_rfl) ?_
       repeat (go_big_quiet_step ((first | (go_at_call 179;exact Calls.grown_of (hc _)))))
       refine wpQuiet_nil ?_
       rintro wq ⟨⟨q,os⟩,rfl⟩
       go_wp2
       go_ret
       exact ⟨by rw [hR.out];rfl,D + q,os,by rw [hz.out,World.drewN_drewN]⟩
  · obtain rfl : k = M:=by omega
    have hki : ¬ (k : Int) < (k : Int):=by omega
    have hR : Hid (cmpS a b = cmpN a.length b.length):=cmpS_end htk.out hM.out
    have hc:=fun W=>icmp_any a.length b.length W
    generalize cmpN a.length b.length = C at *
    go_wp2_with (first | (go_at_call 180;refine (hc _).mono ?_;rintro e wx ⟨rfl,hwx⟩;subst wx))
    go_ret
    exact ⟨by rw [hR.out];rfl,_,#[],(grow_empty _).symm⟩
theorem clos_gr (x y : Se) (w : World) (hx : Lbs w (.slice x.a x.n x.c) x.labs) (hy : Lbs w (.slice y.a y.n y.c) y.labs) (lx : x.labs.length ≤ 1000000) (ly : y.labs.length ≤ 1000000) :
 Calls Tryz.prog 153 #[.agg #[.slice x.a x.n x.c,.int .i64 x.v.kind,.int .i64 x.v.n],.agg #[.slice y.a y.n y.c,.int .i64 y.v.kind,.int .i64 y.v.n]] w fun e w'=>e = .returned (.int .i64 (cmpS x.labs y.labs))∧∃ q os,w' = grow (w.drewN q) os:=by
 have hc:=compare_gr _ _ x.labs y.labs ((w.alloc (.cells #[.slice x.a x.n x.c,.int .i64 x.v.kind,.int .i64 x.v.n] 86)).alloc (.cells #[.slice y.a y.n y.c,.int .i64 y.v.kind,.int .i64 y.v.n] 86)) ((hx.alloc _).alloc _) ((hy.alloc _).alloc _) lx ly
 generalize cmpS x.labs y.labs = C at *
 go_enter Tryz.func153,Tryz.ntmps153
 go_wp2_with (first | (go_at_call 154;refine hc.mono ?_;rintro e w1 ⟨rfl,q,os,rfl⟩))
 go_ret
 refine ⟨rfl,q,#[.cells #[.slice x.a x.n x.c,.int .i64 x.v.kind,.int .i64 x.v.n] 86] ++ #[.cells #[.slice y.a y.n y.c,.int .i64 y.v.kind,.int .i64 y.v.n] 86] ++ os,?_⟩
 rw [alloc_eq_grow,alloc_eq_grow,grow_grow]
 show grow (grow (w.drewN q) _) os = _
 rw [grow_grow]
end Go.Proofs.YtdhlfpgibfaimaaGreatDoor
namespace Go.Proofs.YtdhlfpgibfaimaaGreatDoor
open Go.RowKit Go.Sort Go.Shelf
theorem SeOk.kept {w w' : World} {g : Nat} {x : Se} (h : SeOk w g x) (hg : w.grownBy w' (some g)) : SeOk w' g x:=by
 refine ⟨?_,h.2⟩
 obtain ⟨a,c,e,hn,hc⟩:=id h.1
 rcases hc with hc | ⟨b,o',rfl,hc⟩
 · exact ⟨a,c,e,hn,.inl hc⟩
 · have hne:=h.2 _ (by injection e)
   have h1:=h.1
   rw [e] at h1 ⊢
   exact Sls.kept h1 hg (fun e=>hne (Option.some.inj e))
abbrev Qs (w : World) (g : Nat) : Type:={x : Se // SeOk w g x∧x.labs.length ≤ 1000000}
instance (w : World) (g : Nat) : Inhabited (Qs w g):=⟨⟨se0,⟨⟨sls_nil w,fun ad e=>by cases e⟩,by simp [se0]⟩⟩⟩
def cmpQ {w : World} {g : Nat} (x y : Qs w g) : Int:=cmpS x.1.labs y.1.labs
theorem ltQ {w : World} {g : Nat} (x y : Qs w g) : ltOf cmpQ x y = true ↔ cmpS x.1.labs y.1.labs = -1:=by
 unfold ltOf cmpQ
 rcases cmpS_in x.1.labs y.1.labs with h | h | h <;> rw [h] <;> simp
theorem ltQn {w : World} {g : Nat} (x y : Qs w g) : ltOf cmpQ x y = false ↔ ¬ cmpS x.1.labs y.1.labs = -1:=by
 rw [← ltQ];simp
theorem swoQ {w : World} {g : Nat} : SWO (ltOf (cmpQ (w:=w) (g:=g))) where
 irrefl x:=by rw [ltQn,cmpS_eq.2 rfl];decide
 trans x y z h1 h2:=by rw [ltQ] at *;exact Series10.cmpS_trans h1 h2
 ntrans x y z h1 h2:=by
  rw [ltQn] at *
  intro h
  rcases cmpS_in x.1.labs y.1.labs with a | a | a
  · exact h1 a
  · rw [cmpS_eq.1 a] at h;exact h2 h
  · have b : cmpS y.1.labs x.1.labs = -1:=by rw [cmpS_neg,a]
    exact h2 (Series10.cmpS_trans b h)
theorem flatK_flatR {w : World} {g : Nat} (l : List (Qs w g)) : flatK (fun x : Qs w g=>encR.arr x.1) 3 l.toArray = (flat encR (l.map (·.1))).toArray:=by
 refine ext_get! (by simp [flat_len];rfl) fun t ht=>?_
 have ht' : t < l.length * 3:=by simpa using ht
 rw [get_flatK _ _ _ t (by simpa using ht')]
 have hd : t / 3 < l.length:=by omega
 have h:=flat_get (E:=encR) (l.map (·.1)) (t / 3) (t % 3) (by simpa using hd) (Nat.mod_lt _ (by decide))
 rw [show t / 3 * encR.k + t % 3 = t by show t / 3 * 3 + t % 3 = t;omega] at h
 have e1 : (l.toArray[t / 3]!).1 = (l.map (·.1)).getD (t / 3) encR.d:=by
  rw [getElem!_pos _ _ (by simpa using hd)];simp [hd]
 rw [e1]
 have e2 : (flat encR (l.map (·.1))).toArray[t]! = (flat encR (l.map (·.1)))[t]?.getD default:=by simp [Array.getElem!_eq_getD,Array.getD_eq_getD_getElem?]
 rw [e2,h]
 simp
def SrtS (l : List Se) : Prop:=l.Pairwise fun a b=>¬ cmpS b.labs a.labs = -1
theorem ssort_any (base g cap : Nat) (l : List Se) (w : World) (hown : OwnR w base (.slice (some ⟨g,0,none⟩) l.length cap) l) (hok : LsOk w g l) (hll : ∀ x ∈ l,x.labs.length ≤ 1000000) (hl : l.length ≤ 1000000) :
 Calls Tryz.prog 152 #[.slice (some ⟨g,0,none⟩) l.length cap,.func (.func 153) #[] #[]] w fun e w'=>e = .returned (.tuple #[])∧∃ l',l'.Perm l∧SrtS l'∧OwnR w' base (.slice (some ⟨g,0,none⟩) l.length cap) l'∧LsOk w' g l'∧w.grownBy w' (some g):=by
 have hown2:=hown
 rcases hown.2 with ⟨e,h0⟩ | ⟨g',cap',cur,e,hbg,hg,hnc,hcm,hcs,htake⟩
 · cases e
 · cases e
   have hP : ∀ x ∈ l,SeOk w g x∧x.labs.length ≤ 1000000:=fun x hx=>⟨hok x hx,hll x hx⟩
   obtain ⟨q,hq⟩ : ∃ q : List (Qs w g),q.map (·.1) = l:=⟨l.pmap (fun x h=>⟨x,h⟩) hP,by rw [List.map_pmap];simp⟩
   have hql : q.length = l.length:=by rw [← hq,List.length_map]
   have eg : ∀ args w,(callFunc 153 args).run Tryz.prog w = .ok (.enter 153 args) w:=enters_of Tryz.func153 (by kernel_rfl) rfl
   have hgl : g < w.heap.size:=(Array.getElem?_eq_some_iff.1 hg).1
   have hH : HoldsK (fun x : Qs w g=>encR.arr x.1) 3 w g 0 q.toArray:=by
    unfold HoldsK
    rw [flatK_flatR,hq]
    intro j hj
    have hj' : j < l.length * encR.k:=by simpa [flat_len] using hj
    refine ⟨?_,by simp [World.frozen?,hg]⟩
    have hf : j < (flat encR l).length:=by rw [flat_len];exact hj'
    have:=World.ownsRow.cells hown (g:=g) rfl j ((flat encR l)[j]) (List.getElem?_eq_getElem hf)
    rw [ladd_at] at this
    rw [this,getElem!_pos _ _ (by simpa using hf)]
    simp
   have hcon:=AnyQ.slices_SortFunc Tryz.sortR 3 Tryz.isAgg86 Tryz.sizeOf86 (fun x : Qs w g=>encR.arr x.1) (fun _=>rfl) (fun x=>encR.one x.1) cmpQ swoQ 153 #[] g 0 cap q.toArray w eg
    (fun m os dk _ x y=>clos_gr x.1 y.1 _ (x.2.1.kept (grownBy_sortedK _)).1 (y.2.1.kept (grownBy_sortedK _)).1 x.2.2 y.2.2) hH hgl (by simp;omega)
   change Calls Tryz.prog 152 _ _ _ at hcon
   simp only [List.size_toArray,hql] at hcon
   refine hcon.mono ?_
   rintro e w' ⟨rfl,d',n,os,hperm,hsort,rfl⟩
   obtain ⟨hds,_,hpm⟩:=hperm
   have hds' : d'.size = l.length:=by rw [hds];simp [hql]
   have hpm2 : d'.toList.Perm q:=by
    have h1 : d'.extract 0 l.length = d':=by rw [← hds'];simp
    have h2 : q.toArray.extract 0 l.length = q.toArray:=by rw [← hql];simp
    rw [h1,h2] at hpm
    simpa using hpm
   have hlen : (d'.toList.map (·.1)).length = l.length:=by simp [hds']
   refine ⟨rfl,d'.toList.map (·.1),by rw [← hq];exact hpm2.map _,?_,?_,?_,?_⟩
   · unfold SrtS
     rw [List.pairwise_map,List.pairwise_iff_getElem]
     intro i j hi hj hij
     have:=hsort i j (Nat.zero_le _) hij (by simpa [hds'] using hj)
     rw [ltQn] at this
     rw [getElem!_pos _ _ (by simpa using hj),getElem!_pos _ _ (by simpa using hi)] at this
     simpa using this
   · unfold sortWorldK putRowK
     have hfk : flatK (fun x : Qs w g=>encR.arr x.1) 3 d' = (flat encR (d'.toList.map (·.1))).toArray:=flatK_flatR d'.toList
     rw [hfk]
     show World.ownsRow _ _ _ _ _ _ _
     unfold World.ownsRow
     rw [hlen]
     refine ⟨by rw [flat_len,hlen],.inr ⟨g,cap,_,rfl,hbg,heap_sortedK _ hg,hnc,hcm,by simp [putCells];exact hcs,?_⟩⟩
     have hfs : (flat encR (d'.toList.map (·.1))).toArray.size = l.length * encR.k:=by simp [flat_len,hds']
     rw [← hfs]
     refine putCells_take cur _ ?_
     rw [hfs,hcs]
     exact Nat.mul_le_mul_right _ hnc
   · intro x hx
     obtain ⟨y,_,rfl⟩:=List.mem_map.1 hx
     exact y.2.1.kept (grownBy_sortedK _)
   · exact grownBy_sortedK _
end Go.Proofs.YtdhlfpgibfaimaaGreatDoor

set_option maxRecDepth 100000
set_option maxHeartbeats 4000000
set_option linter.unusedVariables false
namespace Go.Proofs.YtdhlfpgibfaimaaGreatDoor
open Go.RowKit
theorem eql_b (v u : Value) (l m : List Lb) (w : World) (hv : Lbs w v l) (hu : Lbs w u m) (hl : l.length ≤ 4398046511104) (hm : m.length ≤ 4398046511104) : Calls Tryz.prog 151 #[v,u] w fun e w'=>e = .returned (.bool (decide (l = m)))∧Below w.heap.size w w' :=
 (eql_any v u l m w hv hu hl hm).mono fun e w' ⟨B,he,hB,hb⟩=>⟨by
  rw [he]
  by_cases h : l = m
  · rw [hB.2 h,decide_eq_true h]
  · rw [decide_eq_false h]
    cases B with
    | false=>rfl
    | true=>exact absurd (hB.1 rfl) h,hb⟩
def RepS (l : List Se) : Prop:=∃ i,i + 1 < l.length∧(l.getD (i + 1) se0).labs = (l.getD i se0).labs
noncomputable instance (l : List Se) : Decidable (RepS l):=Classical.propDecidable _
theorem rep_any (v : Value) (l : List Se) (w : World) (hv : Srs w v l) (hok : ∀ x ∈ l,Lbs w (.slice x.a x.n x.c) x.labs∧x.labs.length ≤ 1000000) (hl : l.length ≤ 1000000) : Calls Tryz.prog 155 #[v] w fun e w'=>e = .returned (.bool (decide (RepS l)))∧Below w.heap.size w w':=by
 obtain ⟨a,c,rfl⟩:=hv.shape
 have hmem : Hid (∀ k,k < l.length→l.getD k se0 ∈ l):=fun k hk=>by rw [List.getD_eq_getElem?_getD,List.getElem?_eq_getElem hk];exact List.getElem_mem hk
 replace hv : Hid (Srs w (.slice a l.length c) l):=hv
 replace hok : Hid (∀ x ∈ l,Lbs w (.slice x.a x.n x.c) x.labs∧x.labs.length ≤ 1000000):=hok
 obtain ⟨R,hR⟩ : ∃ R,Hid (R = decide (RepS l)):=⟨_,rfl⟩
 rw [← hR.out]
 go_enter Tryz.func155,Tryz.ntmps155
 go_wp2
 go_loopw [3] (fun i wr=>∃ j : Nat,(j + 1 ≤ l.length ∨ j = 0)∧i = .int .i64 ((j + 1 : Nat) : Int)∧Hid (∀ i,i + 1 < j + 1→¬ (l.getD (i + 1) se0).labs = (l.getD i se0).labs)∧Hid (Below w.heap.size w wr)) (fun i _=>l.length - (intOf i).toNat)
 case atStart=>exact ⟨0,.inr rfl,rfl,fun i hi=>absurd hi (by omega),Below.refl _ _⟩
 case round =>
  obtain ⟨j,hj,rfl,hno,hB⟩:=hrel
  by_cases hlt : j + 1 < l.length
  · have hki : ((j + 1 : Nat) : Int) < (l.length : Int):=by omega
    have hrow:=Sls.grow hv.out hB.out
    obtain ⟨b,o,rfl,x0,x1,x2⟩:=sr_at hrow (j + 1) hlt
    obtain ⟨b',o',e',y0,y1,y2⟩:=sr_at hrow j (by omega)
    cases e'
    have hx:=hok.out _ (hmem.out (j + 1) hlt)
    have hy:=hok.out _ (hmem.out j (by omega))
    have hcall : ∀ p : Bel wr,Calls Tryz.prog 151 #[.slice (l.getD (j + 1) se0).a (l.getD (j + 1) se0).n (l.getD (j + 1) se0).c,.slice (l.getD j se0).a (l.getD j se0).n (l.getD j se0).c] p.W fun e w'=>e = .returned (.bool (decide ((l.getD (j + 1) se0).labs = (l.getD j se0).labs)))∧Below p.W.heap.size p.W w':=fun p=>eql_b _ _ _ _ _ (hx.1.grow (hB.out.trans (p.h.mono hB.out.size))) (hy.1.grow (hB.out.trans (p.h.mono hB.out.size))) (by omega) (by omega)
    have c0 : ∀ p : Bel wr,p.W.cell? ⟨b,o + (j + 1) * 3,none⟩ = some (.slice (l.getD (j + 1) se0).a (l.getD (j + 1) se0).n (l.getD (j + 1) se0).c):=fun p=>p.cell x0
    have d0 : ∀ p : Bel wr,p.W.cell? ⟨b,o + j * 3,none⟩ = some (.slice (l.getD j se0).a (l.getD j se0).n (l.getD j se0).c):=fun p=>p.cell y0
    have hres : Hid (decide ((l.getD (j + 1) se0).labs = (l.getD j se0).labs) = true ↔ (l.getD (j + 1) se0).labs = (l.getD j se0).labs):=decide_eq_true_iff
    clear x0 x1 x2 y0 y1 y2 hx hy hrow
    generalize decide ((l.getD (j + 1) se0).labs = (l.getD j se0).labs) = D at *
    cases D with
    | true =>
     have hRt : Hid (R = true):=by
      show _ = _
      rw [hR.out];exact decide_eq_true ⟨j,hlt,hres.out.1 rfl⟩
     clear hres
     generalize l.getD (j + 1) se0 = x at *
     generalize l.getD j se0 = y at *
     go_wp2
     refine wp_region_bel (by kernel_rfl) (by kernel_rfl) ?_
     repeat (go_big_quiet_step (exact Calls.bel (hcall _)))
     refine wpQuiet_nil ?_
     rintro W ⟨p,rfl⟩
     go_wp2
     go_ret
     exact ⟨by rw [hRt.out];rfl,hB.out.trans (p.h.mono hB.out.size)⟩
    | false =>
     have hno2 : Hid (∀ i,i + 1 < j + 1 + 1→¬ (l.getD (i + 1) se0).labs = (l.getD i se0).labs):=fun i hi=>by
      by_cases e : i = j
      · subst e;intro h;exact absurd (hres.out.2 h) (by decide)
      · exact hno.out i (by omega)
     clear hres hno
     generalize hgx : l.getD (j + 1) se0 = x at hcall c0
     generalize hgy : l.getD j se0 = y at hcall d0
     clear hgx hgy
     go_wp2
     refine wp_region_bel (by kernel_rfl) (by kernel_rfl) ?_
     repeat (go_big_quiet_step (exact Calls.bel (hcall _)))
     refine wpQuiet_nil ?_
     rintro W ⟨p,rfl⟩
     go_wp2
     refine ⟨⟨j + 1,.inl (by omega),by go_num,hno2,hB.out.trans (p.h.mono hB.out.size)⟩,?_⟩
     simp [intOf];omega
  · have hki : ¬ ((j + 1 : Nat) : Int) < (l.length : Int):=by omega
    have hRf : Hid (R = false):=by
     show _ = _
     rw [hR.out]
     refine decide_eq_false ?_
     rintro ⟨i,hi,he⟩
     exact hno.out i (by omega) he
    have hB':=hB.out
    go_wp2
    go_ret
    exact ⟨by rw [hRf.out];rfl,hB'⟩
end Go.Proofs.YtdhlfpgibfaimaaGreatDoor
namespace Go.Proofs.YtdhlfpgibfaimaaGreatDoor
open Go.RowKit Go.Sort Go.Shelf
theorem rep_cons {a b : Se} {r : List Se} (h : ¬ RepS (a :: b :: r)) : a.labs ≠ b.labs∧¬ RepS (b :: r):=by
 refine ⟨fun e=>h ⟨0,by simp,e.symm⟩,fun ⟨i,hi,he⟩=>h ⟨i + 1,by simp at hi ⊢;omega,?_⟩⟩
 exact he
theorem rise_of : ∀ {l : List Se},SrtS l→¬ RepS l→Series10.Rise (l.map serOf)
 | [],_,_=>List.Pairwise.nil
 | [a],_,_=>by simp [Series10.Rise]
 | a :: b :: r,hs,hr=>by
  obtain ⟨h1,h2⟩:=rep_cons hr
  have hs':=List.pairwise_cons.1 hs
  have ih:=rise_of hs'.2 h2
  have hab : Series10.Slt (serOf a) (serOf b):=by
   rcases Series10.slt_total (serOf a) (serOf b) with h | h | h
   · exact h
   · exact absurd h h1
   · exact absurd h (hs'.1 b (by simp))
  rw [List.map_cons]
  refine List.pairwise_cons.2 ⟨fun z hz=>?_,ih⟩
  rw [List.map_cons] at hz ih
  rcases List.mem_cons.1 hz with rfl | hz
  · exact hab
  · exact hab.trans ((List.pairwise_cons.1 ih).1 z hz)
theorem rep_apart {l : List Se} (h : RepS l) : ¬ Series10.Apart (l.map serOf):=by
 obtain ⟨i,hi,he⟩:=h
 intro ha
 unfold Series10.Apart at ha
 rw [List.pairwise_map] at ha
 have:=List.pairwise_iff_getElem.1 ha i (i + 1) (by omega) hi (by omega)
 rw [List.getD_eq_getElem?_getD,List.getElem?_eq_getElem hi,List.getD_eq_getElem?_getD,List.getElem?_eq_getElem (by omega)] at he
 exact this he.symm
def Right (l : List Se) : Prop:=∀ x ∈ l,IsSet x.labs∧IsV x.v
theorem Right.sets {l : List Se} (h : Right l) : ∀ a ∈ l.map serOf,IsSet a.labels:=fun a ha=>by obtain ⟨x,hx,rfl⟩:=List.mem_map.1 ha;exact (h x hx).1
theorem Right.vals {l : List Se} (h : Right l) : ∀ a ∈ l.map serOf,IsV a.value:=fun a ha=>by obtain ⟨x,hx,rfl⟩:=List.mem_map.1 ha;exact (h x hx).2
def FrameR (base g cap : Nat) (l : List Se) (w : World) (e : Ending) (w' : World) : Prop :=
 Below base w w'∧((∃ l',Series10.SortQ (l.map serOf) (l'.map serOf) 0∧e = .returned (.tuple #[.slice (some ⟨g,0,none⟩) l.length cap,.int .i64 0])∧OwnR w' base (.slice (some ⟨g,0,none⟩) l.length cap) l'∧LsOk w' g l') ∨
  (∃ er : Int,(er = 8 ∨ er = 6)∧Series10.SortQ (l.map serOf) [] er∧e = .returned (.tuple #[.slice none 0 0,.int .i64 er])))
theorem frame_any (base g cap : Nat) (l : List Se) (w : World) (hown : OwnR w base (.slice (some ⟨g,0,none⟩) l.length cap) l) (hbg : base ≤ g) (hok : LsOk w g l) (hri : Right l) (hl : l.length ≤ 1000000) :
 Calls Tryz.prog 116 #[.slice (some ⟨g,0,none⟩) l.length cap] w fun e w'=>FrameR base g cap l w e w':=by
 have hll : ∀ x ∈ l,x.labs.length ≤ 1000000:=fun x hx=>by have:=(hri x hx).1.2.2;omega
 have hso:=ssort_any base g cap l w hown hok hll hl
 have hgl : g < w.heap.size:=(hown.lt g rfl).2
 have hbw : base ≤ w.heap.size:=by omega
 have hrp:=fun (l' : List Se) (W : World) (h : OwnR W base (.slice (some ⟨g,0,none⟩) l.length cap) l') (ho : LsOk W g l') (hp : l'.Perm l)=>rep_any _ l' W h.sls (fun x hx=>⟨(ho x hx).1,hll x (hp.mem_iff.1 hx)⟩) (by rw [hp.length_eq];exact hl)
 -- which of the three it is,is told by l
 by_cases hap : Series10.Apart (l.map serOf)
 · have hr0 : ∀ l' : List Se,l'.Perm l→SrtS l'→decide (RepS l') = false:=fun l' hp hs=>decide_eq_false fun h=>rep_apart h (hap.perm (hp.symm.map _))
   by_cases h200 : 200 < l.length
   · have h2i : (200 : Int) < (l.length : Int):=by omega
     have hq : Hid (Series10.SortQ (l.map serOf) [] 6):=.inr (.inr (.inr (.inl ⟨hri.sets,hri.vals,hap,by rw [List.length_map];exact h200,rfl,rfl⟩)))
     go_enter Tryz.func116,Tryz.ntmps116
     go_wp2_with (first
      | (go_at_call 152;refine hso.mono ?_;rintro e w1 ⟨rfl,l',hp,hs,ho1,hok1,hg1⟩;have hb1 : Below base w w1:=(Below.refl base w).grown hg1 hbw (fun k hk=>by cases hk;exact hbg);have hr1:=hrp l' w1 ho1 hok1 hp;rw [hr0 l' hp hs] at hr1)
      | (go_at_call 155;refine hr1.mono ?_;rintro e w2 ⟨rfl,hb2⟩;have hB2:=hb1.trans (hb2.mono (Nat.le_trans hbw hb1.size))))
     go_ret2
     exact ⟨hB2,.inr ⟨6,.inr rfl,hq.out,rfl⟩⟩
   · have h2i : ¬ (200 : Int) < (l.length : Int):=by omega
     go_enter Tryz.func116,Tryz.ntmps116
     go_wp2_with (first
      | (go_at_call 152;refine hso.mono ?_;rintro e w1 ⟨rfl,l',hp,hs,ho1,hok1,hg1⟩;have hb1 : Below base w w1:=(Below.refl base w).grown hg1 hbw (fun k hk=>by cases hk;exact hbg);have hr1:=hrp l' w1 ho1 hok1 hp;have hd1:=hr0 l' hp hs;rw [hd1] at hr1)
      | (go_at_call 155;refine hr1.mono ?_;rintro e w2 ⟨rfl,hb2⟩;have hB2:=hb1.trans (hb2.mono (Nat.le_trans hbw hb1.size));have ho2:=ho1.stay hb2;have hok2:=hok1.grow hb2))
     go_ret2
     refine ⟨hB2,.inl ⟨l',.inr (.inr (.inr (.inr ⟨hri.sets,hri.vals,by rw [List.length_map];omega,rfl,rise_of hs (of_decide_eq_false hd1),hp.map _⟩))),rfl,ho2,hok2⟩⟩
 · have hr0 : ∀ l' : List Se,l'.Perm l→SrtS l'→decide (RepS l') = true:=fun l' hp hs=>decide_eq_true (Classical.byContradiction fun h=>hap ((rise_of hs h).apart.perm (hp.map _)))
   have hq : Hid (Series10.SortQ (l.map serOf) [] 8):=.inr (.inr (.inl ⟨hri.sets,hri.vals,hap,rfl,rfl⟩))
   go_enter Tryz.func116,Tryz.ntmps116
   go_wp2_with (first
    | (go_at_call 152;refine hso.mono ?_;rintro e w1 ⟨rfl,l',hp,hs,ho1,hok1,hg1⟩;have hb1 : Below base w w1:=(Below.refl base w).grown hg1 hbw (fun k hk=>by cases hk;exact hbg);have hr1:=hrp l' w1 ho1 hok1 hp;rw [hr0 l' hp hs] at hr1)
    | (go_at_call 155;refine hr1.mono ?_;rintro e w2 ⟨rfl,hb2⟩;have hB2:=hb1.trans (hb2.mono (Nat.le_trans hbw hb1.size))))
   go_ret2
   exact ⟨hB2,.inr ⟨8,.inl rfl,hq.out,rfl⟩⟩
end Go.Proofs.YtdhlfpgibfaimaaGreatDoor
