/- Uf;Ug. -/
import Derived.Test.YtdhlfpgibfaimaaGreatDoorTaTd
import Derived.Test.YtdhlfpgibfaimaaGreatDoorRmRp
import Derived.BigQuiet

set_option maxRecDepth 100000
set_option maxHeartbeats 4000000
set_option linter.unusedVariables false
namespace Go.Proofs.YtdhlfpgibfaimaaGreatDoor
open Go.RowKit
theorem rcompare_any (v u : Value) (a b : List Lb) (w : World) (hv : Lbs w v a) (hu : Lbs w u b) (hla : a.length ≤ 1000000) (hlb : b.length ≤ 1000000) :
 Calls Tryz.prog 77 #[v,u] w fun e w'=>e = .returned (.int .i64 (cmpS a b))∧Below w.heap.size w w':=by
 obtain ⟨a1,c1,rfl⟩:=hv.shape
 obtain ⟨a2,c2,rfl⟩:=hu.shape
 replace hv : Hid (Lbs w (.slice a1 a.length c1) a):=hv
 replace hu : Hid (Lbs w (.slice a2 b.length c2) b):=hu
 obtain ⟨M,hM⟩ : ∃ M : Nat,Hid (M = min a.length b.length):=⟨_,rfl⟩
 have hMa : M ≤ a.length:=by rw [hM.out];omega
 have hMb : M ≤ b.length:=by rw [hM.out];omega
 go_enter Tryz.func77,Tryz.ntmps77
 go_wp2
 go_loopw [5] (fun i wr=>∃ k : Nat,k ≤ M∧i = .int .i64 k∧Hid (a.take k = b.take k)∧Below w.heap.size w wr) (fun i _=>M - (intOf i).toNat)
 case atStart=>exact ⟨0,Nat.zero_le _,rfl,rfl,Below.refl _ _⟩
 case round =>
  obtain ⟨k,hk,rfl,htk,hB⟩:=hrel
  by_cases hlt : k < M
  · have hka : (k : Int) < (a.length : Int):=by omega
    have hkb : (k : Int) < (b.length : Int):=by omega
    obtain ⟨b1,o1,rfl,x0,x1⟩:=lb_at (Sls.grow hv.out hB) k (by omega)
    obtain ⟨b2,o2,rfl,y0,y1⟩:=lb_at (Sls.grow hu.out hB) k (by omega)
    have hst : Hid (a.getD k lb0 = b.getD k lb0→a.take (k + 1) = b.take (k + 1)):=fun e=>by
     rw [ltake_getD a lb0 k (by omega),ltake_getD b lb0 k (by omega),htk.out,e]
    have hR : Hid (a.getD k lb0 ≠ b.getD k lb0→cmpS a b = cmpB (a.getD k lb0) (b.getD k lb0)):=fun h=>cmpS_at htk.out (by omega) (by omega) h
    generalize a.getD k lb0 = x at *
    generalize b.getD k lb0 = y at *
    have hdef : Hid (cmpB x y = if cmpL (numsS x.name) (numsS y.name) = 0 then cmpL (numsS x.value) (numsS y.value) else cmpL (numsS x.name) (numsS y.name)):=rfl
    have hxy : Hid (cmpB x y = 0 ↔ x = y):=cmpB_eq
    have hc:=fun W=>calls_same (rorder_any x.name y.name W)
    have hd:=fun W=>calls_same (rorder_any x.value y.value W)
    have hci:=cmpL_in (numsS x.name) (numsS y.name)
    have hdi:=cmpL_in (numsS x.value) (numsS y.value)
    generalize cmpL (numsS x.name) (numsS y.name) = C at *
    generalize cmpL (numsS x.value) (numsS y.value) = D at *
    have x0' : ∀ p : Bel wr,p.W.cell? ⟨b1,o1 + k * 2,none⟩ = some (.string x.name):=fun p=>p.cell x0
    have y0' : ∀ p : Bel wr,p.W.cell? ⟨b2,o2 + k * 2,none⟩ = some (.string y.name):=fun p=>p.cell y0
    have x1' : ∀ wq : World,Below wr.heap.size wr wq→∀ p : Bel wq,p.W.cell? ⟨b1,o1 + k * 2 + 1,none⟩ = some (.string x.value):=fun wq h p=>p.cell ((h.cell (p:=⟨b1,o1 + k * 2 + 1,none⟩) (World.block_lt_of_cell? wr _ x1)).trans x1)
    have y1' : ∀ wq : World,Below wr.heap.size wr wq→∀ p : Bel wq,p.W.cell? ⟨b2,o2 + k * 2 + 1,none⟩ = some (.string y.value):=fun wq h p=>p.cell ((h.cell (p:=⟨b2,o2 + k * 2 + 1,none⟩) (World.block_lt_of_cell? wr _ y1)).trans y1)
    clear x0 x1 y0 y1
    obtain ⟨nx,vx⟩:=x
    obtain ⟨ny,vy⟩:=y
    simp only at x0' x1' y0' y1' hc hd
    by_cases hC : C = 0
    · subst hC
      go_wp2
      refine wp_region_bel (by kernel_rfl) (by kernel_rfl) ?_
      repeat (go_big_quiet_step ((first | (go_at_call 121;exact Calls.bel (hc _)))))
      refine wpQuiet_nil ?_
      rintro wq ⟨⟨_,hq⟩,rfl⟩
      have X1:=x1' _ hq
      have Y1:=y1' _ hq
      by_cases hD : D = 0
      · subst hD
        go_wp2
        refine wp_region_bel (by kernel_rfl) (by kernel_rfl) ?_
        repeat (go_big_quiet_step ((first | (go_at_call 121;exact Calls.bel (hd _)))))
        refine wpQuiet_nil ?_
        rintro wq2 ⟨⟨_,hq2⟩,rfl⟩
        go_wp2
        refine ⟨⟨k + 1,by omega,by go_num,hst.out (hxy.out.1 (by rw [hdef.out];simp)),(hB.trans (hq.mono hB.size)).trans (hq2.mono (hB.trans (hq.mono hB.size)).size)⟩,?_⟩
        simp [intOf];omega
      · have hD1 : (D == 0) = false:=by simpa using hD
        go_wp2
        refine wp_region_bel (by kernel_rfl) (by kernel_rfl) ?_
        repeat (go_big_quiet_step ((first | (go_at_call 121;exact Calls.bel (hd _)))))
        refine wpQuiet_nil ?_
        rintro wq2 ⟨⟨_,hq2⟩,rfl⟩
        go_wp2
        go_ret
        refine ⟨?_,(hB.trans (hq.mono hB.size)).trans (hq2.mono (hB.trans (hq.mono hB.size)).size)⟩
        have e1 : cmpB ⟨nx,vx⟩ ⟨ny,vy⟩ = D:=by rw [hdef.out];simp
        rw [hR.out (fun e=>hD (by rw [← e1];exact hxy.out.2 e)),e1];rfl
    · have hC1 : (C == 0) = false:=by simpa using hC
      go_wp2
      refine wp_region_bel (by kernel_rfl) (by kernel_rfl) ?_
      repeat (go_big_quiet_step ((first | (go_at_call 121;exact Calls.bel (hc _)))))
      refine wpQuiet_nil ?_
      rintro wq ⟨⟨_,hq⟩,rfl⟩
      go_wp2
      go_ret
      refine ⟨?_,hB.trans (hq.mono hB.size)⟩
      have e1 : cmpB ⟨nx,vx⟩ ⟨ny,vy⟩ = C:=by rw [hdef.out,if_neg hC]
      rw [hR.out (fun e=>hC (by rw [← e1];exact hxy.out.2 e)),e1];rfl
  · have hkM : k = M:=by omega
    have hR : Hid (cmpS a b = cmpN a.length b.length):=cmpS_end htk.out (hkM.trans hM.out)
    have hend : ¬ ((k : Int) < (a.length : Int)∧(k : Int) < (b.length : Int)):=by rw [hkM,hM.out];omega
    by_cases h1 : (k : Int) < (a.length : Int)
    · have h2 : ¬ (k : Int) < (b.length : Int):=fun h=>hend ⟨h1,h⟩
      have h3 : ¬ (a.length : Int) < (b.length : Int):=by omega
      have h4 : (b.length : Int) < (a.length : Int):=by omega
      have hS : Hid (cmpS a b = 1):=by show _ = _;rw [hR.out];unfold cmpN;rw [if_neg (by omega),if_pos (by omega)]
      go_wp2
      go_ret
      exact ⟨by rw [hS.out];rfl,hB⟩
    · by_cases h3 : (a.length : Int) < (b.length : Int)
      · have hS : Hid (cmpS a b = -1):=by show _ = _;rw [hR.out];unfold cmpN;rw [if_pos (by omega)]
        go_wp2
        go_ret
        exact ⟨by rw [hS.out];rfl,hB⟩
      · have h4 : ¬ (b.length : Int) < (a.length : Int):=by
         have h5:=hM.out
         omega
        have hS : Hid (cmpS a b = 0):=by show _ = _;rw [hR.out];unfold cmpN;rw [if_neg (by omega),if_neg (by omega)]
        go_wp2
        go_ret
        exact ⟨by rw [hS.out];rfl,hB⟩
theorem rwithin_any (v u : Value) (a b : List Lb) (w : World) (hv : Lbs w v a) (hu : Lbs w u b) (ha : a.length ≤ 1000000) (hb : b.length ≤ 1000000) : Calls Tryz.prog 78 #[v,u] w fun e w'=>e = .returned (.bool (withinB a b))∧Below w.heap.size w w':=by
 obtain ⟨a1,c1,rfl⟩:=hv.shape
 have hg : ∀ n W,Below w.heap.size w W→Calls Tryz.prog 122 #[u,.string n] W fun e w'=>e = .returned (.string (getL b n))∧Below W.heap.size W w':=fun n W h=>calls_same (rget_any u b n W (hu.grow h) hb)
 clear hu
 replace hv : Hid (Lbs w (.slice a1 a.length c1) a):=hv
 obtain ⟨R,hR⟩ : ∃ R,Hid (R = withinB a b):=⟨_,rfl⟩
 rw [← hR.out]
 go_enter Tryz.func78,Tryz.ntmps78
 go_wp2
 go_loopw [5] (fun i wr=>∃ k : Nat,k ≤ a.length∧i = .int .i64 k∧Hid (∀ j,j < k→((getL b (a.getD j lb0).name).toList == (a.getD j lb0).value.toList) = true)∧Hid (Below w.heap.size w wr)) (fun i _=>a.length - (intOf i).toNat)
 case atStart=>exact ⟨0,Nat.zero_le _,rfl,fun j hj=>absurd hj (Nat.not_lt_zero _),Below.refl _ _⟩
 case round =>
  obtain ⟨k,hk,rfl,hall,hB⟩:=hrel
  by_cases hlt : k < a.length
  · have hki : (k : Int) < (a.length : Int):=by omega
    obtain ⟨b1,o1,rfl,x0,x1⟩:=lb_at (Sls.grow hv.out hB.out) k hlt
    have hB1:=hB.out
    have hcall : ∀ p : Bel wr,Calls Tryz.prog 122 #[u,.string (a.getD k lb0).name] p.W fun e w'=>e = .returned (.string (getL b (a.getD k lb0).name))∧Below p.W.heap.size p.W w':=fun p=>hg _ _ (hB1.trans (p.h.mono hB1.size))
    have hmem : Hid (a.getD k lb0 ∈ a):=by
     show _ ∈ _
     rw [List.getD_eq_getElem?_getD,List.getElem?_eq_getElem hlt];exact List.getElem_mem hlt
    obtain ⟨x,hx⟩ : ∃ x,Hid (x = a.getD k lb0):=⟨_,rfl⟩
    rw [← hx.out] at x0 x1 hcall hmem
    obtain ⟨xn,xv⟩:=x
    simp only at x0 x1 hcall hmem
    have c0 : ∀ p : Bel wr,p.W.cell? ⟨b1,o1 + k * 2,none⟩ = some (.string xn):=fun p=>p.cell x0
    have c1 : ∀ p : Bel wr,p.W.cell? ⟨b1,o1 + k * 2 + 1,none⟩ = some (.string xv):=fun p=>p.cell x1
    generalize hgv : getL b xn = gv at *
    cases he : gv.toList == xv.toList with
    | true =>
     have hall2 : Hid (∀ j,j < k + 1→((getL b (a.getD j lb0).name).toList == (a.getD j lb0).value.toList) = true):=fun j hj=>by
      by_cases e : j = k
      · subst e;rw [← hx.out];show ((getL b xn).toList == xv.toList) = true;rw [hgv];exact he
      · exact hall.out j (by omega)
     go_wp2
     refine wp_region_bel (by kernel_rfl) (by kernel_rfl) ?_
     repeat (go_big_quiet_step (exact Calls.bel (hcall _)))
     refine wpQuiet_nil ?_
     rintro W ⟨p,rfl⟩
     go_wp2
     refine ⟨⟨k + 1,by omega,by go_num,hall2,hB1.trans (p.h.mono hB1.size)⟩,?_⟩
     simp [intOf];omega
    | false =>
     have hRf : Hid (R = false):=by
      show _ = _
      rw [hR.out]
      unfold withinB
      rw [List.all_eq_false]
      exact ⟨_,hmem.out,by show ¬ ((getL b xn).toList == xv.toList) = true;rw [hgv,he];decide⟩
     go_wp2
     refine wp_region_bel (by kernel_rfl) (by kernel_rfl) ?_
     repeat (go_big_quiet_step (exact Calls.bel (hcall _)))
     refine wpQuiet_nil ?_
     rintro W ⟨p,rfl⟩
     go_wp2
     go_ret
     exact ⟨by rw [hRf.out];rfl,hB1.trans (p.h.mono hB1.size)⟩
  · obtain rfl : k = a.length:=by omega
    have hki : ¬ (a.length : Int) < (a.length : Int):=by omega
    have hRt : Hid (R = true):=by
     show _ = _
     rw [hR.out]
     unfold withinB
     rw [List.all_eq_true]
     intro x hx
     obtain ⟨j,hj,rfl⟩:=List.getElem_of_mem hx
     have:=hall.out j hj
     rw [List.getD_eq_getElem?_getD,List.getElem?_eq_getElem hj] at this
     exact this
    have hB':=hB.out
    go_wp2
    go_ret
    exact ⟨by rw [hRt.out];rfl,hB'⟩
theorem setB_yes {l : List Lb} (h : IsSet l) : setB l = true:=setB_iff.2 h
end Go.Proofs.YtdhlfpgibfaimaaGreatDoor

set_option linter.unusedVariables false
namespace Go.Proofs.YtdhlfpgibfaimaaGreatDoor
open Go.RowKit
theorem elem33 : Tryz.prog.underlying 43 = some (.slice (Tryz.prog.elem 43)):=by kernel_rfl
theorem size33 (W : World) : (sizeOf (Tryz.prog.elem 43)).run Tryz.prog W = .ok 3 W:=by kernel_rfl
theorem srs_from {w : World} {v : Value} {l : List Se} (hv : Srs w v l) (k : Nat) (hk : k ≤ l.length) :
 ∃ v2,(∀ W,(Instr.slice 43 v (some (.int .i64 (k : Int))) none none).run Tryz.prog W = .ok v2 W)∧Srs w v2 (l.drop k):=by
 obtain ⟨a,c,rfl,⟨hn,hc⟩,h1⟩:=hv
 refine ⟨sliced a k l.length c 3,fun W=>?_,⟨if c = k then a else a.map (·.add (k * 3)),c - k,by simp only [sliced,List.length_drop],⟨fun e=>?_,by simp;omega⟩,?_⟩⟩
 · rw [run_slice_l W 43 a l.length c elem33 .i64 k (by omega) (by omega),size33];simp [Result.andThen]
 · by_cases h : c = k
   · omega
   · rw [if_neg h] at e
     simp at e;have:=hn e;omega
 · rcases h1 with rfl | ⟨b,o,rfl,hr⟩
   · exact .inl (by simp)
   · by_cases h : k = l.length
     · exact .inl (by simp [h])
     · refine .inr ⟨b,o + k * 3,?_,fun t ht=>?_⟩
       · rw [if_neg (by omega)];simp [ladd_at]
       · rw [List.length_drop] at ht
         have:=hr (k + t) (by omega)
         rw [show (l.drop k).getD t encR.d = l.getD (k + t) encR.d by rw [List.getD_eq_getElem?_getD,List.getD_eq_getElem?_getD,List.getElem?_drop]]
         intro i u hu
         have h3:=this i u hu
         rw [← h3]
         congr 2
         show o + k * 3 + t * 3 + i = o + (k + t) * 3 + i
         omega
theorem srs_to {w : World} {v : Value} {l : List Se} (hv : Srs w v l) (k : Nat) (hk : k ≤ l.length) :
 ∃ v2,(∀ W,(Instr.slice 43 v none (some (.int .i64 (k : Int))) none).run Tryz.prog W = .ok v2 W)∧Srs w v2 (l.take k):=by
 obtain ⟨a,c,rfl,⟨hn,hc⟩,h1⟩:=hv
 refine ⟨sliced a 0 k c 3,fun W=>?_,⟨if c = 0 then a else a.map (·.add (0 * 3)),c - 0,by simp only [sliced,List.length_take,Nat.min_eq_left hk,Nat.sub_zero],⟨fun e=>?_,by simp;omega⟩,?_⟩⟩
 · rw [run_slice_h W 43 a l.length c elem33 .i64 k (by omega) (by omega),size33];simp [Result.andThen]
 · by_cases h : c = 0
   · omega
   · rw [if_neg h] at e
     simp at e;have:=hn e;omega
 · rcases h1 with rfl | ⟨b,o,rfl,hr⟩
   · exact .inl (by simp)
   · by_cases h : k = 0
     · exact .inl (by simp [h])
     · refine .inr ⟨b,o,?_,fun t ht=>?_⟩
       · rw [if_neg (by omega)];simp [ladd_at]
       · rw [List.length_take] at ht
         have:=hr t (by omega)
         rw [show (l.take k).getD t encR.d = l.getD t encR.d by rw [List.getD_eq_getElem?_getD,List.getD_eq_getElem?_getD,List.getElem?_take_of_lt (by omega)]]
         exact this
theorem sins_rise {out : List Se} {x : Se} {k : Nat} (h : Series10.Rise (out.map serOf)) (hk : k ≤ out.length) (h1 : ∀ j,j < k→Series10.Slt (serOf (out.getD j se0)) (serOf x)) (h2 : k < out.length→Series10.Slt (serOf x) (serOf (out.getD k se0))) : Series10.Rise ((out.take k ++ x :: out.drop k).map serOf):=by
 rw [List.map_append,List.map_cons]
 refine Series10.rise_insert (by rw [← List.map_append,List.take_append_drop];exact h) (fun b hb=>?_) (fun b hb=>?_)
 · obtain ⟨y,hy,rfl⟩:=List.mem_map.1 hb
   obtain ⟨j,hj,rfl⟩:=List.mem_iff_getElem.1 hy
   rw [List.length_take] at hj
   have:=h1 j (by omega)
   rw [List.getD_eq_getElem?_getD,List.getElem?_eq_getElem (by omega)] at this
   rw [List.getElem_take]
   exact this
 · by_cases hl : k < out.length
   · have hx:=h2 hl
     have hd : out.drop k = out.getD k se0 :: out.drop (k + 1):=by
      rw [List.drop_eq_getElem_cons hl];simp [hl]
     rw [hd,List.map_cons] at hb
     rcases List.mem_cons.1 hb with rfl | hb
     · exact hx
     · have hr : Series10.Rise ((out.drop k).map serOf):=by
        rw [List.map_drop]
        exact List.Pairwise.sublist (List.drop_sublist k _) h
       rw [hd,List.map_cons] at hr
       exact hx.trans (hr.head b hb)
   · rw [List.drop_eq_nil_iff.2 (by omega)] at hb;cases hb
theorem sins_perm {out m : List Se} {x : Se} {k : Nat} (h : out.Perm m) : (out.take k ++ x :: out.drop k).Perm (m ++ [x]):=by
 have h1 : (out.take k ++ x :: out.drop k).Perm (x :: (out.take k ++ out.drop k)):=List.perm_middle
 rw [List.take_append_drop] at h1
 exact h1.trans ((h.cons x).trans (List.perm_append_singleton x m).symm)
theorem sthere_apart {l out : List Se} {i k : Nat} (h : out.Perm (l.take i)) (hi : i < l.length) (hk : k < out.length) (e : (out.getD k se0).labs = (l.getD i se0).labs) : ¬ Series10.Apart (l.map serOf):=by
 intro ha
 have hm : out.getD k se0 ∈ l.take i:=h.mem_iff.1 (lgetD_mem out se0 k hk)
 obtain ⟨j,hj,he⟩:=List.mem_iff_getElem.1 hm
 rw [List.length_take] at hj
 unfold Series10.Apart at ha
 rw [List.pairwise_iff_getElem] at ha
 have:=ha j i (by rw [List.length_map];omega) (by rw [List.length_map];exact hi) (by omega)
 rw [List.getElem_map,List.getElem_map] at this
 refine this ?_
 rw [List.getElem_take] at he
 show (l[j]).labs = (l[i]).labs
 rw [he,e,List.getD_eq_getElem?_getD,List.getElem?_eq_getElem hi]
 rfl
theorem slt_of {x y : Series10.Sr} (h1 : ¬ cmpS x.labels y.labels < 0) (h2 : cmpS x.labels y.labels ≠ 0) : Series10.Slt y x:=by
 unfold Series10.Slt
 rcases cmpS_in x.labels y.labels with h | h | h
 · omega
 · exact absurd h h2
 · rw [cmpS_neg,h]
def RSortR (L : List Se) (w : World) (e : Ending) (w' : World) : Prop :=
 ∃ (vo : Value) (l : List Se) (er : Int),e = .returned (.tuple #[vo,.int .i64 er])∧Series10.SortQ (L.map serOf) (l.map serOf) er∧OwnR w' w.heap.size vo l∧(∀ x ∈ l,x ∈ L)∧Below w.heap.size w w'
end Go.Proofs.YtdhlfpgibfaimaaGreatDoor
