/- Rm;RnPk;Rp. -/
import Derived.Test.YtdhlfpgibfaimaaGreatDoorCpAr

set_option linter.unusedVariables false
namespace Go.Proofs.YtdhlfpgibfaimaaGreatDoor
open Go.RowKit
theorem stepN {α : Type} {E : Enc α} (T : RowTy E) {ops : Array Oper} {o : Oper} {a : Act} {w : World} {K : Act→World→Prop} {Q : Exit→Act→World→Prop} {F : Prop} (hg : o.guard = none) (s x : Operand)
 (hop : o.op = Op.call { callee:=Callee.builtin Builtin.append,args:=#[s,x],argTypes:=#[T.st,T.st] }) (base : Nat) (v u : Value) (l m : List α) (hs : a.eval s = v) (hx : a.eval x = u)
 (hown : OwnS T w base v l) (hm : Sls E w u m) (hbase : base ≤ w.heap.size) (hlen : l.length + m.length ≤ 1000000000)
 (h : ∀ v' w',OwnS T w' base v' (l ++ m)→w.grownBy w' v.ownBlock→K (a.put o.dst v') w') : if Region.wanted o (yielded ops a.tmps) = true then Oper.wp Tryz.prog o a w K Q else F:=by
 obtain ⟨ad,c,rfl,hnil,hcell⟩:=hm
 cases ad with
 | none =>
  have hms : m = []:=by
   rcases hcell with hcell | ⟨_,_,e,_⟩
   · exact hcell
   · cases e
  subst hms
  obtain rfl:=hnil.1 rfl
  have hw : Region.wanted o (yielded ops a.tmps) = true:=by simp [Region.wanted,hg]
  rw [if_pos hw]
  obtain ⟨i0,hi,hz0,hz1,hz2⟩:=info_parts T.hi
  have hrun:=run_append_owned_none (P:=Tryz.prog) (w:=w) base T.st o.type T.et i0 E.k T.hu hi v l.length (flat E l) hown
  have hx' : a.eval x = .slice none 0 0:=hx
  unfold Oper.wp
  simp [execOp,hop,resolve,invoke,builtin,hs,hx',hrun,Result.andThen]
  exact h v w (by simpa using hown) (grown_refl _ _)
 | some ad=>exact stepR T hg s x hop base v ad m.length c l m hs hx hown ⟨_,_,rfl,hnil,hcell⟩ hbase hlen h
theorem Sls.kept {α : Type} {E : Enc α} {w w' : World} {g o n c : Nat} {r : Option Nat} {l : List α} (h : Sls E w (.slice (some ⟨g,o,none⟩) n c) l) (hg : w.grownBy w' r) (hne : some g ≠ r) : Sls E w' (.slice (some ⟨g,o,none⟩) n c) l:=by
 obtain ⟨a,c',e,hn,h⟩:=h
 refine ⟨a,c',e,hn,?_⟩
 rcases h with h | ⟨b,o',e2,h⟩
 · exact .inl h
 · cases e
   cases e2
   refine .inr ⟨g,o,rfl,fun t ht i u hu=>?_⟩
   have h1:=h t ht i u hu
   have hlt:=World.block_lt_of_cell? w _ h1
   rw [← h1]
   simp only [World.cell?,hg.block g hlt hne]
end Go.Proofs.YtdhlfpgibfaimaaGreatDoor

set_option maxRecDepth 100000
set_option maxHeartbeats 2000000
set_option linter.unusedVariables false
namespace Go.Proofs.YtdhlfpgibfaimaaGreatDoor
open Go.RowKit
theorem rget_any (v : Value) (l : List Lb) (n : ByteArray) (w : World) (hv : Lbs w v l) (hl : l.length ≤ 1000000) : Calls Tryz.prog 122 #[v,.string n] w fun e w'=>e = .returned (.string (getL l n))∧w' = w:=by
 obtain ⟨a,c,rfl⟩:=hv.shape
 replace hv : Hid (Lbs w (.slice a l.length c) l):=hv
 go_enter Tryz.func122,Tryz.ntmps122
 go_wp2
 go_loop [5] (fun i=>∃ k : Nat,k ≤ l.length∧i = .int .i64 k∧noTo l n k) (fun i=>l.length - (intOf i).toNat)
 case atStart=>exact ⟨0,Nat.zero_le _,rfl,fun j hj=>absurd hj (Nat.not_lt_zero _)⟩
 case round =>
  obtain ⟨k,hk,rfl,hno⟩:=hrel
  by_cases hlt : k < l.length
  · have hki : (k : Int) < (l.length : Int):=by omega
    obtain ⟨b,o,rfl,x0,x1⟩:=lb_at hv.out k hlt
    by_cases he : (l.getD k lb0).name = n
    · have hg : Hid (getL l n = (l.getD k lb0).value):=getL_at hlt hno he
      rw [he] at x0
      clear he
      generalize (l.getD k lb0).value = u at *
      go_wp2
      go_ret
      exact ⟨by rw [hg.out];rfl,rfl⟩
    · have hst:=noTo_succ hno he
      have hne:=toList_ne he
      clear he
      generalize (l.getD k lb0).value = u at *
      generalize (l.getD k lb0).name = m at *
      go_wp2
      go_round
      case rel=>exact ⟨k + 1,by omega,by go_num,hst⟩
      case measure=>simp [intOf];omega
  · obtain rfl : k = l.length:=by omega
    have hki : ¬ (l.length : Int) < (l.length : Int):=by omega
    have hg : Hid (getL l n = ⟨#[]⟩):=getL_no hno
    go_wp2
    go_ret
    exact ⟨by rw [hg.out];rfl,rfl⟩
def pickL (l : List Lb) (ns : List ByteArray) (b : Bool) : List Lb:=l.filter fun a=>inB ns a.name == b
def cmpN (a b : Int) : Int:=if a < b then -1 else if b < a then 1 else 0
theorem isNaN_any (x : Int) (w : World) : Calls Tryz.prog 229 #[.int .i64 x] w fun e w'=>e = .returned (.bool false)∧w' = w:=by
 have h : (x != x) = false:=by simp
 go_enter Tryz.func229,Tryz.ntmps229
 go_wp2
 go_ret
 exact ⟨rfl,rfl⟩
theorem icmp_any (x y : Int) (w : World) : Calls Tryz.prog 180 #[.int .i64 x,.int .i64 y] w fun e w'=>e = .returned (.int .i64 (cmpN x y))∧w' = w:=by
 have h:=fun z W=>isNaN_any z W
 by_cases h1 : x < y
 · have hR : Hid (cmpN x y = -1):=by show _ = _;unfold cmpN;rw [if_pos h1]
   go_enter Tryz.func180,Tryz.ntmps180
   go_wp2_with (first | (go_at_call 229;refine (h _ _).mono ?_;rintro e wx ⟨rfl,hwx⟩;subst wx))
   go_ret
   exact ⟨by rw [hR.out];rfl,rfl⟩
 · by_cases h2 : y < x
   · have hR : Hid (cmpN x y = 1):=by show _ = _;unfold cmpN;rw [if_neg h1,if_pos h2]
     go_enter Tryz.func180,Tryz.ntmps180
     go_wp2_with (first | (go_at_call 229;refine (h _ _).mono ?_;rintro e wx ⟨rfl,hwx⟩;subst wx))
     go_ret
     exact ⟨by rw [hR.out];rfl,rfl⟩
   · have hR : Hid (cmpN x y = 0):=by show _ = _;unfold cmpN;rw [if_neg h1,if_neg h2]
     go_enter Tryz.func180,Tryz.ntmps180
     go_wp2_with (first | (go_at_call 229;refine (h _ _).mono ?_;rintro e wx ⟨rfl,hwx⟩;subst wx))
     go_ret
     exact ⟨by rw [hR.out];rfl,rfl⟩
theorem cmpS_app (p x y : List Lb) : cmpS (p ++ x) (p ++ y) = cmpS x y:=by
 induction p with
 | nil=>rfl
 | cons a p ih =>
  rw [List.cons_append,List.cons_append,cmpS,if_pos (cmpB_eq.2 rfl),ih]
theorem cmpS_drop {a b : List Lb} {k : Nat} (h : a.take k = b.take k) : cmpS a b = cmpS (a.drop k) (b.drop k):=by
 have e1 : a = a.take k ++ a.drop k:=(List.take_append_drop k a).symm
 have e2 : b = a.take k ++ b.drop k:=by rw [h];exact (List.take_append_drop k b).symm
 calc cmpS a b = cmpS (a.take k ++ a.drop k) (a.take k ++ b.drop k):=by rw [← e1,← e2]
  _ = _:=cmpS_app _ _ _
theorem drop_getD (l : List Lb) (k : Nat) (h : k < l.length) : l.drop k = l.getD k lb0 :: l.drop (k + 1):=by
 rw [List.drop_eq_getElem_cons h];simp [h]
theorem cmpS_at {a b : List Lb} {k : Nat} (h : a.take k = b.take k) (ha : k < a.length) (hb : k < b.length) (hne : a.getD k lb0 ≠ b.getD k lb0) : cmpS a b = cmpB (a.getD k lb0) (b.getD k lb0):=by
 rw [cmpS_drop h,drop_getD a k ha,drop_getD b k hb,cmpS,if_neg (fun e=>hne (cmpB_eq.1 e))]
theorem cmpS_end {a b : List Lb} {k : Nat} (h : a.take k = b.take k) (hk : k = min a.length b.length) : cmpS a b = cmpN a.length b.length:=by
 rw [cmpS_drop h]
 unfold cmpN
 by_cases h1 : a.length < b.length
 · have ha : a.drop k = []:=List.drop_eq_nil_iff.2 (by omega)
   rw [ha,drop_getD b k (by omega),cmpS,if_pos (by omega)]
 · rw [if_neg (by omega)]
   have hb : b.drop k = []:=List.drop_eq_nil_iff.2 (by omega)
   by_cases h2 : b.length < a.length
   · rw [hb,drop_getD a k (by omega),cmpS,if_pos (by omega)]
   · have ha : a.drop k = []:=List.drop_eq_nil_iff.2 (by omega)
     rw [ha,hb,cmpS,if_neg (by omega)]
end Go.Proofs.YtdhlfpgibfaimaaGreatDoor

set_option maxRecDepth 100000
set_option maxHeartbeats 1000000
set_option linter.unusedVariables false
namespace Go.Proofs.YtdhlfpgibfaimaaGreatDoor
open Go.RowKit
theorem rorder_any (a b : ByteArray) (w : World) : Calls Tryz.prog 121 #[.string a,.string b] w fun e w'=>e = .returned (.int .i64 (cmpL (numsS a) (numsS b)))∧w' = w:=by
 have h1:=less_cmp a b
 have h2:=less_cmp b a
 rw [cmpL_neg (numsS a)] at h2
 have hn : Hid (∀ z : Int,z = cmpL (numsS a) (numsS b)→cmpL (numsS a) (numsS b) = z):=fun z h=>h.symm
 rcases cmpL_in (numsS a) (numsS b) with h | h | h
 · have hR : Hid (cmpL (numsS a) (numsS b) = -1):=h
   rw [h] at h1 h2
   clear h hn
   simp only [decide_true] at h1
   go_enter Tryz.func121,Tryz.ntmps121
   go_wp2
   go_ret
   exact ⟨by rw [hR.out];rfl,rfl⟩
 · have hR : Hid (cmpL (numsS a) (numsS b) = 0):=h
   rw [h] at h1 h2
   clear h hn
   have h1' : Op.bytesLess a.toList b.toList = false:=by rw [h1];decide
   have h2' : Op.bytesLess b.toList a.toList = false:=by rw [h2];decide
   obtain rfl : a = b:=numsS_inj (cmpL_eq hR.out)
   clear h1 h2
   go_enter Tryz.func121,Tryz.ntmps121
   go_wp2
   go_ret
   exact ⟨by rw [hR.out];rfl,rfl⟩
 · have hR : Hid (cmpL (numsS a) (numsS b) = 1):=h
   rw [h] at h1 h2
   clear h hn
   have h1' : Op.bytesLess a.toList b.toList = false:=by rw [h1];decide
   have h2' : Op.bytesLess b.toList a.toList = true:=by rw [h2];decide
   have hne : (a.toList == b.toList) = false:=toList_ne (by rintro rfl;rw [h2'] at h1';cases h1')
   clear h1 h2
   go_enter Tryz.func121,Tryz.ntmps121
   go_wp2
   go_ret
   exact ⟨by rw [hR.out];rfl,rfl⟩
end Go.Proofs.YtdhlfpgibfaimaaGreatDoor
