import Derived.Test.YtdhlfpgibfaimaaGreatDoorWeWhWiWj
import Derived.Test.YtdhlfpgibfaimaaGreatDoorCpAr
set_option maxRecDepth 100000
set_option maxHeartbeats 4000000
set_option linter.unusedVariables false
namespace Go.Proofs.YtdhlfpgibfaimaaGreatDoor
open Go.RowKit
attribute [local go_sem ↓] Go.wp_at_zero Go.wp_at_succ
def two12 : List ByteArray:=[⟨#[43]⟩,⟨#[45]⟩,⟨#[42]⟩,⟨#[47]⟩,⟨#[61,61]⟩,⟨#[33,61]⟩,⟨#[60]⟩,⟨#[60,61]⟩,⟨#[62]⟩,⟨#[62,61]⟩,⟨#[38,38]⟩,⟨#[124,124]⟩]
def kn (op : ByteArray) (k : Nat) : Bool:=(two12.take k).any fun s=>s.toList == op.toList
theorem kn_succ (op : ByteArray) (k : Nat) (h : k < 12) : kn op (k + 1) = (kn op k || ((two12.getD k ⟨#[]⟩).toList == op.toList)):=by
 have h' : k < two12.length:=h
 unfold kn
 rw [List.take_succ_eq_append_getElem h',List.any_append,List.getD_eq_getElem?_getD,List.getElem?_eq_getElem h']
 simp
theorem sls_flat2 {α : Type} {E : Enc α} (w : World) (l : List α) (cs : Array Value) (ty : TypeId) (hcs : cs.toList = flat E l) : Sls E (w.alloc (.cells cs ty)) (.slice (some ⟨w.heap.size,0,none⟩) l.length l.length) l:=by
 refine ⟨_,_,rfl,⟨(fun e=>by cases e),Nat.le_refl _⟩,.inr ⟨w.heap.size,0,rfl,fun t ht i u hu=>?_⟩⟩
 have hi : i < E.k:=by
  rcases Nat.lt_or_ge i (E.arr (l.getD t E.d)).length with h | h
  · rw [E.len] at h;exact h
  · rw [List.getElem?_eq_none h] at hu;cases hu
 have hf:=flat_get (E:=E) l t i ht hi
 rw [hu,← hcs] at hf
 simp only [World.cell?,heap_new]
 simpa using hf
theorem end_two {tmps : Array Value} {w W0 W : World} {x : Nat} {v u : Vl} {r : Value} (ht : tmps[6]?.getD undef = .pointer (some ⟨x,0,none⟩)) (hs : tmps[7]?.getD undef = r) (hx : w.heap.size ≤ x)
 (h0 : Below w.heap.size w W0) (hB : Below W0.heap.size W0 W) (hv : VlAt W0 x u) :
 bodyPost Tryz.prog Tryz.f81 (fun e w'=>e = .returned (.tuple #[vlV v,r])∧Below w.heap.size w w') .ret { tmps:=tmps,defers:=[] } ((W.setCell ⟨x,0,none⟩ (.int .i64 v.kind)).setCell ⟨x,1,none⟩ (.int .i64 v.n)) :=
 ret_cell2 Tryz.results81 ht (vlSet (hv.grow hB)) hs ⟨rfl,belTwo _ _ (h0.trans (hB.mono h0.size)) hx⟩
abbrev row12 : Obj:=.cells #[.string ⟨#[43]⟩,.string ⟨#[45]⟩,.string ⟨#[42]⟩,.string ⟨#[47]⟩,.string ⟨#[61,61]⟩,.string ⟨#[33,61]⟩,.string ⟨#[60]⟩,.string ⟨#[60,61]⟩,.string ⟨#[62]⟩,.string ⟨#[62,61]⟩,.string ⟨#[38,38]⟩,.string ⟨#[124,124]⟩] 9
abbrev wld3 (w : World) (a b : Vl) : World:=((w.alloc (.cells #[.int .i64 a.kind,.int .i64 a.n] 24)).alloc (.cells #[.int .i64 b.kind,.int .i64 b.n] 24)).alloc (.cells #[.int .i64 0,.int .i64 0] 24)
theorem pre2 (w : World) (a b : Vl) (op : ByteArray) : ∃ K : Nat→Bool,Hid (Below w.heap.size w ((wld3 w a b).alloc (row12)))∧VlAt ((wld3 w a b).alloc (row12)) w.heap.size a∧VlAt ((wld3 w a b).alloc (row12)) (w.heap.size + 1) b∧VlAt ((wld3 w a b).alloc (row12)) (w.heap.size + 1 + 1) zer∧Hid (Txs ((wld3 w a b).alloc (row12)) (.slice (some ⟨w.heap.size + 1 + 1 + 1,0,none⟩) 12 12) two12)∧Below ((wld3 w a b).alloc (row12)).heap.size ((wld3 w a b).alloc (row12)) ((wld3 w a b).alloc (row12)) ∧
 Hid (∀ k,k < 12→K (k + 1) = (K k || ((two12.getD k ⟨#[]⟩).toList == op.toList)))∧Hid (K 0 = false)∧Hid (K 12 = kn op 12):=by
 obtain ⟨ha,hb,hr⟩:=pW2 w a b
 refine ⟨kn op,(bW2 w a b).alloc (by have:=(bW2 w a b).size;exact this) _,ha.alloc _,hb.alloc _,hr.alloc _,?_,Below.refl _ _,fun k h=>kn_succ op k h,rfl,rfl⟩
 have:=sls_flat2 (E:=encS) (wld3 w a b) two12 _ 9 rfl
 simp only [World.size_alloc] at this
 exact this
theorem truU {b : Bool} {R : Vl} (hR : Hid (R = tru b)) (W : World) : Calls Tryz.prog 123 #[.bool b] W fun e w'=>e = .returned (.agg #[.int .i64 R.kind,.int .i64 R.n])∧Below W.heap.size W w':=by rw [hR.out];exact rtruth_any b W
theorem rt_none (op : ByteArray) (a b : Vl) (hkn : kn op 12 = false) (w : World) : Calls Tryz.prog 81 #[.string op,vlV a,vlV b] w fun e w'=>e = .returned (.tuple #[vlV zer,.bool false])∧Below w.heap.size w w':=by
 have hb0 : Below w.heap.size w ((wld3 w a b).alloc (row12)):=(bW2 w a b).alloc (by have:=(bW2 w a b).size;exact this) _
 obtain ⟨ha,hb,hr⟩:=pW2 w a b
 replace ha : VlAt ((wld3 w a b).alloc (row12)) w.heap.size a:=ha.alloc _
 replace hb : VlAt ((wld3 w a b).alloc (row12)) (w.heap.size + 1) b:=hb.alloc _
 replace hr : VlAt ((wld3 w a b).alloc (row12)) (w.heap.size + 1 + 1) zer:=hr.alloc _
 have hrow : Txs ((wld3 w a b).alloc (row12)) (.slice (some ⟨w.heap.size + 1 + 1 + 1,0,none⟩) 12 12) two12:=by
  have:=sls_flat2 (E:=encS) (wld3 w a b) two12 _ 9 rfl
  simp only [World.size_alloc] at this
  exact this
 have hB:=Below.refl ((wld3 w a b).alloc (row12)).heap.size ((wld3 w a b).alloc (row12))
 obtain ⟨a0,a1⟩:=ha.cells
 obtain ⟨b0,b1⟩:=hb.cells
 obtain ⟨r0,r1⟩:=hr.cells
 obtain ⟨rf0,rf1⟩:=hr.frozen
 replace hrow : Hid _:=hrow
 replace hb0 : Hid _:=hb0
 obtain ⟨K,hks,hk0,hkK⟩ : ∃ K : Nat→Bool,Hid (∀ k,k < 12→K (k + 1) = (K k || ((two12.getD k ⟨#[]⟩).toList == op.toList)))∧Hid (K 0 = false)∧Hid (K 12 = kn op 12):=⟨kn op,fun k h=>kn_succ op k h,rfl,rfl⟩
 unfold vlV
 go_enter Tryz.func81,Tryz.ntmps81
 go_wp2
 generalize (wld3 w a b).alloc (row12) = W4 at *
 go_loopw [8,10] (fun z i wr=>∃ k : Nat,k ≤ 12∧i = .int .i64 k∧z = .bool (K k)∧wr = W4) (fun _ i _=>12 - (intOf i).toNat)
 case atStart=>exact ⟨0,Nat.zero_le _,rfl,by rw [hk0.out],rfl⟩
 case round =>
  obtain ⟨k,hk,rfl,rfl,rfl⟩:=hrel
  by_cases hlt : k < 12
  · have hki : (k : Int) < 12:=by omega
    obtain ⟨g,o,e,x0⟩:=tx_at hrow.out k hlt
    cases e
    simp only [Nat.zero_add] at x0
    have hk1:=hks.out k hlt
    generalize two12.getD k ⟨#[]⟩ = S at *
    cases e1 : K k with
    | true =>
     rw [e1] at hk1
     replace hk1 : Hid _:=hk1
     go_wp2
     refine ⟨⟨k + 1,by omega,by go_num,by rw [hk1.out];rfl,trivial⟩,?_⟩
     simp [intOf];omega
    | false =>
     rw [e1] at hk1
     cases e2 : (S.toList == op.toList) with
     | true =>
      rw [e2] at hk1
      replace hk1 : Hid _:=hk1
      go_wp2
      refine ⟨⟨k + 1,by omega,by go_num,by rw [hk1.out];rfl,trivial⟩,?_⟩
      simp [intOf];omega
     | false =>
      rw [e2] at hk1
      replace hk1 : Hid _:=hk1
      go_wp2
      refine ⟨⟨k + 1,by omega,by go_num,by rw [hk1.out];rfl,trivial⟩,?_⟩
      simp [intOf];omega
  · obtain rfl : k = 12:=by omega
    have hki : ¬ ((12 : Nat) : Int) < 12:=by omega
    rw [hkK.out,hkn]
    go_wp2
    exact end_two (v:=zer) rfl rfl (by omega) hb0.out hB hr
theorem rt_null1 (op : ByteArray) (a b : Vl) (hkn : kn op 12 = true) (n1 : (a.kind == 2) = true) (w : World) : Calls Tryz.prog 81 #[.string op,vlV a,vlV b] w fun e w'=>e = .returned (.tuple #[vlV nul,.bool true])∧Below w.heap.size w w':=by
 have hb0 : Below w.heap.size w ((wld3 w a b).alloc (row12)):=(bW2 w a b).alloc (by have:=(bW2 w a b).size;exact this) _
 obtain ⟨ha,hb,hr⟩:=pW2 w a b
 replace ha : VlAt ((wld3 w a b).alloc (row12)) w.heap.size a:=ha.alloc _
 replace hb : VlAt ((wld3 w a b).alloc (row12)) (w.heap.size + 1) b:=hb.alloc _
 replace hr : VlAt ((wld3 w a b).alloc (row12)) (w.heap.size + 1 + 1) zer:=hr.alloc _
 have hrow : Txs ((wld3 w a b).alloc (row12)) (.slice (some ⟨w.heap.size + 1 + 1 + 1,0,none⟩) 12 12) two12:=by
  have:=sls_flat2 (E:=encS) (wld3 w a b) two12 _ 9 rfl
  simp only [World.size_alloc] at this
  exact this
 have hB:=Below.refl ((wld3 w a b).alloc (row12)).heap.size ((wld3 w a b).alloc (row12))
 obtain ⟨a0,a1⟩:=ha.cells
 obtain ⟨b0,b1⟩:=hb.cells
 obtain ⟨r0,r1⟩:=hr.cells
 obtain ⟨rf0,rf1⟩:=hr.frozen
 replace hrow : Hid _:=hrow
 replace hb0 : Hid _:=hb0
 obtain ⟨K,hks,hk0,hkK⟩ : ∃ K : Nat→Bool,Hid (∀ k,k < 12→K (k + 1) = (K k || ((two12.getD k ⟨#[]⟩).toList == op.toList)))∧Hid (K 0 = false)∧Hid (K 12 = kn op 12):=⟨kn op,fun k h=>kn_succ op k h,rfl,rfl⟩
 unfold vlV
 go_enter Tryz.func81,Tryz.ntmps81
 go_wp2
 generalize (wld3 w a b).alloc (row12) = W4 at *
 go_loopw [8,10] (fun z i wr=>∃ k : Nat,k ≤ 12∧i = .int .i64 k∧z = .bool (K k)∧wr = W4) (fun _ i _=>12 - (intOf i).toNat)
 case atStart=>exact ⟨0,Nat.zero_le _,rfl,by rw [hk0.out],rfl⟩
 case round =>
  obtain ⟨k,hk,rfl,rfl,rfl⟩:=hrel
  by_cases hlt : k < 12
  · have hki : (k : Int) < 12:=by omega
    obtain ⟨g,o,e,x0⟩:=tx_at hrow.out k hlt
    cases e
    simp only [Nat.zero_add] at x0
    have hk1:=hks.out k hlt
    generalize two12.getD k ⟨#[]⟩ = S at *
    cases e1 : K k with
    | true =>
     rw [e1] at hk1
     replace hk1 : Hid _:=hk1
     go_wp2
     refine ⟨⟨k + 1,by omega,by go_num,by rw [hk1.out];rfl,trivial⟩,?_⟩
     simp [intOf];omega
    | false =>
     rw [e1] at hk1
     cases e2 : (S.toList == op.toList) with
     | true =>
      rw [e2] at hk1
      replace hk1 : Hid _:=hk1
      go_wp2
      refine ⟨⟨k + 1,by omega,by go_num,by rw [hk1.out];rfl,trivial⟩,?_⟩
      simp [intOf];omega
     | false =>
      rw [e2] at hk1
      replace hk1 : Hid _:=hk1
      go_wp2
      refine ⟨⟨k + 1,by omega,by go_num,by rw [hk1.out];rfl,trivial⟩,?_⟩
      simp [intOf];omega
  · obtain rfl : k = 12:=by omega
    have hki : ¬ ((12 : Nat) : Int) < 12:=by omega
    rw [hkK.out,hkn]
    have hN : ∀ W : World,Calls Tryz.prog 128 #[] W fun e w'=>e = .returned (.agg #[.int .i64 2,.int .i64 0])∧Below W.heap.size W w':=fun W=>rnull_b W
    go_wp2_with (first
     | (go_at_call 128;(with_reducible refine (hN _).mono ?_);rintro e w5 ⟨rfl,hq⟩;replace hB:=hB.trans (hq.mono hB.size);obtain ⟨a0,a1,b0,b1,r0,r1,rf0,rf1⟩:=cl8 ha hb hr hB))
    exact end_two (v:=nul) rfl rfl (by omega) hb0.out hB hr
theorem rt_null2 (op : ByteArray) (a b : Vl) (hkn : kn op 12 = true) (n1 : (a.kind == 2) = false) (n2 : (b.kind == 2) = true) (w : World) : Calls Tryz.prog 81 #[.string op,vlV a,vlV b] w fun e w'=>e = .returned (.tuple #[vlV nul,.bool true])∧Below w.heap.size w w':=by
 have hb0 : Below w.heap.size w ((wld3 w a b).alloc (row12)):=(bW2 w a b).alloc (by have:=(bW2 w a b).size;exact this) _
 obtain ⟨ha,hb,hr⟩:=pW2 w a b
 replace ha : VlAt ((wld3 w a b).alloc (row12)) w.heap.size a:=ha.alloc _
 replace hb : VlAt ((wld3 w a b).alloc (row12)) (w.heap.size + 1) b:=hb.alloc _
 replace hr : VlAt ((wld3 w a b).alloc (row12)) (w.heap.size + 1 + 1) zer:=hr.alloc _
 have hrow : Txs ((wld3 w a b).alloc (row12)) (.slice (some ⟨w.heap.size + 1 + 1 + 1,0,none⟩) 12 12) two12:=by
  have:=sls_flat2 (E:=encS) (wld3 w a b) two12 _ 9 rfl
  simp only [World.size_alloc] at this
  exact this
 have hB:=Below.refl ((wld3 w a b).alloc (row12)).heap.size ((wld3 w a b).alloc (row12))
 obtain ⟨a0,a1⟩:=ha.cells
 obtain ⟨b0,b1⟩:=hb.cells
 obtain ⟨r0,r1⟩:=hr.cells
 obtain ⟨rf0,rf1⟩:=hr.frozen
 replace hrow : Hid _:=hrow
 replace hb0 : Hid _:=hb0
 obtain ⟨K,hks,hk0,hkK⟩ : ∃ K : Nat→Bool,Hid (∀ k,k < 12→K (k + 1) = (K k || ((two12.getD k ⟨#[]⟩).toList == op.toList)))∧Hid (K 0 = false)∧Hid (K 12 = kn op 12):=⟨kn op,fun k h=>kn_succ op k h,rfl,rfl⟩
 unfold vlV
 go_enter Tryz.func81,Tryz.ntmps81
 go_wp2
 generalize (wld3 w a b).alloc (row12) = W4 at *
 go_loopw [8,10] (fun z i wr=>∃ k : Nat,k ≤ 12∧i = .int .i64 k∧z = .bool (K k)∧wr = W4) (fun _ i _=>12 - (intOf i).toNat)
 case atStart=>exact ⟨0,Nat.zero_le _,rfl,by rw [hk0.out],rfl⟩
 case round =>
  obtain ⟨k,hk,rfl,rfl,rfl⟩:=hrel
  by_cases hlt : k < 12
  · have hki : (k : Int) < 12:=by omega
    obtain ⟨g,o,e,x0⟩:=tx_at hrow.out k hlt
    cases e
    simp only [Nat.zero_add] at x0
    have hk1:=hks.out k hlt
    generalize two12.getD k ⟨#[]⟩ = S at *
    cases e1 : K k with
    | true =>
     rw [e1] at hk1
     replace hk1 : Hid _:=hk1
     go_wp2
     refine ⟨⟨k + 1,by omega,by go_num,by rw [hk1.out];rfl,trivial⟩,?_⟩
     simp [intOf];omega
    | false =>
     rw [e1] at hk1
     cases e2 : (S.toList == op.toList) with
     | true =>
      rw [e2] at hk1
      replace hk1 : Hid _:=hk1
      go_wp2
      refine ⟨⟨k + 1,by omega,by go_num,by rw [hk1.out];rfl,trivial⟩,?_⟩
      simp [intOf];omega
     | false =>
      rw [e2] at hk1
      replace hk1 : Hid _:=hk1
      go_wp2
      refine ⟨⟨k + 1,by omega,by go_num,by rw [hk1.out];rfl,trivial⟩,?_⟩
      simp [intOf];omega
  · obtain rfl : k = 12:=by omega
    have hki : ¬ ((12 : Nat) : Int) < 12:=by omega
    rw [hkK.out,hkn]
    have hN : ∀ W : World,Calls Tryz.prog 128 #[] W fun e w'=>e = .returned (.agg #[.int .i64 2,.int .i64 0])∧Below W.heap.size W w':=fun W=>rnull_b W
    go_wp2_with (first
     | (go_at_call 128;(with_reducible refine (hN _).mono ?_);rintro e w5 ⟨rfl,hq⟩;replace hB:=hB.trans (hq.mono hB.size);obtain ⟨a0,a1,b0,b1,r0,r1,rf0,rf1⟩:=cl8 ha hb hr hB))
    exact end_two (v:=nul) rfl rfl (by omega) hb0.out hB hr
end Go.Proofs.YtdhlfpgibfaimaaGreatDoor
