import Derived.Test.YtdhlfpgibfaimaaGreatDoorWk
set_option maxRecDepth 100000
set_option maxHeartbeats 4000000
set_option linter.unusedVariables false
namespace Go.Proofs.YtdhlfpgibfaimaaGreatDoor
open Go.RowKit
attribute [local go_sem ↓] Go.wp_at_zero Go.wp_at_succ
theorem rt_lt_t (op:ByteArray) (a b:Vl) (hva:IsV a) (hvb:IsV b) (oa:Ordy a) (ob:Ordy b) (hkn:kn op 12 = true) (n1:(a.kind == 2) = false) (n2:(b.kind == 2) = false) (e_and:(op.toList == [38,38]) = false) (e_or:(op.toList == [124,124]) = false) (e_eq:(op.toList == [61,61]) = false) (e_ne:(op.toList == [33,61]) = false) (e_lt:(op.toList == [60]) = true) (k1:(a.kind == 3) = false) (k2:(b.kind == 3) = false) (tL:lessB a b = true) (w:World):Calls Tryz.prog 81 #[.string op,vlV a,vlV b] w fun e w'=>e = .returned (.tuple #[vlV (tru true),.bool true])∧Below w.heap.size w w':=by
 obtain ⟨R,hR⟩:∃ R,Hid (R = tru true):=⟨_,rfl⟩
 rw [← hR.out]
 obtain ⟨K,hb0,ha,hb,hr,hrow,hB,hks,hk0,hkK⟩:=pre2 w a b op
 obtain ⟨a0,a1,b0,b1,r0,r1,rf0,rf1⟩:=cl8 ha hb hr hB
 unfold vlV
 go_enter Tryz.func81,Tryz.ntmps81
 go_wp2
 generalize (wld3 w a b).alloc (row12) = W4 at *
 go_loopw [8,10] (fun z i wr=>∃ k:Nat,k ≤ 12∧i = .int .i64 k∧z = .bool (K k)∧wr = W4) (fun _ i _=>12 - (intOf i).toNat)
 case atStart=>exact ⟨0,Nat.zero_le _,rfl,by rw [hk0.out],rfl⟩
 case round =>
  obtain ⟨k,hk,rfl,rfl,rfl⟩:=hrel
  by_cases hlt:k < 12
  · have hki:(k:Int) < 12:=by omega
    obtain ⟨g,o,e,x0⟩:=tx_at hrow.out k hlt
    cases e
    simp only [Nat.zero_add] at x0
    have hk1:=hks.out k hlt
    generalize two12.getD k ⟨#[]⟩ = S at *
    cases e1:K k <;> cases e2:(S.toList == op.toList) <;> rw [e1,e2] at hk1 <;> replace hk1:Hid _:=hk1 <;> go_wp2 <;> (refine ⟨⟨k + 1,by omega,by go_num,by rw [hk1.out];rfl,trivial⟩,?_⟩;simp [intOf];omega)
  · obtain rfl:k = 12:=by omega
    have hki:¬ ((12:Nat):Int) < 12:=by omega
    rw [hkK.out,hkn]
    have hU:=fun W=>truU hR W
    have hL:∀ W:World,Calls Tryz.prog 129 #[.agg #[.int .i64 a.kind,.int .i64 a.n],.agg #[.int .i64 b.kind,.int .i64 b.n]] W fun e w'=>e = .returned (.bool true)∧Below W.heap.size W w':=fun W=>by rw [← tL];exact rless_any a b hva hvb oa ob W
    clear tL hva hvb oa ob
    go_wp2_with (first
    |(go_at_call 129;(with_reducible refine (hL _).mono ?_);rintro e w5 ⟨rfl,hq⟩;replace hB:=hB.trans (hq.mono hB.size);obtain ⟨a0,a1,b0,b1,r0,r1,rf0,rf1⟩:=cl8 ha hb hr hB)
    |(go_at_call 123;(with_reducible refine (hU _).mono ?_);rintro e w7 ⟨rfl,hq⟩;replace hB:=hB.trans (hq.mono hB.size);obtain ⟨a0,a1,b0,b1,r0,r1,rf0,rf1⟩:=cl8 ha hb hr hB))
    exact end_two (v:=R) rfl rfl (by omega) hb0.out hB hr
theorem rt_lt_f (op:ByteArray) (a b:Vl) (hva:IsV a) (hvb:IsV b) (oa:Ordy a) (ob:Ordy b) (hkn:kn op 12 = true) (n1:(a.kind == 2) = false) (n2:(b.kind == 2) = false) (e_and:(op.toList == [38,38]) = false) (e_or:(op.toList == [124,124]) = false) (e_eq:(op.toList == [61,61]) = false) (e_ne:(op.toList == [33,61]) = false) (e_lt:(op.toList == [60]) = true) (k1:(a.kind == 3) = false) (k2:(b.kind == 3) = false) (tL:lessB a b = false) (w:World):Calls Tryz.prog 81 #[.string op,vlV a,vlV b] w fun e w'=>e = .returned (.tuple #[vlV (tru false),.bool true])∧Below w.heap.size w w':=by
 obtain ⟨R,hR⟩:∃ R,Hid (R = tru false):=⟨_,rfl⟩
 rw [← hR.out]
 obtain ⟨K,hb0,ha,hb,hr,hrow,hB,hks,hk0,hkK⟩:=pre2 w a b op
 obtain ⟨a0,a1,b0,b1,r0,r1,rf0,rf1⟩:=cl8 ha hb hr hB
 unfold vlV
 go_enter Tryz.func81,Tryz.ntmps81
 go_wp2
 generalize (wld3 w a b).alloc (row12) = W4 at *
 go_loopw [8,10] (fun z i wr=>∃ k:Nat,k ≤ 12∧i = .int .i64 k∧z = .bool (K k)∧wr = W4) (fun _ i _=>12 - (intOf i).toNat)
 case atStart=>exact ⟨0,Nat.zero_le _,rfl,by rw [hk0.out],rfl⟩
 case round =>
  obtain ⟨k,hk,rfl,rfl,rfl⟩:=hrel
  by_cases hlt:k < 12
  · have hki:(k:Int) < 12:=by omega
    obtain ⟨g,o,e,x0⟩:=tx_at hrow.out k hlt
    cases e
    simp only [Nat.zero_add] at x0
    have hk1:=hks.out k hlt
    generalize two12.getD k ⟨#[]⟩ = S at *
    cases e1:K k <;> cases e2:(S.toList == op.toList) <;> rw [e1,e2] at hk1 <;> replace hk1:Hid _:=hk1 <;> go_wp2 <;> (refine ⟨⟨k + 1,by omega,by go_num,by rw [hk1.out];rfl,trivial⟩,?_⟩;simp [intOf];omega)
  · obtain rfl:k = 12:=by omega
    have hki:¬ ((12:Nat):Int) < 12:=by omega
    rw [hkK.out,hkn]
    have hU:=fun W=>truU hR W
    have hL:∀ W:World,Calls Tryz.prog 129 #[.agg #[.int .i64 a.kind,.int .i64 a.n],.agg #[.int .i64 b.kind,.int .i64 b.n]] W fun e w'=>e = .returned (.bool false)∧Below W.heap.size W w':=fun W=>by rw [← tL];exact rless_any a b hva hvb oa ob W
    clear tL hva hvb oa ob
    go_wp2_with (first
    |(go_at_call 129;(with_reducible refine (hL _).mono ?_);rintro e w5 ⟨rfl,hq⟩;replace hB:=hB.trans (hq.mono hB.size);obtain ⟨a0,a1,b0,b1,r0,r1,rf0,rf1⟩:=cl8 ha hb hr hB)
    |(go_at_call 123;(with_reducible refine (hU _).mono ?_);rintro e w7 ⟨rfl,hq⟩;replace hB:=hB.trans (hq.mono hB.size);obtain ⟨a0,a1,b0,b1,r0,r1,rf0,rf1⟩:=cl8 ha hb hr hB))
    exact end_two (v:=R) rfl rfl (by omega) hb0.out hB hr
theorem rt_le_t (op:ByteArray) (a b:Vl) (hva:IsV a) (hvb:IsV b) (oa:Ordy a) (ob:Ordy b) (hkn:kn op 12 = true) (n1:(a.kind == 2) = false) (n2:(b.kind == 2) = false) (e_and:(op.toList == [38,38]) = false) (e_or:(op.toList == [124,124]) = false) (e_eq:(op.toList == [61,61]) = false) (e_ne:(op.toList == [33,61]) = false) (e_lt:(op.toList == [60]) = false) (e_le:(op.toList == [60,61]) = true) (k1:(a.kind == 3) = false) (k2:(b.kind == 3) = false) (tL:lessB b a = true) (w:World):Calls Tryz.prog 81 #[.string op,vlV a,vlV b] w fun e w'=>e = .returned (.tuple #[vlV (tru false),.bool true])∧Below w.heap.size w w':=by
 obtain ⟨R,hR⟩:∃ R,Hid (R = tru false):=⟨_,rfl⟩
 rw [← hR.out]
 obtain ⟨K,hb0,ha,hb,hr,hrow,hB,hks,hk0,hkK⟩:=pre2 w a b op
 obtain ⟨a0,a1,b0,b1,r0,r1,rf0,rf1⟩:=cl8 ha hb hr hB
 unfold vlV
 go_enter Tryz.func81,Tryz.ntmps81
 go_wp2
 generalize (wld3 w a b).alloc (row12) = W4 at *
 go_loopw [8,10] (fun z i wr=>∃ k:Nat,k ≤ 12∧i = .int .i64 k∧z = .bool (K k)∧wr = W4) (fun _ i _=>12 - (intOf i).toNat)
 case atStart=>exact ⟨0,Nat.zero_le _,rfl,by rw [hk0.out],rfl⟩
 case round =>
  obtain ⟨k,hk,rfl,rfl,rfl⟩:=hrel
  by_cases hlt:k < 12
  · have hki:(k:Int) < 12:=by omega
    obtain ⟨g,o,e,x0⟩:=tx_at hrow.out k hlt
    cases e
    simp only [Nat.zero_add] at x0
    have hk1:=hks.out k hlt
    generalize two12.getD k ⟨#[]⟩ = S at *
    cases e1:K k <;> cases e2:(S.toList == op.toList) <;> rw [e1,e2] at hk1 <;> replace hk1:Hid _:=hk1 <;> go_wp2 <;> (refine ⟨⟨k + 1,by omega,by go_num,by rw [hk1.out];rfl,trivial⟩,?_⟩;simp [intOf];omega)
  · obtain rfl:k = 12:=by omega
    have hki:¬ ((12:Nat):Int) < 12:=by omega
    rw [hkK.out,hkn]
    have hU:=fun W=>truU hR W
    have hL:∀ W:World,Calls Tryz.prog 129 #[.agg #[.int .i64 b.kind,.int .i64 b.n],.agg #[.int .i64 a.kind,.int .i64 a.n]] W fun e w'=>e = .returned (.bool true)∧Below W.heap.size W w':=fun W=>by rw [← tL];exact rless_any b a hvb hva ob oa W
    clear tL hva hvb oa ob
    go_wp2_with (first
    |(go_at_call 129;(with_reducible refine (hL _).mono ?_);rintro e w5 ⟨rfl,hq⟩;replace hB:=hB.trans (hq.mono hB.size);obtain ⟨a0,a1,b0,b1,r0,r1,rf0,rf1⟩:=cl8 ha hb hr hB)
    |(go_at_call 123;(with_reducible refine (hU _).mono ?_);rintro e w7 ⟨rfl,hq⟩;replace hB:=hB.trans (hq.mono hB.size);obtain ⟨a0,a1,b0,b1,r0,r1,rf0,rf1⟩:=cl8 ha hb hr hB))
    exact end_two (v:=R) rfl rfl (by omega) hb0.out hB hr
theorem rt_le_f (op:ByteArray) (a b:Vl) (hva:IsV a) (hvb:IsV b) (oa:Ordy a) (ob:Ordy b) (hkn:kn op 12 = true) (n1:(a.kind == 2) = false) (n2:(b.kind == 2) = false) (e_and:(op.toList == [38,38]) = false) (e_or:(op.toList == [124,124]) = false) (e_eq:(op.toList == [61,61]) = false) (e_ne:(op.toList == [33,61]) = false) (e_lt:(op.toList == [60]) = false) (e_le:(op.toList == [60,61]) = true) (k1:(a.kind == 3) = false) (k2:(b.kind == 3) = false) (tL:lessB b a = false) (w:World):Calls Tryz.prog 81 #[.string op,vlV a,vlV b] w fun e w'=>e = .returned (.tuple #[vlV (tru true),.bool true])∧Below w.heap.size w w':=by
 obtain ⟨R,hR⟩:∃ R,Hid (R = tru true):=⟨_,rfl⟩
 rw [← hR.out]
 obtain ⟨K,hb0,ha,hb,hr,hrow,hB,hks,hk0,hkK⟩:=pre2 w a b op
 obtain ⟨a0,a1,b0,b1,r0,r1,rf0,rf1⟩:=cl8 ha hb hr hB
 unfold vlV
 go_enter Tryz.func81,Tryz.ntmps81
 go_wp2
 generalize (wld3 w a b).alloc (row12) = W4 at *
 go_loopw [8,10] (fun z i wr=>∃ k:Nat,k ≤ 12∧i = .int .i64 k∧z = .bool (K k)∧wr = W4) (fun _ i _=>12 - (intOf i).toNat)
 case atStart=>exact ⟨0,Nat.zero_le _,rfl,by rw [hk0.out],rfl⟩
 case round =>
  obtain ⟨k,hk,rfl,rfl,rfl⟩:=hrel
  by_cases hlt:k < 12
  · have hki:(k:Int) < 12:=by omega
    obtain ⟨g,o,e,x0⟩:=tx_at hrow.out k hlt
    cases e
    simp only [Nat.zero_add] at x0
    have hk1:=hks.out k hlt
    generalize two12.getD k ⟨#[]⟩ = S at *
    cases e1:K k <;> cases e2:(S.toList == op.toList) <;> rw [e1,e2] at hk1 <;> replace hk1:Hid _:=hk1 <;> go_wp2 <;> (refine ⟨⟨k + 1,by omega,by go_num,by rw [hk1.out];rfl,trivial⟩,?_⟩;simp [intOf];omega)
  · obtain rfl:k = 12:=by omega
    have hki:¬ ((12:Nat):Int) < 12:=by omega
    rw [hkK.out,hkn]
    have hU:=fun W=>truU hR W
    have hL:∀ W:World,Calls Tryz.prog 129 #[.agg #[.int .i64 b.kind,.int .i64 b.n],.agg #[.int .i64 a.kind,.int .i64 a.n]] W fun e w'=>e = .returned (.bool false)∧Below W.heap.size W w':=fun W=>by rw [← tL];exact rless_any b a hvb hva ob oa W
    clear tL hva hvb oa ob
    go_wp2_with (first
    |(go_at_call 129;(with_reducible refine (hL _).mono ?_);rintro e w5 ⟨rfl,hq⟩;replace hB:=hB.trans (hq.mono hB.size);obtain ⟨a0,a1,b0,b1,r0,r1,rf0,rf1⟩:=cl8 ha hb hr hB)
    |(go_at_call 123;(with_reducible refine (hU _).mono ?_);rintro e w7 ⟨rfl,hq⟩;replace hB:=hB.trans (hq.mono hB.size);obtain ⟨a0,a1,b0,b1,r0,r1,rf0,rf1⟩:=cl8 ha hb hr hB))
    exact end_two (v:=R) rfl rfl (by omega) hb0.out hB hr
theorem rt_gt_t (op:ByteArray) (a b:Vl) (hva:IsV a) (hvb:IsV b) (oa:Ordy a) (ob:Ordy b) (hkn:kn op 12 = true) (n1:(a.kind == 2) = false) (n2:(b.kind == 2) = false) (e_and:(op.toList == [38,38]) = false) (e_or:(op.toList == [124,124]) = false) (e_eq:(op.toList == [61,61]) = false) (e_ne:(op.toList == [33,61]) = false) (e_lt:(op.toList == [60]) = false) (e_le:(op.toList == [60,61]) = false) (e_gt:(op.toList == [62]) = true) (k1:(a.kind == 3) = false) (k2:(b.kind == 3) = false) (tL:lessB b a = true) (w:World):Calls Tryz.prog 81 #[.string op,vlV a,vlV b] w fun e w'=>e = .returned (.tuple #[vlV (tru true),.bool true])∧Below w.heap.size w w':=by
 obtain ⟨R,hR⟩:∃ R,Hid (R = tru true):=⟨_,rfl⟩
 rw [← hR.out]
 obtain ⟨K,hb0,ha,hb,hr,hrow,hB,hks,hk0,hkK⟩:=pre2 w a b op
 obtain ⟨a0,a1,b0,b1,r0,r1,rf0,rf1⟩:=cl8 ha hb hr hB
 unfold vlV
 go_enter Tryz.func81,Tryz.ntmps81
 go_wp2
 generalize (wld3 w a b).alloc (row12) = W4 at *
 go_loopw [8,10] (fun z i wr=>∃ k:Nat,k ≤ 12∧i = .int .i64 k∧z = .bool (K k)∧wr = W4) (fun _ i _=>12 - (intOf i).toNat)
 case atStart=>exact ⟨0,Nat.zero_le _,rfl,by rw [hk0.out],rfl⟩
 case round =>
  obtain ⟨k,hk,rfl,rfl,rfl⟩:=hrel
  by_cases hlt:k < 12
  · have hki:(k:Int) < 12:=by omega
    obtain ⟨g,o,e,x0⟩:=tx_at hrow.out k hlt
    cases e
    simp only [Nat.zero_add] at x0
    have hk1:=hks.out k hlt
    generalize two12.getD k ⟨#[]⟩ = S at *
    cases e1:K k <;> cases e2:(S.toList == op.toList) <;> rw [e1,e2] at hk1 <;> replace hk1:Hid _:=hk1 <;> go_wp2 <;> (refine ⟨⟨k + 1,by omega,by go_num,by rw [hk1.out];rfl,trivial⟩,?_⟩;simp [intOf];omega)
  · obtain rfl:k = 12:=by omega
    have hki:¬ ((12:Nat):Int) < 12:=by omega
    rw [hkK.out,hkn]
    have hU:=fun W=>truU hR W
    have hL:∀ W:World,Calls Tryz.prog 129 #[.agg #[.int .i64 b.kind,.int .i64 b.n],.agg #[.int .i64 a.kind,.int .i64 a.n]] W fun e w'=>e = .returned (.bool true)∧Below W.heap.size W w':=fun W=>by rw [← tL];exact rless_any b a hvb hva ob oa W
    clear tL hva hvb oa ob
    go_wp2_with (first
    |(go_at_call 129;(with_reducible refine (hL _).mono ?_);rintro e w5 ⟨rfl,hq⟩;replace hB:=hB.trans (hq.mono hB.size);obtain ⟨a0,a1,b0,b1,r0,r1,rf0,rf1⟩:=cl8 ha hb hr hB)
    |(go_at_call 123;(with_reducible refine (hU _).mono ?_);rintro e w7 ⟨rfl,hq⟩;replace hB:=hB.trans (hq.mono hB.size);obtain ⟨a0,a1,b0,b1,r0,r1,rf0,rf1⟩:=cl8 ha hb hr hB))
    exact end_two (v:=R) rfl rfl (by omega) hb0.out hB hr
theorem rt_gt_f (op:ByteArray) (a b:Vl) (hva:IsV a) (hvb:IsV b) (oa:Ordy a) (ob:Ordy b) (hkn:kn op 12 = true) (n1:(a.kind == 2) = false) (n2:(b.kind == 2) = false) (e_and:(op.toList == [38,38]) = false) (e_or:(op.toList == [124,124]) = false) (e_eq:(op.toList == [61,61]) = false) (e_ne:(op.toList == [33,61]) = false) (e_lt:(op.toList == [60]) = false) (e_le:(op.toList == [60,61]) = false) (e_gt:(op.toList == [62]) = true) (k1:(a.kind == 3) = false) (k2:(b.kind == 3) = false) (tL:lessB b a = false) (w:World):Calls Tryz.prog 81 #[.string op,vlV a,vlV b] w fun e w'=>e = .returned (.tuple #[vlV (tru false),.bool true])∧Below w.heap.size w w':=by
 obtain ⟨R,hR⟩:∃ R,Hid (R = tru false):=⟨_,rfl⟩
 rw [← hR.out]
 obtain ⟨K,hb0,ha,hb,hr,hrow,hB,hks,hk0,hkK⟩:=pre2 w a b op
 obtain ⟨a0,a1,b0,b1,r0,r1,rf0,rf1⟩:=cl8 ha hb hr hB
 unfold vlV
 go_enter Tryz.func81,Tryz.ntmps81
 go_wp2
 generalize (wld3 w a b).alloc (row12) = W4 at *
 go_loopw [8,10] (fun z i wr=>∃ k:Nat,k ≤ 12∧i = .int .i64 k∧z = .bool (K k)∧wr = W4) (fun _ i _=>12 - (intOf i).toNat)
 case atStart=>exact ⟨0,Nat.zero_le _,rfl,by rw [hk0.out],rfl⟩
 case round =>
  obtain ⟨k,hk,rfl,rfl,rfl⟩:=hrel
  by_cases hlt:k < 12
  · have hki:(k:Int) < 12:=by omega
    obtain ⟨g,o,e,x0⟩:=tx_at hrow.out k hlt
    cases e
    simp only [Nat.zero_add] at x0
    have hk1:=hks.out k hlt
    generalize two12.getD k ⟨#[]⟩ = S at *
    cases e1:K k <;> cases e2:(S.toList == op.toList) <;> rw [e1,e2] at hk1 <;> replace hk1:Hid _:=hk1 <;> go_wp2 <;> (refine ⟨⟨k + 1,by omega,by go_num,by rw [hk1.out];rfl,trivial⟩,?_⟩;simp [intOf];omega)
  · obtain rfl:k = 12:=by omega
    have hki:¬ ((12:Nat):Int) < 12:=by omega
    rw [hkK.out,hkn]
    have hU:=fun W=>truU hR W
    have hL:∀ W:World,Calls Tryz.prog 129 #[.agg #[.int .i64 b.kind,.int .i64 b.n],.agg #[.int .i64 a.kind,.int .i64 a.n]] W fun e w'=>e = .returned (.bool false)∧Below W.heap.size W w':=fun W=>by rw [← tL];exact rless_any b a hvb hva ob oa W
    clear tL hva hvb oa ob
    go_wp2_with (first
    |(go_at_call 129;(with_reducible refine (hL _).mono ?_);rintro e w5 ⟨rfl,hq⟩;replace hB:=hB.trans (hq.mono hB.size);obtain ⟨a0,a1,b0,b1,r0,r1,rf0,rf1⟩:=cl8 ha hb hr hB)
    |(go_at_call 123;(with_reducible refine (hU _).mono ?_);rintro e w7 ⟨rfl,hq⟩;replace hB:=hB.trans (hq.mono hB.size);obtain ⟨a0,a1,b0,b1,r0,r1,rf0,rf1⟩:=cl8 ha hb hr hB))
    exact end_two (v:=R) rfl rfl (by omega) hb0.out hB hr
theorem rt_ge_t (op:ByteArray) (a b:Vl) (hva:IsV a) (hvb:IsV b) (oa:Ordy a) (ob:Ordy b) (hkn:kn op 12 = true) (n1:(a.kind == 2) = false) (n2:(b.kind == 2) = false) (e_and:(op.toList == [38,38]) = false) (e_or:(op.toList == [124,124]) = false) (e_eq:(op.toList == [61,61]) = false) (e_ne:(op.toList == [33,61]) = false) (e_lt:(op.toList == [60]) = false) (e_le:(op.toList == [60,61]) = false) (e_gt:(op.toList == [62]) = false) (e_ge:(op.toList == [62,61]) = true) (k1:(a.kind == 3) = false) (k2:(b.kind == 3) = false) (tL:lessB a b = true) (w:World):Calls Tryz.prog 81 #[.string op,vlV a,vlV b] w fun e w'=>e = .returned (.tuple #[vlV (tru false),.bool true])∧Below w.heap.size w w':=by
 obtain ⟨R,hR⟩:∃ R,Hid (R = tru false):=⟨_,rfl⟩
 rw [← hR.out]
 obtain ⟨K,hb0,ha,hb,hr,hrow,hB,hks,hk0,hkK⟩:=pre2 w a b op
 obtain ⟨a0,a1,b0,b1,r0,r1,rf0,rf1⟩:=cl8 ha hb hr hB
 unfold vlV
 go_enter Tryz.func81,Tryz.ntmps81
 go_wp2
 generalize (wld3 w a b).alloc (row12) = W4 at *
 go_loopw [8,10] (fun z i wr=>∃ k:Nat,k ≤ 12∧i = .int .i64 k∧z = .bool (K k)∧wr = W4) (fun _ i _=>12 - (intOf i).toNat)
 case atStart=>exact ⟨0,Nat.zero_le _,rfl,by rw [hk0.out],rfl⟩
 case round =>
  obtain ⟨k,hk,rfl,rfl,rfl⟩:=hrel
  by_cases hlt:k < 12
  · have hki:(k:Int) < 12:=by omega
    obtain ⟨g,o,e,x0⟩:=tx_at hrow.out k hlt
    cases e
    simp only [Nat.zero_add] at x0
    have hk1:=hks.out k hlt
    generalize two12.getD k ⟨#[]⟩ = S at *
    cases e1:K k <;> cases e2:(S.toList == op.toList) <;> rw [e1,e2] at hk1 <;> replace hk1:Hid _:=hk1 <;> go_wp2 <;> (refine ⟨⟨k + 1,by omega,by go_num,by rw [hk1.out];rfl,trivial⟩,?_⟩;simp [intOf];omega)
  · obtain rfl:k = 12:=by omega
    have hki:¬ ((12:Nat):Int) < 12:=by omega
    rw [hkK.out,hkn]
    have hU:=fun W=>truU hR W
    have hL:∀ W:World,Calls Tryz.prog 129 #[.agg #[.int .i64 a.kind,.int .i64 a.n],.agg #[.int .i64 b.kind,.int .i64 b.n]] W fun e w'=>e = .returned (.bool true)∧Below W.heap.size W w':=fun W=>by rw [← tL];exact rless_any a b hva hvb oa ob W
    clear tL hva hvb oa ob
    go_wp2_with (first
    |(go_at_call 129;(with_reducible refine (hL _).mono ?_);rintro e w5 ⟨rfl,hq⟩;replace hB:=hB.trans (hq.mono hB.size);obtain ⟨a0,a1,b0,b1,r0,r1,rf0,rf1⟩:=cl8 ha hb hr hB)
    |(go_at_call 123;(with_reducible refine (hU _).mono ?_);rintro e w7 ⟨rfl,hq⟩;replace hB:=hB.trans (hq.mono hB.size);obtain ⟨a0,a1,b0,b1,r0,r1,rf0,rf1⟩:=cl8 ha hb hr hB))
    exact end_two (v:=R) rfl rfl (by omega) hb0.out hB hr
theorem rt_ge_f (op:ByteArray) (a b:Vl) (hva:IsV a) (hvb:IsV b) (oa:Ordy a) (ob:Ordy b) (hkn:kn op 12 = true) (n1:(a.kind == 2) = false) (n2:(b.kind == 2) = false) (e_and:(op.toList == [38,38]) = false) (e_or:(op.toList == [124,124]) = false) (e_eq:(op.toList == [61,61]) = false) (e_ne:(op.toList == [33,61]) = false) (e_lt:(op.toList == [60]) = false) (e_le:(op.toList == [60,61]) = false) (e_gt:(op.toList == [62]) = false) (e_ge:(op.toList == [62,61]) = true) (k1:(a.kind == 3) = false) (k2:(b.kind == 3) = false) (tL:lessB a b = false) (w:World):Calls Tryz.prog 81 #[.string op,vlV a,vlV b] w fun e w'=>e = .returned (.tuple #[vlV (tru true),.bool true])∧Below w.heap.size w w':=by
 obtain ⟨R,hR⟩:∃ R,Hid (R = tru true):=⟨_,rfl⟩
 rw [← hR.out]
 obtain ⟨K,hb0,ha,hb,hr,hrow,hB,hks,hk0,hkK⟩:=pre2 w a b op
 obtain ⟨a0,a1,b0,b1,r0,r1,rf0,rf1⟩:=cl8 ha hb hr hB
 unfold vlV
 go_enter Tryz.func81,Tryz.ntmps81
 go_wp2
 generalize (wld3 w a b).alloc (row12) = W4 at *
 go_loopw [8,10] (fun z i wr=>∃ k:Nat,k ≤ 12∧i = .int .i64 k∧z = .bool (K k)∧wr = W4) (fun _ i _=>12 - (intOf i).toNat)
 case atStart=>exact ⟨0,Nat.zero_le _,rfl,by rw [hk0.out],rfl⟩
 case round =>
  obtain ⟨k,hk,rfl,rfl,rfl⟩:=hrel
  by_cases hlt:k < 12
  · have hki:(k:Int) < 12:=by omega
    obtain ⟨g,o,e,x0⟩:=tx_at hrow.out k hlt
    cases e
    simp only [Nat.zero_add] at x0
    have hk1:=hks.out k hlt
    generalize two12.getD k ⟨#[]⟩ = S at *
    cases e1:K k <;> cases e2:(S.toList == op.toList) <;> rw [e1,e2] at hk1 <;> replace hk1:Hid _:=hk1 <;> go_wp2 <;> (refine ⟨⟨k + 1,by omega,by go_num,by rw [hk1.out];rfl,trivial⟩,?_⟩;simp [intOf];omega)
  · obtain rfl:k = 12:=by omega
    have hki:¬ ((12:Nat):Int) < 12:=by omega
    rw [hkK.out,hkn]
    have hU:=fun W=>truU hR W
    have hL:∀ W:World,Calls Tryz.prog 129 #[.agg #[.int .i64 a.kind,.int .i64 a.n],.agg #[.int .i64 b.kind,.int .i64 b.n]] W fun e w'=>e = .returned (.bool false)∧Below W.heap.size W w':=fun W=>by rw [← tL];exact rless_any a b hva hvb oa ob W
    clear tL hva hvb oa ob
    go_wp2_with (first
    |(go_at_call 129;(with_reducible refine (hL _).mono ?_);rintro e w5 ⟨rfl,hq⟩;replace hB:=hB.trans (hq.mono hB.size);obtain ⟨a0,a1,b0,b1,r0,r1,rf0,rf1⟩:=cl8 ha hb hr hB)
    |(go_at_call 123;(with_reducible refine (hU _).mono ?_);rintro e w7 ⟨rfl,hq⟩;replace hB:=hB.trans (hq.mono hB.size);obtain ⟨a0,a1,b0,b1,r0,r1,rf0,rf1⟩:=cl8 ha hb hr hB))
    exact end_two (v:=R) rfl rfl (by omega) hb0.out hB hr
theorem rt_nan1 (op:ByteArray) (a b:Vl) (hkn:kn op 12 = true) (n1:(a.kind == 2) = false) (n2:(b.kind == 2) = false) (e_and:(op.toList == [38,38]) = false) (e_or:(op.toList == [124,124]) = false) (e_eq:(op.toList == [61,61]) = false) (e_ne:(op.toList == [33,61]) = false) (e_lt:(op.toList == [60]) = false) (e_le:(op.toList == [60,61]) = false) (e_gt:(op.toList == [62]) = false) (e_ge:(op.toList == [62,61]) = false) (k1:(a.kind == 3) = true) (w:World):Calls Tryz.prog 81 #[.string op,vlV a,vlV b] w fun e w'=>e = .returned (.tuple #[vlV nan,.bool true])∧Below w.heap.size w w':=by
 obtain ⟨K,hb0,ha,hb,hr,hrow,hB,hks,hk0,hkK⟩:=pre2 w a b op
 obtain ⟨a0,a1,b0,b1,r0,r1,rf0,rf1⟩:=cl8 ha hb hr hB
 unfold vlV
 go_enter Tryz.func81,Tryz.ntmps81
 go_wp2
 generalize (wld3 w a b).alloc (row12) = W4 at *
 go_loopw [8,10] (fun z i wr=>∃ k:Nat,k ≤ 12∧i = .int .i64 k∧z = .bool (K k)∧wr = W4) (fun _ i _=>12 - (intOf i).toNat)
 case atStart=>exact ⟨0,Nat.zero_le _,rfl,by rw [hk0.out],rfl⟩
 case round =>
  obtain ⟨k,hk,rfl,rfl,rfl⟩:=hrel
  by_cases hlt:k < 12
  · have hki:(k:Int) < 12:=by omega
    obtain ⟨g,o,e,x0⟩:=tx_at hrow.out k hlt
    cases e
    simp only [Nat.zero_add] at x0
    have hk1:=hks.out k hlt
    generalize two12.getD k ⟨#[]⟩ = S at *
    cases e1:K k <;> cases e2:(S.toList == op.toList) <;> rw [e1,e2] at hk1 <;> replace hk1:Hid _:=hk1 <;> go_wp2 <;> (refine ⟨⟨k + 1,by omega,by go_num,by rw [hk1.out];rfl,trivial⟩,?_⟩;simp [intOf];omega)
  · obtain rfl:k = 12:=by omega
    have hki:¬ ((12:Nat):Int) < 12:=by omega
    rw [hkK.out,hkn]
    have hN:∀ W:World,Calls Tryz.prog 130 #[] W fun e w'=>e = .returned (.agg #[.int .i64 3,.int .i64 0])∧Below W.heap.size W w':=fun W=>rnan_b W
    go_wp2_with (first
    |(go_at_call 130;(with_reducible refine (hN _).mono ?_);rintro e w5 ⟨rfl,hq⟩;replace hB:=hB.trans (hq.mono hB.size);obtain ⟨a0,a1,b0,b1,r0,r1,rf0,rf1⟩:=cl8 ha hb hr hB))
    exact end_two (v:=nan) rfl rfl (by omega) hb0.out hB hr
theorem rt_nan2 (op:ByteArray) (a b:Vl) (hkn:kn op 12 = true) (n1:(a.kind == 2) = false) (n2:(b.kind == 2) = false) (e_and:(op.toList == [38,38]) = false) (e_or:(op.toList == [124,124]) = false) (e_eq:(op.toList == [61,61]) = false) (e_ne:(op.toList == [33,61]) = false) (e_lt:(op.toList == [60]) = false) (e_le:(op.toList == [60,61]) = false) (e_gt:(op.toList == [62]) = false) (e_ge:(op.toList == [62,61]) = false) (k1:(a.kind == 3) = false) (k2:(b.kind == 3) = true) (w:World):Calls Tryz.prog 81 #[.string op,vlV a,vlV b] w fun e w'=>e = .returned (.tuple #[vlV nan,.bool true])∧Below w.heap.size w w':=by
 obtain ⟨K,hb0,ha,hb,hr,hrow,hB,hks,hk0,hkK⟩:=pre2 w a b op
 obtain ⟨a0,a1,b0,b1,r0,r1,rf0,rf1⟩:=cl8 ha hb hr hB
 unfold vlV
 go_enter Tryz.func81,Tryz.ntmps81
 go_wp2
 generalize (wld3 w a b).alloc (row12) = W4 at *
 go_loopw [8,10] (fun z i wr=>∃ k:Nat,k ≤ 12∧i = .int .i64 k∧z = .bool (K k)∧wr = W4) (fun _ i _=>12 - (intOf i).toNat)
 case atStart=>exact ⟨0,Nat.zero_le _,rfl,by rw [hk0.out],rfl⟩
 case round =>
  obtain ⟨k,hk,rfl,rfl,rfl⟩:=hrel
  by_cases hlt:k < 12
  · have hki:(k:Int) < 12:=by omega
    obtain ⟨g,o,e,x0⟩:=tx_at hrow.out k hlt
    cases e
    simp only [Nat.zero_add] at x0
    have hk1:=hks.out k hlt
    generalize two12.getD k ⟨#[]⟩ = S at *
    cases e1:K k <;> cases e2:(S.toList == op.toList) <;> rw [e1,e2] at hk1 <;> replace hk1:Hid _:=hk1 <;> go_wp2 <;> (refine ⟨⟨k + 1,by omega,by go_num,by rw [hk1.out];rfl,trivial⟩,?_⟩;simp [intOf];omega)
  · obtain rfl:k = 12:=by omega
    have hki:¬ ((12:Nat):Int) < 12:=by omega
    rw [hkK.out,hkn]
    have hN:∀ W:World,Calls Tryz.prog 130 #[] W fun e w'=>e = .returned (.agg #[.int .i64 3,.int .i64 0])∧Below W.heap.size W w':=fun W=>rnan_b W
    go_wp2_with (first
    |(go_at_call 130;(with_reducible refine (hN _).mono ?_);rintro e w5 ⟨rfl,hq⟩;replace hB:=hB.trans (hq.mono hB.size);obtain ⟨a0,a1,b0,b1,r0,r1,rf0,rf1⟩:=cl8 ha hb hr hB))
    exact end_two (v:=nan) rfl rfl (by omega) hb0.out hB hr
theorem rt_plus (op:ByteArray) (a b:Vl) (hva:IsV a) (hvb:IsV b) (oa:Ordy a) (ob:Ordy b) (hkn:kn op 12 = true) (n1:(a.kind == 2) = false) (n2:(b.kind == 2) = false) (e_and:(op.toList == [38,38]) = false) (e_or:(op.toList == [124,124]) = false) (e_eq:(op.toList == [61,61]) = false) (e_ne:(op.toList == [33,61]) = false) (e_lt:(op.toList == [60]) = false) (e_le:(op.toList == [60,61]) = false) (e_gt:(op.toList == [62]) = false) (e_ge:(op.toList == [62,61]) = false) (k1:(a.kind == 3) = false) (k2:(b.kind == 3) = false) (e_plus:(op.toList == [43]) = true) (w:World):Calls Tryz.prog 81 #[.string op,vlV a,vlV b] w fun e w'=>e = .returned (.tuple #[vlV (add a b),.bool true])∧Below w.heap.size w w':=by
 obtain ⟨R,hR⟩:∃ R,Hid (R = add a b):=⟨_,rfl⟩
 rw [← hR.out]
 obtain ⟨K,hb0,ha,hb,hr,hrow,hB,hks,hk0,hkK⟩:=pre2 w a b op
 obtain ⟨a0,a1,b0,b1,r0,r1,rf0,rf1⟩:=cl8 ha hb hr hB
 unfold vlV
 go_enter Tryz.func81,Tryz.ntmps81
 go_wp2
 generalize (wld3 w a b).alloc (row12) = W4 at *
 go_loopw [8,10] (fun z i wr=>∃ k:Nat,k ≤ 12∧i = .int .i64 k∧z = .bool (K k)∧wr = W4) (fun _ i _=>12 - (intOf i).toNat)
 case atStart=>exact ⟨0,Nat.zero_le _,rfl,by rw [hk0.out],rfl⟩
 case round =>
  obtain ⟨k,hk,rfl,rfl,rfl⟩:=hrel
  by_cases hlt:k < 12
  · have hki:(k:Int) < 12:=by omega
    obtain ⟨g,o,e,x0⟩:=tx_at hrow.out k hlt
    cases e
    simp only [Nat.zero_add] at x0
    have hk1:=hks.out k hlt
    generalize two12.getD k ⟨#[]⟩ = S at *
    cases e1:K k <;> cases e2:(S.toList == op.toList) <;> rw [e1,e2] at hk1 <;> replace hk1:Hid _:=hk1 <;> go_wp2 <;> (refine ⟨⟨k + 1,by omega,by go_num,by rw [hk1.out];rfl,trivial⟩,?_⟩;simp [intOf];omega)
  · obtain rfl:k = 12:=by omega
    have hki:¬ ((12:Nat):Int) < 12:=by omega
    rw [hkK.out,hkn]
    have hC:∀ W:World,Calls Tryz.prog 131 #[.agg #[.int .i64 a.kind,.int .i64 a.n],.agg #[.int .i64 b.kind,.int .i64 b.n]] W fun e w'=>e = .returned (.agg #[.int .i64 R.kind,.int .i64 R.n])∧Below W.heap.size W w':=fun W=>by rw [hR.out];exact radd_any a b hva hvb oa ob W
    clear hva hvb oa ob
    go_wp2_with (first
    |(go_at_call 131;(with_reducible refine (hC _).mono ?_);rintro e w5 ⟨rfl,hq⟩;replace hB:=hB.trans (hq.mono hB.size);obtain ⟨a0,a1,b0,b1,r0,r1,rf0,rf1⟩:=cl8 ha hb hr hB))
    exact end_two (v:=R) rfl rfl (by omega) hb0.out hB hr
theorem rtimes_any (a b:Vl) (hva:IsV a) (hvb:IsV b) (w:World):Calls Tryz.prog 132 #[vlV a,vlV b] w fun e w'=>e = .returned (vlV (mul a b))∧Below w.heap.size w w':=by
 cases hk:((a.kind == 1) && (b.kind == 1)) with
 | false=>exact rtimes_odd a b hva hvb hk w
 | true =>
  simp only [Bool.and_eq_true,beq_iff_eq] at hk
  obtain ⟨ka,na⟩:=a
  obtain ⟨kb,nb⟩:=b
  simp only at hk
  obtain ⟨rfl,rfl⟩:=hk
  rcases hva with ⟨_,h1,h2⟩ | ⟨h1,_⟩
  · rcases hvb with ⟨_,h3,h4⟩ | ⟨h3,_⟩
    · exact rtimes_num na nb h1 h2 h3 h4 w
    · simp at h3
  · simp at h1
theorem rt_star (op:ByteArray) (a b:Vl) (hva:IsV a) (hvb:IsV b) (oa:Ordy a) (ob:Ordy b) (hkn:kn op 12 = true) (n1:(a.kind == 2) = false) (n2:(b.kind == 2) = false) (e_and:(op.toList == [38,38]) = false) (e_or:(op.toList == [124,124]) = false) (e_eq:(op.toList == [61,61]) = false) (e_ne:(op.toList == [33,61]) = false) (e_lt:(op.toList == [60]) = false) (e_le:(op.toList == [60,61]) = false) (e_gt:(op.toList == [62]) = false) (e_ge:(op.toList == [62,61]) = false) (k1:(a.kind == 3) = false) (k2:(b.kind == 3) = false) (e_plus:(op.toList == [43]) = false) (e_minus:(op.toList == [45]) = false) (e_star:(op.toList == [42]) = true) (w:World):Calls Tryz.prog 81 #[.string op,vlV a,vlV b] w fun e w'=>e = .returned (.tuple #[vlV (mul a b),.bool true])∧Below w.heap.size w w':=by
 obtain ⟨R,hR⟩:∃ R,Hid (R = mul a b):=⟨_,rfl⟩
 rw [← hR.out]
 obtain ⟨K,hb0,ha,hb,hr,hrow,hB,hks,hk0,hkK⟩:=pre2 w a b op
 obtain ⟨a0,a1,b0,b1,r0,r1,rf0,rf1⟩:=cl8 ha hb hr hB
 unfold vlV
 go_enter Tryz.func81,Tryz.ntmps81
 go_wp2
 generalize (wld3 w a b).alloc (row12) = W4 at *
 go_loopw [8,10] (fun z i wr=>∃ k:Nat,k ≤ 12∧i = .int .i64 k∧z = .bool (K k)∧wr = W4) (fun _ i _=>12 - (intOf i).toNat)
 case atStart=>exact ⟨0,Nat.zero_le _,rfl,by rw [hk0.out],rfl⟩
 case round =>
  obtain ⟨k,hk,rfl,rfl,rfl⟩:=hrel
  by_cases hlt:k < 12
  · have hki:(k:Int) < 12:=by omega
    obtain ⟨g,o,e,x0⟩:=tx_at hrow.out k hlt
    cases e
    simp only [Nat.zero_add] at x0
    have hk1:=hks.out k hlt
    generalize two12.getD k ⟨#[]⟩ = S at *
    cases e1:K k <;> cases e2:(S.toList == op.toList) <;> rw [e1,e2] at hk1 <;> replace hk1:Hid _:=hk1 <;> go_wp2 <;> (refine ⟨⟨k + 1,by omega,by go_num,by rw [hk1.out];rfl,trivial⟩,?_⟩;simp [intOf];omega)
  · obtain rfl:k = 12:=by omega
    have hki:¬ ((12:Nat):Int) < 12:=by omega
    rw [hkK.out,hkn]
    have hC:∀ W:World,Calls Tryz.prog 132 #[.agg #[.int .i64 a.kind,.int .i64 a.n],.agg #[.int .i64 b.kind,.int .i64 b.n]] W fun e w'=>e = .returned (.agg #[.int .i64 R.kind,.int .i64 R.n])∧Below W.heap.size W w':=fun W=>by rw [hR.out];exact rtimes_any a b hva hvb W
    clear hva hvb oa ob
    go_wp2_with (first
    |(go_at_call 132;(with_reducible refine (hC _).mono ?_);rintro e w5 ⟨rfl,hq⟩;replace hB:=hB.trans (hq.mono hB.size);obtain ⟨a0,a1,b0,b1,r0,r1,rf0,rf1⟩:=cl8 ha hb hr hB))
    exact end_two (v:=R) rfl rfl (by omega) hb0.out hB hr
theorem rt_slash (op:ByteArray) (a b:Vl) (hva:IsV a) (hvb:IsV b) (oa:Ordy a) (ob:Ordy b) (hkn:kn op 12 = true) (n1:(a.kind == 2) = false) (n2:(b.kind == 2) = false) (e_and:(op.toList == [38,38]) = false) (e_or:(op.toList == [124,124]) = false) (e_eq:(op.toList == [61,61]) = false) (e_ne:(op.toList == [33,61]) = false) (e_lt:(op.toList == [60]) = false) (e_le:(op.toList == [60,61]) = false) (e_gt:(op.toList == [62]) = false) (e_ge:(op.toList == [62,61]) = false) (k1:(a.kind == 3) = false) (k2:(b.kind == 3) = false) (e_plus:(op.toList == [43]) = false) (e_minus:(op.toList == [45]) = false) (e_star:(op.toList == [42]) = false) (w:World):Calls Tryz.prog 81 #[.string op,vlV a,vlV b] w fun e w'=>e = .returned (.tuple #[vlV (dvd a b),.bool true])∧Below w.heap.size w w':=by
 obtain ⟨R,hR⟩:∃ R,Hid (R = dvd a b):=⟨_,rfl⟩
 rw [← hR.out]
 obtain ⟨K,hb0,ha,hb,hr,hrow,hB,hks,hk0,hkK⟩:=pre2 w a b op
 obtain ⟨a0,a1,b0,b1,r0,r1,rf0,rf1⟩:=cl8 ha hb hr hB
 unfold vlV
 go_enter Tryz.func81,Tryz.ntmps81
 go_wp2
 generalize (wld3 w a b).alloc (row12) = W4 at *
 go_loopw [8,10] (fun z i wr=>∃ k:Nat,k ≤ 12∧i = .int .i64 k∧z = .bool (K k)∧wr = W4) (fun _ i _=>12 - (intOf i).toNat)
 case atStart=>exact ⟨0,Nat.zero_le _,rfl,by rw [hk0.out],rfl⟩
 case round =>
  obtain ⟨k,hk,rfl,rfl,rfl⟩:=hrel
  by_cases hlt:k < 12
  · have hki:(k:Int) < 12:=by omega
    obtain ⟨g,o,e,x0⟩:=tx_at hrow.out k hlt
    cases e
    simp only [Nat.zero_add] at x0
    have hk1:=hks.out k hlt
    generalize two12.getD k ⟨#[]⟩ = S at *
    cases e1:K k <;> cases e2:(S.toList == op.toList) <;> rw [e1,e2] at hk1 <;> replace hk1:Hid _:=hk1 <;> go_wp2 <;> (refine ⟨⟨k + 1,by omega,by go_num,by rw [hk1.out];rfl,trivial⟩,?_⟩;simp [intOf];omega)
  · obtain rfl:k = 12:=by omega
    have hki:¬ ((12:Nat):Int) < 12:=by omega
    rw [hkK.out,hkn]
    have hC:∀ W:World,Calls Tryz.prog 133 #[.agg #[.int .i64 a.kind,.int .i64 a.n],.agg #[.int .i64 b.kind,.int .i64 b.n]] W fun e w'=>e = .returned (.agg #[.int .i64 R.kind,.int .i64 R.n])∧Below W.heap.size W w':=fun W=>by rw [hR.out];exact rover_any a b hva hvb oa ob W
    clear hva hvb oa ob
    go_wp2_with (first
    |(go_at_call 133;(with_reducible refine (hC _).mono ?_);rintro e w5 ⟨rfl,hq⟩;replace hB:=hB.trans (hq.mono hB.size);obtain ⟨a0,a1,b0,b1,r0,r1,rf0,rf1⟩:=cl8 ha hb hr hB))
    exact end_two (v:=R) rfl rfl (by omega) hb0.out hB hr
theorem neg_ordy {b:Vl} (h:Ordy b):Ordy (neg b):=by
 unfold neg
 split
 · exact ⟨by decide,by decide⟩
 · split
   · exact ⟨by decide,by decide⟩
   · exact h
theorem rt_minus (op:ByteArray) (a b:Vl) (hva:IsV a) (hvb:IsV b) (oa:Ordy a) (ob:Ordy b) (hkn:kn op 12 = true) (n1:(a.kind == 2) = false) (n2:(b.kind == 2) = false) (e_and:(op.toList == [38,38]) = false) (e_or:(op.toList == [124,124]) = false) (e_eq:(op.toList == [61,61]) = false) (e_ne:(op.toList == [33,61]) = false) (e_lt:(op.toList == [60]) = false) (e_le:(op.toList == [60,61]) = false) (e_gt:(op.toList == [62]) = false) (e_ge:(op.toList == [62,61]) = false) (k1:(a.kind == 3) = false) (k2:(b.kind == 3) = false) (e_plus:(op.toList == [43]) = false) (e_minus:(op.toList == [45]) = true) (w:World):Calls Tryz.prog 81 #[.string op,vlV a,vlV b] w fun e w'=>e = .returned (.tuple #[vlV (add a (neg b)),.bool true])∧Below w.heap.size w w':=by
 obtain ⟨R,hR⟩:∃ R,Hid (R = add a (neg b)):=⟨_,rfl⟩
 rw [← hR.out]
 obtain ⟨K,hb0,ha,hb,hr,hrow,hB,hks,hk0,hkK⟩:=pre2 w a b op
 obtain ⟨a0,a1,b0,b1,r0,r1,rf0,rf1⟩:=cl8 ha hb hr hB
 unfold vlV
 go_enter Tryz.func81,Tryz.ntmps81
 go_wp2
 generalize (wld3 w a b).alloc (row12) = W4 at *
 go_loopw [8,10] (fun z i wr=>∃ k:Nat,k ≤ 12∧i = .int .i64 k∧z = .bool (K k)∧wr = W4) (fun _ i _=>12 - (intOf i).toNat)
 case atStart=>exact ⟨0,Nat.zero_le _,rfl,by rw [hk0.out],rfl⟩
 case round =>
  obtain ⟨k,hk,rfl,rfl,rfl⟩:=hrel
  by_cases hlt:k < 12
  · have hki:(k:Int) < 12:=by omega
    obtain ⟨g,o,e,x0⟩:=tx_at hrow.out k hlt
    cases e
    simp only [Nat.zero_add] at x0
    have hk1:=hks.out k hlt
    generalize two12.getD k ⟨#[]⟩ = S at *
    cases e1:K k <;> cases e2:(S.toList == op.toList) <;> rw [e1,e2] at hk1 <;> replace hk1:Hid _:=hk1 <;> go_wp2 <;> (refine ⟨⟨k + 1,by omega,by go_num,by rw [hk1.out];rfl,trivial⟩,?_⟩;simp [intOf];omega)
  · obtain rfl:k = 12:=by omega
    have hki:¬ ((12:Nat):Int) < 12:=by omega
    rw [hkK.out,hkn]
    have hT:∀ W:World,Calls Tryz.prog 127 #[.agg #[.int .i64 b.kind,.int .i64 b.n]] W fun e w'=>e = .returned (.agg #[.int .i64 (neg b).kind,.int .i64 (neg b).n])∧Below W.heap.size W w':=fun W=>rturned_any b hvb W
    have hC:∀ W:World,Calls Tryz.prog 131 #[.agg #[.int .i64 a.kind,.int .i64 a.n],.agg #[.int .i64 (neg b).kind,.int .i64 (neg b).n]] W fun e w'=>e = .returned (.agg #[.int .i64 R.kind,.int .i64 R.n])∧Below W.heap.size W w':=fun W=>by rw [hR.out];exact radd_any a (neg b) hva (neg_isV hvb) oa (neg_ordy ob) W
    generalize neg b = nb at *
    clear hva hvb oa ob
    go_wp2
    replace hB:=hB.drew
    go_region_with (first
    |(go_at_call 127;(with_reducible refine (hT _).mono ?_);rintro e w5 ⟨rfl,hq⟩;replace hB:=hB.trans (hq.mono hB.size);obtain ⟨a0,a1,b0,b1,r0,r1,rf0,rf1⟩:=cl8 ha hb hr hB)
    |(go_at_call 131;(with_reducible refine (hC _).mono ?_);rintro e w6 ⟨rfl,hq⟩;replace hB:=hB.trans (hq.mono hB.size);obtain ⟨a0,a1,b0,b1,r0,r1,rf0,rf1⟩:=cl8 ha hb hr hB))
    all_goals
     go_wp2
     exact end_two (v:=R) rfl rfl (by omega) hb0.out hB hr
end Go.Proofs.YtdhlfpgibfaimaaGreatDoor
