import Derived.Test.YtdhlfpgibfaimaaGreatDoorWk
set_option maxRecDepth 100000
set_option maxHeartbeats 4000000
set_option linter.unusedVariables false
namespace Go.Proofs.YtdhlfpgibfaimaaGreatDoor
open Go.RowKit
attribute [local go_sem ↓] Go.wp_at_zero Go.wp_at_succ
theorem rt_and_tt (op:ByteArray) (a b:Vl) (hkn:kn op 12 = true) (n1:(a.kind == 2) = false) (n2:(b.kind == 2) = false) (e_and:(op.toList == [38,38]) = true) (tA:truB a = true) (tB:truB b = true) (w:World):Calls Tryz.prog 81 #[.string op,vlV a,vlV b] w fun e w'=>e = .returned (.tuple #[vlV (tru true),.bool true])∧Below w.heap.size w w':=by
 obtain ⟨R,hR⟩:∃ R,Hid (R = tru true):=⟨_,rfl⟩
 rw [← hR.out]
 obtain ⟨K,hb0,ha,hb,hr,hrow,hB,hks,hk0,hkK⟩:=pre2 w a b op
 obtain ⟨a0,a1,b0,b1,r0,r1,rf0,rf1⟩:=cl8 ha hb hr hB
 unfold vlV
 go_enter Tryz.func81,Tryz.ntmps81
 go_wp2
 generalize (wld3 w a b).alloc (row12) = W4 at *
 go_loopw [8,10] (fun z i wr=>∃ k:Nat,k ≤ 12∧i = .int .i64 k∧z = .bool (K k)∧wr = W4) (fun _ i _=>12 - (intOf i).toNat)
 case atStart=>exact ⟨0,Nat.zero_le _,rfl,by rw [hk0.out],rfl⟩
 case round =>
  obtain ⟨k,hk,rfl,rfl,rfl⟩:=hrel
  by_cases hlt:k < 12
  · have hki:(k:Int) < 12:=by omega
    obtain ⟨g,o,e,x0⟩:=tx_at hrow.out k hlt
    cases e
    simp only [Nat.zero_add] at x0
    have hk1:=hks.out k hlt
    generalize two12.getD k ⟨#[]⟩ = S at *
    cases e1:K k <;> cases e2:(S.toList == op.toList) <;> rw [e1,e2] at hk1 <;> replace hk1:Hid _:=hk1 <;> go_wp2 <;> (refine ⟨⟨k + 1,by omega,by go_num,by rw [hk1.out];rfl,trivial⟩,?_⟩;simp [intOf];omega)
  · obtain rfl:k = 12:=by omega
    have hki:¬ ((12:Nat):Int) < 12:=by omega
    rw [hkK.out,hkn]
    have hU:=fun W=>truU hR W
    have hTa:∀ W:World,Calls Tryz.prog 125 #[.agg #[.int .i64 a.kind,.int .i64 a.n]] W fun e w'=>e = .returned (.bool true)∧Below W.heap.size W w':=fun W=>by rw [← tA];exact rtrue_any a W
    have hTb:∀ W:World,Calls Tryz.prog 125 #[.agg #[.int .i64 b.kind,.int .i64 b.n]] W fun e w'=>e = .returned (.bool true)∧Below W.heap.size W w':=fun W=>by rw [← tB];exact rtrue_any b W
    clear tA tB
    cases k1:(a.kind == 3) <;> cases k2:(b.kind == 3)
    all_goals
     go_wp2_with (first
     |(go_at_call 125;(with_reducible refine (hTa _).mono ?_);rintro e w5 ⟨rfl,hq⟩;replace hB:=hB.trans (hq.mono hB.size);obtain ⟨a0,a1,b0,b1,r0,r1,rf0,rf1⟩:=cl8 ha hb hr hB)
     |(go_at_call 125;(with_reducible refine (hTb _).mono ?_);rintro e w6 ⟨rfl,hq⟩;replace hB:=hB.trans (hq.mono hB.size);obtain ⟨a0,a1,b0,b1,r0,r1,rf0,rf1⟩:=cl8 ha hb hr hB)
     |(go_at_call 123;(with_reducible refine (hU _).mono ?_);rintro e w7 ⟨rfl,hq⟩;replace hB:=hB.trans (hq.mono hB.size);obtain ⟨a0,a1,b0,b1,r0,r1,rf0,rf1⟩:=cl8 ha hb hr hB))
     exact end_two (v:=R) rfl rfl (by omega) hb0.out hB hr
theorem rt_and_tf (op:ByteArray) (a b:Vl) (hkn:kn op 12 = true) (n1:(a.kind == 2) = false) (n2:(b.kind == 2) = false) (e_and:(op.toList == [38,38]) = true) (tA:truB a = true) (tB:truB b = false) (w:World):Calls Tryz.prog 81 #[.string op,vlV a,vlV b] w fun e w'=>e = .returned (.tuple #[vlV (tru false),.bool true])∧Below w.heap.size w w':=by
 obtain ⟨R,hR⟩:∃ R,Hid (R = tru false):=⟨_,rfl⟩
 rw [← hR.out]
 obtain ⟨K,hb0,ha,hb,hr,hrow,hB,hks,hk0,hkK⟩:=pre2 w a b op
 obtain ⟨a0,a1,b0,b1,r0,r1,rf0,rf1⟩:=cl8 ha hb hr hB
 unfold vlV
 go_enter Tryz.func81,Tryz.ntmps81
 go_wp2
 generalize (wld3 w a b).alloc (row12) = W4 at *
 go_loopw [8,10] (fun z i wr=>∃ k:Nat,k ≤ 12∧i = .int .i64 k∧z = .bool (K k)∧wr = W4) (fun _ i _=>12 - (intOf i).toNat)
 case atStart=>exact ⟨0,Nat.zero_le _,rfl,by rw [hk0.out],rfl⟩
 case round =>
  obtain ⟨k,hk,rfl,rfl,rfl⟩:=hrel
  by_cases hlt:k < 12
  · have hki:(k:Int) < 12:=by omega
    obtain ⟨g,o,e,x0⟩:=tx_at hrow.out k hlt
    cases e
    simp only [Nat.zero_add] at x0
    have hk1:=hks.out k hlt
    generalize two12.getD k ⟨#[]⟩ = S at *
    cases e1:K k <;> cases e2:(S.toList == op.toList) <;> rw [e1,e2] at hk1 <;> replace hk1:Hid _:=hk1 <;> go_wp2 <;> (refine ⟨⟨k + 1,by omega,by go_num,by rw [hk1.out];rfl,trivial⟩,?_⟩;simp [intOf];omega)
  · obtain rfl:k = 12:=by omega
    have hki:¬ ((12:Nat):Int) < 12:=by omega
    rw [hkK.out,hkn]
    have hU:=fun W=>truU hR W
    have hTa:∀ W:World,Calls Tryz.prog 125 #[.agg #[.int .i64 a.kind,.int .i64 a.n]] W fun e w'=>e = .returned (.bool true)∧Below W.heap.size W w':=fun W=>by rw [← tA];exact rtrue_any a W
    have hTb:∀ W:World,Calls Tryz.prog 125 #[.agg #[.int .i64 b.kind,.int .i64 b.n]] W fun e w'=>e = .returned (.bool false)∧Below W.heap.size W w':=fun W=>by rw [← tB];exact rtrue_any b W
    clear tA tB
    cases k1:(a.kind == 3) <;> cases k2:(b.kind == 3)
    all_goals
     go_wp2_with (first
     |(go_at_call 125;(with_reducible refine (hTa _).mono ?_);rintro e w5 ⟨rfl,hq⟩;replace hB:=hB.trans (hq.mono hB.size);obtain ⟨a0,a1,b0,b1,r0,r1,rf0,rf1⟩:=cl8 ha hb hr hB)
     |(go_at_call 125;(with_reducible refine (hTb _).mono ?_);rintro e w6 ⟨rfl,hq⟩;replace hB:=hB.trans (hq.mono hB.size);obtain ⟨a0,a1,b0,b1,r0,r1,rf0,rf1⟩:=cl8 ha hb hr hB)
     |(go_at_call 123;(with_reducible refine (hU _).mono ?_);rintro e w7 ⟨rfl,hq⟩;replace hB:=hB.trans (hq.mono hB.size);obtain ⟨a0,a1,b0,b1,r0,r1,rf0,rf1⟩:=cl8 ha hb hr hB))
     exact end_two (v:=R) rfl rfl (by omega) hb0.out hB hr
theorem rt_and_ft (op:ByteArray) (a b:Vl) (hkn:kn op 12 = true) (n1:(a.kind == 2) = false) (n2:(b.kind == 2) = false) (e_and:(op.toList == [38,38]) = true) (tA:truB a = false) (tB:truB b = true) (w:World):Calls Tryz.prog 81 #[.string op,vlV a,vlV b] w fun e w'=>e = .returned (.tuple #[vlV (tru false),.bool true])∧Below w.heap.size w w':=by
 obtain ⟨R,hR⟩:∃ R,Hid (R = tru false):=⟨_,rfl⟩
 rw [← hR.out]
 obtain ⟨K,hb0,ha,hb,hr,hrow,hB,hks,hk0,hkK⟩:=pre2 w a b op
 obtain ⟨a0,a1,b0,b1,r0,r1,rf0,rf1⟩:=cl8 ha hb hr hB
 unfold vlV
 go_enter Tryz.func81,Tryz.ntmps81
 go_wp2
 generalize (wld3 w a b).alloc (row12) = W4 at *
 go_loopw [8,10] (fun z i wr=>∃ k:Nat,k ≤ 12∧i = .int .i64 k∧z = .bool (K k)∧wr = W4) (fun _ i _=>12 - (intOf i).toNat)
 case atStart=>exact ⟨0,Nat.zero_le _,rfl,by rw [hk0.out],rfl⟩
 case round =>
  obtain ⟨k,hk,rfl,rfl,rfl⟩:=hrel
  by_cases hlt:k < 12
  · have hki:(k:Int) < 12:=by omega
    obtain ⟨g,o,e,x0⟩:=tx_at hrow.out k hlt
    cases e
    simp only [Nat.zero_add] at x0
    have hk1:=hks.out k hlt
    generalize two12.getD k ⟨#[]⟩ = S at *
    cases e1:K k <;> cases e2:(S.toList == op.toList) <;> rw [e1,e2] at hk1 <;> replace hk1:Hid _:=hk1 <;> go_wp2 <;> (refine ⟨⟨k + 1,by omega,by go_num,by rw [hk1.out];rfl,trivial⟩,?_⟩;simp [intOf];omega)
  · obtain rfl:k = 12:=by omega
    have hki:¬ ((12:Nat):Int) < 12:=by omega
    rw [hkK.out,hkn]
    have hU:=fun W=>truU hR W
    have hTa:∀ W:World,Calls Tryz.prog 125 #[.agg #[.int .i64 a.kind,.int .i64 a.n]] W fun e w'=>e = .returned (.bool false)∧Below W.heap.size W w':=fun W=>by rw [← tA];exact rtrue_any a W
    have hTb:∀ W:World,Calls Tryz.prog 125 #[.agg #[.int .i64 b.kind,.int .i64 b.n]] W fun e w'=>e = .returned (.bool true)∧Below W.heap.size W w':=fun W=>by rw [← tB];exact rtrue_any b W
    clear tA tB
    cases k1:(a.kind == 3) <;> cases k2:(b.kind == 3)
    all_goals
     go_wp2_with (first
     |(go_at_call 125;(with_reducible refine (hTa _).mono ?_);rintro e w5 ⟨rfl,hq⟩;replace hB:=hB.trans (hq.mono hB.size);obtain ⟨a0,a1,b0,b1,r0,r1,rf0,rf1⟩:=cl8 ha hb hr hB)
     |(go_at_call 125;(with_reducible refine (hTb _).mono ?_);rintro e w6 ⟨rfl,hq⟩;replace hB:=hB.trans (hq.mono hB.size);obtain ⟨a0,a1,b0,b1,r0,r1,rf0,rf1⟩:=cl8 ha hb hr hB)
     |(go_at_call 123;(with_reducible refine (hU _).mono ?_);rintro e w7 ⟨rfl,hq⟩;replace hB:=hB.trans (hq.mono hB.size);obtain ⟨a0,a1,b0,b1,r0,r1,rf0,rf1⟩:=cl8 ha hb hr hB))
     exact end_two (v:=R) rfl rfl (by omega) hb0.out hB hr
theorem rt_and_ff (op:ByteArray) (a b:Vl) (hkn:kn op 12 = true) (n1:(a.kind == 2) = false) (n2:(b.kind == 2) = false) (e_and:(op.toList == [38,38]) = true) (tA:truB a = false) (tB:truB b = false) (w:World):Calls Tryz.prog 81 #[.string op,vlV a,vlV b] w fun e w'=>e = .returned (.tuple #[vlV (tru false),.bool true])∧Below w.heap.size w w':=by
 obtain ⟨R,hR⟩:∃ R,Hid (R = tru false):=⟨_,rfl⟩
 rw [← hR.out]
 obtain ⟨K,hb0,ha,hb,hr,hrow,hB,hks,hk0,hkK⟩:=pre2 w a b op
 obtain ⟨a0,a1,b0,b1,r0,r1,rf0,rf1⟩:=cl8 ha hb hr hB
 unfold vlV
 go_enter Tryz.func81,Tryz.ntmps81
 go_wp2
 generalize (wld3 w a b).alloc (row12) = W4 at *
 go_loopw [8,10] (fun z i wr=>∃ k:Nat,k ≤ 12∧i = .int .i64 k∧z = .bool (K k)∧wr = W4) (fun _ i _=>12 - (intOf i).toNat)
 case atStart=>exact ⟨0,Nat.zero_le _,rfl,by rw [hk0.out],rfl⟩
 case round =>
  obtain ⟨k,hk,rfl,rfl,rfl⟩:=hrel
  by_cases hlt:k < 12
  · have hki:(k:Int) < 12:=by omega
    obtain ⟨g,o,e,x0⟩:=tx_at hrow.out k hlt
    cases e
    simp only [Nat.zero_add] at x0
    have hk1:=hks.out k hlt
    generalize two12.getD k ⟨#[]⟩ = S at *
    cases e1:K k <;> cases e2:(S.toList == op.toList) <;> rw [e1,e2] at hk1 <;> replace hk1:Hid _:=hk1 <;> go_wp2 <;> (refine ⟨⟨k + 1,by omega,by go_num,by rw [hk1.out];rfl,trivial⟩,?_⟩;simp [intOf];omega)
  · obtain rfl:k = 12:=by omega
    have hki:¬ ((12:Nat):Int) < 12:=by omega
    rw [hkK.out,hkn]
    have hU:=fun W=>truU hR W
    have hTa:∀ W:World,Calls Tryz.prog 125 #[.agg #[.int .i64 a.kind,.int .i64 a.n]] W fun e w'=>e = .returned (.bool false)∧Below W.heap.size W w':=fun W=>by rw [← tA];exact rtrue_any a W
    have hTb:∀ W:World,Calls Tryz.prog 125 #[.agg #[.int .i64 b.kind,.int .i64 b.n]] W fun e w'=>e = .returned (.bool false)∧Below W.heap.size W w':=fun W=>by rw [← tB];exact rtrue_any b W
    clear tA tB
    cases k1:(a.kind == 3) <;> cases k2:(b.kind == 3)
    all_goals
     go_wp2_with (first
     |(go_at_call 125;(with_reducible refine (hTa _).mono ?_);rintro e w5 ⟨rfl,hq⟩;replace hB:=hB.trans (hq.mono hB.size);obtain ⟨a0,a1,b0,b1,r0,r1,rf0,rf1⟩:=cl8 ha hb hr hB)
     |(go_at_call 125;(with_reducible refine (hTb _).mono ?_);rintro e w6 ⟨rfl,hq⟩;replace hB:=hB.trans (hq.mono hB.size);obtain ⟨a0,a1,b0,b1,r0,r1,rf0,rf1⟩:=cl8 ha hb hr hB)
     |(go_at_call 123;(with_reducible refine (hU _).mono ?_);rintro e w7 ⟨rfl,hq⟩;replace hB:=hB.trans (hq.mono hB.size);obtain ⟨a0,a1,b0,b1,r0,r1,rf0,rf1⟩:=cl8 ha hb hr hB))
     exact end_two (v:=R) rfl rfl (by omega) hb0.out hB hr
theorem rt_or_tt (op:ByteArray) (a b:Vl) (hkn:kn op 12 = true) (n1:(a.kind == 2) = false) (n2:(b.kind == 2) = false) (e_and:(op.toList == [38,38]) = false) (e_or:(op.toList == [124,124]) = true) (tA:truB a = true) (tB:truB b = true) (w:World):Calls Tryz.prog 81 #[.string op,vlV a,vlV b] w fun e w'=>e = .returned (.tuple #[vlV (tru true),.bool true])∧Below w.heap.size w w':=by
 obtain ⟨R,hR⟩:∃ R,Hid (R = tru true):=⟨_,rfl⟩
 rw [← hR.out]
 obtain ⟨K,hb0,ha,hb,hr,hrow,hB,hks,hk0,hkK⟩:=pre2 w a b op
 obtain ⟨a0,a1,b0,b1,r0,r1,rf0,rf1⟩:=cl8 ha hb hr hB
 unfold vlV
 go_enter Tryz.func81,Tryz.ntmps81
 go_wp2
 generalize (wld3 w a b).alloc (row12) = W4 at *
 go_loopw [8,10] (fun z i wr=>∃ k:Nat,k ≤ 12∧i = .int .i64 k∧z = .bool (K k)∧wr = W4) (fun _ i _=>12 - (intOf i).toNat)
 case atStart=>exact ⟨0,Nat.zero_le _,rfl,by rw [hk0.out],rfl⟩
 case round =>
  obtain ⟨k,hk,rfl,rfl,rfl⟩:=hrel
  by_cases hlt:k < 12
  · have hki:(k:Int) < 12:=by omega
    obtain ⟨g,o,e,x0⟩:=tx_at hrow.out k hlt
    cases e
    simp only [Nat.zero_add] at x0
    have hk1:=hks.out k hlt
    generalize two12.getD k ⟨#[]⟩ = S at *
    cases e1:K k <;> cases e2:(S.toList == op.toList) <;> rw [e1,e2] at hk1 <;> replace hk1:Hid _:=hk1 <;> go_wp2 <;> (refine ⟨⟨k + 1,by omega,by go_num,by rw [hk1.out];rfl,trivial⟩,?_⟩;simp [intOf];omega)
  · obtain rfl:k = 12:=by omega
    have hki:¬ ((12:Nat):Int) < 12:=by omega
    rw [hkK.out,hkn]
    have hU:=fun W=>truU hR W
    have hTa:∀ W:World,Calls Tryz.prog 125 #[.agg #[.int .i64 a.kind,.int .i64 a.n]] W fun e w'=>e = .returned (.bool true)∧Below W.heap.size W w':=fun W=>by rw [← tA];exact rtrue_any a W
    have hTb:∀ W:World,Calls Tryz.prog 125 #[.agg #[.int .i64 b.kind,.int .i64 b.n]] W fun e w'=>e = .returned (.bool true)∧Below W.heap.size W w':=fun W=>by rw [← tB];exact rtrue_any b W
    clear tA tB
    cases k1:(a.kind == 3) <;> cases k2:(b.kind == 3)
    all_goals
     go_wp2_with (first
     |(go_at_call 125;(with_reducible refine (hTa _).mono ?_);rintro e w5 ⟨rfl,hq⟩;replace hB:=hB.trans (hq.mono hB.size);obtain ⟨a0,a1,b0,b1,r0,r1,rf0,rf1⟩:=cl8 ha hb hr hB)
     |(go_at_call 125;(with_reducible refine (hTb _).mono ?_);rintro e w6 ⟨rfl,hq⟩;replace hB:=hB.trans (hq.mono hB.size);obtain ⟨a0,a1,b0,b1,r0,r1,rf0,rf1⟩:=cl8 ha hb hr hB)
     |(go_at_call 123;(with_reducible refine (hU _).mono ?_);rintro e w7 ⟨rfl,hq⟩;replace hB:=hB.trans (hq.mono hB.size);obtain ⟨a0,a1,b0,b1,r0,r1,rf0,rf1⟩:=cl8 ha hb hr hB))
     exact end_two (v:=R) rfl rfl (by omega) hb0.out hB hr
theorem rt_or_tf (op:ByteArray) (a b:Vl) (hkn:kn op 12 = true) (n1:(a.kind == 2) = false) (n2:(b.kind == 2) = false) (e_and:(op.toList == [38,38]) = false) (e_or:(op.toList == [124,124]) = true) (tA:truB a = true) (tB:truB b = false) (w:World):Calls Tryz.prog 81 #[.string op,vlV a,vlV b] w fun e w'=>e = .returned (.tuple #[vlV (tru true),.bool true])∧Below w.heap.size w w':=by
 obtain ⟨R,hR⟩:∃ R,Hid (R = tru true):=⟨_,rfl⟩
 rw [← hR.out]
 obtain ⟨K,hb0,ha,hb,hr,hrow,hB,hks,hk0,hkK⟩:=pre2 w a b op
 obtain ⟨a0,a1,b0,b1,r0,r1,rf0,rf1⟩:=cl8 ha hb hr hB
 unfold vlV
 go_enter Tryz.func81,Tryz.ntmps81
 go_wp2
 generalize (wld3 w a b).alloc (row12) = W4 at *
 go_loopw [8,10] (fun z i wr=>∃ k:Nat,k ≤ 12∧i = .int .i64 k∧z = .bool (K k)∧wr = W4) (fun _ i _=>12 - (intOf i).toNat)
 case atStart=>exact ⟨0,Nat.zero_le _,rfl,by rw [hk0.out],rfl⟩
 case round =>
  obtain ⟨k,hk,rfl,rfl,rfl⟩:=hrel
  by_cases hlt:k < 12
  · have hki:(k:Int) < 12:=by omega
    obtain ⟨g,o,e,x0⟩:=tx_at hrow.out k hlt
    cases e
    simp only [Nat.zero_add] at x0
    have hk1:=hks.out k hlt
    generalize two12.getD k ⟨#[]⟩ = S at *
    cases e1:K k <;> cases e2:(S.toList == op.toList) <;> rw [e1,e2] at hk1 <;> replace hk1:Hid _:=hk1 <;> go_wp2 <;> (refine ⟨⟨k + 1,by omega,by go_num,by rw [hk1.out];rfl,trivial⟩,?_⟩;simp [intOf];omega)
  · obtain rfl:k = 12:=by omega
    have hki:¬ ((12:Nat):Int) < 12:=by omega
    rw [hkK.out,hkn]
    have hU:=fun W=>truU hR W
    have hTa:∀ W:World,Calls Tryz.prog 125 #[.agg #[.int .i64 a.kind,.int .i64 a.n]] W fun e w'=>e = .returned (.bool true)∧Below W.heap.size W w':=fun W=>by rw [← tA];exact rtrue_any a W
    have hTb:∀ W:World,Calls Tryz.prog 125 #[.agg #[.int .i64 b.kind,.int .i64 b.n]] W fun e w'=>e = .returned (.bool false)∧Below W.heap.size W w':=fun W=>by rw [← tB];exact rtrue_any b W
    clear tA tB
    cases k1:(a.kind == 3) <;> cases k2:(b.kind == 3)
    all_goals
     go_wp2_with (first
     |(go_at_call 125;(with_reducible refine (hTa _).mono ?_);rintro e w5 ⟨rfl,hq⟩;replace hB:=hB.trans (hq.mono hB.size);obtain ⟨a0,a1,b0,b1,r0,r1,rf0,rf1⟩:=cl8 ha hb hr hB)
     |(go_at_call 125;(with_reducible refine (hTb _).mono ?_);rintro e w6 ⟨rfl,hq⟩;replace hB:=hB.trans (hq.mono hB.size);obtain ⟨a0,a1,b0,b1,r0,r1,rf0,rf1⟩:=cl8 ha hb hr hB)
     |(go_at_call 123;(with_reducible refine (hU _).mono ?_);rintro e w7 ⟨rfl,hq⟩;replace hB:=hB.trans (hq.mono hB.size);obtain ⟨a0,a1,b0,b1,r0,r1,rf0,rf1⟩:=cl8 ha hb hr hB))
     exact end_two (v:=R) rfl rfl (by omega) hb0.out hB hr
theorem rt_or_ft (op:ByteArray) (a b:Vl) (hkn:kn op 12 = true) (n1:(a.kind == 2) = false) (n2:(b.kind == 2) = false) (e_and:(op.toList == [38,38]) = false) (e_or:(op.toList == [124,124]) = true) (tA:truB a = false) (tB:truB b = true) (w:World):Calls Tryz.prog 81 #[.string op,vlV a,vlV b] w fun e w'=>e = .returned (.tuple #[vlV (tru true),.bool true])∧Below w.heap.size w w':=by
 obtain ⟨R,hR⟩:∃ R,Hid (R = tru true):=⟨_,rfl⟩
 rw [← hR.out]
 obtain ⟨K,hb0,ha,hb,hr,hrow,hB,hks,hk0,hkK⟩:=pre2 w a b op
 obtain ⟨a0,a1,b0,b1,r0,r1,rf0,rf1⟩:=cl8 ha hb hr hB
 unfold vlV
 go_enter Tryz.func81,Tryz.ntmps81
 go_wp2
 generalize (wld3 w a b).alloc (row12) = W4 at *
 go_loopw [8,10] (fun z i wr=>∃ k:Nat,k ≤ 12∧i = .int .i64 k∧z = .bool (K k)∧wr = W4) (fun _ i _=>12 - (intOf i).toNat)
 case atStart=>exact ⟨0,Nat.zero_le _,rfl,by rw [hk0.out],rfl⟩
 case round =>
  obtain ⟨k,hk,rfl,rfl,rfl⟩:=hrel
  by_cases hlt:k < 12
  · have hki:(k:Int) < 12:=by omega
    obtain ⟨g,o,e,x0⟩:=tx_at hrow.out k hlt
    cases e
    simp only [Nat.zero_add] at x0
    have hk1:=hks.out k hlt
    generalize two12.getD k ⟨#[]⟩ = S at *
    cases e1:K k <;> cases e2:(S.toList == op.toList) <;> rw [e1,e2] at hk1 <;> replace hk1:Hid _:=hk1 <;> go_wp2 <;> (refine ⟨⟨k + 1,by omega,by go_num,by rw [hk1.out];rfl,trivial⟩,?_⟩;simp [intOf];omega)
  · obtain rfl:k = 12:=by omega
    have hki:¬ ((12:Nat):Int) < 12:=by omega
    rw [hkK.out,hkn]
    have hU:=fun W=>truU hR W
    have hTa:∀ W:World,Calls Tryz.prog 125 #[.agg #[.int .i64 a.kind,.int .i64 a.n]] W fun e w'=>e = .returned (.bool false)∧Below W.heap.size W w':=fun W=>by rw [← tA];exact rtrue_any a W
    have hTb:∀ W:World,Calls Tryz.prog 125 #[.agg #[.int .i64 b.kind,.int .i64 b.n]] W fun e w'=>e = .returned (.bool true)∧Below W.heap.size W w':=fun W=>by rw [← tB];exact rtrue_any b W
    clear tA tB
    cases k1:(a.kind == 3) <;> cases k2:(b.kind == 3)
    all_goals
     go_wp2_with (first
     |(go_at_call 125;(with_reducible refine (hTa _).mono ?_);rintro e w5 ⟨rfl,hq⟩;replace hB:=hB.trans (hq.mono hB.size);obtain ⟨a0,a1,b0,b1,r0,r1,rf0,rf1⟩:=cl8 ha hb hr hB)
     |(go_at_call 125;(with_reducible refine (hTb _).mono ?_);rintro e w6 ⟨rfl,hq⟩;replace hB:=hB.trans (hq.mono hB.size);obtain ⟨a0,a1,b0,b1,r0,r1,rf0,rf1⟩:=cl8 ha hb hr hB)
     |(go_at_call 123;(with_reducible refine (hU _).mono ?_);rintro e w7 ⟨rfl,hq⟩;replace hB:=hB.trans (hq.mono hB.size);obtain ⟨a0,a1,b0,b1,r0,r1,rf0,rf1⟩:=cl8 ha hb hr hB))
     exact end_two (v:=R) rfl rfl (by omega) hb0.out hB hr
theorem rt_or_ff (op:ByteArray) (a b:Vl) (hkn:kn op 12 = true) (n1:(a.kind == 2) = false) (n2:(b.kind == 2) = false) (e_and:(op.toList == [38,38]) = false) (e_or:(op.toList == [124,124]) = true) (tA:truB a = false) (tB:truB b = false) (w:World):Calls Tryz.prog 81 #[.string op,vlV a,vlV b] w fun e w'=>e = .returned (.tuple #[vlV (tru false),.bool true])∧Below w.heap.size w w':=by
 obtain ⟨R,hR⟩:∃ R,Hid (R = tru false):=⟨_,rfl⟩
 rw [← hR.out]
 obtain ⟨K,hb0,ha,hb,hr,hrow,hB,hks,hk0,hkK⟩:=pre2 w a b op
 obtain ⟨a0,a1,b0,b1,r0,r1,rf0,rf1⟩:=cl8 ha hb hr hB
 unfold vlV
 go_enter Tryz.func81,Tryz.ntmps81
 go_wp2
 generalize (wld3 w a b).alloc (row12) = W4 at *
 go_loopw [8,10] (fun z i wr=>∃ k:Nat,k ≤ 12∧i = .int .i64 k∧z = .bool (K k)∧wr = W4) (fun _ i _=>12 - (intOf i).toNat)
 case atStart=>exact ⟨0,Nat.zero_le _,rfl,by rw [hk0.out],rfl⟩
 case round =>
  obtain ⟨k,hk,rfl,rfl,rfl⟩:=hrel
  by_cases hlt:k < 12
  · have hki:(k:Int) < 12:=by omega
    obtain ⟨g,o,e,x0⟩:=tx_at hrow.out k hlt
    cases e
    simp only [Nat.zero_add] at x0
    have hk1:=hks.out k hlt
    generalize two12.getD k ⟨#[]⟩ = S at *
    cases e1:K k <;> cases e2:(S.toList == op.toList) <;> rw [e1,e2] at hk1 <;> replace hk1:Hid _:=hk1 <;> go_wp2 <;> (refine ⟨⟨k + 1,by omega,by go_num,by rw [hk1.out];rfl,trivial⟩,?_⟩;simp [intOf];omega)
  · obtain rfl:k = 12:=by omega
    have hki:¬ ((12:Nat):Int) < 12:=by omega
    rw [hkK.out,hkn]
    have hU:=fun W=>truU hR W
    have hTa:∀ W:World,Calls Tryz.prog 125 #[.agg #[.int .i64 a.kind,.int .i64 a.n]] W fun e w'=>e = .returned (.bool false)∧Below W.heap.size W w':=fun W=>by rw [← tA];exact rtrue_any a W
    have hTb:∀ W:World,Calls Tryz.prog 125 #[.agg #[.int .i64 b.kind,.int .i64 b.n]] W fun e w'=>e = .returned (.bool false)∧Below W.heap.size W w':=fun W=>by rw [← tB];exact rtrue_any b W
    clear tA tB
    cases k1:(a.kind == 3) <;> cases k2:(b.kind == 3)
    all_goals
     go_wp2_with (first
     |(go_at_call 125;(with_reducible refine (hTa _).mono ?_);rintro e w5 ⟨rfl,hq⟩;replace hB:=hB.trans (hq.mono hB.size);obtain ⟨a0,a1,b0,b1,r0,r1,rf0,rf1⟩:=cl8 ha hb hr hB)
     |(go_at_call 125;(with_reducible refine (hTb _).mono ?_);rintro e w6 ⟨rfl,hq⟩;replace hB:=hB.trans (hq.mono hB.size);obtain ⟨a0,a1,b0,b1,r0,r1,rf0,rf1⟩:=cl8 ha hb hr hB)
     |(go_at_call 123;(with_reducible refine (hU _).mono ?_);rintro e w7 ⟨rfl,hq⟩;replace hB:=hB.trans (hq.mono hB.size);obtain ⟨a0,a1,b0,b1,r0,r1,rf0,rf1⟩:=cl8 ha hb hr hB))
     exact end_two (v:=R) rfl rfl (by omega) hb0.out hB hr
theorem rt_eq_n1 (op:ByteArray) (a b:Vl) (hkn:kn op 12 = true) (n1:(a.kind == 2) = false) (n2:(b.kind == 2) = false) (e_and:(op.toList == [38,38]) = false) (e_or:(op.toList == [124,124]) = false) (e_eq:(op.toList == [61,61]) = true) (k1:(a.kind == 3) = true) (w:World):Calls Tryz.prog 81 #[.string op,vlV a,vlV b] w fun e w'=>e = .returned (.tuple #[vlV (tru false),.bool true])∧Below w.heap.size w w':=by
 obtain ⟨R,hR⟩:∃ R,Hid (R = tru false):=⟨_,rfl⟩
 rw [← hR.out]
 obtain ⟨K,hb0,ha,hb,hr,hrow,hB,hks,hk0,hkK⟩:=pre2 w a b op
 obtain ⟨a0,a1,b0,b1,r0,r1,rf0,rf1⟩:=cl8 ha hb hr hB
 unfold vlV
 go_enter Tryz.func81,Tryz.ntmps81
 go_wp2
 generalize (wld3 w a b).alloc (row12) = W4 at *
 go_loopw [8,10] (fun z i wr=>∃ k:Nat,k ≤ 12∧i = .int .i64 k∧z = .bool (K k)∧wr = W4) (fun _ i _=>12 - (intOf i).toNat)
 case atStart=>exact ⟨0,Nat.zero_le _,rfl,by rw [hk0.out],rfl⟩
 case round =>
  obtain ⟨k,hk,rfl,rfl,rfl⟩:=hrel
  by_cases hlt:k < 12
  · have hki:(k:Int) < 12:=by omega
    obtain ⟨g,o,e,x0⟩:=tx_at hrow.out k hlt
    cases e
    simp only [Nat.zero_add] at x0
    have hk1:=hks.out k hlt
    generalize two12.getD k ⟨#[]⟩ = S at *
    cases e1:K k <;> cases e2:(S.toList == op.toList) <;> rw [e1,e2] at hk1 <;> replace hk1:Hid _:=hk1 <;> go_wp2 <;> (refine ⟨⟨k + 1,by omega,by go_num,by rw [hk1.out];rfl,trivial⟩,?_⟩;simp [intOf];omega)
  · obtain rfl:k = 12:=by omega
    have hki:¬ ((12:Nat):Int) < 12:=by omega
    rw [hkK.out,hkn]
    have hU:=fun W=>truU hR W
    go_wp2_with (first
    |(go_at_call 123;(with_reducible refine (hU _).mono ?_);rintro e w7 ⟨rfl,hq⟩;replace hB:=hB.trans (hq.mono hB.size);obtain ⟨a0,a1,b0,b1,r0,r1,rf0,rf1⟩:=cl8 ha hb hr hB))
    exact end_two (v:=R) rfl rfl (by omega) hb0.out hB hr
theorem rt_eq_n2 (op:ByteArray) (a b:Vl) (hkn:kn op 12 = true) (n1:(a.kind == 2) = false) (n2:(b.kind == 2) = false) (e_and:(op.toList == [38,38]) = false) (e_or:(op.toList == [124,124]) = false) (e_eq:(op.toList == [61,61]) = true) (k1:(a.kind == 3) = false) (k2:(b.kind == 3) = true) (w:World):Calls Tryz.prog 81 #[.string op,vlV a,vlV b] w fun e w'=>e = .returned (.tuple #[vlV (tru false),.bool true])∧Below w.heap.size w w':=by
 obtain ⟨R,hR⟩:∃ R,Hid (R = tru false):=⟨_,rfl⟩
 rw [← hR.out]
 obtain ⟨K,hb0,ha,hb,hr,hrow,hB,hks,hk0,hkK⟩:=pre2 w a b op
 obtain ⟨a0,a1,b0,b1,r0,r1,rf0,rf1⟩:=cl8 ha hb hr hB
 unfold vlV
 go_enter Tryz.func81,Tryz.ntmps81
 go_wp2
 generalize (wld3 w a b).alloc (row12) = W4 at *
 go_loopw [8,10] (fun z i wr=>∃ k:Nat,k ≤ 12∧i = .int .i64 k∧z = .bool (K k)∧wr = W4) (fun _ i _=>12 - (intOf i).toNat)
 case atStart=>exact ⟨0,Nat.zero_le _,rfl,by rw [hk0.out],rfl⟩
 case round =>
  obtain ⟨k,hk,rfl,rfl,rfl⟩:=hrel
  by_cases hlt:k < 12
  · have hki:(k:Int) < 12:=by omega
    obtain ⟨g,o,e,x0⟩:=tx_at hrow.out k hlt
    cases e
    simp only [Nat.zero_add] at x0
    have hk1:=hks.out k hlt
    generalize two12.getD k ⟨#[]⟩ = S at *
    cases e1:K k <;> cases e2:(S.toList == op.toList) <;> rw [e1,e2] at hk1 <;> replace hk1:Hid _:=hk1 <;> go_wp2 <;> (refine ⟨⟨k + 1,by omega,by go_num,by rw [hk1.out];rfl,trivial⟩,?_⟩;simp [intOf];omega)
  · obtain rfl:k = 12:=by omega
    have hki:¬ ((12:Nat):Int) < 12:=by omega
    rw [hkK.out,hkn]
    have hU:=fun W=>truU hR W
    go_wp2_with (first
    |(go_at_call 123;(with_reducible refine (hU _).mono ?_);rintro e w7 ⟨rfl,hq⟩;replace hB:=hB.trans (hq.mono hB.size);obtain ⟨a0,a1,b0,b1,r0,r1,rf0,rf1⟩:=cl8 ha hb hr hB))
    exact end_two (v:=R) rfl rfl (by omega) hb0.out hB hr
theorem rt_ne_n1 (op:ByteArray) (a b:Vl) (hkn:kn op 12 = true) (n1:(a.kind == 2) = false) (n2:(b.kind == 2) = false) (e_and:(op.toList == [38,38]) = false) (e_or:(op.toList == [124,124]) = false) (e_eq:(op.toList == [61,61]) = false) (e_ne:(op.toList == [33,61]) = true) (k1:(a.kind == 3) = true) (w:World):Calls Tryz.prog 81 #[.string op,vlV a,vlV b] w fun e w'=>e = .returned (.tuple #[vlV (tru true),.bool true])∧Below w.heap.size w w':=by
 obtain ⟨R,hR⟩:∃ R,Hid (R = tru true):=⟨_,rfl⟩
 rw [← hR.out]
 obtain ⟨K,hb0,ha,hb,hr,hrow,hB,hks,hk0,hkK⟩:=pre2 w a b op
 obtain ⟨a0,a1,b0,b1,r0,r1,rf0,rf1⟩:=cl8 ha hb hr hB
 unfold vlV
 go_enter Tryz.func81,Tryz.ntmps81
 go_wp2
 generalize (wld3 w a b).alloc (row12) = W4 at *
 go_loopw [8,10] (fun z i wr=>∃ k:Nat,k ≤ 12∧i = .int .i64 k∧z = .bool (K k)∧wr = W4) (fun _ i _=>12 - (intOf i).toNat)
 case atStart=>exact ⟨0,Nat.zero_le _,rfl,by rw [hk0.out],rfl⟩
 case round =>
  obtain ⟨k,hk,rfl,rfl,rfl⟩:=hrel
  by_cases hlt:k < 12
  · have hki:(k:Int) < 12:=by omega
    obtain ⟨g,o,e,x0⟩:=tx_at hrow.out k hlt
    cases e
    simp only [Nat.zero_add] at x0
    have hk1:=hks.out k hlt
    generalize two12.getD k ⟨#[]⟩ = S at *
    cases e1:K k <;> cases e2:(S.toList == op.toList) <;> rw [e1,e2] at hk1 <;> replace hk1:Hid _:=hk1 <;> go_wp2 <;> (refine ⟨⟨k + 1,by omega,by go_num,by rw [hk1.out];rfl,trivial⟩,?_⟩;simp [intOf];omega)
  · obtain rfl:k = 12:=by omega
    have hki:¬ ((12:Nat):Int) < 12:=by omega
    rw [hkK.out,hkn]
    have hU:=fun W=>truU hR W
    go_wp2_with (first
    |(go_at_call 123;(with_reducible refine (hU _).mono ?_);rintro e w7 ⟨rfl,hq⟩;replace hB:=hB.trans (hq.mono hB.size);obtain ⟨a0,a1,b0,b1,r0,r1,rf0,rf1⟩:=cl8 ha hb hr hB))
    exact end_two (v:=R) rfl rfl (by omega) hb0.out hB hr
theorem rt_ne_n2 (op:ByteArray) (a b:Vl) (hkn:kn op 12 = true) (n1:(a.kind == 2) = false) (n2:(b.kind == 2) = false) (e_and:(op.toList == [38,38]) = false) (e_or:(op.toList == [124,124]) = false) (e_eq:(op.toList == [61,61]) = false) (e_ne:(op.toList == [33,61]) = true) (k1:(a.kind == 3) = false) (k2:(b.kind == 3) = true) (w:World):Calls Tryz.prog 81 #[.string op,vlV a,vlV b] w fun e w'=>e = .returned (.tuple #[vlV (tru true),.bool true])∧Below w.heap.size w w':=by
 obtain ⟨R,hR⟩:∃ R,Hid (R = tru true):=⟨_,rfl⟩
 rw [← hR.out]
 obtain ⟨K,hb0,ha,hb,hr,hrow,hB,hks,hk0,hkK⟩:=pre2 w a b op
 obtain ⟨a0,a1,b0,b1,r0,r1,rf0,rf1⟩:=cl8 ha hb hr hB
 unfold vlV
 go_enter Tryz.func81,Tryz.ntmps81
 go_wp2
 generalize (wld3 w a b).alloc (row12) = W4 at *
 go_loopw [8,10] (fun z i wr=>∃ k:Nat,k ≤ 12∧i = .int .i64 k∧z = .bool (K k)∧wr = W4) (fun _ i _=>12 - (intOf i).toNat)
 case atStart=>exact ⟨0,Nat.zero_le _,rfl,by rw [hk0.out],rfl⟩
 case round =>
  obtain ⟨k,hk,rfl,rfl,rfl⟩:=hrel
  by_cases hlt:k < 12
  · have hki:(k:Int) < 12:=by omega
    obtain ⟨g,o,e,x0⟩:=tx_at hrow.out k hlt
    cases e
    simp only [Nat.zero_add] at x0
    have hk1:=hks.out k hlt
    generalize two12.getD k ⟨#[]⟩ = S at *
    cases e1:K k <;> cases e2:(S.toList == op.toList) <;> rw [e1,e2] at hk1 <;> replace hk1:Hid _:=hk1 <;> go_wp2 <;> (refine ⟨⟨k + 1,by omega,by go_num,by rw [hk1.out];rfl,trivial⟩,?_⟩;simp [intOf];omega)
  · obtain rfl:k = 12:=by omega
    have hki:¬ ((12:Nat):Int) < 12:=by omega
    rw [hkK.out,hkn]
    have hU:=fun W=>truU hR W
    go_wp2_with (first
    |(go_at_call 123;(with_reducible refine (hU _).mono ?_);rintro e w7 ⟨rfl,hq⟩;replace hB:=hB.trans (hq.mono hB.size);obtain ⟨a0,a1,b0,b1,r0,r1,rf0,rf1⟩:=cl8 ha hb hr hB))
    exact end_two (v:=R) rfl rfl (by omega) hb0.out hB hr
theorem rt_lt_n1 (op:ByteArray) (a b:Vl) (hkn:kn op 12 = true) (n1:(a.kind == 2) = false) (n2:(b.kind == 2) = false) (e_and:(op.toList == [38,38]) = false) (e_or:(op.toList == [124,124]) = false) (e_eq:(op.toList == [61,61]) = false) (e_ne:(op.toList == [33,61]) = false) (e_lt:(op.toList == [60]) = true) (k1:(a.kind == 3) = true) (w:World):Calls Tryz.prog 81 #[.string op,vlV a,vlV b] w fun e w'=>e = .returned (.tuple #[vlV (tru false),.bool true])∧Below w.heap.size w w':=by
 obtain ⟨R,hR⟩:∃ R,Hid (R = tru false):=⟨_,rfl⟩
 rw [← hR.out]
 obtain ⟨K,hb0,ha,hb,hr,hrow,hB,hks,hk0,hkK⟩:=pre2 w a b op
 obtain ⟨a0,a1,b0,b1,r0,r1,rf0,rf1⟩:=cl8 ha hb hr hB
 unfold vlV
 go_enter Tryz.func81,Tryz.ntmps81
 go_wp2
 generalize (wld3 w a b).alloc (row12) = W4 at *
 go_loopw [8,10] (fun z i wr=>∃ k:Nat,k ≤ 12∧i = .int .i64 k∧z = .bool (K k)∧wr = W4) (fun _ i _=>12 - (intOf i).toNat)
 case atStart=>exact ⟨0,Nat.zero_le _,rfl,by rw [hk0.out],rfl⟩
 case round =>
  obtain ⟨k,hk,rfl,rfl,rfl⟩:=hrel
  by_cases hlt:k < 12
  · have hki:(k:Int) < 12:=by omega
    obtain ⟨g,o,e,x0⟩:=tx_at hrow.out k hlt
    cases e
    simp only [Nat.zero_add] at x0
    have hk1:=hks.out k hlt
    generalize two12.getD k ⟨#[]⟩ = S at *
    cases e1:K k <;> cases e2:(S.toList == op.toList) <;> rw [e1,e2] at hk1 <;> replace hk1:Hid _:=hk1 <;> go_wp2 <;> (refine ⟨⟨k + 1,by omega,by go_num,by rw [hk1.out];rfl,trivial⟩,?_⟩;simp [intOf];omega)
  · obtain rfl:k = 12:=by omega
    have hki:¬ ((12:Nat):Int) < 12:=by omega
    rw [hkK.out,hkn]
    have hU:=fun W=>truU hR W
    go_wp2_with (first
    |(go_at_call 123;(with_reducible refine (hU _).mono ?_);rintro e w7 ⟨rfl,hq⟩;replace hB:=hB.trans (hq.mono hB.size);obtain ⟨a0,a1,b0,b1,r0,r1,rf0,rf1⟩:=cl8 ha hb hr hB))
    exact end_two (v:=R) rfl rfl (by omega) hb0.out hB hr
theorem rt_lt_n2 (op:ByteArray) (a b:Vl) (hkn:kn op 12 = true) (n1:(a.kind == 2) = false) (n2:(b.kind == 2) = false) (e_and:(op.toList == [38,38]) = false) (e_or:(op.toList == [124,124]) = false) (e_eq:(op.toList == [61,61]) = false) (e_ne:(op.toList == [33,61]) = false) (e_lt:(op.toList == [60]) = true) (k1:(a.kind == 3) = false) (k2:(b.kind == 3) = true) (w:World):Calls Tryz.prog 81 #[.string op,vlV a,vlV b] w fun e w'=>e = .returned (.tuple #[vlV (tru false),.bool true])∧Below w.heap.size w w':=by
 obtain ⟨R,hR⟩:∃ R,Hid (R = tru false):=⟨_,rfl⟩
 rw [← hR.out]
 obtain ⟨K,hb0,ha,hb,hr,hrow,hB,hks,hk0,hkK⟩:=pre2 w a b op
 obtain ⟨a0,a1,b0,b1,r0,r1,rf0,rf1⟩:=cl8 ha hb hr hB
 unfold vlV
 go_enter Tryz.func81,Tryz.ntmps81
 go_wp2
 generalize (wld3 w a b).alloc (row12) = W4 at *
 go_loopw [8,10] (fun z i wr=>∃ k:Nat,k ≤ 12∧i = .int .i64 k∧z = .bool (K k)∧wr = W4) (fun _ i _=>12 - (intOf i).toNat)
 case atStart=>exact ⟨0,Nat.zero_le _,rfl,by rw [hk0.out],rfl⟩
 case round =>
  obtain ⟨k,hk,rfl,rfl,rfl⟩:=hrel
  by_cases hlt:k < 12
  · have hki:(k:Int) < 12:=by omega
    obtain ⟨g,o,e,x0⟩:=tx_at hrow.out k hlt
    cases e
    simp only [Nat.zero_add] at x0
    have hk1:=hks.out k hlt
    generalize two12.getD k ⟨#[]⟩ = S at *
    cases e1:K k <;> cases e2:(S.toList == op.toList) <;> rw [e1,e2] at hk1 <;> replace hk1:Hid _:=hk1 <;> go_wp2 <;> (refine ⟨⟨k + 1,by omega,by go_num,by rw [hk1.out];rfl,trivial⟩,?_⟩;simp [intOf];omega)
  · obtain rfl:k = 12:=by omega
    have hki:¬ ((12:Nat):Int) < 12:=by omega
    rw [hkK.out,hkn]
    have hU:=fun W=>truU hR W
    go_wp2_with (first
    |(go_at_call 123;(with_reducible refine (hU _).mono ?_);rintro e w7 ⟨rfl,hq⟩;replace hB:=hB.trans (hq.mono hB.size);obtain ⟨a0,a1,b0,b1,r0,r1,rf0,rf1⟩:=cl8 ha hb hr hB))
    exact end_two (v:=R) rfl rfl (by omega) hb0.out hB hr
theorem rt_le_n1 (op:ByteArray) (a b:Vl) (hkn:kn op 12 = true) (n1:(a.kind == 2) = false) (n2:(b.kind == 2) = false) (e_and:(op.toList == [38,38]) = false) (e_or:(op.toList == [124,124]) = false) (e_eq:(op.toList == [61,61]) = false) (e_ne:(op.toList == [33,61]) = false) (e_lt:(op.toList == [60]) = false) (e_le:(op.toList == [60,61]) = true) (k1:(a.kind == 3) = true) (w:World):Calls Tryz.prog 81 #[.string op,vlV a,vlV b] w fun e w'=>e = .returned (.tuple #[vlV (tru false),.bool true])∧Below w.heap.size w w':=by
 obtain ⟨R,hR⟩:∃ R,Hid (R = tru false):=⟨_,rfl⟩
 rw [← hR.out]
 obtain ⟨K,hb0,ha,hb,hr,hrow,hB,hks,hk0,hkK⟩:=pre2 w a b op
 obtain ⟨a0,a1,b0,b1,r0,r1,rf0,rf1⟩:=cl8 ha hb hr hB
 unfold vlV
 go_enter Tryz.func81,Tryz.ntmps81
 go_wp2
 generalize (wld3 w a b).alloc (row12) = W4 at *
 go_loopw [8,10] (fun z i wr=>∃ k:Nat,k ≤ 12∧i = .int .i64 k∧z = .bool (K k)∧wr = W4) (fun _ i _=>12 - (intOf i).toNat)
 case atStart=>exact ⟨0,Nat.zero_le _,rfl,by rw [hk0.out],rfl⟩
 case round =>
  obtain ⟨k,hk,rfl,rfl,rfl⟩:=hrel
  by_cases hlt:k < 12
  · have hki:(k:Int) < 12:=by omega
    obtain ⟨g,o,e,x0⟩:=tx_at hrow.out k hlt
    cases e
    simp only [Nat.zero_add] at x0
    have hk1:=hks.out k hlt
    generalize two12.getD k ⟨#[]⟩ = S at *
    cases e1:K k <;> cases e2:(S.toList == op.toList) <;> rw [e1,e2] at hk1 <;> replace hk1:Hid _:=hk1 <;> go_wp2 <;> (refine ⟨⟨k + 1,by omega,by go_num,by rw [hk1.out];rfl,trivial⟩,?_⟩;simp [intOf];omega)
  · obtain rfl:k = 12:=by omega
    have hki:¬ ((12:Nat):Int) < 12:=by omega
    rw [hkK.out,hkn]
    have hU:=fun W=>truU hR W
    go_wp2_with (first
    |(go_at_call 123;(with_reducible refine (hU _).mono ?_);rintro e w7 ⟨rfl,hq⟩;replace hB:=hB.trans (hq.mono hB.size);obtain ⟨a0,a1,b0,b1,r0,r1,rf0,rf1⟩:=cl8 ha hb hr hB))
    exact end_two (v:=R) rfl rfl (by omega) hb0.out hB hr
theorem rt_le_n2 (op:ByteArray) (a b:Vl) (hkn:kn op 12 = true) (n1:(a.kind == 2) = false) (n2:(b.kind == 2) = false) (e_and:(op.toList == [38,38]) = false) (e_or:(op.toList == [124,124]) = false) (e_eq:(op.toList == [61,61]) = false) (e_ne:(op.toList == [33,61]) = false) (e_lt:(op.toList == [60]) = false) (e_le:(op.toList == [60,61]) = true) (k1:(a.kind == 3) = false) (k2:(b.kind == 3) = true) (w:World):Calls Tryz.prog 81 #[.string op,vlV a,vlV b] w fun e w'=>e = .returned (.tuple #[vlV (tru false),.bool true])∧Below w.heap.size w w':=by
 obtain ⟨R,hR⟩:∃ R,Hid (R = tru false):=⟨_,rfl⟩
 rw [← hR.out]
 obtain ⟨K,hb0,ha,hb,hr,hrow,hB,hks,hk0,hkK⟩:=pre2 w a b op
 obtain ⟨a0,a1,b0,b1,r0,r1,rf0,rf1⟩:=cl8 ha hb hr hB
 unfold vlV
 go_enter Tryz.func81,Tryz.ntmps81
 go_wp2
 generalize (wld3 w a b).alloc (row12) = W4 at *
 go_loopw [8,10] (fun z i wr=>∃ k:Nat,k ≤ 12∧i = .int .i64 k∧z = .bool (K k)∧wr = W4) (fun _ i _=>12 - (intOf i).toNat)
 case atStart=>exact ⟨0,Nat.zero_le _,rfl,by rw [hk0.out],rfl⟩
 case round =>
  obtain ⟨k,hk,rfl,rfl,rfl⟩:=hrel
  by_cases hlt:k < 12
  · have hki:(k:Int) < 12:=by omega
    obtain ⟨g,o,e,x0⟩:=tx_at hrow.out k hlt
    cases e
    simp only [Nat.zero_add] at x0
    have hk1:=hks.out k hlt
    generalize two12.getD k ⟨#[]⟩ = S at *
    cases e1:K k <;> cases e2:(S.toList == op.toList) <;> rw [e1,e2] at hk1 <;> replace hk1:Hid _:=hk1 <;> go_wp2 <;> (refine ⟨⟨k + 1,by omega,by go_num,by rw [hk1.out];rfl,trivial⟩,?_⟩;simp [intOf];omega)
  · obtain rfl:k = 12:=by omega
    have hki:¬ ((12:Nat):Int) < 12:=by omega
    rw [hkK.out,hkn]
    have hU:=fun W=>truU hR W
    go_wp2_with (first
    |(go_at_call 123;(with_reducible refine (hU _).mono ?_);rintro e w7 ⟨rfl,hq⟩;replace hB:=hB.trans (hq.mono hB.size);obtain ⟨a0,a1,b0,b1,r0,r1,rf0,rf1⟩:=cl8 ha hb hr hB))
    exact end_two (v:=R) rfl rfl (by omega) hb0.out hB hr
theorem rt_gt_n1 (op:ByteArray) (a b:Vl) (hkn:kn op 12 = true) (n1:(a.kind == 2) = false) (n2:(b.kind == 2) = false) (e_and:(op.toList == [38,38]) = false) (e_or:(op.toList == [124,124]) = false) (e_eq:(op.toList == [61,61]) = false) (e_ne:(op.toList == [33,61]) = false) (e_lt:(op.toList == [60]) = false) (e_le:(op.toList == [60,61]) = false) (e_gt:(op.toList == [62]) = true) (k1:(a.kind == 3) = true) (w:World):Calls Tryz.prog 81 #[.string op,vlV a,vlV b] w fun e w'=>e = .returned (.tuple #[vlV (tru false),.bool true])∧Below w.heap.size w w':=by
 obtain ⟨R,hR⟩:∃ R,Hid (R = tru false):=⟨_,rfl⟩
 rw [← hR.out]
 obtain ⟨K,hb0,ha,hb,hr,hrow,hB,hks,hk0,hkK⟩:=pre2 w a b op
 obtain ⟨a0,a1,b0,b1,r0,r1,rf0,rf1⟩:=cl8 ha hb hr hB
 unfold vlV
 go_enter Tryz.func81,Tryz.ntmps81
 go_wp2
 generalize (wld3 w a b).alloc (row12) = W4 at *
 go_loopw [8,10] (fun z i wr=>∃ k:Nat,k ≤ 12∧i = .int .i64 k∧z = .bool (K k)∧wr = W4) (fun _ i _=>12 - (intOf i).toNat)
 case atStart=>exact ⟨0,Nat.zero_le _,rfl,by rw [hk0.out],rfl⟩
 case round =>
  obtain ⟨k,hk,rfl,rfl,rfl⟩:=hrel
  by_cases hlt:k < 12
  · have hki:(k:Int) < 12:=by omega
    obtain ⟨g,o,e,x0⟩:=tx_at hrow.out k hlt
    cases e
    simp only [Nat.zero_add] at x0
    have hk1:=hks.out k hlt
    generalize two12.getD k ⟨#[]⟩ = S at *
    cases e1:K k <;> cases e2:(S.toList == op.toList) <;> rw [e1,e2] at hk1 <;> replace hk1:Hid _:=hk1 <;> go_wp2 <;> (refine ⟨⟨k + 1,by omega,by go_num,by rw [hk1.out];rfl,trivial⟩,?_⟩;simp [intOf];omega)
  · obtain rfl:k = 12:=by omega
    have hki:¬ ((12:Nat):Int) < 12:=by omega
    rw [hkK.out,hkn]
    have hU:=fun W=>truU hR W
    go_wp2_with (first
    |(go_at_call 123;(with_reducible refine (hU _).mono ?_);rintro e w7 ⟨rfl,hq⟩;replace hB:=hB.trans (hq.mono hB.size);obtain ⟨a0,a1,b0,b1,r0,r1,rf0,rf1⟩:=cl8 ha hb hr hB))
    exact end_two (v:=R) rfl rfl (by omega) hb0.out hB hr
theorem rt_gt_n2 (op:ByteArray) (a b:Vl) (hkn:kn op 12 = true) (n1:(a.kind == 2) = false) (n2:(b.kind == 2) = false) (e_and:(op.toList == [38,38]) = false) (e_or:(op.toList == [124,124]) = false) (e_eq:(op.toList == [61,61]) = false) (e_ne:(op.toList == [33,61]) = false) (e_lt:(op.toList == [60]) = false) (e_le:(op.toList == [60,61]) = false) (e_gt:(op.toList == [62]) = true) (k1:(a.kind == 3) = false) (k2:(b.kind == 3) = true) (w:World):Calls Tryz.prog 81 #[.string op,vlV a,vlV b] w fun e w'=>e = .returned (.tuple #[vlV (tru false),.bool true])∧Below w.heap.size w w':=by
 obtain ⟨R,hR⟩:∃ R,Hid (R = tru false):=⟨_,rfl⟩
 rw [← hR.out]
 obtain ⟨K,hb0,ha,hb,hr,hrow,hB,hks,hk0,hkK⟩:=pre2 w a b op
 obtain ⟨a0,a1,b0,b1,r0,r1,rf0,rf1⟩:=cl8 ha hb hr hB
 unfold vlV
 go_enter Tryz.func81,Tryz.ntmps81
 go_wp2
 generalize (wld3 w a b).alloc (row12) = W4 at *
 go_loopw [8,10] (fun z i wr=>∃ k:Nat,k ≤ 12∧i = .int .i64 k∧z = .bool (K k)∧wr = W4) (fun _ i _=>12 - (intOf i).toNat)
 case atStart=>exact ⟨0,Nat.zero_le _,rfl,by rw [hk0.out],rfl⟩
 case round =>
  obtain ⟨k,hk,rfl,rfl,rfl⟩:=hrel
  by_cases hlt:k < 12
  · have hki:(k:Int) < 12:=by omega
    obtain ⟨g,o,e,x0⟩:=tx_at hrow.out k hlt
    cases e
    simp only [Nat.zero_add] at x0
    have hk1:=hks.out k hlt
    generalize two12.getD k ⟨#[]⟩ = S at *
    cases e1:K k <;> cases e2:(S.toList == op.toList) <;> rw [e1,e2] at hk1 <;> replace hk1:Hid _:=hk1 <;> go_wp2 <;> (refine ⟨⟨k + 1,by omega,by go_num,by rw [hk1.out];rfl,trivial⟩,?_⟩;simp [intOf];omega)
  · obtain rfl:k = 12:=by omega
    have hki:¬ ((12:Nat):Int) < 12:=by omega
    rw [hkK.out,hkn]
    have hU:=fun W=>truU hR W
    go_wp2_with (first
    |(go_at_call 123;(with_reducible refine (hU _).mono ?_);rintro e w7 ⟨rfl,hq⟩;replace hB:=hB.trans (hq.mono hB.size);obtain ⟨a0,a1,b0,b1,r0,r1,rf0,rf1⟩:=cl8 ha hb hr hB))
    exact end_two (v:=R) rfl rfl (by omega) hb0.out hB hr
theorem rt_ge_n1 (op:ByteArray) (a b:Vl) (hkn:kn op 12 = true) (n1:(a.kind == 2) = false) (n2:(b.kind == 2) = false) (e_and:(op.toList == [38,38]) = false) (e_or:(op.toList == [124,124]) = false) (e_eq:(op.toList == [61,61]) = false) (e_ne:(op.toList == [33,61]) = false) (e_lt:(op.toList == [60]) = false) (e_le:(op.toList == [60,61]) = false) (e_gt:(op.toList == [62]) = false) (e_ge:(op.toList == [62,61]) = true) (k1:(a.kind == 3) = true) (w:World):Calls Tryz.prog 81 #[.string op,vlV a,vlV b] w fun e w'=>e = .returned (.tuple #[vlV (tru false),.bool true])∧Below w.heap.size w w':=by
 obtain ⟨R,hR⟩:∃ R,Hid (R = tru false):=⟨_,rfl⟩
 rw [← hR.out]
 obtain ⟨K,hb0,ha,hb,hr,hrow,hB,hks,hk0,hkK⟩:=pre2 w a b op
 obtain ⟨a0,a1,b0,b1,r0,r1,rf0,rf1⟩:=cl8 ha hb hr hB
 unfold vlV
 go_enter Tryz.func81,Tryz.ntmps81
 go_wp2
 generalize (wld3 w a b).alloc (row12) = W4 at *
 go_loopw [8,10] (fun z i wr=>∃ k:Nat,k ≤ 12∧i = .int .i64 k∧z = .bool (K k)∧wr = W4) (fun _ i _=>12 - (intOf i).toNat)
 case atStart=>exact ⟨0,Nat.zero_le _,rfl,by rw [hk0.out],rfl⟩
 case round =>
  obtain ⟨k,hk,rfl,rfl,rfl⟩:=hrel
  by_cases hlt:k < 12
  · have hki:(k:Int) < 12:=by omega
    obtain ⟨g,o,e,x0⟩:=tx_at hrow.out k hlt
    cases e
    simp only [Nat.zero_add] at x0
    have hk1:=hks.out k hlt
    generalize two12.getD k ⟨#[]⟩ = S at *
    cases e1:K k <;> cases e2:(S.toList == op.toList) <;> rw [e1,e2] at hk1 <;> replace hk1:Hid _:=hk1 <;> go_wp2 <;> (refine ⟨⟨k + 1,by omega,by go_num,by rw [hk1.out];rfl,trivial⟩,?_⟩;simp [intOf];omega)
  · obtain rfl:k = 12:=by omega
    have hki:¬ ((12:Nat):Int) < 12:=by omega
    rw [hkK.out,hkn]
    have hU:=fun W=>truU hR W
    go_wp2_with (first
    |(go_at_call 123;(with_reducible refine (hU _).mono ?_);rintro e w7 ⟨rfl,hq⟩;replace hB:=hB.trans (hq.mono hB.size);obtain ⟨a0,a1,b0,b1,r0,r1,rf0,rf1⟩:=cl8 ha hb hr hB))
    exact end_two (v:=R) rfl rfl (by omega) hb0.out hB hr
theorem rt_ge_n2 (op:ByteArray) (a b:Vl) (hkn:kn op 12 = true) (n1:(a.kind == 2) = false) (n2:(b.kind == 2) = false) (e_and:(op.toList == [38,38]) = false) (e_or:(op.toList == [124,124]) = false) (e_eq:(op.toList == [61,61]) = false) (e_ne:(op.toList == [33,61]) = false) (e_lt:(op.toList == [60]) = false) (e_le:(op.toList == [60,61]) = false) (e_gt:(op.toList == [62]) = false) (e_ge:(op.toList == [62,61]) = true) (k1:(a.kind == 3) = false) (k2:(b.kind == 3) = true) (w:World):Calls Tryz.prog 81 #[.string op,vlV a,vlV b] w fun e w'=>e = .returned (.tuple #[vlV (tru false),.bool true])∧Below w.heap.size w w':=by
 obtain ⟨R,hR⟩:∃ R,Hid (R = tru false):=⟨_,rfl⟩
 rw [← hR.out]
 obtain ⟨K,hb0,ha,hb,hr,hrow,hB,hks,hk0,hkK⟩:=pre2 w a b op
 obtain ⟨a0,a1,b0,b1,r0,r1,rf0,rf1⟩:=cl8 ha hb hr hB
 unfold vlV
 go_enter Tryz.func81,Tryz.ntmps81
 go_wp2
 generalize (wld3 w a b).alloc (row12) = W4 at *
 go_loopw [8,10] (fun z i wr=>∃ k:Nat,k ≤ 12∧i = .int .i64 k∧z = .bool (K k)∧wr = W4) (fun _ i _=>12 - (intOf i).toNat)
 case atStart=>exact ⟨0,Nat.zero_le _,rfl,by rw [hk0.out],rfl⟩
 case round =>
  obtain ⟨k,hk,rfl,rfl,rfl⟩:=hrel
  by_cases hlt:k < 12
  · have hki:(k:Int) < 12:=by omega
    obtain ⟨g,o,e,x0⟩:=tx_at hrow.out k hlt
    cases e
    simp only [Nat.zero_add] at x0
    have hk1:=hks.out k hlt
    generalize two12.getD k ⟨#[]⟩ = S at *
    cases e1:K k <;> cases e2:(S.toList == op.toList) <;> rw [e1,e2] at hk1 <;> replace hk1:Hid _:=hk1 <;> go_wp2 <;> (refine ⟨⟨k + 1,by omega,by go_num,by rw [hk1.out];rfl,trivial⟩,?_⟩;simp [intOf];omega)
  · obtain rfl:k = 12:=by omega
    have hki:¬ ((12:Nat):Int) < 12:=by omega
    rw [hkK.out,hkn]
    have hU:=fun W=>truU hR W
    go_wp2_with (first
    |(go_at_call 123;(with_reducible refine (hU _).mono ?_);rintro e w7 ⟨rfl,hq⟩;replace hB:=hB.trans (hq.mono hB.size);obtain ⟨a0,a1,b0,b1,r0,r1,rf0,rf1⟩:=cl8 ha hb hr hB))
    exact end_two (v:=R) rfl rfl (by omega) hb0.out hB hr
theorem rt_eq_0 (op:ByteArray) (a b:Vl) (hkn:kn op 12 = true) (n1:(a.kind == 2) = false) (n2:(b.kind == 2) = false) (e_and:(op.toList == [38,38]) = false) (e_or:(op.toList == [124,124]) = false) (e_eq:(op.toList == [61,61]) = true) (k1:(a.kind == 3) = false) (k2:(b.kind == 3) = false) (q1:(a.kind == b.kind) = true) (q2:(a.n == b.n) = true) (w:World):Calls Tryz.prog 81 #[.string op,vlV a,vlV b] w fun e w'=>e = .returned (.tuple #[vlV (tru true),.bool true])∧Below w.heap.size w w':=by
 obtain ⟨R,hR⟩:∃ R,Hid (R = tru true):=⟨_,rfl⟩
 rw [← hR.out]
 obtain ⟨K,hb0,ha,hb,hr,hrow,hB,hks,hk0,hkK⟩:=pre2 w a b op
 obtain ⟨a0,a1,b0,b1,r0,r1,rf0,rf1⟩:=cl8 ha hb hr hB
 unfold vlV
 go_enter Tryz.func81,Tryz.ntmps81
 go_wp2
 generalize (wld3 w a b).alloc (row12) = W4 at *
 go_loopw [8,10] (fun z i wr=>∃ k:Nat,k ≤ 12∧i = .int .i64 k∧z = .bool (K k)∧wr = W4) (fun _ i _=>12 - (intOf i).toNat)
 case atStart=>exact ⟨0,Nat.zero_le _,rfl,by rw [hk0.out],rfl⟩
 case round =>
  obtain ⟨k,hk,rfl,rfl,rfl⟩:=hrel
  by_cases hlt:k < 12
  · have hki:(k:Int) < 12:=by omega
    obtain ⟨g,o,e,x0⟩:=tx_at hrow.out k hlt
    cases e
    simp only [Nat.zero_add] at x0
    have hk1:=hks.out k hlt
    generalize two12.getD k ⟨#[]⟩ = S at *
    cases e1:K k <;> cases e2:(S.toList == op.toList) <;> rw [e1,e2] at hk1 <;> replace hk1:Hid _:=hk1 <;> go_wp2 <;> (refine ⟨⟨k + 1,by omega,by go_num,by rw [hk1.out];rfl,trivial⟩,?_⟩;simp [intOf];omega)
  · obtain rfl:k = 12:=by omega
    have hki:¬ ((12:Nat):Int) < 12:=by omega
    rw [hkK.out,hkn]
    have hU:=fun W=>truU hR W
    go_wp2_with (first
    |(go_at_call 123;(with_reducible refine (hU _).mono ?_);rintro e w7 ⟨rfl,hq⟩;replace hB:=hB.trans (hq.mono hB.size);obtain ⟨a0,a1,b0,b1,r0,r1,rf0,rf1⟩:=cl8 ha hb hr hB))
    exact end_two (v:=R) rfl rfl (by omega) hb0.out hB hr
theorem rt_eq_1 (op:ByteArray) (a b:Vl) (hkn:kn op 12 = true) (n1:(a.kind == 2) = false) (n2:(b.kind == 2) = false) (e_and:(op.toList == [38,38]) = false) (e_or:(op.toList == [124,124]) = false) (e_eq:(op.toList == [61,61]) = true) (k1:(a.kind == 3) = false) (k2:(b.kind == 3) = false) (q1:(a.kind == b.kind) = true) (q2:(a.n == b.n) = false) (w:World):Calls Tryz.prog 81 #[.string op,vlV a,vlV b] w fun e w'=>e = .returned (.tuple #[vlV (tru false),.bool true])∧Below w.heap.size w w':=by
 obtain ⟨R,hR⟩:∃ R,Hid (R = tru false):=⟨_,rfl⟩
 rw [← hR.out]
 obtain ⟨K,hb0,ha,hb,hr,hrow,hB,hks,hk0,hkK⟩:=pre2 w a b op
 obtain ⟨a0,a1,b0,b1,r0,r1,rf0,rf1⟩:=cl8 ha hb hr hB
 unfold vlV
 go_enter Tryz.func81,Tryz.ntmps81
 go_wp2
 generalize (wld3 w a b).alloc (row12) = W4 at *
 go_loopw [8,10] (fun z i wr=>∃ k:Nat,k ≤ 12∧i = .int .i64 k∧z = .bool (K k)∧wr = W4) (fun _ i _=>12 - (intOf i).toNat)
 case atStart=>exact ⟨0,Nat.zero_le _,rfl,by rw [hk0.out],rfl⟩
 case round =>
  obtain ⟨k,hk,rfl,rfl,rfl⟩:=hrel
  by_cases hlt:k < 12
  · have hki:(k:Int) < 12:=by omega
    obtain ⟨g,o,e,x0⟩:=tx_at hrow.out k hlt
    cases e
    simp only [Nat.zero_add] at x0
    have hk1:=hks.out k hlt
    generalize two12.getD k ⟨#[]⟩ = S at *
    cases e1:K k <;> cases e2:(S.toList == op.toList) <;> rw [e1,e2] at hk1 <;> replace hk1:Hid _:=hk1 <;> go_wp2 <;> (refine ⟨⟨k + 1,by omega,by go_num,by rw [hk1.out];rfl,trivial⟩,?_⟩;simp [intOf];omega)
  · obtain rfl:k = 12:=by omega
    have hki:¬ ((12:Nat):Int) < 12:=by omega
    rw [hkK.out,hkn]
    have hU:=fun W=>truU hR W
    go_wp2_with (first
    |(go_at_call 123;(with_reducible refine (hU _).mono ?_);rintro e w7 ⟨rfl,hq⟩;replace hB:=hB.trans (hq.mono hB.size);obtain ⟨a0,a1,b0,b1,r0,r1,rf0,rf1⟩:=cl8 ha hb hr hB))
    exact end_two (v:=R) rfl rfl (by omega) hb0.out hB hr
theorem rt_eq_2 (op:ByteArray) (a b:Vl) (hkn:kn op 12 = true) (n1:(a.kind == 2) = false) (n2:(b.kind == 2) = false) (e_and:(op.toList == [38,38]) = false) (e_or:(op.toList == [124,124]) = false) (e_eq:(op.toList == [61,61]) = true) (k1:(a.kind == 3) = false) (k2:(b.kind == 3) = false) (q1:(a.kind == b.kind) = false) (w:World):Calls Tryz.prog 81 #[.string op,vlV a,vlV b] w fun e w'=>e = .returned (.tuple #[vlV (tru false),.bool true])∧Below w.heap.size w w':=by
 obtain ⟨R,hR⟩:∃ R,Hid (R = tru false):=⟨_,rfl⟩
 rw [← hR.out]
 obtain ⟨K,hb0,ha,hb,hr,hrow,hB,hks,hk0,hkK⟩:=pre2 w a b op
 obtain ⟨a0,a1,b0,b1,r0,r1,rf0,rf1⟩:=cl8 ha hb hr hB
 unfold vlV
 go_enter Tryz.func81,Tryz.ntmps81
 go_wp2
 generalize (wld3 w a b).alloc (row12) = W4 at *
 go_loopw [8,10] (fun z i wr=>∃ k:Nat,k ≤ 12∧i = .int .i64 k∧z = .bool (K k)∧wr = W4) (fun _ i _=>12 - (intOf i).toNat)
 case atStart=>exact ⟨0,Nat.zero_le _,rfl,by rw [hk0.out],rfl⟩
 case round =>
  obtain ⟨k,hk,rfl,rfl,rfl⟩:=hrel
  by_cases hlt:k < 12
  · have hki:(k:Int) < 12:=by omega
    obtain ⟨g,o,e,x0⟩:=tx_at hrow.out k hlt
    cases e
    simp only [Nat.zero_add] at x0
    have hk1:=hks.out k hlt
    generalize two12.getD k ⟨#[]⟩ = S at *
    cases e1:K k <;> cases e2:(S.toList == op.toList) <;> rw [e1,e2] at hk1 <;> replace hk1:Hid _:=hk1 <;> go_wp2 <;> (refine ⟨⟨k + 1,by omega,by go_num,by rw [hk1.out];rfl,trivial⟩,?_⟩;simp [intOf];omega)
  · obtain rfl:k = 12:=by omega
    have hki:¬ ((12:Nat):Int) < 12:=by omega
    rw [hkK.out,hkn]
    have hU:=fun W=>truU hR W
    go_wp2_with (first
    |(go_at_call 123;(with_reducible refine (hU _).mono ?_);rintro e w7 ⟨rfl,hq⟩;replace hB:=hB.trans (hq.mono hB.size);obtain ⟨a0,a1,b0,b1,r0,r1,rf0,rf1⟩:=cl8 ha hb hr hB))
    exact end_two (v:=R) rfl rfl (by omega) hb0.out hB hr
theorem rt_ne_0 (op:ByteArray) (a b:Vl) (hkn:kn op 12 = true) (n1:(a.kind == 2) = false) (n2:(b.kind == 2) = false) (e_and:(op.toList == [38,38]) = false) (e_or:(op.toList == [124,124]) = false) (e_eq:(op.toList == [61,61]) = false) (e_ne:(op.toList == [33,61]) = true) (k1:(a.kind == 3) = false) (k2:(b.kind == 3) = false) (q1:(a.kind == b.kind) = true) (q2:(a.n == b.n) = true) (w:World):Calls Tryz.prog 81 #[.string op,vlV a,vlV b] w fun e w'=>e = .returned (.tuple #[vlV (tru false),.bool true])∧Below w.heap.size w w':=by
 obtain ⟨R,hR⟩:∃ R,Hid (R = tru false):=⟨_,rfl⟩
 rw [← hR.out]
 obtain ⟨K,hb0,ha,hb,hr,hrow,hB,hks,hk0,hkK⟩:=pre2 w a b op
 obtain ⟨a0,a1,b0,b1,r0,r1,rf0,rf1⟩:=cl8 ha hb hr hB
 unfold vlV
 go_enter Tryz.func81,Tryz.ntmps81
 go_wp2
 generalize (wld3 w a b).alloc (row12) = W4 at *
 go_loopw [8,10] (fun z i wr=>∃ k:Nat,k ≤ 12∧i = .int .i64 k∧z = .bool (K k)∧wr = W4) (fun _ i _=>12 - (intOf i).toNat)
 case atStart=>exact ⟨0,Nat.zero_le _,rfl,by rw [hk0.out],rfl⟩
 case round =>
  obtain ⟨k,hk,rfl,rfl,rfl⟩:=hrel
  by_cases hlt:k < 12
  · have hki:(k:Int) < 12:=by omega
    obtain ⟨g,o,e,x0⟩:=tx_at hrow.out k hlt
    cases e
    simp only [Nat.zero_add] at x0
    have hk1:=hks.out k hlt
    generalize two12.getD k ⟨#[]⟩ = S at *
    cases e1:K k <;> cases e2:(S.toList == op.toList) <;> rw [e1,e2] at hk1 <;> replace hk1:Hid _:=hk1 <;> go_wp2 <;> (refine ⟨⟨k + 1,by omega,by go_num,by rw [hk1.out];rfl,trivial⟩,?_⟩;simp [intOf];omega)
  · obtain rfl:k = 12:=by omega
    have hki:¬ ((12:Nat):Int) < 12:=by omega
    rw [hkK.out,hkn]
    have hU:=fun W=>truU hR W
    go_wp2_with (first
    |(go_at_call 123;(with_reducible refine (hU _).mono ?_);rintro e w7 ⟨rfl,hq⟩;replace hB:=hB.trans (hq.mono hB.size);obtain ⟨a0,a1,b0,b1,r0,r1,rf0,rf1⟩:=cl8 ha hb hr hB))
    exact end_two (v:=R) rfl rfl (by omega) hb0.out hB hr
theorem rt_ne_1 (op:ByteArray) (a b:Vl) (hkn:kn op 12 = true) (n1:(a.kind == 2) = false) (n2:(b.kind == 2) = false) (e_and:(op.toList == [38,38]) = false) (e_or:(op.toList == [124,124]) = false) (e_eq:(op.toList == [61,61]) = false) (e_ne:(op.toList == [33,61]) = true) (k1:(a.kind == 3) = false) (k2:(b.kind == 3) = false) (q1:(a.kind == b.kind) = true) (q2:(a.n == b.n) = false) (w:World):Calls Tryz.prog 81 #[.string op,vlV a,vlV b] w fun e w'=>e = .returned (.tuple #[vlV (tru true),.bool true])∧Below w.heap.size w w':=by
 obtain ⟨R,hR⟩:∃ R,Hid (R = tru true):=⟨_,rfl⟩
 rw [← hR.out]
 obtain ⟨K,hb0,ha,hb,hr,hrow,hB,hks,hk0,hkK⟩:=pre2 w a b op
 obtain ⟨a0,a1,b0,b1,r0,r1,rf0,rf1⟩:=cl8 ha hb hr hB
 unfold vlV
 go_enter Tryz.func81,Tryz.ntmps81
 go_wp2
 generalize (wld3 w a b).alloc (row12) = W4 at *
 go_loopw [8,10] (fun z i wr=>∃ k:Nat,k ≤ 12∧i = .int .i64 k∧z = .bool (K k)∧wr = W4) (fun _ i _=>12 - (intOf i).toNat)
 case atStart=>exact ⟨0,Nat.zero_le _,rfl,by rw [hk0.out],rfl⟩
 case round =>
  obtain ⟨k,hk,rfl,rfl,rfl⟩:=hrel
  by_cases hlt:k < 12
  · have hki:(k:Int) < 12:=by omega
    obtain ⟨g,o,e,x0⟩:=tx_at hrow.out k hlt
    cases e
    simp only [Nat.zero_add] at x0
    have hk1:=hks.out k hlt
    generalize two12.getD k ⟨#[]⟩ = S at *
    cases e1:K k <;> cases e2:(S.toList == op.toList) <;> rw [e1,e2] at hk1 <;> replace hk1:Hid _:=hk1 <;> go_wp2 <;> (refine ⟨⟨k + 1,by omega,by go_num,by rw [hk1.out];rfl,trivial⟩,?_⟩;simp [intOf];omega)
  · obtain rfl:k = 12:=by omega
    have hki:¬ ((12:Nat):Int) < 12:=by omega
    rw [hkK.out,hkn]
    have hU:=fun W=>truU hR W
    go_wp2_with (first
    |(go_at_call 123;(with_reducible refine (hU _).mono ?_);rintro e w7 ⟨rfl,hq⟩;replace hB:=hB.trans (hq.mono hB.size);obtain ⟨a0,a1,b0,b1,r0,r1,rf0,rf1⟩:=cl8 ha hb hr hB))
    exact end_two (v:=R) rfl rfl (by omega) hb0.out hB hr
theorem rt_ne_2 (op:ByteArray) (a b:Vl) (hkn:kn op 12 = true) (n1:(a.kind == 2) = false) (n2:(b.kind == 2) = false) (e_and:(op.toList == [38,38]) = false) (e_or:(op.toList == [124,124]) = false) (e_eq:(op.toList == [61,61]) = false) (e_ne:(op.toList == [33,61]) = true) (k1:(a.kind == 3) = false) (k2:(b.kind == 3) = false) (q1:(a.kind == b.kind) = false) (w:World):Calls Tryz.prog 81 #[.string op,vlV a,vlV b] w fun e w'=>e = .returned (.tuple #[vlV (tru true),.bool true])∧Below w.heap.size w w':=by
 obtain ⟨R,hR⟩:∃ R,Hid (R = tru true):=⟨_,rfl⟩
 rw [← hR.out]
 obtain ⟨K,hb0,ha,hb,hr,hrow,hB,hks,hk0,hkK⟩:=pre2 w a b op
 obtain ⟨a0,a1,b0,b1,r0,r1,rf0,rf1⟩:=cl8 ha hb hr hB
 unfold vlV
 go_enter Tryz.func81,Tryz.ntmps81
 go_wp2
 generalize (wld3 w a b).alloc (row12) = W4 at *
 go_loopw [8,10] (fun z i wr=>∃ k:Nat,k ≤ 12∧i = .int .i64 k∧z = .bool (K k)∧wr = W4) (fun _ i _=>12 - (intOf i).toNat)
 case atStart=>exact ⟨0,Nat.zero_le _,rfl,by rw [hk0.out],rfl⟩
 case round =>
  obtain ⟨k,hk,rfl,rfl,rfl⟩:=hrel
  by_cases hlt:k < 12
  · have hki:(k:Int) < 12:=by omega
    obtain ⟨g,o,e,x0⟩:=tx_at hrow.out k hlt
    cases e
    simp only [Nat.zero_add] at x0
    have hk1:=hks.out k hlt
    generalize two12.getD k ⟨#[]⟩ = S at *
    cases e1:K k <;> cases e2:(S.toList == op.toList) <;> rw [e1,e2] at hk1 <;> replace hk1:Hid _:=hk1 <;> go_wp2 <;> (refine ⟨⟨k + 1,by omega,by go_num,by rw [hk1.out];rfl,trivial⟩,?_⟩;simp [intOf];omega)
  · obtain rfl:k = 12:=by omega
    have hki:¬ ((12:Nat):Int) < 12:=by omega
    rw [hkK.out,hkn]
    have hU:=fun W=>truU hR W
    go_wp2_with (first
    |(go_at_call 123;(with_reducible refine (hU _).mono ?_);rintro e w7 ⟨rfl,hq⟩;replace hB:=hB.trans (hq.mono hB.size);obtain ⟨a0,a1,b0,b1,r0,r1,rf0,rf1⟩:=cl8 ha hb hr hB))
    exact end_two (v:=R) rfl rfl (by omega) hb0.out hB hr
end Go.Proofs.YtdhlfpgibfaimaaGreatDoor
