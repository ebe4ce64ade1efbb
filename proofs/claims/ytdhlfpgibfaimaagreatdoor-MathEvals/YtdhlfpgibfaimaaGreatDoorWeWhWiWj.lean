/- WeWh;WiWj. -/
import Derived.Test.YtdhlfpgibfaimaaGreatDoorVoVpVw

set_option maxRecDepth 100000
set_option maxHeartbeats 2000000
set_option linter.unusedVariables false
namespace Go.Proofs.YtdhlfpgibfaimaaGreatDoor
open Go.RowKit
attribute [local go_sem ↓] Go.wp_at_zero Go.wp_at_succ
theorem knum_any (v : Vl) (w : World) : Calls Tryz.prog 124 #[vlV v] w fun e w'=>e = .returned (.bool (v.kind == 1))∧Below w.heap.size w w':=by
 have ha:=vlNew w v
 have hB : Below (w.alloc (vlO v)).heap.size (w.alloc (vlO v)) (w.alloc (vlO v)):=Below.refl _ _
 obtain ⟨a0,a1⟩:=ha.cells
 unfold vlV at *
 go_enter Tryz.func124,Tryz.ntmps124
 go_wp2
 go_ret
 exact ⟨rfl,(bW0 w _).trans (hB.mono (by simp))⟩
theorem rtrue_any (v : Vl) (w : World) : Calls Tryz.prog 125 #[vlV v] w fun e w'=>e = .returned (.bool (truB v))∧Below w.heap.size w w':=by
 have ha:=vlNew w v
 have hB : Below (w.alloc (vlO v)).heap.size (w.alloc (vlO v)) (w.alloc (vlO v)):=Below.refl _ _
 obtain ⟨a0,a1⟩:=ha.cells
 unfold truB
 cases h1 : (v.kind == 1) <;> cases h2 : (v.n != 0) <;> cases h3 : (v.kind == 3) <;> cases h4 : (v.kind == 4) <;> cases h5 : (v.kind == 5)
 all_goals
  unfold vlV at *
  go_enter Tryz.func125,Tryz.ntmps125
  go_wp2
  go_ret
  exact ⟨rfl,(bW0 w _).trans (hB.mono (by simp))⟩
theorem rsize_any (n : Int) (h1 : -1000000000000000 ≤ n) (h2 : n ≤ 1000000000000000) (w : World) : Calls Tryz.prog 162 #[.int .i64 n] w fun e w'=>e = .returned (.int .i64 (n.natAbs : Int))∧Below w.heap.size w w':=by
 by_cases h : n < 0
 · obtain ⟨N,hN⟩ : ∃ N : Int,Hid (N = (n.natAbs : Int)):=⟨_,rfl⟩
   have hw : IntKind.i64.wrap (-n) = N:=by rw [IntKind.wrap_i64];have:=hN.out;omega
   have e : -n = N:=by have:=hN.out;omega
   rw [← hN.out]
   go_enter Tryz.func162,Tryz.ntmps162
   go_wp2
   go_ret
   exact ⟨rfl,Below.refl _ _⟩
 · have e : (n.natAbs : Int) = n:=by omega
   rw [e]
   clear e
   go_enter Tryz.func162,Tryz.ntmps162
   go_wp2
   go_ret
   exact ⟨rfl,Below.refl _ _⟩
theorem rbeyond_any (s : Int) (w : World) : Calls Tryz.prog 161 #[.int .i64 s] w fun e w'=>e = .returned (vlV (byd s))∧Below w.heap.size w w':=by
 have hr:=vlNew w zer
 have hB : Below (w.alloc (vlO zer)).heap.size (w.alloc (vlO zer)) (w.alloc (vlO zer)):=Below.refl _ _
 have hp:=fun W=>rplus_b W
 have hm:=fun W=>rminus_b W
 have hn:=fun W=>rnan_b W
 unfold vlV at hp hm hn
 by_cases h1 : 0 < s
 · have e : byd s = pls:=by rw [byd,if_pos h1]
   rw [e];clear e
   go_enter Tryz.func161,Tryz.ntmps161
   go_wp2_with (first | (go_at_call 56;with_reducible refine (hp _).mono ?_;rintro e w2 ⟨rfl,hb2⟩;replace hB:=hB.trans (hb2.mono hB.size);obtain ⟨r0,r1⟩:=(hr.grow hB).cells;obtain ⟨rf0,rf1⟩:=(hr.grow hB).frozen))
   exact end_set Tryz.results161 rfl (Nat.le_refl _) (bW0 w _) hB hr
 · by_cases h2 : s < 0
   · have e : byd s = mns:=by rw [byd,if_neg h1,if_pos h2]
     rw [e];clear e
     go_enter Tryz.func161,Tryz.ntmps161
     go_wp2_with (first | (go_at_call 57;with_reducible refine (hm _).mono ?_;rintro e w2 ⟨rfl,hb2⟩;replace hB:=hB.trans (hb2.mono hB.size);obtain ⟨r0,r1⟩:=(hr.grow hB).cells;obtain ⟨rf0,rf1⟩:=(hr.grow hB).frozen))
     exact end_set Tryz.results161 rfl (Nat.le_refl _) (bW0 w _) hB hr
   · have e : byd s = nan:=by rw [byd,if_neg h1,if_neg h2]
     rw [e];clear e
     go_enter Tryz.func161,Tryz.ntmps161
     go_wp2_with (first | (go_at_call 130;with_reducible refine (hn _).mono ?_;rintro e w2 ⟨rfl,hb2⟩;replace hB:=hB.trans (hb2.mono hB.size);obtain ⟨r0,r1⟩:=(hr.grow hB).cells;obtain ⟨rf0,rf1⟩:=(hr.grow hB).frozen))
     exact end_set Tryz.results161 rfl (Nat.le_refl _) (bW0 w _) hB hr
theorem rsign_any (v : Vl) (w : World) : Calls Tryz.prog 126 #[vlV v] w fun e w'=>e = .returned (.int .i64 (sgn v))∧Below w.heap.size w w':=by
 have ha:=vlNew w v
 have hB : Below (w.alloc (vlO v)).heap.size (w.alloc (vlO v)) (w.alloc (vlO v)):=Below.refl _ _
 obtain ⟨a0,a1⟩:=ha.cells
 by_cases h4 : v.kind = 4
 · have e : sgn v = 1:=by rw [sgn,if_pos (.inl h4)]
   have b4 : (v.kind == 4) = true:=by simpa using h4
   rw [e];clear e h4
   unfold vlV at *
   go_enter Tryz.func126,Tryz.ntmps126
   go_wp2
   go_ret
   exact ⟨rfl,(bW0 w _).trans (hB.mono (by simp))⟩
 · have b4 : (v.kind == 4) = false:=by simpa using h4
   by_cases h1 : 0 < v.n
   · have e : sgn v = 1:=by rw [sgn,if_pos (.inr h1)]
     rw [e];clear e h4
     unfold vlV at *
     go_enter Tryz.func126,Tryz.ntmps126
     go_wp2
     go_ret
     exact ⟨rfl,(bW0 w _).trans (hB.mono (by simp))⟩
   · by_cases h5 : v.kind = 5
     · have e : sgn v = -1:=by rw [sgn,if_neg (by intro h;rcases h with h | h;exact h4 h;exact h1 h),if_pos (.inl h5)]
       have b5 : (v.kind == 5) = true:=by simpa using h5
       rw [e];clear e h4 h5
       unfold vlV at *
       go_enter Tryz.func126,Tryz.ntmps126
       go_wp2
       go_ret
       exact ⟨rfl,(bW0 w _).trans (hB.mono (by simp))⟩
     · have b5 : (v.kind == 5) = false:=by simpa using h5
       by_cases h0 : v.n < 0
       · have e : sgn v = -1:=by rw [sgn,if_neg (by intro h;rcases h with h | h;exact h4 h;exact h1 h),if_pos (.inr h0)]
         rw [e];clear e h4 h5
         unfold vlV at *
         go_enter Tryz.func126,Tryz.ntmps126
         go_wp2
         go_ret
         exact ⟨rfl,(bW0 w _).trans (hB.mono (by simp))⟩
       · have e : sgn v = 0:=by rw [sgn,if_neg (by intro h;rcases h with h | h;exact h4 h;exact h1 h),if_neg (by intro h;rcases h with h | h;exact h5 h;exact h0 h)]
         rw [e];clear e h4 h5
         unfold vlV at *
         go_enter Tryz.func126,Tryz.ntmps126
         go_wp2
         go_ret
         exact ⟨rfl,(bW0 w _).trans (hB.mono (by simp))⟩
end Go.Proofs.YtdhlfpgibfaimaaGreatDoor
namespace Go.Proofs.YtdhlfpgibfaimaaGreatDoor
open Go.RowKit
attribute [local go_sem ↓] Go.wp_at_zero Go.wp_at_succ
theorem radd_any (a b : Vl) (hva : IsV a) (hvb : IsV b) (oa : Ordy a) (ob : Ordy b) (w : World) : Calls Tryz.prog 131 #[vlV a,vlV b] w fun e w'=>e = .returned (vlV (add a b))∧Below w.heap.size w w':=by
 obtain ⟨ha,hb,hr⟩:=pW2 w a b
 have hB : Below (W2 w a b).heap.size (W2 w a b) (W2 w a b):=Below.refl _ _
 have hia:=fun W=>knum_any a W
 have hib:=fun W=>knum_any b W
 rcases ordy_cases hva oa with ⟨n,rfl,h1,h2⟩ | rfl | rfl <;> rcases ordy_cases hvb ob with ⟨m,rfl,h3,h4⟩ | rfl | rfl <;> clear hva hvb oa ob
 · have e : add ⟨1,n⟩ ⟨1,m⟩ = num (n + m):=by simp [add]
   rw [e];clear e
   unfold vlV at hia hib ⊢
   go_enter Tryz.func131,Tryz.ntmps131
   go_wp2_with (first | (go_at_call 124;with_reducible refine (hia _).mono ?_;rintro e w2 ⟨rfl,hb2⟩;replace hB:=hB.trans (hb2.mono hB.size);obtain ⟨a0,a1,b0,b1,r0,r1,rf0,rf1⟩:=cl8 ha hb hr hB) | (go_at_call 124;with_reducible refine (hib _).mono ?_;rintro e w2 ⟨rfl,hb2⟩;replace hB:=hB.trans (hb2.mono hB.size);obtain ⟨a0,a1,b0,b1,r0,r1,rf0,rf1⟩:=cl8 ha hb hr hB) | (go_at_call 26;refine (rnum_any _ _).mono ?_;rintro e w2 ⟨rfl,hb2⟩;replace hB:=hB.trans (hb2.mono hB.size);obtain ⟨a0,a1,b0,b1,r0,r1,rf0,rf1⟩:=cl8 ha hb hr hB;unfold vlV) | (go_at_call 130;refine (rnan_b _).mono ?_;rintro e w2 ⟨rfl,hb2⟩;replace hB:=hB.trans (hb2.mono hB.size);obtain ⟨a0,a1,b0,b1,r0,r1,rf0,rf1⟩:=cl8 ha hb hr hB;unfold vlV))
   exact end_set (v:=num (n + m)) Tryz.results131 rfl (by omega) (bW2 w _ _) hB hr
 · have e : add ⟨1,n⟩ pls = pls:=by simp [add,pls]
   rw [e];clear e
   unfold vlV at hia hib ⊢
   go_enter Tryz.func131,Tryz.ntmps131
   go_wp2_with (first | (go_at_call 124;with_reducible refine (hia _).mono ?_;rintro e w2 ⟨rfl,hb2⟩;replace hB:=hB.trans (hb2.mono hB.size);obtain ⟨a0,a1,b0,b1,r0,r1,rf0,rf1⟩:=cl8 ha hb hr hB) | (go_at_call 124;with_reducible refine (hib _).mono ?_;rintro e w2 ⟨rfl,hb2⟩;replace hB:=hB.trans (hb2.mono hB.size);obtain ⟨a0,a1,b0,b1,r0,r1,rf0,rf1⟩:=cl8 ha hb hr hB) | (go_at_call 26;refine (rnum_any _ _).mono ?_;rintro e w2 ⟨rfl,hb2⟩;replace hB:=hB.trans (hb2.mono hB.size);obtain ⟨a0,a1,b0,b1,r0,r1,rf0,rf1⟩:=cl8 ha hb hr hB;unfold vlV) | (go_at_call 130;refine (rnan_b _).mono ?_;rintro e w2 ⟨rfl,hb2⟩;replace hB:=hB.trans (hb2.mono hB.size);obtain ⟨a0,a1,b0,b1,r0,r1,rf0,rf1⟩:=cl8 ha hb hr hB;unfold vlV))
   exact end_set (v:=pls) Tryz.results131 rfl (by omega) (bW2 w _ _) hB hr
 · have e : add ⟨1,n⟩ mns = mns:=by simp [add,mns]
   rw [e];clear e
   unfold vlV at hia hib ⊢
   go_enter Tryz.func131,Tryz.ntmps131
   go_wp2_with (first | (go_at_call 124;with_reducible refine (hia _).mono ?_;rintro e w2 ⟨rfl,hb2⟩;replace hB:=hB.trans (hb2.mono hB.size);obtain ⟨a0,a1,b0,b1,r0,r1,rf0,rf1⟩:=cl8 ha hb hr hB) | (go_at_call 124;with_reducible refine (hib _).mono ?_;rintro e w2 ⟨rfl,hb2⟩;replace hB:=hB.trans (hb2.mono hB.size);obtain ⟨a0,a1,b0,b1,r0,r1,rf0,rf1⟩:=cl8 ha hb hr hB) | (go_at_call 26;refine (rnum_any _ _).mono ?_;rintro e w2 ⟨rfl,hb2⟩;replace hB:=hB.trans (hb2.mono hB.size);obtain ⟨a0,a1,b0,b1,r0,r1,rf0,rf1⟩:=cl8 ha hb hr hB;unfold vlV) | (go_at_call 130;refine (rnan_b _).mono ?_;rintro e w2 ⟨rfl,hb2⟩;replace hB:=hB.trans (hb2.mono hB.size);obtain ⟨a0,a1,b0,b1,r0,r1,rf0,rf1⟩:=cl8 ha hb hr hB;unfold vlV))
   exact end_set (v:=mns) Tryz.results131 rfl (by omega) (bW2 w _ _) hB hr
 · have e : add pls ⟨1,m⟩ = pls:=by simp [add,pls]
   rw [e];clear e
   unfold vlV at hia hib ⊢
   go_enter Tryz.func131,Tryz.ntmps131
   go_wp2_with (first | (go_at_call 124;with_reducible refine (hia _).mono ?_;rintro e w2 ⟨rfl,hb2⟩;replace hB:=hB.trans (hb2.mono hB.size);obtain ⟨a0,a1,b0,b1,r0,r1,rf0,rf1⟩:=cl8 ha hb hr hB) | (go_at_call 124;with_reducible refine (hib _).mono ?_;rintro e w2 ⟨rfl,hb2⟩;replace hB:=hB.trans (hb2.mono hB.size);obtain ⟨a0,a1,b0,b1,r0,r1,rf0,rf1⟩:=cl8 ha hb hr hB) | (go_at_call 26;refine (rnum_any _ _).mono ?_;rintro e w2 ⟨rfl,hb2⟩;replace hB:=hB.trans (hb2.mono hB.size);obtain ⟨a0,a1,b0,b1,r0,r1,rf0,rf1⟩:=cl8 ha hb hr hB;unfold vlV) | (go_at_call 130;refine (rnan_b _).mono ?_;rintro e w2 ⟨rfl,hb2⟩;replace hB:=hB.trans (hb2.mono hB.size);obtain ⟨a0,a1,b0,b1,r0,r1,rf0,rf1⟩:=cl8 ha hb hr hB;unfold vlV))
   exact end_set (v:=pls) Tryz.results131 rfl (by omega) (bW2 w _ _) hB hr
 · have e : add pls pls = pls:=by simp [add,pls]
   rw [e];clear e
   unfold vlV at hia hib ⊢
   go_enter Tryz.func131,Tryz.ntmps131
   go_wp2_with (first | (go_at_call 124;with_reducible refine (hia _).mono ?_;rintro e w2 ⟨rfl,hb2⟩;replace hB:=hB.trans (hb2.mono hB.size);obtain ⟨a0,a1,b0,b1,r0,r1,rf0,rf1⟩:=cl8 ha hb hr hB) | (go_at_call 124;with_reducible refine (hib _).mono ?_;rintro e w2 ⟨rfl,hb2⟩;replace hB:=hB.trans (hb2.mono hB.size);obtain ⟨a0,a1,b0,b1,r0,r1,rf0,rf1⟩:=cl8 ha hb hr hB) | (go_at_call 26;refine (rnum_any _ _).mono ?_;rintro e w2 ⟨rfl,hb2⟩;replace hB:=hB.trans (hb2.mono hB.size);obtain ⟨a0,a1,b0,b1,r0,r1,rf0,rf1⟩:=cl8 ha hb hr hB;unfold vlV) | (go_at_call 130;refine (rnan_b _).mono ?_;rintro e w2 ⟨rfl,hb2⟩;replace hB:=hB.trans (hb2.mono hB.size);obtain ⟨a0,a1,b0,b1,r0,r1,rf0,rf1⟩:=cl8 ha hb hr hB;unfold vlV))
   exact end_set (v:=pls) Tryz.results131 rfl (by omega) (bW2 w _ _) hB hr
 · have e : add pls mns = nan:=by simp [add,pls,mns]
   rw [e];clear e
   unfold vlV at hia hib ⊢
   go_enter Tryz.func131,Tryz.ntmps131
   go_wp2_with (first | (go_at_call 124;with_reducible refine (hia _).mono ?_;rintro e w2 ⟨rfl,hb2⟩;replace hB:=hB.trans (hb2.mono hB.size);obtain ⟨a0,a1,b0,b1,r0,r1,rf0,rf1⟩:=cl8 ha hb hr hB) | (go_at_call 124;with_reducible refine (hib _).mono ?_;rintro e w2 ⟨rfl,hb2⟩;replace hB:=hB.trans (hb2.mono hB.size);obtain ⟨a0,a1,b0,b1,r0,r1,rf0,rf1⟩:=cl8 ha hb hr hB) | (go_at_call 26;refine (rnum_any _ _).mono ?_;rintro e w2 ⟨rfl,hb2⟩;replace hB:=hB.trans (hb2.mono hB.size);obtain ⟨a0,a1,b0,b1,r0,r1,rf0,rf1⟩:=cl8 ha hb hr hB;unfold vlV) | (go_at_call 130;refine (rnan_b _).mono ?_;rintro e w2 ⟨rfl,hb2⟩;replace hB:=hB.trans (hb2.mono hB.size);obtain ⟨a0,a1,b0,b1,r0,r1,rf0,rf1⟩:=cl8 ha hb hr hB;unfold vlV))
   exact end_set (v:=nan) Tryz.results131 rfl (by omega) (bW2 w _ _) hB hr
 · have e : add mns ⟨1,m⟩ = mns:=by simp [add,mns]
   rw [e];clear e
   unfold vlV at hia hib ⊢
   go_enter Tryz.func131,Tryz.ntmps131
   go_wp2_with (first | (go_at_call 124;with_reducible refine (hia _).mono ?_;rintro e w2 ⟨rfl,hb2⟩;replace hB:=hB.trans (hb2.mono hB.size);obtain ⟨a0,a1,b0,b1,r0,r1,rf0,rf1⟩:=cl8 ha hb hr hB) | (go_at_call 124;with_reducible refine (hib _).mono ?_;rintro e w2 ⟨rfl,hb2⟩;replace hB:=hB.trans (hb2.mono hB.size);obtain ⟨a0,a1,b0,b1,r0,r1,rf0,rf1⟩:=cl8 ha hb hr hB) | (go_at_call 26;refine (rnum_any _ _).mono ?_;rintro e w2 ⟨rfl,hb2⟩;replace hB:=hB.trans (hb2.mono hB.size);obtain ⟨a0,a1,b0,b1,r0,r1,rf0,rf1⟩:=cl8 ha hb hr hB;unfold vlV) | (go_at_call 130;refine (rnan_b _).mono ?_;rintro e w2 ⟨rfl,hb2⟩;replace hB:=hB.trans (hb2.mono hB.size);obtain ⟨a0,a1,b0,b1,r0,r1,rf0,rf1⟩:=cl8 ha hb hr hB;unfold vlV))
   exact end_set (v:=mns) Tryz.results131 rfl (by omega) (bW2 w _ _) hB hr
 · have e : add mns pls = nan:=by simp [add,pls,mns]
   rw [e];clear e
   unfold vlV at hia hib ⊢
   go_enter Tryz.func131,Tryz.ntmps131
   go_wp2_with (first | (go_at_call 124;with_reducible refine (hia _).mono ?_;rintro e w2 ⟨rfl,hb2⟩;replace hB:=hB.trans (hb2.mono hB.size);obtain ⟨a0,a1,b0,b1,r0,r1,rf0,rf1⟩:=cl8 ha hb hr hB) | (go_at_call 124;with_reducible refine (hib _).mono ?_;rintro e w2 ⟨rfl,hb2⟩;replace hB:=hB.trans (hb2.mono hB.size);obtain ⟨a0,a1,b0,b1,r0,r1,rf0,rf1⟩:=cl8 ha hb hr hB) | (go_at_call 26;refine (rnum_any _ _).mono ?_;rintro e w2 ⟨rfl,hb2⟩;replace hB:=hB.trans (hb2.mono hB.size);obtain ⟨a0,a1,b0,b1,r0,r1,rf0,rf1⟩:=cl8 ha hb hr hB;unfold vlV) | (go_at_call 130;refine (rnan_b _).mono ?_;rintro e w2 ⟨rfl,hb2⟩;replace hB:=hB.trans (hb2.mono hB.size);obtain ⟨a0,a1,b0,b1,r0,r1,rf0,rf1⟩:=cl8 ha hb hr hB;unfold vlV))
   exact end_set (v:=nan) Tryz.results131 rfl (by omega) (bW2 w _ _) hB hr
 · have e : add mns mns = mns:=by simp [add,mns]
   rw [e];clear e
   unfold vlV at hia hib ⊢
   go_enter Tryz.func131,Tryz.ntmps131
   go_wp2_with (first | (go_at_call 124;with_reducible refine (hia _).mono ?_;rintro e w2 ⟨rfl,hb2⟩;replace hB:=hB.trans (hb2.mono hB.size);obtain ⟨a0,a1,b0,b1,r0,r1,rf0,rf1⟩:=cl8 ha hb hr hB) | (go_at_call 124;with_reducible refine (hib _).mono ?_;rintro e w2 ⟨rfl,hb2⟩;replace hB:=hB.trans (hb2.mono hB.size);obtain ⟨a0,a1,b0,b1,r0,r1,rf0,rf1⟩:=cl8 ha hb hr hB) | (go_at_call 26;refine (rnum_any _ _).mono ?_;rintro e w2 ⟨rfl,hb2⟩;replace hB:=hB.trans (hb2.mono hB.size);obtain ⟨a0,a1,b0,b1,r0,r1,rf0,rf1⟩:=cl8 ha hb hr hB;unfold vlV) | (go_at_call 130;refine (rnan_b _).mono ?_;rintro e w2 ⟨rfl,hb2⟩;replace hB:=hB.trans (hb2.mono hB.size);obtain ⟨a0,a1,b0,b1,r0,r1,rf0,rf1⟩:=cl8 ha hb hr hB;unfold vlV))
   exact end_set (v:=mns) Tryz.results131 rfl (by omega) (bW2 w _ _) hB hr
theorem rless_any (a b : Vl) (hva : IsV a) (hvb : IsV b) (oa : Ordy a) (ob : Ordy b) (w : World) : Calls Tryz.prog 129 #[vlV a,vlV b] w fun e w'=>e = .returned (.bool (lessB a b))∧Below w.heap.size w w':=by
 have ha : VlAt ((w.alloc (vlO a)).alloc (vlO b)) w.heap.size a:=(vlNew w a).alloc _
 have hb : VlAt ((w.alloc (vlO a)).alloc (vlO b)) (w.heap.size + 1) b:=vlNew1 w _ b
 have hO : Below w.heap.size w ((w.alloc (vlO a)).alloc (vlO b)):=below2 w _ _
 have hB : Below ((w.alloc (vlO a)).alloc (vlO b)).heap.size ((w.alloc (vlO a)).alloc (vlO b)) ((w.alloc (vlO a)).alloc (vlO b)):=Below.refl _ _
 have hia:=fun W=>knum_any a W
 have hib:=fun W=>knum_any b W
 rcases ordy_cases hva oa with ⟨n,rfl,h1,h2⟩ | rfl | rfl <;> rcases ordy_cases hvb ob with ⟨m,rfl,h3,h4⟩ | rfl | rfl <;> clear hva hvb oa ob
 · have e : lessB ⟨1,n⟩ ⟨1,m⟩ = decide (n < m):=by simp [lessB]
   rw [e];clear e
   unfold vlV at hia hib ⊢
   go_enter Tryz.func129,Tryz.ntmps129
   go_wp2_with (first | (go_at_call 124;with_reducible refine (hia _).mono ?_;rintro e w2 ⟨rfl,hb2⟩;replace hB:=hB.trans (hb2.mono hB.size);obtain ⟨a0,a1⟩:=(ha.grow hB).cells;obtain ⟨b0,b1⟩:=(hb.grow hB).cells) | (go_at_call 124;with_reducible refine (hib _).mono ?_;rintro e w2 ⟨rfl,hb2⟩;replace hB:=hB.trans (hb2.mono hB.size);obtain ⟨a0,a1⟩:=(ha.grow hB).cells;obtain ⟨b0,b1⟩:=(hb.grow hB).cells))
   go_ret
   exact ⟨rfl,hO.trans (hB.mono hO.size)⟩
 · have e : lessB ⟨1,n⟩ pls = true:=by simp [lessB,pls]
   rw [e];clear e
   unfold vlV at hia hib ⊢
   go_enter Tryz.func129,Tryz.ntmps129
   go_wp2_with (first | (go_at_call 124;with_reducible refine (hia _).mono ?_;rintro e w2 ⟨rfl,hb2⟩;replace hB:=hB.trans (hb2.mono hB.size);obtain ⟨a0,a1⟩:=(ha.grow hB).cells;obtain ⟨b0,b1⟩:=(hb.grow hB).cells) | (go_at_call 124;with_reducible refine (hib _).mono ?_;rintro e w2 ⟨rfl,hb2⟩;replace hB:=hB.trans (hb2.mono hB.size);obtain ⟨a0,a1⟩:=(ha.grow hB).cells;obtain ⟨b0,b1⟩:=(hb.grow hB).cells))
   go_ret
   exact ⟨rfl,hO.trans (hB.mono hO.size)⟩
 · have e : lessB ⟨1,n⟩ mns = false:=by simp [lessB,mns]
   rw [e];clear e
   unfold vlV at hia hib ⊢
   go_enter Tryz.func129,Tryz.ntmps129
   go_wp2_with (first | (go_at_call 124;with_reducible refine (hia _).mono ?_;rintro e w2 ⟨rfl,hb2⟩;replace hB:=hB.trans (hb2.mono hB.size);obtain ⟨a0,a1⟩:=(ha.grow hB).cells;obtain ⟨b0,b1⟩:=(hb.grow hB).cells) | (go_at_call 124;with_reducible refine (hib _).mono ?_;rintro e w2 ⟨rfl,hb2⟩;replace hB:=hB.trans (hb2.mono hB.size);obtain ⟨a0,a1⟩:=(ha.grow hB).cells;obtain ⟨b0,b1⟩:=(hb.grow hB).cells))
   go_ret
   exact ⟨rfl,hO.trans (hB.mono hO.size)⟩
 · have e : lessB pls ⟨1,m⟩ = false:=by simp [lessB,pls]
   rw [e];clear e
   unfold vlV at hia hib ⊢
   go_enter Tryz.func129,Tryz.ntmps129
   go_wp2_with (first | (go_at_call 124;with_reducible refine (hia _).mono ?_;rintro e w2 ⟨rfl,hb2⟩;replace hB:=hB.trans (hb2.mono hB.size);obtain ⟨a0,a1⟩:=(ha.grow hB).cells;obtain ⟨b0,b1⟩:=(hb.grow hB).cells) | (go_at_call 124;with_reducible refine (hib _).mono ?_;rintro e w2 ⟨rfl,hb2⟩;replace hB:=hB.trans (hb2.mono hB.size);obtain ⟨a0,a1⟩:=(ha.grow hB).cells;obtain ⟨b0,b1⟩:=(hb.grow hB).cells))
   go_ret
   exact ⟨rfl,hO.trans (hB.mono hO.size)⟩
 · have e : lessB pls pls = false:=by simp [lessB,pls]
   rw [e];clear e
   unfold vlV at hia hib ⊢
   go_enter Tryz.func129,Tryz.ntmps129
   go_wp2_with (first | (go_at_call 124;with_reducible refine (hia _).mono ?_;rintro e w2 ⟨rfl,hb2⟩;replace hB:=hB.trans (hb2.mono hB.size);obtain ⟨a0,a1⟩:=(ha.grow hB).cells;obtain ⟨b0,b1⟩:=(hb.grow hB).cells) | (go_at_call 124;with_reducible refine (hib _).mono ?_;rintro e w2 ⟨rfl,hb2⟩;replace hB:=hB.trans (hb2.mono hB.size);obtain ⟨a0,a1⟩:=(ha.grow hB).cells;obtain ⟨b0,b1⟩:=(hb.grow hB).cells))
   go_ret
   exact ⟨rfl,hO.trans (hB.mono hO.size)⟩
 · have e : lessB pls mns = false:=by simp [lessB,pls,mns]
   rw [e];clear e
   unfold vlV at hia hib ⊢
   go_enter Tryz.func129,Tryz.ntmps129
   go_wp2_with (first | (go_at_call 124;with_reducible refine (hia _).mono ?_;rintro e w2 ⟨rfl,hb2⟩;replace hB:=hB.trans (hb2.mono hB.size);obtain ⟨a0,a1⟩:=(ha.grow hB).cells;obtain ⟨b0,b1⟩:=(hb.grow hB).cells) | (go_at_call 124;with_reducible refine (hib _).mono ?_;rintro e w2 ⟨rfl,hb2⟩;replace hB:=hB.trans (hb2.mono hB.size);obtain ⟨a0,a1⟩:=(ha.grow hB).cells;obtain ⟨b0,b1⟩:=(hb.grow hB).cells))
   go_ret
   exact ⟨rfl,hO.trans (hB.mono hO.size)⟩
 · have e : lessB mns ⟨1,m⟩ = true:=by simp [lessB,mns]
   rw [e];clear e
   unfold vlV at hia hib ⊢
   go_enter Tryz.func129,Tryz.ntmps129
   go_wp2_with (first | (go_at_call 124;with_reducible refine (hia _).mono ?_;rintro e w2 ⟨rfl,hb2⟩;replace hB:=hB.trans (hb2.mono hB.size);obtain ⟨a0,a1⟩:=(ha.grow hB).cells;obtain ⟨b0,b1⟩:=(hb.grow hB).cells) | (go_at_call 124;with_reducible refine (hib _).mono ?_;rintro e w2 ⟨rfl,hb2⟩;replace hB:=hB.trans (hb2.mono hB.size);obtain ⟨a0,a1⟩:=(ha.grow hB).cells;obtain ⟨b0,b1⟩:=(hb.grow hB).cells))
   go_ret
   exact ⟨rfl,hO.trans (hB.mono hO.size)⟩
 · have e : lessB mns pls = true:=by simp [lessB,pls,mns]
   rw [e];clear e
   unfold vlV at hia hib ⊢
   go_enter Tryz.func129,Tryz.ntmps129
   go_wp2_with (first | (go_at_call 124;with_reducible refine (hia _).mono ?_;rintro e w2 ⟨rfl,hb2⟩;replace hB:=hB.trans (hb2.mono hB.size);obtain ⟨a0,a1⟩:=(ha.grow hB).cells;obtain ⟨b0,b1⟩:=(hb.grow hB).cells) | (go_at_call 124;with_reducible refine (hib _).mono ?_;rintro e w2 ⟨rfl,hb2⟩;replace hB:=hB.trans (hb2.mono hB.size);obtain ⟨a0,a1⟩:=(ha.grow hB).cells;obtain ⟨b0,b1⟩:=(hb.grow hB).cells))
   go_ret
   exact ⟨rfl,hO.trans (hB.mono hO.size)⟩
 · have e : lessB mns mns = false:=by simp [lessB,mns]
   rw [e];clear e
   unfold vlV at hia hib ⊢
   go_enter Tryz.func129,Tryz.ntmps129
   go_wp2_with (first | (go_at_call 124;with_reducible refine (hia _).mono ?_;rintro e w2 ⟨rfl,hb2⟩;replace hB:=hB.trans (hb2.mono hB.size);obtain ⟨a0,a1⟩:=(ha.grow hB).cells;obtain ⟨b0,b1⟩:=(hb.grow hB).cells) | (go_at_call 124;with_reducible refine (hib _).mono ?_;rintro e w2 ⟨rfl,hb2⟩;replace hB:=hB.trans (hb2.mono hB.size);obtain ⟨a0,a1⟩:=(ha.grow hB).cells;obtain ⟨b0,b1⟩:=(hb.grow hB).cells))
   go_ret
   exact ⟨rfl,hO.trans (hB.mono hO.size)⟩
end Go.Proofs.YtdhlfpgibfaimaaGreatDoor
namespace Go.Proofs.YtdhlfpgibfaimaaGreatDoor
open Go.RowKit
attribute [local go_sem ↓] Go.wp_at_zero Go.wp_at_succ
theorem rturned_any (v : Vl) (hv : IsV v) (w : World) : Calls Tryz.prog 127 #[vlV v] w fun e w'=>e = .returned (vlV (neg v))∧Below w.heap.size w w':=by
 obtain ⟨ha,hr⟩:=pW1 w v
 have hB : Below (W1 w v).heap.size (W1 w v) (W1 w v):=Below.refl _ _
 rcases hv.cases with ⟨n,rfl,h1,h2⟩ | rfl | rfl | rfl | rfl
 · have e : neg ⟨1,n⟩ = ⟨1,-n⟩:=by simp [neg]
   have hw : IntKind.i64.wrap (-n) = -n:=by rw [IntKind.wrap_i64];omega
   rw [e];clear e
   unfold vlV
   go_enter Tryz.func127,Tryz.ntmps127
   go_wp2
   exact ret_cell Tryz.results127 rfl (vlNew1 w _ ⟨1,-n⟩) ⟨rfl,(bW0 w _).alloc (by simp) _⟩
 · unfold vlV
   go_enter Tryz.func127,Tryz.ntmps127
   go_wp2
   have e : (⟨nul.kind,wrap64 (-nul.n)⟩ : Vl) = neg nul:=by decide +kernel
   exact ret_cell (v:=⟨nul.kind,wrap64 (-nul.n)⟩) Tryz.results127 rfl (vlNew1 w _ ⟨nul.kind,wrap64 (-nul.n)⟩) ⟨by rw [e];rfl,(bW0 w _).alloc (by simp) _⟩
 · unfold vlV
   go_enter Tryz.func127,Tryz.ntmps127
   go_wp2
   have e : (⟨nan.kind,wrap64 (-nan.n)⟩ : Vl) = neg nan:=by decide +kernel
   exact ret_cell (v:=⟨nan.kind,wrap64 (-nan.n)⟩) Tryz.results127 rfl (vlNew1 w _ ⟨nan.kind,wrap64 (-nan.n)⟩) ⟨by rw [e];rfl,(bW0 w _).alloc (by simp) _⟩
 · unfold vlV
   go_enter Tryz.func127,Tryz.ntmps127
   go_wp2_with (first | (go_at_call 57;refine (rminus_b _).mono ?_;rintro e w2 ⟨rfl,hb2⟩;replace hB:=hB.trans (hb2.mono hB.size);obtain ⟨a0,a1⟩:=(ha.grow hB).cells;obtain ⟨af0,af1⟩:=(ha.grow hB).frozen;obtain ⟨r0,r1⟩:=(hr.grow hB).cells;obtain ⟨rf0,rf1⟩:=(hr.grow hB).frozen;unfold vlV))
   exact end_set (v:=mns) Tryz.results127 rfl (by omega) (bW1 w _) hB hr
 · unfold vlV
   go_enter Tryz.func127,Tryz.ntmps127
   go_wp2_with (first | (go_at_call 56;refine (rplus_b _).mono ?_;rintro e w2 ⟨rfl,hb2⟩;replace hB:=hB.trans (hb2.mono hB.size);obtain ⟨a0,a1⟩:=(ha.grow hB).cells;obtain ⟨af0,af1⟩:=(ha.grow hB).frozen;obtain ⟨r0,r1⟩:=(hr.grow hB).cells;obtain ⟨rf0,rf1⟩:=(hr.grow hB).frozen;unfold vlV))
   exact end_set (v:=pls) Tryz.results127 rfl (by omega) (bW1 w _) hB hr
end Go.Proofs.YtdhlfpgibfaimaaGreatDoor
namespace Go.Proofs.YtdhlfpgibfaimaaGreatDoor
set_option linter.unusedSimpArgs false
open Go.RowKit
attribute [local go_sem ↓] Go.wp_at_zero Go.wp_at_succ
theorem rover_any (a b : Vl) (hva : IsV a) (hvb : IsV b) (oa : Ordy a) (ob : Ordy b) (w : World) : Calls Tryz.prog 133 #[vlV a,vlV b] w fun e w'=>e = .returned (vlV (dvd a b))∧Below w.heap.size w w':=by
 obtain ⟨ha,hb,hr⟩:=pW2 w a b
 have hB : Below (W2 w a b).heap.size (W2 w a b) (W2 w a b):=Below.refl _ _
 have hia:=fun W=>knum_any a W
 have hib:=fun W=>knum_any b W
 have hsg:=fun W=>rsign_any a W
 have hby:=fun W=>rbeyond_any (sgn a) W
 have htu:=fun W=>rturned_any a hva W
 have hn0:=fun W=>rnum_any 0 W
 have e0 : num 0 = ⟨1,0⟩:=rfl
 rw [e0] at hn0
 clear e0
 rcases ordy_cases hva oa with ⟨n,rfl,h1,h2⟩ | rfl | rfl <;> rcases ordy_cases hvb ob with ⟨m,rfl,h3,h4⟩ | rfl | rfl <;> clear hva hvb oa ob
 · by_cases hm : m = 0
   · subst hm
     have e : dvd ⟨1,n⟩ ⟨1,0⟩ = byd (sgn ⟨1,n⟩):=by simp [dvd]
     rw [e];clear e htu hn0
     generalize sgn ⟨1,n⟩ = s at *
     generalize byd s = V at *
     unfold vlV at *
     go_enter Tryz.func133,Tryz.ntmps133
     go_wp2_with (first | (go_at_call 124;with_reducible refine (hia _).mono ?_;rintro e w2 ⟨rfl,hb2⟩;replace hB:=hB.trans (hb2.mono hB.size);obtain ⟨a0,a1,b0,b1,r0,r1,rf0,rf1⟩:=cl8 ha hb hr hB) | (go_at_call 124;with_reducible refine (hib _).mono ?_;rintro e w2 ⟨rfl,hb2⟩;replace hB:=hB.trans (hb2.mono hB.size);obtain ⟨a0,a1,b0,b1,r0,r1,rf0,rf1⟩:=cl8 ha hb hr hB) | (go_at_call 126;with_reducible refine (hsg _).mono ?_;rintro e w2 ⟨rfl,hb2⟩;replace hB:=hB.trans (hb2.mono hB.size);obtain ⟨a0,a1,b0,b1,r0,r1,rf0,rf1⟩:=cl8 ha hb hr hB) | (go_at_call 161;with_reducible refine (hby _).mono ?_;rintro e w2 ⟨rfl,hb2⟩;replace hB:=hB.trans (hb2.mono hB.size);obtain ⟨a0,a1,b0,b1,r0,r1,rf0,rf1⟩:=cl8 ha hb hr hB))
     exact end_set (v:=V) Tryz.results133 rfl (by omega) (bW2 w _ _) hB hr
   · have e : dvd ⟨1,n⟩ ⟨1,m⟩ = num (Int.tdiv (n * 1000) m):=by simp [dvd,hm]
     rw [e];clear e htu hn0 hsg hby
     have bm : (m == 0) = false:=by simpa using hm
     have hw1 : IntKind.i64.wrap (n * 1000) = n * 1000:=by rw [IntKind.wrap_i64];omega
     have hq : (Int.tdiv (n * 1000) m).natAbs ≤ 1000000000000000000:=by
      rw [Int.natAbs_tdiv]
      exact Nat.le_trans (Nat.div_le_self _ _) (by omega)
     have hw2 : IntKind.i64.wrap (Int.tdiv (n * 1000) m) = Int.tdiv (n * 1000) m:=by rw [IntKind.wrap_i64];omega
     have hnq:=fun W=>rnum_any (Int.tdiv (n * 1000) m) W
     generalize hQ : Int.tdiv (n * 1000) m = Q at *
     generalize num Q = V at *
     clear hq
     unfold vlV at *
     go_enter Tryz.func133,Tryz.ntmps133
     go_wp2_with (first | (go_at_call 124;with_reducible refine (hia _).mono ?_;rintro e w2 ⟨rfl,hb2⟩;replace hB:=hB.trans (hb2.mono hB.size);obtain ⟨a0,a1,b0,b1,r0,r1,rf0,rf1⟩:=cl8 ha hb hr hB) | (go_at_call 124;with_reducible refine (hib _).mono ?_;rintro e w2 ⟨rfl,hb2⟩;replace hB:=hB.trans (hb2.mono hB.size);obtain ⟨a0,a1,b0,b1,r0,r1,rf0,rf1⟩:=cl8 ha hb hr hB) | (go_at_call 26;with_reducible refine (hnq _).mono ?_;rintro e w2 ⟨rfl,hb2⟩;replace hB:=hB.trans (hb2.mono hB.size);obtain ⟨a0,a1,b0,b1,r0,r1,rf0,rf1⟩:=cl8 ha hb hr hB))
     exact end_set (v:=V) Tryz.results133 rfl (by omega) (bW2 w _ _) hB hr
 · have e : dvd ⟨1,n⟩ pls = ⟨1,0⟩:=by simp [dvd,pls]
   rw [e];clear e htu hsg hby
   unfold vlV at *
   go_enter Tryz.func133,Tryz.ntmps133
   go_wp2_with (first | (go_at_call 124;with_reducible refine (hia _).mono ?_;rintro e w2 ⟨rfl,hb2⟩;replace hB:=hB.trans (hb2.mono hB.size);obtain ⟨a0,a1,b0,b1,r0,r1,rf0,rf1⟩:=cl8 ha hb hr hB) | (go_at_call 124;with_reducible refine (hib _).mono ?_;rintro e w2 ⟨rfl,hb2⟩;replace hB:=hB.trans (hb2.mono hB.size);obtain ⟨a0,a1,b0,b1,r0,r1,rf0,rf1⟩:=cl8 ha hb hr hB) | (go_at_call 26;with_reducible refine (hn0 _).mono ?_;rintro e w2 ⟨rfl,hb2⟩;replace hB:=hB.trans (hb2.mono hB.size);obtain ⟨a0,a1,b0,b1,r0,r1,rf0,rf1⟩:=cl8 ha hb hr hB))
   exact end_set (v:=⟨1,0⟩) Tryz.results133 rfl (by omega) (bW2 w _ _) hB hr
 · have e : dvd ⟨1,n⟩ mns = ⟨1,0⟩:=by simp [dvd,mns]
   rw [e];clear e htu hsg hby
   unfold vlV at *
   go_enter Tryz.func133,Tryz.ntmps133
   go_wp2_with (first | (go_at_call 124;with_reducible refine (hia _).mono ?_;rintro e w2 ⟨rfl,hb2⟩;replace hB:=hB.trans (hb2.mono hB.size);obtain ⟨a0,a1,b0,b1,r0,r1,rf0,rf1⟩:=cl8 ha hb hr hB) | (go_at_call 124;with_reducible refine (hib _).mono ?_;rintro e w2 ⟨rfl,hb2⟩;replace hB:=hB.trans (hb2.mono hB.size);obtain ⟨a0,a1,b0,b1,r0,r1,rf0,rf1⟩:=cl8 ha hb hr hB) | (go_at_call 26;with_reducible refine (hn0 _).mono ?_;rintro e w2 ⟨rfl,hb2⟩;replace hB:=hB.trans (hb2.mono hB.size);obtain ⟨a0,a1,b0,b1,r0,r1,rf0,rf1⟩:=cl8 ha hb hr hB))
   exact end_set (v:=⟨1,0⟩) Tryz.results133 rfl (by omega) (bW2 w _ _) hB hr
 · clear hn0 hsg hby
   by_cases hm : m < 0
   · have e : dvd pls ⟨1,m⟩ = mns:=by simp [dvd,pls,mns,neg,hm]
     have e2 : neg pls = mns:=by simp [neg,pls,mns]
     rw [e];clear e
     rw [e2] at htu;clear e2
     unfold vlV at *
     go_enter Tryz.func133,Tryz.ntmps133
     go_wp2_with (first | (go_at_call 124;with_reducible refine (hia _).mono ?_;rintro e w2 ⟨rfl,hb2⟩;replace hB:=hB.trans (hb2.mono hB.size);obtain ⟨a0,a1,b0,b1,r0,r1,rf0,rf1⟩:=cl8 ha hb hr hB) | (go_at_call 124;with_reducible refine (hib _).mono ?_;rintro e w2 ⟨rfl,hb2⟩;replace hB:=hB.trans (hb2.mono hB.size);obtain ⟨a0,a1,b0,b1,r0,r1,rf0,rf1⟩:=cl8 ha hb hr hB) | (go_at_call 127;with_reducible refine (htu _).mono ?_;rintro e w2 ⟨rfl,hb2⟩;replace hB:=hB.trans (hb2.mono hB.size);obtain ⟨a0,a1,b0,b1,r0,r1,rf0,rf1⟩:=cl8 ha hb hr hB))
     exact end_set (v:=mns) Tryz.results133 rfl (by omega) (bW2 w _ _) hB hr
   · have e : dvd pls ⟨1,m⟩ = pls:=by simp [dvd,pls,mns,hm]
     rw [e];clear e htu
     unfold vlV at *
     go_enter Tryz.func133,Tryz.ntmps133
     go_wp2_with (first | (go_at_call 124;with_reducible refine (hia _).mono ?_;rintro e w2 ⟨rfl,hb2⟩;replace hB:=hB.trans (hb2.mono hB.size);obtain ⟨a0,a1,b0,b1,r0,r1,rf0,rf1⟩:=cl8 ha hb hr hB) | (go_at_call 124;with_reducible refine (hib _).mono ?_;rintro e w2 ⟨rfl,hb2⟩;replace hB:=hB.trans (hb2.mono hB.size);obtain ⟨a0,a1,b0,b1,r0,r1,rf0,rf1⟩:=cl8 ha hb hr hB))
     exact end_set (v:=pls) Tryz.results133 rfl (by omega) (bW2 w _ _) hB hr
 · have e : dvd pls pls = nan:=by simp [dvd,pls,mns]
   rw [e];clear e htu hn0 hsg hby
   unfold vlV at *
   go_enter Tryz.func133,Tryz.ntmps133
   go_wp2_with (first | (go_at_call 124;with_reducible refine (hia _).mono ?_;rintro e w2 ⟨rfl,hb2⟩;replace hB:=hB.trans (hb2.mono hB.size);obtain ⟨a0,a1,b0,b1,r0,r1,rf0,rf1⟩:=cl8 ha hb hr hB) | (go_at_call 124;with_reducible refine (hib _).mono ?_;rintro e w2 ⟨rfl,hb2⟩;replace hB:=hB.trans (hb2.mono hB.size);obtain ⟨a0,a1,b0,b1,r0,r1,rf0,rf1⟩:=cl8 ha hb hr hB) | (go_at_call 130;refine (rnan_b _).mono ?_;rintro e w2 ⟨rfl,hb2⟩;replace hB:=hB.trans (hb2.mono hB.size);obtain ⟨a0,a1,b0,b1,r0,r1,rf0,rf1⟩:=cl8 ha hb hr hB;unfold vlV))
   exact end_set (v:=nan) Tryz.results133 rfl (by omega) (bW2 w _ _) hB hr
 · have e : dvd pls mns = nan:=by simp [dvd,pls,mns]
   rw [e];clear e htu hn0 hsg hby
   unfold vlV at *
   go_enter Tryz.func133,Tryz.ntmps133
   go_wp2_with (first | (go_at_call 124;with_reducible refine (hia _).mono ?_;rintro e w2 ⟨rfl,hb2⟩;replace hB:=hB.trans (hb2.mono hB.size);obtain ⟨a0,a1,b0,b1,r0,r1,rf0,rf1⟩:=cl8 ha hb hr hB) | (go_at_call 124;with_reducible refine (hib _).mono ?_;rintro e w2 ⟨rfl,hb2⟩;replace hB:=hB.trans (hb2.mono hB.size);obtain ⟨a0,a1,b0,b1,r0,r1,rf0,rf1⟩:=cl8 ha hb hr hB) | (go_at_call 130;refine (rnan_b _).mono ?_;rintro e w2 ⟨rfl,hb2⟩;replace hB:=hB.trans (hb2.mono hB.size);obtain ⟨a0,a1,b0,b1,r0,r1,rf0,rf1⟩:=cl8 ha hb hr hB;unfold vlV))
   exact end_set (v:=nan) Tryz.results133 rfl (by omega) (bW2 w _ _) hB hr
 · clear hn0 hsg hby
   by_cases hm : m < 0
   · have e : dvd mns ⟨1,m⟩ = pls:=by simp [dvd,pls,mns,neg,hm]
     have e2 : neg mns = pls:=by simp [neg,pls,mns]
     rw [e];clear e
     rw [e2] at htu;clear e2
     unfold vlV at *
     go_enter Tryz.func133,Tryz.ntmps133
     go_wp2_with (first | (go_at_call 124;with_reducible refine (hia _).mono ?_;rintro e w2 ⟨rfl,hb2⟩;replace hB:=hB.trans (hb2.mono hB.size);obtain ⟨a0,a1,b0,b1,r0,r1,rf0,rf1⟩:=cl8 ha hb hr hB) | (go_at_call 124;with_reducible refine (hib _).mono ?_;rintro e w2 ⟨rfl,hb2⟩;replace hB:=hB.trans (hb2.mono hB.size);obtain ⟨a0,a1,b0,b1,r0,r1,rf0,rf1⟩:=cl8 ha hb hr hB) | (go_at_call 127;with_reducible refine (htu _).mono ?_;rintro e w2 ⟨rfl,hb2⟩;replace hB:=hB.trans (hb2.mono hB.size);obtain ⟨a0,a1,b0,b1,r0,r1,rf0,rf1⟩:=cl8 ha hb hr hB))
     exact end_set (v:=pls) Tryz.results133 rfl (by omega) (bW2 w _ _) hB hr
   · have e : dvd mns ⟨1,m⟩ = mns:=by simp [dvd,pls,mns,hm]
     rw [e];clear e htu
     unfold vlV at *
     go_enter Tryz.func133,Tryz.ntmps133
     go_wp2_with (first | (go_at_call 124;with_reducible refine (hia _).mono ?_;rintro e w2 ⟨rfl,hb2⟩;replace hB:=hB.trans (hb2.mono hB.size);obtain ⟨a0,a1,b0,b1,r0,r1,rf0,rf1⟩:=cl8 ha hb hr hB) | (go_at_call 124;with_reducible refine (hib _).mono ?_;rintro e w2 ⟨rfl,hb2⟩;replace hB:=hB.trans (hb2.mono hB.size);obtain ⟨a0,a1,b0,b1,r0,r1,rf0,rf1⟩:=cl8 ha hb hr hB))
     exact end_set (v:=mns) Tryz.results133 rfl (by omega) (bW2 w _ _) hB hr
 · have e : dvd mns pls = nan:=by simp [dvd,pls,mns]
   rw [e];clear e htu hn0 hsg hby
   unfold vlV at *
   go_enter Tryz.func133,Tryz.ntmps133
   go_wp2_with (first | (go_at_call 124;with_reducible refine (hia _).mono ?_;rintro e w2 ⟨rfl,hb2⟩;replace hB:=hB.trans (hb2.mono hB.size);obtain ⟨a0,a1,b0,b1,r0,r1,rf0,rf1⟩:=cl8 ha hb hr hB) | (go_at_call 124;with_reducible refine (hib _).mono ?_;rintro e w2 ⟨rfl,hb2⟩;replace hB:=hB.trans (hb2.mono hB.size);obtain ⟨a0,a1,b0,b1,r0,r1,rf0,rf1⟩:=cl8 ha hb hr hB) | (go_at_call 130;refine (rnan_b _).mono ?_;rintro e w2 ⟨rfl,hb2⟩;replace hB:=hB.trans (hb2.mono hB.size);obtain ⟨a0,a1,b0,b1,r0,r1,rf0,rf1⟩:=cl8 ha hb hr hB;unfold vlV))
   exact end_set (v:=nan) Tryz.results133 rfl (by omega) (bW2 w _ _) hB hr
 · have e : dvd mns mns = nan:=by simp [dvd,pls,mns]
   rw [e];clear e htu hn0 hsg hby
   unfold vlV at *
   go_enter Tryz.func133,Tryz.ntmps133
   go_wp2_with (first | (go_at_call 124;with_reducible refine (hia _).mono ?_;rintro e w2 ⟨rfl,hb2⟩;replace hB:=hB.trans (hb2.mono hB.size);obtain ⟨a0,a1,b0,b1,r0,r1,rf0,rf1⟩:=cl8 ha hb hr hB) | (go_at_call 124;with_reducible refine (hib _).mono ?_;rintro e w2 ⟨rfl,hb2⟩;replace hB:=hB.trans (hb2.mono hB.size);obtain ⟨a0,a1,b0,b1,r0,r1,rf0,rf1⟩:=cl8 ha hb hr hB) | (go_at_call 130;refine (rnan_b _).mono ?_;rintro e w2 ⟨rfl,hb2⟩;replace hB:=hB.trans (hb2.mono hB.size);obtain ⟨a0,a1,b0,b1,r0,r1,rf0,rf1⟩:=cl8 ha hb hr hB;unfold vlV))
   exact end_set (v:=nan) Tryz.results133 rfl (by omega) (bW2 w _ _) hB hr
end Go.Proofs.YtdhlfpgibfaimaaGreatDoor

set_option maxRecDepth 100000
set_option maxHeartbeats 2000000
set_option linter.unusedVariables false
namespace Go.Proofs.YtdhlfpgibfaimaaGreatDoor
open Go.RowKit
attribute [local go_sem ↓] Go.wp_at_zero Go.wp_at_succ
theorem sgn_in (v : Vl) : sgn v = 1 ∨ sgn v = -1 ∨ sgn v = 0:=by
 unfold sgn;split
 · exact .inl rfl
 · split
   · exact .inr (.inl rfl)
   · exact .inr (.inr rfl)
theorem rtimes_odd (a b : Vl) (hva : IsV a) (hvb : IsV b) (hk : ((a.kind == 1) && (b.kind == 1)) = false) (w : World) : Calls Tryz.prog 132 #[vlV a,vlV b] w fun e w'=>e = .returned (vlV (mul a b))∧Below w.heap.size w w':=by
 obtain ⟨ha,hb,hr⟩:=pW2 w a b
 have hB : Below (W2 w a b).heap.size (W2 w a b) (W2 w a b):=Below.refl _ _
 have hia:=fun W=>knum_any a W
 have hib:=fun W=>knum_any b W
 have e : mul a b = byd (sgn a * sgn b):=by
  rw [mul,if_neg]
  intro h
  simp [h.1,h.2] at hk
 rw [e];clear e
 have hsa:=fun W=>rsign_any a W
 have hsb:=fun W=>rsign_any b W
 have hen:=fun W=>rbeyond_any (sgn a * sgn b) W
 have hwr : IntKind.i64.wrap (sgn a * sgn b) = sgn a * sgn b:=by
  rcases sgn_in a with h | h | h <;> rcases sgn_in b with g | g | g <;> rw [h,g] <;> rfl
 generalize sgn a = SA at *
 generalize sgn b = SB at *
 obtain ⟨P,eP⟩ : ∃ x,Hid (x = SA * SB):=⟨_,rfl⟩
 rw [← eP.out] at hen ⊢
 replace hwr : IntKind.i64.wrap (SA * SB) = P:=hwr.trans eP.out.symm
 clear eP
 generalize byd P = R at *
 clear hva hvb
 unfold vlV at *
 cases h1 : (a.kind == 1) <;> cases h2 : (b.kind == 1)
 case true.true=>rw [h1,h2] at hk;cases hk
 all_goals
  rw [h1] at hia
  rw [h2] at hib
  clear hk
  go_enter Tryz.func132,Tryz.ntmps132
  go_wp2
  replace hB:=hB.drew
  obtain ⟨a0,a1⟩:=(ha.grow hB).cells
  obtain ⟨b0,b1⟩:=(hb.grow hB).cells
  obtain ⟨r0,r1⟩:=(hr.grow hB).cells
  obtain ⟨rf0,rf1⟩:=(hr.grow hB).frozen
  go_region_held3 (fun W=>W.cell? ⟨w.heap.size,0,none⟩ = some (.int .i64 a.kind)∧W.cell? ⟨w.heap.size,1,none⟩ = some (.int .i64 a.n)∧W.cell? ⟨w.heap.size + 1,0,none⟩ = some (.int .i64 b.kind)∧W.cell? ⟨w.heap.size + 1,1,none⟩ = some (.int .i64 b.n)) (first | exact ⟨a0,a1,b0,b1⟩) (first | (go_at_call 126;with_reducible refine (hsa _).mono ?_;rintro e w2 ⟨rfl,hb2⟩;replace hB:=hB.trans (hb2.mono hB.size);obtain ⟨a0,a1,b0,b1,r0,r1,rf0,rf1⟩:=cl8 ha hb hr hB) | (go_at_call 126;with_reducible refine (hsb _).mono ?_;rintro e w2 ⟨rfl,hb2⟩;replace hB:=hB.trans (hb2.mono hB.size);obtain ⟨a0,a1,b0,b1,r0,r1,rf0,rf1⟩:=cl8 ha hb hr hB))
  all_goals
   go_wp2_with (first | (go_at_call 124;with_reducible refine (hia _).mono ?_;rintro e w2 ⟨rfl,hb2⟩;replace hB:=hB.trans (hb2.mono hB.size);obtain ⟨a0,a1,b0,b1,r0,r1,rf0,rf1⟩:=cl8 ha hb hr hB) | (go_at_call 124;with_reducible refine (hib _).mono ?_;rintro e w2 ⟨rfl,hb2⟩;replace hB:=hB.trans (hb2.mono hB.size);obtain ⟨a0,a1,b0,b1,r0,r1,rf0,rf1⟩:=cl8 ha hb hr hB) | (go_at_call 161;with_reducible refine (hen _).mono ?_;rintro e w2 ⟨rfl,hb2⟩;replace hB:=hB.trans (hb2.mono hB.size);obtain ⟨a0,a1,b0,b1,r0,r1,rf0,rf1⟩:=cl8 ha hb hr hB))
   exact end_set (v:=R) Tryz.results132 rfl (by omega) (bW2 w _ _) hB hr
end Go.Proofs.YtdhlfpgibfaimaaGreatDoor
namespace Go.Proofs.YtdhlfpgibfaimaaGreatDoor
open Go.RowKit
attribute [local go_sem ↓] Go.wp_at_zero Go.wp_at_succ
theorem sgn_sign (n : Int) : sgn ⟨1,n⟩ = n.sign:=by
 unfold sgn
 by_cases h : 0 < n
 · rw [if_pos (.inr h),Int.sign_eq_one_of_pos h]
 · rw [if_neg (by simp;omega)]
   by_cases h2 : n < 0
   · rw [if_pos (.inr h2),Int.sign_eq_neg_one_of_neg h2]
   · have : n = 0:=by omega
     subst this
     rfl
theorem rtimes_num (n m : Int) (h1 : -1000000000000000 ≤ n) (h2 : n ≤ 1000000000000000) (h3 : -1000000000000000 ≤ m) (h4 : m ≤ 1000000000000000) (w : World) : Calls Tryz.prog 132 #[vlV ⟨1,n⟩,vlV ⟨1,m⟩] w fun e w'=>e = .returned (vlV (mul ⟨1,n⟩ ⟨1,m⟩))∧Below w.heap.size w w':=by
 obtain ⟨ha,hb,hr⟩:=pW2 w ⟨1,n⟩ ⟨1,m⟩
 have hB : Below (W2 w ⟨1,n⟩ ⟨1,m⟩).heap.size (W2 w ⟨1,n⟩ ⟨1,m⟩) (W2 w ⟨1,n⟩ ⟨1,m⟩):=Below.refl _ _
 have hia:=fun W=>knum_any ⟨1,n⟩ W
 have hib:=fun W=>knum_any ⟨1,m⟩ W
 have hsa:=fun W=>rsign_any ⟨1,n⟩ W
 have hsb:=fun W=>rsign_any ⟨1,m⟩ W
 have hza:=fun W=>rsize_any n h1 h2 W
 have hzb:=fun W=>rsize_any m h3 h4 W
 have hwr : IntKind.i64.wrap (sgn ⟨1,n⟩ * sgn ⟨1,m⟩) = sgn ⟨1,n⟩ * sgn ⟨1,m⟩:=by
  rcases sgn_in ⟨1,n⟩ with h | h | h <;> rcases sgn_in ⟨1,m⟩ with g | g | g <;> rw [h,g] <;> rfl
 have hPin : Hid (sgn ⟨1,n⟩ * sgn ⟨1,m⟩ = 1 ∨ sgn ⟨1,n⟩ * sgn ⟨1,m⟩ = -1 ∨ sgn ⟨1,n⟩ * sgn ⟨1,m⟩ = 0):=by
  rcases sgn_in ⟨1,n⟩ with h | h | h <;> rcases sgn_in ⟨1,m⟩ with g | g | g <;> rw [h,g] <;> (first | exact .inl rfl | exact .inr (.inl rfl) | exact .inr (.inr rfl))
 have hmul:=mul_halves n m
 rw [← sgn_sign,← sgn_sign] at hmul
 have hin:=halves_in (n.natAbs : Int) (m.natAbs : Int) (by omega) (by omega) (by omega) (by omega)
 generalize sgn ⟨1,n⟩ = SA at *
 generalize sgn ⟨1,m⟩ = SB at *
 obtain ⟨P,eP⟩ : ∃ x,Hid (x = SA * SB):=⟨_,rfl⟩
 rw [← eP.out] at hmul hPin
 replace hwr : IntKind.i64.wrap (SA * SB) = P:=hwr.trans eP.out.symm
 obtain ⟨X,eX⟩ : ∃ x,Hid (x = (n.natAbs : Int)):=⟨_,rfl⟩
 obtain ⟨Y,eY⟩ : ∃ x,Hid (x = (m.natAbs : Int)):=⟨_,rfl⟩
 rw [← eX.out] at hmul hin hza
 rw [← eY.out] at hmul hin hzb
 have hX : 0 ≤ X∧X ≤ 1000000000000000:=by have:=eX.out;omega
 have hY : 0 ≤ Y∧Y ≤ 1000000000000000:=by have:=eY.out;omega
 obtain ⟨Q,eQ⟩ : ∃ x,Hid (x = X / 1000):=⟨_,rfl⟩
 obtain ⟨S,eS⟩ : ∃ x,Hid (x = X % 1000):=⟨_,rfl⟩
 rw [← eQ.out] at hmul hin
 rw [← eS.out] at hmul hin
 have hQ : 0 ≤ Q∧Q ≤ 1000000000000:=by have:=eQ.out;omega
 have hS : 0 ≤ S∧S < 1000:=by have:=eS.out;omega
 have q1 : X / 1000 = Q:=eQ.out.symm
 have q2 : X % 1000 = S:=eS.out.symm
 have q3 : X.tdiv 1000 = Q:=by rw [Int.tdiv_eq_ediv_of_nonneg hX.1];exact q1
 have q4 : X.tmod 1000 = S:=by rw [Int.tmod_eq_emod_of_nonneg hX.1];exact q2
 have w1 : IntKind.i64.wrap Q = Q:=by rw [IntKind.wrap_i64];omega
 have w2' : IntKind.i64.wrap S = S:=by rw [IntKind.wrap_i64];omega
 clear eP eX eY eQ eS
 rw [hmul];clear hmul
 have hbd:=fun W=>rbeyond_any P W
 by_cases hbig : 0 < Q∧1000000000000000 / Q < Y
 · rw [if_pos hbig]
   obtain ⟨g1,g2⟩:=hbig
   have g0 : (Q == 0) = false:=by simp;omega
   obtain ⟨D,eD⟩ : ∃ x,Hid (x = 1000000000000000 / Q):=⟨_,rfl⟩
   have hD : 0 ≤ D∧D ≤ 1000000000000000:=by
    rw [eD.out]
    exact ⟨Int.ediv_nonneg (by omega) (by omega),Int.ediv_le_self _ (by omega)⟩
   have d1 : (1000000000000000 : Int) / Q = D:=eD.out.symm
   have d2 : (1000000000000000 : Int).tdiv Q = D:=by rw [Int.tdiv_eq_ediv_of_nonneg (by omega)];exact d1
   have w3' : IntKind.i64.wrap D = D:=by rw [IntKind.wrap_i64];omega
   rw [d1] at g2
   generalize byd P = R at *
   clear hin eD hPin
   unfold vlV at *
   go_enter Tryz.func132,Tryz.ntmps132
   go_wp2
   replace hB:=hB.drew
   obtain ⟨a0,a1⟩:=(ha.grow hB).cells
   obtain ⟨b0,b1⟩:=(hb.grow hB).cells
   obtain ⟨r0,r1⟩:=(hr.grow hB).cells
   obtain ⟨rf0,rf1⟩:=(hr.grow hB).frozen
   go_region_held3 (fun W=>W.cell? ⟨w.heap.size,0,none⟩ = some (.int .i64 1)∧W.cell? ⟨w.heap.size,1,none⟩ = some (.int .i64 n)∧W.cell? ⟨w.heap.size + 1,0,none⟩ = some (.int .i64 1)∧W.cell? ⟨w.heap.size + 1,1,none⟩ = some (.int .i64 m)) (first | exact ⟨a0,a1,b0,b1⟩) (first | (go_at_call 126;with_reducible refine (hsa _).mono ?_;rintro e w2 ⟨rfl,hb2⟩;replace hB:=hB.trans (hb2.mono hB.size);obtain ⟨a0,a1,b0,b1,r0,r1,rf0,rf1⟩:=cl8 ha hb hr hB) | (go_at_call 126;with_reducible refine (hsb _).mono ?_;rintro e w2 ⟨rfl,hb2⟩;replace hB:=hB.trans (hb2.mono hB.size);obtain ⟨a0,a1,b0,b1,r0,r1,rf0,rf1⟩:=cl8 ha hb hr hB))
   all_goals
    go_wp2_with (first | (go_at_call 124;with_reducible refine (hia _).mono ?_;rintro e w2 ⟨rfl,hb2⟩;replace hB:=hB.trans (hb2.mono hB.size);obtain ⟨a0,a1,b0,b1,r0,r1,rf0,rf1⟩:=cl8 ha hb hr hB) | (go_at_call 124;with_reducible refine (hib _).mono ?_;rintro e w2 ⟨rfl,hb2⟩;replace hB:=hB.trans (hb2.mono hB.size);obtain ⟨a0,a1,b0,b1,r0,r1,rf0,rf1⟩:=cl8 ha hb hr hB))
    replace hB:=hB.drew
    obtain ⟨a0,a1⟩:=(ha.grow hB).cells
    obtain ⟨b0,b1⟩:=(hb.grow hB).cells
    obtain ⟨r0,r1⟩:=(hr.grow hB).cells
    obtain ⟨rf0,rf1⟩:=(hr.grow hB).frozen
    go_region_held3 (fun W=>W.cell? ⟨w.heap.size,0,none⟩ = some (.int .i64 1)∧W.cell? ⟨w.heap.size,1,none⟩ = some (.int .i64 n)∧W.cell? ⟨w.heap.size + 1,0,none⟩ = some (.int .i64 1)∧W.cell? ⟨w.heap.size + 1,1,none⟩ = some (.int .i64 m)) (first | exact ⟨a0,a1,b0,b1⟩) (first | (go_at_call 162;with_reducible refine (hza _).mono ?_;rintro e w2 ⟨rfl,hb2⟩;replace hB:=hB.trans (hb2.mono hB.size);obtain ⟨a0,a1,b0,b1,r0,r1,rf0,rf1⟩:=cl8 ha hb hr hB) | (go_at_call 162;with_reducible refine (hzb _).mono ?_;rintro e w2 ⟨rfl,hb2⟩;replace hB:=hB.trans (hb2.mono hB.size);obtain ⟨a0,a1,b0,b1,r0,r1,rf0,rf1⟩:=cl8 ha hb hr hB))
    all_goals
     go_wp2_with (first | (go_at_call 161;with_reducible refine (hbd _).mono ?_;rintro e w2 ⟨rfl,hb2⟩;replace hB:=hB.trans (hb2.mono hB.size);obtain ⟨a0,a1,b0,b1,r0,r1,rf0,rf1⟩:=cl8 ha hb hr hB))
     exact end_set (v:=R) Tryz.results132 rfl (by omega) (bW2 w _ _) hB hr
 · rw [if_neg hbig]
   obtain ⟨i1,i2,i3,i4⟩:=hin hbig
   have hb2 : (¬ 0 < Q) ∨ (0 < Q∧¬ 1000000000000000 / Q < Y):=by
    by_cases h : 0 < Q
    · exact .inr ⟨h,fun g=>hbig ⟨h,g⟩⟩
    · exact .inl h
   clear hin hbig hbd
   have hnz:=fun W=>rnum_any (P * (Q * Y + S * Y / 1000)) W
   obtain ⟨A,eA⟩ : ∃ x,Hid (x = Q * Y):=⟨_,rfl⟩
   obtain ⟨B,eB⟩ : ∃ x,Hid (x = S * Y):=⟨_,rfl⟩
   rw [← eA.out] at i1 i2 hnz
   rw [← eB.out] at i3 i4 hnz
   rw [← eA.out,← eB.out]
   have z1 : Q * Y = A:=eA.out.symm
   have z2 : S * Y = B:=eB.out.symm
   have y1 : IntKind.i64.wrap A = A:=by rw [IntKind.wrap_i64];omega
   have y2 : IntKind.i64.wrap B = B:=by rw [IntKind.wrap_i64];omega
   obtain ⟨C,eC⟩ : ∃ x,Hid (x = B / 1000):=⟨_,rfl⟩
   have hC : 0 ≤ C∧C ≤ 999000000000000:=by have:=eC.out;omega
   rw [← eC.out] at hnz ⊢
   have z3 : B / 1000 = C:=eC.out.symm
   have z4 : B.tdiv 1000 = C:=by rw [Int.tdiv_eq_ediv_of_nonneg i3];exact z3
   have y3 : IntKind.i64.wrap C = C:=by rw [IntKind.wrap_i64];omega
   have y4 : IntKind.i64.wrap (A + C) = A + C:=by rw [IntKind.wrap_i64];omega
   have y5 : IntKind.i64.wrap (P * (A + C)) = P * (A + C):=by
    rcases hPin.out with h | h | h <;> rw [h,IntKind.wrap_i64] <;> omega
   have y6 : IntKind.i64.wrap P = P:=by
    rcases hPin.out with h | h | h <;> rw [h] <;> rfl
   obtain ⟨Z,eZ⟩ : ∃ x,Hid (x = P * (A + C)):=⟨_,rfl⟩
   rw [← eZ.out] at hnz ⊢
   replace y5 : IntKind.i64.wrap (P * (A + C)) = Z:=y5.trans eZ.out.symm
   generalize num Z = R at *
   clear eA eB eC eZ hPin
   rcases hb2 with g1 | ⟨g1,g2⟩
   · skip
     unfold vlV at *
     go_enter Tryz.func132,Tryz.ntmps132
     go_wp2
     replace hB:=hB.drew
     obtain ⟨a0,a1⟩:=(ha.grow hB).cells
     obtain ⟨b0,b1⟩:=(hb.grow hB).cells
     obtain ⟨r0,r1⟩:=(hr.grow hB).cells
     obtain ⟨rf0,rf1⟩:=(hr.grow hB).frozen
     go_region_held3 (fun W=>W.cell? ⟨w.heap.size,0,none⟩ = some (.int .i64 1)∧W.cell? ⟨w.heap.size,1,none⟩ = some (.int .i64 n)∧W.cell? ⟨w.heap.size + 1,0,none⟩ = some (.int .i64 1)∧W.cell? ⟨w.heap.size + 1,1,none⟩ = some (.int .i64 m)) (first | exact ⟨a0,a1,b0,b1⟩) (first | (go_at_call 126;with_reducible refine (hsa _).mono ?_;rintro e w2 ⟨rfl,hb2⟩;replace hB:=hB.trans (hb2.mono hB.size);obtain ⟨a0,a1,b0,b1,r0,r1,rf0,rf1⟩:=cl8 ha hb hr hB) | (go_at_call 126;with_reducible refine (hsb _).mono ?_;rintro e w2 ⟨rfl,hb2⟩;replace hB:=hB.trans (hb2.mono hB.size);obtain ⟨a0,a1,b0,b1,r0,r1,rf0,rf1⟩:=cl8 ha hb hr hB))
     all_goals
      go_wp2_with (first | (go_at_call 124;with_reducible refine (hia _).mono ?_;rintro e w2 ⟨rfl,hb2⟩;replace hB:=hB.trans (hb2.mono hB.size);obtain ⟨a0,a1,b0,b1,r0,r1,rf0,rf1⟩:=cl8 ha hb hr hB) | (go_at_call 124;with_reducible refine (hib _).mono ?_;rintro e w2 ⟨rfl,hb2⟩;replace hB:=hB.trans (hb2.mono hB.size);obtain ⟨a0,a1,b0,b1,r0,r1,rf0,rf1⟩:=cl8 ha hb hr hB))
      replace hB:=hB.drew
      obtain ⟨a0,a1⟩:=(ha.grow hB).cells
      obtain ⟨b0,b1⟩:=(hb.grow hB).cells
      obtain ⟨r0,r1⟩:=(hr.grow hB).cells
      obtain ⟨rf0,rf1⟩:=(hr.grow hB).frozen
      go_region_held3 (fun W=>W.cell? ⟨w.heap.size,0,none⟩ = some (.int .i64 1)∧W.cell? ⟨w.heap.size,1,none⟩ = some (.int .i64 n)∧W.cell? ⟨w.heap.size + 1,0,none⟩ = some (.int .i64 1)∧W.cell? ⟨w.heap.size + 1,1,none⟩ = some (.int .i64 m)) (first | exact ⟨a0,a1,b0,b1⟩) (first | (go_at_call 162;with_reducible refine (hza _).mono ?_;rintro e w2 ⟨rfl,hb2⟩;replace hB:=hB.trans (hb2.mono hB.size);obtain ⟨a0,a1,b0,b1,r0,r1,rf0,rf1⟩:=cl8 ha hb hr hB) | (go_at_call 162;with_reducible refine (hzb _).mono ?_;rintro e w2 ⟨rfl,hb2⟩;replace hB:=hB.trans (hb2.mono hB.size);obtain ⟨a0,a1,b0,b1,r0,r1,rf0,rf1⟩:=cl8 ha hb hr hB))
      all_goals
       go_wp2_with (first | (go_at_call 26;with_reducible refine (hnz _).mono ?_;rintro e w2 ⟨rfl,hb2⟩;replace hB:=hB.trans (hb2.mono hB.size);obtain ⟨a0,a1,b0,b1,r0,r1,rf0,rf1⟩:=cl8 ha hb hr hB))
       exact end_set (v:=R) Tryz.results132 rfl (by omega) (bW2 w _ _) hB hr
   · have g0 : (Q == 0) = false:=by simp;omega
     obtain ⟨D,eD⟩ : ∃ x,Hid (x = 1000000000000000 / Q):=⟨_,rfl⟩
     have hD : 0 ≤ D∧D ≤ 1000000000000000:=by
      rw [eD.out]
      exact ⟨Int.ediv_nonneg (by omega) (by omega),Int.ediv_le_self _ (by omega)⟩
     have d1 : (1000000000000000 : Int) / Q = D:=eD.out.symm
     have d2 : (1000000000000000 : Int).tdiv Q = D:=by rw [Int.tdiv_eq_ediv_of_nonneg (by omega)];exact d1
     have w3' : IntKind.i64.wrap D = D:=by rw [IntKind.wrap_i64];omega
     rw [d1] at g2
     clear eD
     unfold vlV at *
     go_enter Tryz.func132,Tryz.ntmps132
     go_wp2
     replace hB:=hB.drew
     obtain ⟨a0,a1⟩:=(ha.grow hB).cells
     obtain ⟨b0,b1⟩:=(hb.grow hB).cells
     obtain ⟨r0,r1⟩:=(hr.grow hB).cells
     obtain ⟨rf0,rf1⟩:=(hr.grow hB).frozen
     go_region_held3 (fun W=>W.cell? ⟨w.heap.size,0,none⟩ = some (.int .i64 1)∧W.cell? ⟨w.heap.size,1,none⟩ = some (.int .i64 n)∧W.cell? ⟨w.heap.size + 1,0,none⟩ = some (.int .i64 1)∧W.cell? ⟨w.heap.size + 1,1,none⟩ = some (.int .i64 m)) (first | exact ⟨a0,a1,b0,b1⟩) (first | (go_at_call 126;with_reducible refine (hsa _).mono ?_;rintro e w2 ⟨rfl,hb2⟩;replace hB:=hB.trans (hb2.mono hB.size);obtain ⟨a0,a1,b0,b1,r0,r1,rf0,rf1⟩:=cl8 ha hb hr hB) | (go_at_call 126;with_reducible refine (hsb _).mono ?_;rintro e w2 ⟨rfl,hb2⟩;replace hB:=hB.trans (hb2.mono hB.size);obtain ⟨a0,a1,b0,b1,r0,r1,rf0,rf1⟩:=cl8 ha hb hr hB))
     all_goals
      go_wp2_with (first | (go_at_call 124;with_reducible refine (hia _).mono ?_;rintro e w2 ⟨rfl,hb2⟩;replace hB:=hB.trans (hb2.mono hB.size);obtain ⟨a0,a1,b0,b1,r0,r1,rf0,rf1⟩:=cl8 ha hb hr hB) | (go_at_call 124;with_reducible refine (hib _).mono ?_;rintro e w2 ⟨rfl,hb2⟩;replace hB:=hB.trans (hb2.mono hB.size);obtain ⟨a0,a1,b0,b1,r0,r1,rf0,rf1⟩:=cl8 ha hb hr hB))
      replace hB:=hB.drew
      obtain ⟨a0,a1⟩:=(ha.grow hB).cells
      obtain ⟨b0,b1⟩:=(hb.grow hB).cells
      obtain ⟨r0,r1⟩:=(hr.grow hB).cells
      obtain ⟨rf0,rf1⟩:=(hr.grow hB).frozen
      go_region_held3 (fun W=>W.cell? ⟨w.heap.size,0,none⟩ = some (.int .i64 1)∧W.cell? ⟨w.heap.size,1,none⟩ = some (.int .i64 n)∧W.cell? ⟨w.heap.size + 1,0,none⟩ = some (.int .i64 1)∧W.cell? ⟨w.heap.size + 1,1,none⟩ = some (.int .i64 m)) (first | exact ⟨a0,a1,b0,b1⟩) (first | (go_at_call 162;with_reducible refine (hza _).mono ?_;rintro e w2 ⟨rfl,hb2⟩;replace hB:=hB.trans (hb2.mono hB.size);obtain ⟨a0,a1,b0,b1,r0,r1,rf0,rf1⟩:=cl8 ha hb hr hB) | (go_at_call 162;with_reducible refine (hzb _).mono ?_;rintro e w2 ⟨rfl,hb2⟩;replace hB:=hB.trans (hb2.mono hB.size);obtain ⟨a0,a1,b0,b1,r0,r1,rf0,rf1⟩:=cl8 ha hb hr hB))
      all_goals
       go_wp2_with (first | (go_at_call 26;with_reducible refine (hnz _).mono ?_;rintro e w2 ⟨rfl,hb2⟩;replace hB:=hB.trans (hb2.mono hB.size);obtain ⟨a0,a1,b0,b1,r0,r1,rf0,rf1⟩:=cl8 ha hb hr hB))
       exact end_set (v:=R) Tryz.results132 rfl (by omega) (bW2 w _ _) hB hr
end Go.Proofs.YtdhlfpgibfaimaaGreatDoor
