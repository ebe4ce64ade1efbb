/- Dp;Dq;Dr;Ds;Dt. -/
import Derived.Test.YtdhlfpgibfaimaaGreatDoorPxQc

set_option maxRecDepth 100000
set_option maxHeartbeats 2000000
set_option linter.unusedVariables false
namespace Go.Proofs.YtdhlfpgibfaimaaGreatDoor
open Go.RowKit
def RpT (w : World) (p : Nat) (s : ByteArray) (i : Nat) (e t : Int) : Prop:=w.heap[p]? = some (.cells #[.string s,.int .i64 (i : Int),.int .i64 e,.int .i64 t] 67 (0,0))
section
variable {w w' : World} {p i : Nat} {s : ByteArray} {e t : Int}
theorem RpT.cells (h : RpT w p s i e t) : w.cell? ⟨p,0,none⟩ = some (.string s)∧w.cell? ⟨p,1,none⟩ = some (.int .i64 (i : Int))∧w.cell? ⟨p,2,none⟩ = some (.int .i64 e)∧w.cell? ⟨p,3,none⟩ = some (.int .i64 t):=by
 unfold RpT at h
 simp [World.cell?,h]
theorem RpT.frozen (h : RpT w p s i e t) (j : Nat) : w.frozen? ⟨p,j,none⟩ = false:=by
 unfold RpT at h
 simp [World.frozen?,h]
theorem RpT.lt (h : RpT w p s i e t) : p < w.heap.size:=(Array.getElem?_eq_some_iff.1 h).1
theorem RpT.grow (h : RpT w p s i e t) (hb : Below w.heap.size w w') : RpT w' p s i e t:=(hb.block p h.lt).trans h
theorem RpT.set1 (h : RpT w p s i e t) (j : Nat) : RpT (w.setCell ⟨p,1,none⟩ (.int .i64 (j : Int))) p s j e t:=by
 have:=block_setCell (i:=1) (u:=.int .i64 (j : Int)) h
 unfold RpT
 rw [this]
 simp
theorem RpT.set2 (h : RpT w p s i e t) (j : Int) : RpT (w.setCell ⟨p,2,none⟩ (.int .i64 j)) p s i j t:=by
 have:=block_setCell (i:=2) (u:=.int .i64 j) h
 unfold RpT
 rw [this]
 simp
theorem RpT.set3 (h : RpT w p s i e t) (j : Int) : RpT (w.setCell ⟨p,3,none⟩ (.int .i64 j)) p s i e j:=by
 have:=block_setCell (i:=3) (u:=.int .i64 j) h
 unfold RpT
 rw [this]
 simp
theorem RpT.hi5 {x : Nat} (h : RpT w p s i e t) (hne : p ≠ x) (a b c d f : Value) : RpT (set5 w x a b c d f) p s i e t:=(set5_block hne).trans h
end
def letB (c : Int) : Bool:=decide (97 ≤ c∧c ≤ 122) || decide (65 ≤ c∧c ≤ 90) || (c == 95)
def digB (c : Int) : Bool:=decide (48 ≤ c∧c ≤ 57)
theorem letter_any (c : Int) (w : World) : Calls Tryz.prog 35 #[.int .u8 c] w fun e w'=>e = .returned (.bool (letB c))∧w' = w:=by
 obtain ⟨R,hR⟩ : ∃ R,Hid (R = letB c):=⟨_,rfl⟩
 rw [← hR.out]
 go_enter Tryz.func35,Tryz.ntmps35
 by_cases h2 : (97 : Int) ≤ c <;> by_cases h3 : c ≤ (122 : Int) <;> by_cases h4 : (65 : Int) ≤ c <;> by_cases h5 : c ≤ (90 : Int) <;> cases h6 : (c == 95) <;> (go_wp2;go_ret;exact ⟨by rw [hR.out];unfold letB;simp [h2,h3,h4,h5,h6],rfl⟩)
theorem digit_any (c : Int) (w : World) : Calls Tryz.prog 36 #[.int .u8 c] w fun e w'=>e = .returned (.bool (digB c))∧w' = w:=by
 obtain ⟨R,hR⟩ : ∃ R,Hid (R = digB c):=⟨_,rfl⟩
 rw [← hR.out]
 go_enter Tryz.func36,Tryz.ntmps36
 by_cases h2 : (48 : Int) ≤ c <;> by_cases h3 : c ≤ (57 : Int) <;> (go_wp2;go_ret;exact ⟨by rw [hR.out];unfold digB;simp [h2,h3],rfl⟩)
theorem fail_any (w : World) (p : Nat) (s : ByteArray) (i : Nat) (e t er at' : Int) (h : RpT w p s i e t) : Calls Tryz.prog 31 #[.pointer (some ⟨p,0,none⟩),.int .i64 er,.int .i64 at'] w fun r w'=>r = .returned (.tuple #[])∧Hid (Fp p w w'∧∃ e' t',RpT w' p s i e' t'∧(e ≠ 0→e' = e)∧(e = 0→e' = er)):=by
 obtain ⟨c0,c1,c2,c3⟩:=h.cells
 have f:=h.frozen
 have f2:=f 2
 have f3:=f 3
 cases he : (e == 0) with
 | true =>
  go_enter Tryz.func31,Tryz.ntmps31
  go_wp2
  go_end0
  have e0 : e = 0:=by simpa using he
  exact ⟨rfl,(((Fp.refl p w).set 2 _).set 3 _),_,_,(h.set2 er).set3 at',fun h=>absurd e0 h,fun _=>rfl⟩
 | false =>
  go_enter Tryz.func31,Tryz.ntmps31
  go_wp2
  go_end0
  have e0 : e ≠ 0:=by simpa using he
  exact ⟨rfl,Fp.refl p w,_,_,h,fun _=>rfl,fun h=>absurd h e0⟩
def plcOf (w : World) (p : Nat) : Nat:=match w.cell? ⟨p,1,none⟩ with | some v=>(intOf v).toNat | none=>0
theorem RpT.plc {w : World} {p i : Nat} {s : ByteArray} {e t : Int} (h : RpT w p s i e t) : plcOf w p = i:=by
 unfold plcOf
 rw [h.cells.2.1]
 simp [intOf]
theorem blanks_any (w : World) (p : Nat) (s : ByteArray) (i : Nat) (e t : Int) (h : RpT w p s i e t) (hi : i ≤ s.size) (hs : s.size ≤ 1000000) : Calls Tryz.prog 30 #[.pointer (some ⟨p,0,none⟩)] w fun r w'=>r = .returned (.tuple #[])∧∃ j : Nat,i ≤ j∧j ≤ s.size∧Hid (RpT w' p s j e t)∧Hid (Fp p w w'):=by
 go_enter Tryz.func30,Tryz.ntmps30
 go_wp2
 go_loopw [] (fun wr=>∃ j : Nat,i ≤ j∧j ≤ s.size∧Hid (RpT wr p s j e t)∧Hid (Fp p w wr)) (fun wr=>s.size - plcOf wr p)
 case atStart=>exact ⟨i,Nat.le_refl _,hi,h,Fp.refl _ _⟩
 case round =>
  obtain ⟨j,hij,hj,hp,hf⟩:=hrel
  obtain ⟨c0,c1,c2,c3⟩:=hp.out.cells
  have hme:=hp.out.plc
  have d0 : ∀ q : Bel wr,q.W.cell? ⟨p,0,none⟩ = some (.string s):=fun q=>q.cell c0
  have d1 : ∀ q : Bel wr,q.W.cell? ⟨p,1,none⟩ = some (.int .i64 (j : Int)):=fun q=>q.cell c1
  clear c0 c1 c2 c3
  by_cases hlt : j < s.size
  · have hji : (j : Int) < (s.size : Int):=by omega
    cases hc : ((((s[j]'hlt).toNat : Nat) : Int) == 32) with
    | true =>
     go_wp2
     refine wp_region_bel (by kernel_rfl) (by kernel_rfl) ?_
     repeat (go_big_quiet_step (fail "no call"))
     refine wpQuiet_nil ?_
     rintro W ⟨q,rfl⟩
     have hq:=q.h
     have hp1:=hp.out.grow hq
     have hf1:=hf.out.trans (Fp.of hq)
     generalize q.W = W1 at *
     obtain ⟨a0,a1,a2,a3⟩:=hp1.cells
     have z1:=hp1.frozen 1
     clear d0 d1
     have hm2:=(hp1.set1 (j + 1)).plc
     go_wp2
     refine ⟨⟨j + 1,by omega,by omega,hp1.set1 (j + 1),hf1.set 1 _⟩,?_⟩
     rw [hme]
     have e1 : ((j : Int) + 1) = ((j + 1 : Nat) : Int):=by omega
     rw [e1,hm2]
     omega
    | false =>
     go_wp2
     refine wp_region_bel (by kernel_rfl) (by kernel_rfl) ?_
     repeat (go_big_quiet_step (fail "no call"))
     refine wpQuiet_nil ?_
     rintro W ⟨q,rfl⟩
     have hq:=q.h
     have hp1:=hp.out.grow hq
     have hf1:=hf.out.trans (Fp.of hq)
     generalize q.W = W1 at *
     obtain ⟨a0,a1,a2,a3⟩:=hp1.cells
     have z1:=hp1.frozen 1
     clear d0 d1
     go_wp2
     go_end0
     exact ⟨rfl,j,hij,hj,hp1,hf1⟩
  · have hji : ¬ (j : Int) < (s.size : Int):=by omega
    go_wp2
    refine wp_region_bel (by kernel_rfl) (by kernel_rfl) ?_
    repeat (go_big_quiet_step (fail "no call"))
    refine wpQuiet_nil ?_
    rintro W ⟨q,rfl⟩
    have hq:=q.h
    have hp1:=hp.out.grow hq
    have hf1:=hf.out.trans (Fp.of hq)
    generalize q.W = W1 at *
    obtain ⟨a0,a1,a2,a3⟩:=hp1.cells
    have z1:=hp1.frozen 1
    clear d0 d1
    go_wp2
    go_end0
    exact ⟨rfl,j,hij,hj,hp1,hf1⟩
def AnyB (w : World) (e : Ending) (w' : World) : Prop:=∃ b,e = .returned (.bool b)∧w' = w
theorem isfn_any (s : ByteArray) (w : World) : Calls Tryz.prog 42 #[.string s] w fun e w'=>AnyB w e w':=by
 go_enter Tryz.func42,Tryz.ntmps42
 go_wp2
 all_goals (go_ret;exact ⟨_,rfl,rfl⟩)
end Go.Proofs.YtdhlfpgibfaimaaGreatDoor

set_option maxRecDepth 100000
set_option maxHeartbeats 2000000
set_option linter.unusedVariables false
namespace Go.Proofs.YtdhlfpgibfaimaaGreatDoor
open Go.RowKit
theorem rref_any (s : ByteArray) (w : World) (hs : s.size ≤ 1000000) : Calls Tryz.prog 13 #[.string s] w fun e w'=>AnyB w e w':=by
 have hL : Hid (∀ (c : Int) W,Calls Tryz.prog 35 #[.int .u8 c] W fun e w'=>e = .returned (.bool (letB c))∧w' = W):=fun c W=>letter_any c W
 have hD : Hid (∀ (c : Int) W,Calls Tryz.prog 36 #[.int .u8 c] W fun e w'=>e = .returned (.bool (digB c))∧w' = W):=fun c W=>digit_any c W
 by_cases h1 : s.size < 1
 · have h1i : (s.size : Int) < 1:=by omega
   go_enter Tryz.func13,Tryz.ntmps13
   go_wp2
   all_goals (go_ret;exact ⟨_,rfl,rfl⟩)
 have h1i : ¬ (s.size : Int) < 1:=by omega
 by_cases h2 : 16 < s.size
 · have h2i : (16 : Int) < (s.size : Int):=by omega
   go_enter Tryz.func13,Tryz.ntmps13
   go_wp2
   all_goals (go_ret;exact ⟨_,rfl,rfl⟩)
 have h2i : ¬ (16 : Int) < (s.size : Int):=by omega
 have h3 : 0 < s.size:=by omega
 have h3i : (0 : Int) < (s.size : Int):=by omega
 by_cases h4 : (((s[0]'h3).toNat : Nat) : Int) < 65
 · go_enter Tryz.func13,Tryz.ntmps13
   go_wp2
   all_goals (go_ret;exact ⟨_,rfl,rfl⟩)
 by_cases h5 : (90 : Int) < (((s[0]'h3).toNat : Nat) : Int)
 · go_enter Tryz.func13,Tryz.ntmps13
   go_wp2
   all_goals (go_ret;exact ⟨_,rfl,rfl⟩)
 go_enter Tryz.func13,Tryz.ntmps13
 go_wp2
 go_loop [3] (fun i=>∃ k : Nat,k ≤ s.size∧i = .int .i64 k) (fun i=>s.size - (intOf i).toNat)
 case atStart=>exact ⟨0,Nat.zero_le _,rfl⟩
 case round =>
  obtain ⟨k,hk,rfl⟩:=hrel
  by_cases hlt : k < s.size
  · have hki : (k : Int) < (s.size : Int):=by omega
    have hLk:=hL.out ((((s[k]'hlt).toNat : Nat) : Int))
    have hDk:=hD.out ((((s[k]'hlt).toNat : Nat) : Int))
    generalize letB ((((s[k]'hlt).toNat : Nat) : Int)) = BL at *
    generalize digB ((((s[k]'hlt).toNat : Nat) : Int)) = BD at *
    cases BL <;> cases BD <;> (go_wp2_with (first | (go_at_call 35;refine (hLk _).mono ?_;rintro e wx ⟨rfl,hwx⟩;subst wx) | (go_at_call 36;refine (hDk _).mono ?_;rintro e wx ⟨rfl,hwx⟩;subst wx))) <;> (first | (refine ⟨⟨k + 1,by omega,by go_num⟩,?_⟩;simp [intOf];omega) | (go_ret;exact ⟨_,rfl,rfl⟩))
  · obtain rfl : k = s.size:=by omega
    have hki : ¬ (s.size : Int) < (s.size : Int):=by omega
    go_wp2
    go_ret
    exact ⟨_,rfl,rfl⟩
theorem rword_any (w : World) (p : Nat) (s : ByteArray) (i : Nat) (e t : Int) (h : RpT w p s i e t) (n : Nat) (hn : n ≤ s.size) (hs : s.size ≤ 1000000) : Calls Tryz.prog 274 #[.pointer (some ⟨p,0,none⟩),.int .i64 (n : Int)] w fun r w'=>∃ u : ByteArray,r = .returned (.string u)∧n + u.size ≤ s.size∧w' = w:=by
 have hL : Hid (∀ (c : Int) W,Calls Tryz.prog 35 #[.int .u8 c] W fun e w'=>e = .returned (.bool (letB c))∧w' = W):=fun c W=>letter_any c W
 have hD : Hid (∀ (c : Int) W,Calls Tryz.prog 36 #[.int .u8 c] W fun e w'=>e = .returned (.bool (digB c))∧w' = W):=fun c W=>digit_any c W
 obtain ⟨c0,c1,c2,c3⟩:=h.cells
 go_enter Tryz.func274,Tryz.ntmps274
 go_wp2
 go_loop [5] (fun i=>∃ k : Nat,n ≤ k∧k ≤ s.size∧i = .int .i64 k) (fun i=>s.size - (intOf i).toNat)
 case atStart=>exact ⟨n,Nat.le_refl _,hn,rfl⟩
 case round =>
  obtain ⟨k,hnk,hk,rfl⟩:=hrel
  have hki2 : (k : Int) ≤ (s.size : Int):=by omega
  have hnki : (n : Int) ≤ (k : Int):=by omega
  have hsz : n + (s.extract n k).size ≤ s.size:=by rw [ByteArray.size_extract];omega
  by_cases hlt : k < s.size
  · have hki : (k : Int) < (s.size : Int):=by omega
    have hLk:=hL.out ((((s[k]'hlt).toNat : Nat) : Int))
    have hDk:=hD.out ((((s[k]'hlt).toNat : Nat) : Int))
    generalize letB ((((s[k]'hlt).toNat : Nat) : Int)) = BL at *
    generalize digB ((((s[k]'hlt).toNat : Nat) : Int)) = BD at *
    cases BL <;> cases BD <;> (go_wp2_with (first | (go_at_call 35;refine (hLk _).mono ?_;rintro e wx ⟨rfl,hwx⟩;subst wx) | (go_at_call 36;refine (hDk _).mono ?_;rintro e wx ⟨rfl,hwx⟩;subst wx))) <;> (first | (refine ⟨⟨k + 1,by omega,by omega,by go_num⟩,?_⟩;simp [intOf];omega) | (go_ret;exact ⟨_,rfl,hsz,rfl⟩))
  · obtain rfl : k = s.size:=by omega
    have hki : ¬ (s.size : Int) < (s.size : Int):=by omega
    go_wp2
    go_ret
    exact ⟨_,rfl,hsz,rfl⟩
end Go.Proofs.YtdhlfpgibfaimaaGreatDoor

set_option maxRecDepth 100000
set_option maxHeartbeats 4000000
set_option linter.unusedVariables false
namespace Go.Proofs.YtdhlfpgibfaimaaGreatDoor
open Go.RowKit
def StrR (w : World) (b n : Nat) : Prop:=b < w.heap.size∧∀ k,k < n→∃ u : ByteArray,w.cell? ⟨b,k,none⟩ = some (.string u)∧u.size ≤ 1000000
theorem StrR.block {w w' : World} {b n : Nat} (h : StrR w b n) (hb : w'.heap[b]? = w.heap[b]?) (hs : w.heap.size ≤ w'.heap.size) : StrR w' b n:=by
 refine ⟨Nat.lt_of_lt_of_le h.1 hs,fun k hk=>?_⟩
 obtain ⟨u,hu,hl⟩:=h.2 k hk
 refine ⟨u,?_,hl⟩
 rw [← hu]
 simp [World.cell?,hb]
theorem StrR.grow {w w' : World} {b n : Nat} (h : StrR w b n) (hb : Below w.heap.size w w') : StrR w' b n:=h.block (hb.block b h.1) hb.size
theorem StrR.fp {w w' : World} {b n p : Nat} (h : StrR w b n) (hf : Fp p w w') (hne : b ≠ p) : StrR w' b n:=h.block (hf.block b h.1 hne) hf.size
theorem strR_new (w : World) (l : List ByteArray) (hl : ∀ u ∈ l,u.size ≤ 1000000) : StrR (w.alloc (.cells (l.map Value.string).toArray 9)) w.heap.size l.length:=by
 refine ⟨by simp,fun k hk=>⟨l.getD k ⟨#[]⟩,?_,hl _ (by simp [List.getD,hk])⟩⟩
 have : l[k]? = some (l.getD k ⟨#[]⟩):=by simp [List.getD,hk]
 have hblk : (w.alloc (.cells (l.map Value.string).toArray 9)).heap[w.heap.size]? = some (.cells (l.map Value.string).toArray 9 (0,0)):=by
  show (w.heap.push _)[w.heap.size]? = _
  simp
 have h2 : (l.map Value.string).toArray[k]? = some (.string (l.getD k ⟨#[]⟩)):=by
  rw [List.getElem?_toArray,List.getElem?_map,this]
  rfl
 unfold World.cell?
 rw [hblk]
 exact h2
def SgQ (s : ByteArray) (p i : Nat) (e t : Int) (w : World) (r : Ending) (w' : World) : Prop:=∃ (u : ByteArray) (j : Nat),r = .returned (.string u)∧i ≤ j∧j + u.size ≤ s.size∧Hid (RpT w' p s j e t)∧Hid (Fp p w w')∧Hid (e ≠ 0→u = ⟨#[]⟩)
theorem sign93 (w : World) (p : Nat) (s : ByteArray) (i : Nat) (e t : Int) (h : RpT w p s i e t) (hi : i ≤ s.size) (hs : s.size ≤ 1000000) : Calls Tryz.prog 93 #[.pointer (some ⟨p,0,none⟩)] w fun r w'=>SgQ s p i e t w r w':=by
 have hbl:=blanks_any w p s i e t h hi hs
 have hrow:=fun W=>strR_new W [⟨#[124,124]⟩,⟨#[38,38]⟩,⟨#[61,61]⟩,⟨#[33,61]⟩,⟨#[60,61]⟩,⟨#[62,61]⟩,⟨#[60]⟩,⟨#[62]⟩,⟨#[43]⟩,⟨#[45]⟩,⟨#[42]⟩,⟨#[47]⟩,⟨#[33]⟩,⟨#[40]⟩,⟨#[41]⟩] (by decide)
 simp only [List.map,List.length] at hrow
 go_enter Tryz.func93,Tryz.ntmps93
 go_wp2_with (first | (go_at_call 30;refine hbl.mono ?_;clear hbl;rintro r w1 ⟨rfl,j,hij,hj,hp,hf⟩;apply Hid.out))
 have hr1:=hrow w1
 have hp1:=hp.out.grow (bW0 w1 (.cells #[.string ⟨#[124,124]⟩,.string ⟨#[38,38]⟩,.string ⟨#[61,61]⟩,.string ⟨#[33,61]⟩,.string ⟨#[60,61]⟩,.string ⟨#[62,61]⟩,.string ⟨#[60]⟩,.string ⟨#[62]⟩,.string ⟨#[43]⟩,.string ⟨#[45]⟩,.string ⟨#[42]⟩,.string ⟨#[47]⟩,.string ⟨#[33]⟩,.string ⟨#[40]⟩,.string ⟨#[41]⟩] 9))
 have hf1:=hf.out.trans (Fp.of (bW0 w1 (.cells #[.string ⟨#[124,124]⟩,.string ⟨#[38,38]⟩,.string ⟨#[61,61]⟩,.string ⟨#[33,61]⟩,.string ⟨#[60,61]⟩,.string ⟨#[62,61]⟩,.string ⟨#[60]⟩,.string ⟨#[62]⟩,.string ⟨#[43]⟩,.string ⟨#[45]⟩,.string ⟨#[42]⟩,.string ⟨#[47]⟩,.string ⟨#[33]⟩,.string ⟨#[40]⟩,.string ⟨#[41]⟩] 9)))
 generalize hW2 : w1.alloc (.cells #[.string ⟨#[124,124]⟩,.string ⟨#[38,38]⟩,.string ⟨#[61,61]⟩,.string ⟨#[33,61]⟩,.string ⟨#[60,61]⟩,.string ⟨#[62,61]⟩,.string ⟨#[60]⟩,.string ⟨#[62]⟩,.string ⟨#[43]⟩,.string ⟨#[45]⟩,.string ⟨#[42]⟩,.string ⟨#[47]⟩,.string ⟨#[33]⟩,.string ⟨#[40]⟩,.string ⟨#[41]⟩] 9) = w2 at *
 generalize hBX : w1.heap.size = BX at *
 unfold Hid
 clear hrow hp hf h
 have hq0 : Hid (RpT w2 p s j e t):=hp1
 have hr0 : Hid (StrR w2 BX 15):=hr1
 have hf0 : Hid (Fp p w w2):=hf1
 clear hp1 hr1 hf1
 go_wp2
 go_loopw [4] (fun v wr=>∃ k : Nat,k ≤ 15∧v = .int .i64 k∧Hid (Below w2.heap.size w2 wr)) (fun v _=>15 - (intOf v).toNat)
 case atStart=>exact ⟨0,by omega,rfl,Below.refl _ _⟩
 case round =>
  obtain ⟨k,hk,rfl,hbr⟩:=hrel
  have hpr:=hq0.out.grow hbr.out
  have hfr:=hf0.out.trans (Fp.of hbr.out)
  obtain ⟨c0,c1,c2,c3⟩:=hpr.cells
  by_cases hlt : k < 15
  · have hki : (k : Int) < 15:=by omega
    cases he : (e == 0) with
    | false =>
     go_wp2
     go_ret
     exact ⟨_,j,rfl,hij,hj,hpr,hfr,fun _=>rfl⟩
    | true =>
     have he0 : Hid (e ≠ 0→False):=fun h=>h (by simpa using he)
     obtain ⟨u,hu,hul⟩:=(hr0.out.grow hbr.out).2 k hlt
     have d0 : ∀ q : Bel wr,q.W.cell? ⟨p,0,none⟩ = some (.string s):=fun q=>q.cell c0
     have d1 : ∀ q : Bel wr,q.W.cell? ⟨p,1,none⟩ = some (.int .i64 (j : Int)):=fun q=>q.cell c1
     have d2 : ∀ q : Bel wr,q.W.cell? ⟨BX,k,none⟩ = some (.string u):=fun q=>q.cell hu
     by_cases hfit : j + u.size ≤ s.size
     · have hfi : (j : Int) + (u.size : Int) ≤ (s.size : Int):=by omega
       have hji : (j : Int) ≤ (j : Int) + (u.size : Int):=by omega
       cases hE : ((s.extract j (j + u.size)).toList == u.toList) with
       | true =>
        go_wp2
        refine wp_region_bel (by kernel_rfl) (by kernel_rfl) ?_
        repeat (go_big_quiet_step (fail "no call"))
        refine wpQuiet_nil ?_
        rintro W ⟨q,rfl⟩
        have hq:=q.h
        have hb1 : Hid (Below w2.heap.size w2 q.W):=hbr.out.trans (hq.mono hbr.out.size)
        have hp1 : Hid (RpT q.W p s j e t):=hpr.grow hq
        have hf1 : Hid (Fp p w q.W):=hfr.trans (Fp.of hq)
        have hu1:=d2 q
        generalize q.W = W1 at *
        clear d0 d1 d2 hq c0 c1 c2 c3 hu
        go_wp2
        go_ret
        exact ⟨u,j,rfl,hij,hfit,hp1,hf1,fun h=>(he0.out h).elim⟩
       | false =>
        go_wp2
        refine wp_region_bel (by kernel_rfl) (by kernel_rfl) ?_
        repeat (go_big_quiet_step (fail "no call"))
        refine wpQuiet_nil ?_
        rintro W ⟨q,rfl⟩
        have hq:=q.h
        have hb1 : Hid (Below w2.heap.size w2 q.W):=hbr.out.trans (hq.mono hbr.out.size)
        have hp1 : Hid (RpT q.W p s j e t):=hpr.grow hq
        have hf1 : Hid (Fp p w q.W):=hfr.trans (Fp.of hq)
        have hu1:=d2 q
        generalize q.W = W1 at *
        clear d0 d1 d2 hq c0 c1 c2 c3 hu
        go_wp2
        refine ⟨⟨k + 1,by omega,by go_num,hb1⟩,?_⟩
        simp [intOf];omega
     · have hfi : ¬ (j : Int) + (u.size : Int) ≤ (s.size : Int):=by omega
       have hfd : decide ((j : Int) + (u.size : Int) ≤ (s.size : Int)) = false:=decide_eq_false hfi
       have hfb : (j : Int) + (u.size : Int) ≤ 9223372036854775807:=by omega
       go_wp2
       refine wp_region_bel (by kernel_rfl) (by kernel_rfl) ?_
       repeat (go_big_quiet_step (fail "no call"))
       refine wpQuiet_nil ?_
       rintro W ⟨q,rfl⟩
       have hq:=q.h
       have hb1 : Hid (Below w2.heap.size w2 q.W):=hbr.out.trans (hq.mono hbr.out.size)
       have hp1 : Hid (RpT q.W p s j e t):=hpr.grow hq
       have hf1 : Hid (Fp p w q.W):=hfr.trans (Fp.of hq)
       have hu1:=d2 q
       generalize q.W = W1 at *
       clear d0 d1 d2 hq c0 c1 c2 c3 hu
       go_wp2
       refine ⟨⟨k + 1,by omega,by go_num,hb1⟩,?_⟩
       simp [intOf];omega
  · have hki : ¬ (k : Int) < 15:=by omega
    go_wp2
    go_ret
    exact ⟨_,j,rfl,hij,hj,hpr,hfr,fun _=>rfl⟩
end Go.Proofs.YtdhlfpgibfaimaaGreatDoor

set_option maxRecDepth 100000
set_option maxHeartbeats 4000000
set_option linter.unusedVariables false
namespace Go.Proofs.YtdhlfpgibfaimaaGreatDoor
open Go.RowKit
def TkQ (s : ByteArray) (p i : Nat) (e t : Int) (w : World) (r : Ending) (w' : World) : Prop:=∃ (u : ByteArray) (j : Nat),r = .returned (.string u)∧i ≤ j∧j ≤ s.size∧Hid (RpT w' p s j e t)∧Hid (Fp p w w')∧(u = ⟨#[]⟩ ∨ (u.toList.isEmpty = false∧(u.toList == []) = false∧Hid (e = 0∧i < j)))
theorem ne_txt {u : ByteArray} (h : u ≠ ⟨#[]⟩) : u.toList.isEmpty = false∧(u.toList == []) = false∧1 ≤ u.size:=by
 have h1 : 1 ≤ u.size:=by
  rcases Nat.eq_zero_or_pos u.size with h0 | h0
  · exact absurd (ByteArray.ext (Array.eq_empty_of_size_eq_zero h0)) h
  · exact h0
 have h2 : u.toList ≠ []:=fun e=>by
  rw [ByteArray.toList_eq] at e
  have : u.data.toList.length = 0:=by rw [e];rfl
  rw [Array.length_toList] at this
  have h3 : u.size = u.data.size:=rfl
  omega
 refine ⟨?_,?_,h1⟩
 · cases hx : u.toList with
   | nil=>exact absurd hx h2
   | cons a l=>rfl
 · cases hx : u.toList with
   | nil=>exact absurd hx h2
   | cons a l=>rfl
theorem take64 (w : World) (p : Nat) (s : ByteArray) (i : Nat) (e t : Int) (h : RpT w p s i e t) (hi : i ≤ s.size) (hs : s.size ≤ 1000000) (b n : Nat) (hr : StrR w b n) (hb : b ≠ p) (hn : n ≤ 1000) : Calls Tryz.prog 64 #[.pointer (some ⟨p,0,none⟩),.slice (some ⟨b,0,none⟩) n n] w fun r w'=>TkQ s p i e t w r w':=by
 have hsg:=sign93 w p s i e t h hi hs
 go_enter Tryz.func64,Tryz.ntmps64
 go_wp2_with (first | (go_at_call 93;refine hsg.mono ?_;clear hsg;rintro r w1 ⟨u,j,rfl,hij,hj,hp,hf,hu⟩;apply Hid.out))
 have hr1 : Hid (StrR w1 b n):=hr.fp hf.out hb
 have hp1:=hp.out
 obtain ⟨c0,c1,c2,c3⟩:=hp1.cells
 have z1:=hp1.frozen 1
 have hji : (j : Int) + (u.size : Int) ≤ (s.size : Int):=by omega
 have hu2 : Hid (u ≠ ⟨#[]⟩→u.toList.isEmpty = false∧(u.toList == []) = false∧1 ≤ u.size):=fun h=>ne_txt h
 have hset : Hid (RpT (w1.setCell ⟨p,1,none⟩ (.int .i64 ((j : Int) + (u.size : Int)))) p s (j + u.size) e t):=by
  have:=hp1.set1 (j + u.size)
  have e1 : (((j + u.size : Nat)) : Int) = (j : Int) + (u.size : Int):=by omega
  rw [e1] at this
  exact this
 unfold Hid
 clear h hr hp1
 go_wp2
 go_loop [6] (fun v=>∃ k : Nat,k ≤ n∧v = .int .i64 k) (fun v=>n - (intOf v).toNat)
 case atStart=>exact ⟨0,Nat.zero_le _,rfl⟩
 case round =>
  obtain ⟨k,hk,rfl⟩:=hrel
  by_cases hlt : k < n
  · have hki : (k : Int) < (n : Int):=by omega
    obtain ⟨v,hv,hvl⟩:=hr1.out.2 k hlt
    cases hE : (u.toList == v.toList) with
    | false =>
     go_wp2
     refine ⟨⟨k + 1,by omega,by go_num⟩,?_⟩
     simp [intOf];omega
    | true =>
     by_cases h0 : u = ⟨#[]⟩
     · subst h0
       go_wp2
       all_goals (refine ⟨⟨k + 1,by omega,by go_num⟩,?_⟩;simp [intOf];omega)
     · obtain ⟨g1,g2,g3⟩:=hu2.out h0
       go_wp2
       go_ret
       refine ⟨u,j + u.size,rfl,by omega,hj,hset,hf.out.set 1 _,.inr ⟨g1,g2,?_,by omega⟩⟩
       by_cases he : e = 0
       · exact he
       · exact absurd (hu.out he) h0
  · have hki : ¬ (k : Int) < (n : Int):=by omega
    go_wp2
    go_ret
    exact ⟨_,j,rfl,hij,by omega,hp,hf,.inl rfl⟩
def StQ (s : ByteArray) (p i : Nat) (e : Int) (w : World) (r : Ending) (w' : World) : Prop:=r = .returned (.tuple #[])∧∃ (j : Nat) (e' t' : Int),i ≤ j∧j ≤ s.size∧Hid (RpT w' p s j e' t')∧Hid (Fp p w w')∧Hid (e ≠ 0→e' ≠ 0)
theorem must272 (w : World) (p : Nat) (s : ByteArray) (i : Nat) (e t : Int) (h : RpT w p s i e t) (hi : i ≤ s.size) (hs : s.size ≤ 1000000) (u : ByteArray) (hu : u.size ≤ 1000000) : Calls Tryz.prog 272 #[.pointer (some ⟨p,0,none⟩),.string u] w fun r w'=>StQ s p i e w r w':=by
 have hpl:=h.lt
 have hb:=bW0 w (.cells #[.string u] 9)
 have hr : StrR (w.alloc (.cells #[.string u] 9)) w.heap.size 1:=strR_new w [u] (fun v hv=>by rw [List.mem_singleton.1 hv];exact hu)
 have htk:=take64 _ p s i e t (h.grow hb) hi hs w.heap.size 1 hr (by omega) (by omega)
 have hfl : Hid (∀ W j,RpT W p s j e t→Calls Tryz.prog 31 #[.pointer (some ⟨p,0,none⟩),.int .i64 110,.int .i64 (j : Int)] W fun r w'=>r = .returned (.tuple #[])∧Hid (Fp p W w'∧∃ e' t',RpT w' p s j e' t'∧(e ≠ 0→e' = e)∧(e = 0→e' = 110))):=fun W j g=>fail_any W p s j e t 110 j g
 have hf0 : Hid (Fp p w (w.alloc (.cells #[.string u] 9))):=Fp.of hb
 go_enter Tryz.func272,Tryz.ntmps272
 go_wp2_with (first | (go_at_call 64;refine htk.mono ?_;clear htk;rintro r w1 ⟨v,j,rfl,hij,hj,hp,hf,hv⟩;apply Hid.out))
 obtain ⟨c0,c1,c2,c3⟩:=hp.out.cells
 have hfj:=hfl.out w1 j hp.out
 have hff:=hf0.out.trans hf.out
 unfold Hid
 clear hfl hb hr
 rcases hv with rfl | ⟨g1,g2,g3⟩
 · go_wp2_with (first | (go_at_call 31;refine hfj.mono ?_;clear hfj;rintro r w2 ⟨rfl,h2⟩))
   go_end0
   obtain ⟨hf2,e',t',hp2,k1,k2⟩:=h2.out
   exact ⟨rfl,j,e',t',hij,hj,hp2,hff.trans hf2,fun h0=>by rw [k1 h0];exact h0⟩
 · go_wp2
   go_end0
   exact ⟨rfl,j,e,t,hij,hj,hp,hff,fun h=>h⟩
theorem rcall_any (n : ByteArray) (a : Option Addr) (m c : Nat) (w : World) : Calls Tryz.prog 65 #[.string n,.slice a m c] w fun e w'=>e = .returned (.agg #[.int .i64 3,.string n,.int .i64 0,.int .i64 0,.slice a m c])∧Below w.heap.size w w':=by
 go_enter Tryz.func65,Tryz.ntmps65
 go_wp2
 exact ret27 Tryz.results65 rfl (bxNew w 27 _ _ _ _ _) ⟨rfl,bW0 w _⟩
end Go.Proofs.YtdhlfpgibfaimaaGreatDoor

set_option linter.unusedVariables false
namespace Go.Proofs.YtdhlfpgibfaimaaGreatDoor
open Go.RowKit
inductive WE : Ex→Prop
 | n (v : Vl) : WE (exN v)
 | r (n : ByteArray) : WE (exR n)
 | c1 (n : ByteArray) {x : Ex} : WE x→WE (exC n [x])
 | c2 (n : ByteArray) {x y : Ex} : WE x→WE y→WE (exC n [x,y])
structure JdR (s : ByteArray) (p i : Nat) (e : Int) (W w' : World) (u : Value) (j : Nat) (e' t' : Int) (X : Ex) : Prop where
 ge : i ≤ j
 le : j ≤ s.size
 rp : RpT w' p s j e' t'
 fp : Fp p W w'
 er : e ≠ 0→e' ≠ 0
 v : ExV w' (fun b=>W.heap.size ≤ b) X u
 we : e' = 0→WE X
def JdQ (s : ByteArray) (p i : Nat) (e : Int) (W : World) (r : Ending) (w' : World) : Prop :=
 ∃ (k : Int) (n : ByteArray) (x y : Int) (a : Option Addr) (m c : Nat),r = .returned (.agg #[.int .i64 k,.string n,.int .i64 x,.int .i64 y,.slice a m c])∧∃ (j : Nat) (e' t' : Int) (X : Ex),Hid (JdR s p i e W w' (.agg #[.int .i64 k,.string n,.int .i64 x,.int .i64 y,.slice a m c]) j e' t' X)
def JD (f : Nat) (d : Nat) (s : ByteArray) : Prop:=∀ (W : World) (p i : Nat) (e t : Int),RpT W p s i e t→i ≤ s.size→Calls Tryz.prog f #[.pointer (some ⟨p,0,none⟩),.int .i64 (d : Int)] W fun r w'=>JdQ s p i e W r w'
theorem ExV.less2 {w : World} {A : Nat→Prop} {t : Ex} {u : Value} (h : ExV w A t u) : ExV w (fun b=>A b∧b < w.heap.size) t u:=by
 obtain ⟨K,h1,h2⟩:=h
 exact ⟨K,h1,kidsV.keep (fun _ _ _=>rfl) (Nat.le_refl _) (fun b h g=>⟨h,g⟩) _ _ h2⟩
structure Lq (s : ByteArray) (p i BX : Nat) (e : Int) (W wr : World) (j : Nat) (e1 t1 k : Int) (n : ByteArray) (x y : Int) (a : Option Addr) (m c : Nat) (X : Ex) : Prop where
 ge : i ≤ j
 le : j ≤ s.size
 rp : RpT wr p s j e1 t1
 fp : Fp p W wr
 pl : p < W.heap.size
 er : e ≠ 0→e1 ≠ 0
 bx : W.heap.size < BX
 z : Bx wr W.heap.size 27 (.int .i64 0) (.string ⟨#[]⟩) (.int .i64 0) (.int .i64 0) (.slice none 0 0)
 b : Bx wr BX 27 (.int .i64 k) (.string n) (.int .i64 x) (.int .i64 y) (.slice a m c)
 v : ExV wr (fun b=>W.heap.size < b∧b ≠ BX) X (.agg #[.int .i64 k,.string n,.int .i64 x,.int .i64 y,.slice a m c])
 we : e1 = 0→WE X
section
variable {s : ByteArray} {p i BX : Nat} {e : Int} {W wr : World} {j : Nat} {e1 t1 k : Int} {n : ByteArray} {x y : Int} {a : Option Addr} {m c : Nat} {X : Ex}
theorem Lq.start {w1 : World} {t : Int} (hp : RpT W p s i e t) (h : JdR s p i e (W.alloc zE) w1 (.agg #[.int .i64 k,.string n,.int .i64 x,.int .i64 y,.slice a m c]) j e1 t1 X) :
 Lq s p i w1.heap.size e W (w1.alloc (.cells #[.int .i64 k,.string n,.int .i64 x,.int .i64 y,.slice a m c] 27)) j e1 t1 k n x y a m c X:=by
 have hb:=bW0 W zE
 have hb1:=bW0 w1 (.cells #[.int .i64 k,.string n,.int .i64 x,.int .i64 y,.slice a m c] 27)
 have hs:=h.fp.size
 have hs0 : (W.alloc zE).heap.size = W.heap.size + 1:=by simp
 have hpl:=hp.lt
 refine ⟨h.ge,h.le,h.rp.grow hb1,((Fp.of hb).trans h.fp).trans (Fp.of hb1),hpl,h.er,by omega,((bxNew W 27 _ _ _ _ _).fp h.fp (by omega)).grow hb1,bxNew w1 27 _ _ _ _ _,?_,h.we⟩
 exact (h.v.less2.grow hb1).more fun b hb=>⟨by have:=hb.1;omega,by have:=hb.2;omega⟩
theorem Lq.start2 {w0 w1 : World} {i0 : Nat} {e0 : Int} (hp : p < W.heap.size) (hf : Fp p (W.alloc zE) w0) (hi : i ≤ i0) (he : e ≠ 0→e0 ≠ 0) (h : JdR s p i0 e0 w0 w1 (.agg #[.int .i64 k,.string n,.int .i64 x,.int .i64 y,.slice a m c]) j e1 t1 X) :
 Lq s p i w1.heap.size e W (w1.alloc (.cells #[.int .i64 k,.string n,.int .i64 x,.int .i64 y,.slice a m c] 27)) j e1 t1 k n x y a m c X:=by
 have hb:=bW0 W zE
 have hb1:=bW0 w1 (.cells #[.int .i64 k,.string n,.int .i64 x,.int .i64 y,.slice a m c] 27)
 have hs:=h.fp.size
 have hsf:=hf.size
 have hs0 : (W.alloc zE).heap.size = W.heap.size + 1:=by simp
 refine ⟨Nat.le_trans hi h.ge,h.le,h.rp.grow hb1,(((Fp.of hb).trans hf).trans h.fp).trans (Fp.of hb1),hp,fun q=>h.er (he q),by omega,(((bxNew W 27 _ _ _ _ _).fp hf (by omega)).fp h.fp (by omega)).grow hb1,bxNew w1 27 _ _ _ _ _,?_,h.we⟩
 exact (h.v.less2.grow hb1).more fun b hb=>⟨by have:=hb.1;omega,by have:=hb.2;omega⟩
theorem Lq.take {w2 : World} {b2 j2 : Nat} (h : Lq s p i BX e W wr j e1 t1 k n x y a m c X) (hb : Below wr.heap.size wr w2) {w3 : World} (hr : RpT w3 p s j2 e1 t1) (hf : Fp p w2 w3) (hj : j ≤ j2) (hl : j2 ≤ s.size) : Lq s p i BX e W w3 j2 e1 t1 k n x y a m c X:=by
 have hp:=h.pl
 have h1:=h.bx
 exact ⟨Nat.le_trans h.ge hj,hl,hr,(h.fp.trans (Fp.of hb)).trans hf,hp,h.er,h.bx,(h.z.grow hb).fp hf (by omega),(h.b.grow hb).fp hf (by omega),(h.v.grow hb).fp hf (fun b hb=>by have:=hb.1;omega),h.we⟩
theorem Lq.step {w3 w5 : World} {e2 t2 k2 : Int} {n2 N : ByteArray} {x2 y2 : Int} {a2 : Option Addr} {m2 c2 j2 : Nat} {X2 : Ex} (h : Lq s p i BX e W wr j e1 t1 k n x y a m c X)
 (g : JdR s p j e1 wr w3 (.agg #[.int .i64 k2,.string n2,.int .i64 x2,.int .i64 y2,.slice a2 m2 c2]) j2 e2 t2 X2)
 (hb : Below (w3.heap.size + 1) (w3.alloc (.cells #[.int .i64 k,.string n,.int .i64 x,.int .i64 y,.slice a m c,.int .i64 k2,.string n2,.int .i64 x2,.int .i64 y2,.slice a2 m2 c2] 27)) w5) :
 Bx w5 BX 27 (.int .i64 k) (.string n) (.int .i64 x) (.int .i64 y) (.slice a m c)∧Lq s p i BX e W (set5 w5 BX (.int .i64 3) (.string N) (.int .i64 0) (.int .i64 0) (.slice (some ⟨w3.heap.size,0,none⟩) 2 2)) j2 e2 t2 3 N 0 0 (some ⟨w3.heap.size,0,none⟩) 2 2 (exC N [X,X2]):=by
 have hp:=h.pl
 have h1:=h.bx
 have h2:=h.b.lt
 have h3:=g.fp.size
 have hb0:=bW0 w3 (.cells #[.int .i64 k,.string n,.int .i64 x,.int .i64 y,.slice a m c,.int .i64 k2,.string n2,.int .i64 x2,.int .i64 y2,.slice a2 m2 c2] 27)
 have hs0 : (w3.alloc (.cells #[.int .i64 k,.string n,.int .i64 x,.int .i64 y,.slice a m c,.int .i64 k2,.string n2,.int .i64 x2,.int .i64 y2,.slice a2 m2 c2] 27)).heap.size = w3.heap.size + 1:=by simp
 rw [← hs0] at hb
 have hb5 : Below w3.heap.size w3 w5:=hb0.trans (hb.mono hb0.size)
 have hx5:=(h.b.fp g.fp (by omega)).grow hb5
 have hz5:=(h.z.fp g.fp (by omega)).grow hb5
 have hf5 : Fp p W w5:=(h.fp.trans g.fp).trans (Fp.of hb5)
 have hW:=h.fp.size
 have v1:=(h.v.less2.fp g.fp (fun b hb=>by have:=hb.1.1;omega)).more (A':=fun b=>W.heap.size < b∧b ≠ BX) fun b hb=>hb.1
 have v2:=g.v.more (A':=fun b=>W.heap.size < b∧b ≠ BX) fun b hb=>⟨by omega,by omega⟩
 have v3:=exC2_V (A:=fun b=>W.heap.size < b∧b ≠ BX) X X2 N _ _ _ _ _ _ _ _ _ _ v1 v2 ⟨by omega,by omega⟩
 refine ⟨hx5,Nat.le_trans h.ge g.ge,g.le,(g.rp.grow hb5).hi5 (by omega) _ _ _ _ _,hf5.hi5 (by omega) _ _ _ _ _,hp,fun q=>g.er (h.er q),h1,(set5_block (by omega)).trans hz5,hx5.set,?_,fun q=>?_⟩
 · exact (v3.grow hb).hi5 (fun b hb=>hb.2) _ _ _ _ _
 · refine .c2 N (h.we ?_) (g.we q)
   by_cases q1 : e1 = 0
   · exact q1
   · exact absurd q (g.er q1)
theorem ExV.drew {w : World} {A : Nat→Prop} {t : Ex} {u : Value} (h : ExV w A t u) : ExV w.drew A t u:=by
 obtain ⟨K,h1,h2⟩:=h
 exact ⟨K,h1,kidsV.keep (w:=w) (w':=w.drew) (A:=A) (fun _ _ _=>rfl) (Nat.le_refl _) (fun _ h _=>h) _ _ h2⟩
theorem Lq.drew (h : Lq s p i BX e W wr j e1 t1 k n x y a m c X) : Lq s p i BX e W wr.drew j e1 t1 k n x y a m c X:=⟨h.ge,h.le,h.rp,h.fp.drew,h.pl,h.er,h.bx,h.z,h.b,h.v.drew,h.we⟩
theorem Lq.done (h : Lq s p i BX e W wr j e1 t1 k n x y a m c X) : Bx (set5 wr W.heap.size (.int .i64 k) (.string n) (.int .i64 x) (.int .i64 y) (.slice a m c)) W.heap.size 27 (.int .i64 k) (.string n) (.int .i64 x) (.int .i64 y) (.slice a m c) ∧
 JdR s p i e W (set5 wr W.heap.size (.int .i64 k) (.string n) (.int .i64 x) (.int .i64 y) (.slice a m c)) (.agg #[.int .i64 k,.string n,.int .i64 x,.int .i64 y,.slice a m c]) j e1 t1 X:=by
 have hp:=h.pl
 refine ⟨h.z.set,h.ge,h.le,h.rp.hi5 (by omega) _ _ _ _ _,h.fp.hi5 (Nat.le_refl _) _ _ _ _ _,h.er,?_,h.we⟩
 exact (h.v.hi5 (x:=W.heap.size) (fun b hb=>by have:=hb.1;omega) _ _ _ _ _).more fun b hb=>by have:=hb.1;omega
theorem jd_out {w : World} {c0 c1 c2 c3 c4 : Value} (hp : p < W.heap.size) (hf : Fp p (W.alloc zE) w) (hr : RpT w p s j e1 t1) (h1 : i ≤ j) (h2 : j ≤ s.size) (he : e ≠ 0→e1 ≠ 0) (hv : ExV w (fun b=>W.heap.size < b) X (.agg #[c0,c1,c2,c3,c4])) (hw : e1 = 0→WE X) :
 Bx (set5 w W.heap.size c0 c1 c2 c3 c4) W.heap.size 27 c0 c1 c2 c3 c4∧JdR s p i e W (set5 w W.heap.size c0 c1 c2 c3 c4) (.agg #[c0,c1,c2,c3,c4]) j e1 t1 X:=by
 have hb:=bW0 W zE
 refine ⟨((bxNew W 27 _ _ _ _ _).fp hf (by omega)).set,h1,h2,hr.hi5 (by omega) _ _ _ _ _,((Fp.of hb).trans hf).hi5 (Nat.le_refl _) _ _ _ _ _,he,?_,hw⟩
 exact (hv.hi5 (x:=W.heap.size) (fun b hb=>by omega) _ _ _ _ _).more fun b hb=>by omega
end
end Go.Proofs.YtdhlfpgibfaimaaGreatDoor
