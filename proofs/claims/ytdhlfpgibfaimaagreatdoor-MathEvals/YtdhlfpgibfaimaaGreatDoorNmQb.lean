import Derived.Test.YtdhlfpgibfaimaaGreatDoorBaRw
import Derived.SizedLaws
import Derived.Laws.StructEq
import Derived.WalkSmall
set_option maxRecDepth 100000
set_option maxHeartbeats 4000000
set_option linter.unusedVariables false
namespace Go.Proofs.YtdhlfpgibfaimaaGreatDoor
open Go.RowKit
def letterB (c : Int) : Bool:=(97 ≤ c∧c ≤ 122) || (65 ≤ c∧c ≤ 90) || c = 95
def digitB (c : Int) : Bool:=decide (48 ≤ c∧c ≤ 57)
theorem nameC_eq (first : Bool) (c : Int) : nameC first c = (letterB c || (!first && digitB c)):=by
 unfold nameC letterB digitB;simp only [Bool.or_assoc]
def byteAt (s : ByteArray) (k : Nat) : Int:=(numsS s).getD k 0
theorem byteAt_in (s : ByteArray) (k : Nat) : 0 ≤ byteAt s k∧byteAt s k < 256:=by
 unfold byteAt
 by_cases h : k < (numsS s).length
 · exact numsS_bytes s _ (lgetD_mem _ _ _ h)
 · rw [List.getD_eq_getElem?_getD,List.getElem?_eq_none (by omega)];decide
theorem byteAt_get (s : ByteArray) (k : Nat) (h : k < s.size) : (s[k].toNat : Int) = byteAt s k:=by
 unfold byteAt numsS
 have h2 : k < s.data.toList.length:=by simpa using h
 rw [List.getD_eq_getElem?_getD,List.getElem?_map,List.getElem?_eq_getElem h2]
 simp [ByteArray.getElem_eq_getElem_data]
def nameTo (s : ByteArray) (k : Nat) : Prop:=∀ j,j < k→nameC (j == 0) (byteAt s j) = true
open Classical in
noncomputable def nameB (s : ByteArray) : Bool:=decide (IsName s)
theorem isName_iff (s : ByteArray) : IsName s ↔ (1 ≤ s.size∧s.size ≤ 64)∧nameTo s s.size:=by
 unfold IsName nameTo byteAt
 refine ⟨fun ⟨h1,h2⟩=>⟨h1,fun j hj=>?_⟩,fun ⟨h1,h2⟩=>⟨h1,fun j hj=>?_⟩⟩
 · have:=h2 j (by rw [numsS_length];exact hj)
   rw [List.getD_eq_getElem?_getD,List.getElem?_eq_getElem (by rw [numsS_length];exact hj)]
   exact this
 · have:=h2 j (by rw [numsS_length] at hj;exact hj)
   rw [List.getD_eq_getElem?_getD,List.getElem?_eq_getElem hj] at this
   exact this
theorem nameB_no {s : ByteArray} (h : ¬ IsName s) : nameB s = false:=by simp [nameB,h]
theorem nameB_yes {s : ByteArray} (h : IsName s) : nameB s = true:=by simp [nameB,h]
theorem nameB_iff {s : ByteArray} : nameB s = true ↔ IsName s:=by simp [nameB]
theorem nameTo_succ {s : ByteArray} {k : Nat} (h : nameTo s k) (hc : nameC (k == 0) (byteAt s k) = true) : nameTo s (k + 1):=by
 intro j hj
 by_cases e : j = k
 · subst e;exact hc
 · exact h j (by omega)
theorem not_name {s : ByteArray} {k : Nat} (hk : k < s.size) (hc : nameC (k == 0) (byteAt s k) = false) : ¬ IsName s:=by
 rw [isName_iff]
 rintro ⟨_,h⟩
 have:=h k hk
 rw [hc] at this;cases this
theorem isDigit_any (c : Int) (w : World) (h0 : 0 ≤ c) (h1 : c < 256) : Calls Tryz.prog 252 #[.int .u8 c] w fun e w'=>e = .returned (.bool (digitB c))∧w' = w:=by
 by_cases a : 48 ≤ c
 · by_cases b : c ≤ 57
   · have hd : Hid (digitB c = true):=by show _ = _;simp [digitB,a,b]
     go_enter Tryz.func252,Tryz.ntmps252
     go_wp2
     go_ret
     exact ⟨by rw [hd.out];try rfl,rfl⟩
   · have hd : Hid (digitB c = false):=by show _ = _;simp [digitB,b]
     go_enter Tryz.func252,Tryz.ntmps252
     go_wp2
     go_ret
     exact ⟨by rw [hd.out];simp,rfl⟩
 · have hd : Hid (digitB c = false):=by show _ = _;simp [digitB,a]
   go_enter Tryz.func252,Tryz.ntmps252
   go_wp2
   go_ret
   exact ⟨by rw [hd.out];simp,rfl⟩
theorem isLetter_any (c : Int) (w : World) (h0 : 0 ≤ c) (h1 : c < 256) : Calls Tryz.prog 253 #[.int .u8 c] w fun e w'=>e = .returned (.bool (letterB c))∧w' = w:=by
 by_cases a : 97 ≤ c <;> by_cases b : c ≤ 122 <;> by_cases d : 65 ≤ c <;> by_cases f : c ≤ 90 <;> by_cases g : c = 95
 all_goals first
  | (exfalso;omega)
  | (have hd : Hid (letterB c = true):=by (show _ = _;simp [letterB];omega)
     have gb : (c == 95) = true:=by simpa using g
     clear g
     go_enter Tryz.func253,Tryz.ntmps253
     go_wp2
     go_ret
     exact ⟨by rw [hd.out];try (simp [*]),rfl⟩)
  | (have hd : Hid (letterB c = true):=by (show _ = _;simp [letterB];omega)
     have gb : (c == 95) = false:=by simpa using g
     clear g
     go_enter Tryz.func253,Tryz.ntmps253
     go_wp2
     go_ret
     exact ⟨by rw [hd.out];try (simp [*]),rfl⟩)
  | (have hd : Hid (letterB c = false):=by (show _ = _;simp [letterB];omega)
     have gb : (c == 95) = false:=by simpa using g
     clear g
     go_enter Tryz.func253,Tryz.ntmps253
     go_wp2
     go_ret
     exact ⟨by rw [hd.out];try (simp [*]),rfl⟩)
theorem digit_letter {c : Int} (h : digitB c = true) : letterB c = false:=by
 unfold digitB at h;unfold letterB
 simp at h ⊢;omega
theorem isName_any (s : ByteArray) (w : World) (hs : s.size ≤ 9223372036854775807) : Calls Tryz.prog 217 #[.string s] w fun e w'=>e = .returned (.bool (nameB s))∧w' = w:=by
 by_cases h1 : s.size < 1
 · have hn : Hid (nameB s = false):=nameB_no (by rw [isName_iff];omega)
   have h1i : (s.size : Int) < 1:=by omega
   go_enter Tryz.func217,Tryz.ntmps217
   go_wp2_with fail
   go_ret
   exact ⟨by rw [hn.out];rfl,rfl⟩
 · have h1i : ¬ (s.size : Int) < 1:=by omega
   by_cases h2 : 64 < s.size
   · have hn : Hid (nameB s = false):=nameB_no (by rw [isName_iff];omega)
     have h2i : (64 : Int) < (s.size : Int):=by omega
     go_enter Tryz.func217,Tryz.ntmps217
     go_wp2_with fail
     go_ret
     exact ⟨by rw [hn.out];rfl,rfl⟩
   · have h2i : ¬ (64 : Int) < (s.size : Int):=by omega
     have hD : ∀ k (h : k < s.size) W,Calls Tryz.prog 252 #[.int .u8 ((s[k].toNat : Nat) : Int)] W fun e w'=>e = .returned (.bool (digitB (byteAt s k)))∧w' = W:=fun k h W=>by
      rw [byteAt_get];exact isDigit_any (byteAt s k) W (byteAt_in s k).1 (byteAt_in s k).2
     have hL : ∀ k (h : k < s.size) W,Calls Tryz.prog 253 #[.int .u8 ((s[k].toNat : Nat) : Int)] W fun e w'=>e = .returned (.bool (letterB (byteAt s k)))∧w' = W:=fun k h W=>by
      rw [byteAt_get];exact isLetter_any (byteAt s k) W (byteAt_in s k).1 (byteAt_in s k).2
     have hD0:=hD 0 (by omega)
     cases hd0 : digitB (byteAt s 0) with
     | true =>
      have hn : Hid (nameB s = false):=nameB_no (not_name (k:=0) (by omega) (by rw [nameC_eq,digit_letter hd0];rfl))
      rw [hd0] at hD0
      clear hd0 hD hL
      go_enter Tryz.func217,Tryz.ntmps217
      go_wp2_with (first | (go_at_call 252;refine (hD0 _).mono ?_;rintro e wx ⟨rfl,hwx⟩;subst wx))
      go_ret
      exact ⟨by rw [hn.out];rfl,rfl⟩
     | false =>
      rw [hd0] at hD0
      replace hd0 : Hid _:=hd0
      replace hD : Hid _:=hD
      replace hL : Hid _:=hL
      go_enter Tryz.func217,Tryz.ntmps217
      go_wp2_with (first | (go_at_call 252;refine (hD0 _).mono ?_;rintro e wx ⟨rfl,hwx⟩;subst wx))
      clear hD0
      go_loop [19] (fun i=>∃ k : Nat,k ≤ s.size∧i = .int .i64 k∧nameTo s k) (fun i=>s.size - (intOf i).toNat)
      case atStart=>exact ⟨0,Nat.zero_le _,rfl,fun j hj=>absurd hj (Nat.not_lt_zero _)⟩
      case round =>
       obtain ⟨k,hk,rfl,hto⟩:=hrel
       by_cases hlt : k < s.size
       · have hki : (k : Int) < (s.size : Int):=by omega
         have hDk:=hD.out k hlt
         have hLk:=hL.out k hlt
         have hnx : Hid (nameC (k == 0) (byteAt s k) = (letterB (byteAt s k) || digitB (byteAt s k))):=by
          show _ = _
          rw [nameC_eq]
          by_cases h0 : k = 0
          · subst h0;rw [hd0.out];rfl
          · rw [show (k == 0) = false from by simpa using h0];rfl
         cases hl : letterB (byteAt s k) with
         | true =>
          rw [hl] at hLk hnx
          have hst : nameTo s (k + 1):=nameTo_succ hto (hnx.out.trans rfl)
          clear hl
          go_wp2_with (first | (go_at_call 253;refine (hLk _).mono ?_;rintro e wx ⟨rfl,hwx⟩;subst wx))
          go_round
          case rel=>exact ⟨k + 1,by omega,by go_num,hst⟩
          case measure=>simp [intOf];omega
         | false =>
          rw [hl] at hLk hnx
          clear hl
          cases hd : digitB (byteAt s k) with
          | true =>
           rw [hd] at hDk hnx
           have hst : nameTo s (k + 1):=nameTo_succ hto (hnx.out.trans rfl)
           clear hd
           go_wp2_with (first | (go_at_call 253;refine (hLk _).mono ?_;rintro e wx ⟨rfl,hwx⟩;subst wx) | (go_at_call 252;refine (hDk _).mono ?_;rintro e wx ⟨rfl,hwx⟩;subst wx))
           go_round
           case rel=>exact ⟨k + 1,by omega,by go_num,hst⟩
           case measure=>simp [intOf];omega
          | false =>
           rw [hd] at hDk hnx
           have hn : Hid (nameB s = false):=nameB_no (not_name hlt (hnx.out.trans rfl))
           clear hd
           go_wp2_with (first | (go_at_call 253;refine (hLk _).mono ?_;rintro e wx ⟨rfl,hwx⟩;subst wx) | (go_at_call 252;refine (hDk _).mono ?_;rintro e wx ⟨rfl,hwx⟩;subst wx))
           go_ret
           exact ⟨by rw [hn.out];rfl,rfl⟩
       · obtain rfl : k = s.size:=by omega
         have hki : ¬ (s.size : Int) < (s.size : Int):=by omega
         have hn : Hid (nameB s = true):=nameB_yes (by rw [isName_iff];exact ⟨by omega,hto⟩)
         go_wp2_with fail
         go_ret
         exact ⟨by rw [hn.out];rfl,rfl⟩
theorem rname_any (s : ByteArray) (w : World) (hs : s.size ≤ 9223372036854775807) : Calls Tryz.prog 160 #[.string s] w fun e w'=>e = .returned (.bool (nameB s))∧w' = w:=by
 by_cases h1 : s.size < 1
 · have hn : Hid (nameB s = false):=nameB_no (by rw [isName_iff];omega)
   have h1i : (s.size : Int) < 1:=by omega
   go_enter Tryz.func160,Tryz.ntmps160
   go_wp2_with fail
   go_ret
   exact ⟨by rw [hn.out];rfl,rfl⟩
 · have h1i : ¬ (s.size : Int) < 1:=by omega
   by_cases h2 : 64 < s.size
   · have hn : Hid (nameB s = false):=nameB_no (by rw [isName_iff];omega)
     have h2i : (64 : Int) < (s.size : Int):=by omega
     go_enter Tryz.func160,Tryz.ntmps160
     go_wp2_with fail
     go_ret
     exact ⟨by rw [hn.out];rfl,rfl⟩
   · have h2i : ¬ (64 : Int) < (s.size : Int):=by omega
     go_enter Tryz.func160,Tryz.ntmps160
     go_wp2_with fail
     go_loop [3] (fun i=>∃ k : Nat,k ≤ s.size∧i = .int .i64 k∧nameTo s k) (fun i=>s.size - (intOf i).toNat)
     case atStart=>exact ⟨0,Nat.zero_le _,rfl,fun j hj=>absurd hj (Nat.not_lt_zero _)⟩
     case round =>
      obtain ⟨k,hk,rfl,hto⟩:=hrel
      by_cases hlt : k < s.size
      · have hki : (k : Int) < (s.size : Int):=by omega
        have hgt:=byteAt_get s k hlt
        have hin:=byteAt_in s k
        have hnx : Hid (nameC (k == 0) (byteAt s k) = (letterB (byteAt s k) || (!(k == 0) && digitB (byteAt s k)))):=nameC_eq _ _
        have hyes : Hid (nameC (k == 0) (byteAt s k) = true→nameTo s (k + 1)):=fun h=>nameTo_succ hto h
        have hno : Hid (nameC (k == 0) (byteAt s k) = false→nameB s = false):=fun h=>nameB_no (not_name hlt h)
        have hyes2 : Hid ((letterB ((s[k].toNat : Nat) : Int) || (!(k == 0) && digitB ((s[k].toNat : Nat) : Int))) = true→nameTo s (k + 1)):=fun h=>hyes.out (by rw [hnx.out,← hgt];exact h)
        have hno2 : Hid ((letterB ((s[k].toNat : Nat) : Int) || (!(k == 0) && digitB ((s[k].toNat : Nat) : Int))) = false→nameB s = false):=fun h=>hno.out (by rw [hnx.out,← hgt];exact h)
        clear hgt hin hnx hyes hno
        have hparts : ∃ lo hi : Int,lo ≤ ((s[k].toNat : Nat) : Int)∧((s[k].toNat : Nat) : Int) ≤ hi∧((lo = 0∧hi = 47) ∨ (lo = 48∧hi = 57) ∨ (lo = 58∧hi = 64) ∨ (lo = 65∧hi = 90) ∨ (lo = 91∧hi = 94) ∨ (lo = 95∧hi = 95) ∨ (lo = 96∧hi = 96) ∨ (lo = 97∧hi = 122) ∨ (lo = 123∧hi = 255)):=by
         have hlt:=s[k].toNat_lt
         generalize s[k].toNat = c at *
         have : (c ≤ 47) ∨ (48 ≤ c∧c ≤ 57) ∨ (58 ≤ c∧c ≤ 64) ∨ (65 ≤ c∧c ≤ 90) ∨ (91 ≤ c∧c ≤ 94) ∨ c = 95 ∨ c = 96 ∨ (97 ≤ c∧c ≤ 122) ∨ (123 ≤ c∧c ≤ 255):=by omega
         rcases this with h | h | h | h | h | h | h | h | h
         · exact ⟨0,47,by omega,by omega,by omega⟩
         · exact ⟨48,57,by omega,by omega,by omega⟩
         · exact ⟨58,64,by omega,by omega,by omega⟩
         · exact ⟨65,90,by omega,by omega,by omega⟩
         · exact ⟨91,94,by omega,by omega,by omega⟩
         · exact ⟨95,95,by omega,by omega,by omega⟩
         · exact ⟨96,96,by omega,by omega,by omega⟩
         · exact ⟨97,122,by omega,by omega,by omega⟩
         · exact ⟨123,255,by omega,by omega,by omega⟩
        obtain ⟨lo,hi,hlo,hhi,hp⟩:=hparts
        rcases hp with ⟨rfl,rfl⟩ | ⟨rfl,rfl⟩ | ⟨rfl,rfl⟩ | ⟨rfl,rfl⟩ | ⟨rfl,rfl⟩ | ⟨rfl,rfl⟩ | ⟨rfl,rfl⟩ | ⟨rfl,rfl⟩ | ⟨rfl,rfl⟩ <;> by_cases hk0 : 0 < k
        all_goals
         have hb : (((s[k].toNat : Nat) : Int) == 95) = true ∨ (((s[k].toNat : Nat) : Int) == 95) = false:=by cases (((s[k].toNat : Nat) : Int) == 95) <;> simp
         first | (have d1 : decide ((97 : Int) ≤ ((s[k].toNat : Nat) : Int)) = true:=(by simp;omega)) | (have d1 : decide ((97 : Int) ≤ ((s[k].toNat : Nat) : Int)) = false:=(by simp;omega))
         first | (have d2 : decide (((s[k].toNat : Nat) : Int) ≤ 122) = true:=(by simp;omega)) | (have d2 : decide (((s[k].toNat : Nat) : Int) ≤ 122) = false:=(by simp;omega))
         first | (have d3 : decide ((65 : Int) ≤ ((s[k].toNat : Nat) : Int)) = true:=(by simp;omega)) | (have d3 : decide ((65 : Int) ≤ ((s[k].toNat : Nat) : Int)) = false:=(by simp;omega))
         first | (have d4 : decide (((s[k].toNat : Nat) : Int) ≤ 90) = true:=(by simp;omega)) | (have d4 : decide (((s[k].toNat : Nat) : Int) ≤ 90) = false:=(by simp;omega))
         first | (have d5 : decide ((48 : Int) ≤ ((s[k].toNat : Nat) : Int)) = true:=(by simp;omega)) | (have d5 : decide ((48 : Int) ≤ ((s[k].toNat : Nat) : Int)) = false:=(by simp;omega))
         first | (have d6 : decide (((s[k].toNat : Nat) : Int) ≤ 57) = true:=(by simp;omega)) | (have d6 : decide (((s[k].toNat : Nat) : Int) ≤ 57) = false:=(by simp;omega))
         first | (have d7 : decide (0 < k) = true:=(by simp;omega)) | (have d7 : decide (0 < k) = false:=(by simp;omega))
         rcases hb with hb | hb
         all_goals first
          | (exfalso;have:=beq_iff_eq.1 hb;omega)
          | (exfalso;have:=beq_eq_false_iff_ne.1 hb;omega)
          | (go_wp2_with fail
             go_round
             case rel=>exact ⟨k + 1,by omega,by go_num,hyes2.out (by simp [letterB,digitB];omega)⟩
             case measure=>simp [intOf];omega)
          | (have hn : Hid (nameB s = false):=hno2.out (by simp [letterB,digitB];omega)
             go_wp2_with fail
             go_ret
             exact ⟨by rw [hn.out];rfl,rfl⟩)
      · obtain rfl : k = s.size:=by omega
        have hki : ¬ (s.size : Int) < (s.size : Int):=by omega
        have hn : Hid (nameB s = true):=nameB_yes (by rw [isName_iff];exact ⟨by omega,hto⟩)
        go_wp2_with fail
        go_ret
        exact ⟨by rw [hn.out];rfl,rfl⟩
end Go.Proofs.YtdhlfpgibfaimaaGreatDoor
namespace Go.Proofs.YtdhlfpgibfaimaaGreatDoor
open Go.RowKit
def lbV (a : Lb) : Value:=.agg #[.string a.name,.string a.value]
def lbO (a : Lb) : Obj:=.cells #[.string a.name,.string a.value] 122
open Classical in
noncomputable def lbB (a : Lb) : Bool:=decide (IsLb a)
theorem lbB_iff {a : Lb} : lbB a = true ↔ IsLb a:=by simp [lbB]
theorem lbB_eq (a : Lb) : lbB a = (nameB a.name && (decide ((1 : Int) ≤ (a.value.size : Int)) && decide ((a.value.size : Int) ≤ 128))):=by
 rw [Bool.eq_iff_iff,lbB_iff]
 simp only [Bool.and_eq_true,nameB_iff,decide_eq_true_eq,IsLb]
 constructor
 · rintro ⟨h1,h2,h3⟩;exact ⟨h1,by omega,by omega⟩
 · rintro ⟨h1,h2,h3⟩;exact ⟨h1,by omega,by omega⟩
def LbR (a : Lb) : Prop:=a.name.size ≤ reachBytes∧a.value.size ≤ reachBytes
def LbsR (l : List Lb) : Prop:=∀ a ∈ l,LbR a
theorem mayBe_any (a : Lb) (w : World) (h : LbR a) : Calls Tryz.prog 175 #[lbV a] w fun e w'=>e = .returned (.bool (lbB a))∧w' = w.alloc (lbO a):=by
 obtain ⟨n,v⟩:=a
 obtain ⟨h1,h2⟩:=h
 unfold reachBytes at h1 h2
 simp only at h1 h2
 have hN:=fun W=>isName_any n W (by omega)
 have hR : Hid (lbB ⟨n,v⟩ = (nameB n && (decide ((1 : Int) ≤ (v.size : Int)) && decide ((v.size : Int) ≤ 128)))):=lbB_eq _
 unfold lbV lbO
 simp only
 generalize nameB n = B at *
 cases B
 · go_enter Tryz.func175,Tryz.ntmps175
   go_wp2_with (first | (go_at_call 217;refine (hN _).mono ?_;rintro e wx ⟨rfl,hwx⟩;subst wx))
   go_ret
   exact ⟨by rw [hR.out];rfl,rfl⟩
 · by_cases hd1 : (1 : Int) ≤ (v.size : Int)
   · go_enter Tryz.func175,Tryz.ntmps175
     go_wp2_with (first | (go_at_call 217;refine (hN _).mono ?_;rintro e wx ⟨rfl,hwx⟩;subst wx))
     go_ret
     exact ⟨by rw [hR.out];simp [hd1],rfl⟩
   · have hd2 : decide ((1 : Int) ≤ (v.size : Int)) = false:=by simp;omega
     go_enter Tryz.func175,Tryz.ntmps175
     go_wp2_with (first | (go_at_call 217;refine (hN _).mono ?_;rintro e wx ⟨rfl,hwx⟩;subst wx))
     go_ret
     exact ⟨by rw [hR.out,hd2];simp,rfl⟩
theorem is_any (a : Lb) (w : World) (h : LbR a) : Calls Tryz.prog 120 #[lbV a] w fun e w'=>e = .returned (.bool (lbB a))∧w' = w.alloc (lbO a):=by
 obtain ⟨n,v⟩:=a
 obtain ⟨h1,h2⟩:=h
 unfold reachBytes at h1 h2
 simp only at h1 h2
 have hN:=fun W=>rname_any n W (by omega)
 have hR : Hid (lbB ⟨n,v⟩ = (nameB n && (decide ((1 : Int) ≤ (v.size : Int)) && decide ((v.size : Int) ≤ 128)))):=lbB_eq _
 unfold lbV lbO
 simp only
 generalize nameB n = B at *
 cases B
 · go_enter Tryz.func120,Tryz.ntmps120
   go_wp2_with (first | (go_at_call 160;refine (hN _).mono ?_;rintro e wx ⟨rfl,hwx⟩;subst wx))
   go_ret
   exact ⟨by rw [hR.out];rfl,rfl⟩
 · by_cases hd1 : (1 : Int) ≤ (v.size : Int)
   · go_enter Tryz.func120,Tryz.ntmps120
     go_wp2_with (first | (go_at_call 160;refine (hN _).mono ?_;rintro e wx ⟨rfl,hwx⟩;subst wx))
     go_ret
     exact ⟨by rw [hR.out];simp [hd1],rfl⟩
   · have hd2 : decide ((1 : Int) ≤ (v.size : Int)) = false:=by simp;omega
     go_enter Tryz.func120,Tryz.ntmps120
     go_wp2_with (first | (go_at_call 160;refine (hN _).mono ?_;rintro e wx ⟨rfl,hwx⟩;subst wx))
     go_ret
     exact ⟨by rw [hR.out,hd2];simp,rfl⟩
theorem lnum_any (x : Int) (w : World) (h0 : -1000 ≤ x) (h1 : x ≤ 1000) : Calls Tryz.prog 11 #[.int .i64 x] w fun e w'=>e = .returned (.int .i64 x)∧w' = w:=by
 go_enter Tryz.func11,Tryz.ntmps11
 go_wp2
 go_ret
 exact ⟨rfl,rfl⟩
def total (l : List Lb) : Nat:=(l.map fun p=>p.name.size + p.value.size).sum
def smallB (l : List Lb) : Bool:=decide (l.length ≤ 60∧total l ≤ 20000)
def SameQ (l m : List Lb) (w : World) (e : Ending) (w' : World) : Prop:=∃ B,e = .returned (.bool B)∧(B = true ↔ l = m)∧Below w.heap.size w w'
theorem ltake_getD {α : Type} (l : List α) (d : α) (k : Nat) (h : k < l.length) : l.take (k + 1) = l.take k ++ [l.getD k d]:=by
 rw [List.take_succ_eq_append_getElem h];simp [h]
theorem toList_eq {s t : ByteArray} (h : (s.toList == t.toList) = true) : s = t:=by
 have h:=eq_of_beq h
 rw [Lib.toList_data,Lib.toList_data] at h
 exact ByteArray.ext (Array.toList_inj.1 h)
theorem toList_ne {s t : ByteArray} (h : s ≠ t) : (s.toList == t.toList) = false:=by
 cases e : (s.toList == t.toList) with
 | false=>rfl
 | true=>exact absurd (toList_eq e) h
theorem lb_ext {a b : Lb} (h1 : a.name = b.name) (h2 : a.value = b.value) : a = b:=by cases a;cases b;simp at h1 h2;simp [h1,h2]
theorem same_some (l m : List Lb) (b o b2 o2 c c2 : Nat) (w : World) (hl : l.length ≤ 1000000000) (hlm : l.length = m.length)
 (h1 : ∀ t,t < l.length→At encL w b (o + t * 2) (l.getD t lb0)) (h2 : ∀ t,t < m.length→At encL w b2 (o2 + t * 2) (m.getD t lb0)) :
 Calls Tryz.prog 53 #[.slice (some ⟨b,o,none⟩) l.length c,.slice (some ⟨b2,o2,none⟩) l.length c2] w fun e w'=>SameQ l m w e w':=by
 obtain ⟨n,hn⟩ : ∃ n,Hid (n = l.length):=⟨_,rfl⟩
 have hnl : Hid (n = m.length):=hn.out.trans hlm
 rw [← hn.out] at hl h1 ⊢
 rw [← hnl.out] at h2
 clear hlm
 replace h1 : Hid _:=h1
 replace h2 : Hid _:=h2
 go_enter Tryz.func53,Tryz.ntmps53
 go_wp2
 go_loopw [5] (fun i wr=>∃ k d : Nat,k ≤ n∧i = .int .i64 k∧Hid (l.take k = m.take k)∧wr = w.drewN d) (fun i _=>n - (intOf i).toNat)
 case atStart=>exact ⟨0,0,Nat.zero_le _,rfl,rfl,rfl⟩
 case round =>
  obtain ⟨k,d,hk,rfl,htk,rfl⟩:=hrel
  by_cases hlt : k < n
  · obtain ⟨x0,x1⟩:=at_lb (h1.out k hlt)
    obtain ⟨y0,y1⟩:=at_lb (h2.out k hlt)
    have hki : (k : Int) < (n : Int):=by omega
    clear h1 h2
    obtain ⟨p,hp1⟩ : ∃ p,Hid (l.getD k lb0 = p):=⟨_,rfl⟩
    obtain ⟨q,hp2⟩ : ∃ q,Hid (m.getD k lb0 = q):=⟨_,rfl⟩
    rw [hp1.out] at x0 x1
    rw [hp2.out] at y0 y1
    by_cases hpq : p = q
    · subst hpq
      have hst : Hid (l.take (k + 1) = m.take (k + 1)):=by
       show _ = _
       rw [ltake_getD l lb0 k (by rw [← hn.out];exact hlt),ltake_getD m lb0 k (by rw [← hnl.out];exact hlt),hp1.out,hp2.out,htk.out]
      obtain ⟨n1,t1⟩:=p
      simp only [] at x0 x1 y0 y1
      go_wp2
      go_quiet (fail)
      go_wp2
      refine ⟨⟨k + 1,_,by omega,by go_num,hst,rfl⟩,?_⟩
      simp [intOf];omega
    · have hne : Hid (l ≠ m):=fun e=>hpq (by rw [← hp1.out,← hp2.out,e])
      obtain ⟨n1,t1⟩:=p
      obtain ⟨n2,t2⟩:=q
      simp only [] at x0 x1 y0 y1
      have hb3 : ((n1.toList == n2.toList) = false) ∨ ((n1.toList == n2.toList) = true∧(t1.toList == t2.toList) = false):=by
       cases e2 : (n1.toList == n2.toList) with
       | false=>exact .inl rfl
       | true =>
        cases e3 : (t1.toList == t2.toList) with
        | false=>exact .inr ⟨rfl,rfl⟩
        | true =>
         exfalso
         exact hpq (lb_ext (toList_eq e2) (toList_eq e3))
      clear hpq
      rcases hb3 with e1 | ⟨e1,e2⟩
      all_goals
       go_wp2
       go_quiet (fail)
       go_wp2
       go_ret
       refine ⟨false,rfl,⟨(fun h=>by cases h),fun h=>absurd h hne.out⟩,?_⟩
       exact below_drewN (below_drewN (Below.refl _ _) _) _
  · obtain rfl : k = n:=by omega
    have hki : ¬ (k : Int) < (k : Int):=by omega
    have heq : Hid (l = m):=by
     have h:=htk.out
     rw [List.take_of_length_le (by rw [← hn.out];omega),List.take_of_length_le (by rw [← hnl.out];omega)] at h
     exact h
    clear h1 h2
    go_wp2
    go_ret
    exact ⟨true,rfl,⟨fun _=>heq.out,fun _=>rfl⟩,below_drewN (Below.refl _ _) _⟩
theorem same_len (n m c c2 : Nat) (a a2 : Option Addr) (w : World) (hn : n ≤ 9223372036854775807) (hm : m ≤ 9223372036854775807) (h : n ≠ m) : Calls Tryz.prog 53 #[.slice a n c,.slice a2 m c2] w fun e w'=>e = .returned (.bool false)∧w' = w:=by
 have hd : ((n : Int) == (m : Int)) = false:=by simp;omega
 have hd2 : ((n : Int) != (m : Int)) = true:=by simp;omega
 go_enter Tryz.func53,Tryz.ntmps53
 go_wp2
 go_ret
 exact ⟨rfl,rfl⟩
theorem same_none (c c2 : Nat) (a a2 : Option Addr) (w : World) : Calls Tryz.prog 53 #[.slice a 0 c,.slice a2 0 c2] w fun e w'=>e = .returned (.bool true)∧w' = w:=by
 go_enter Tryz.func53,Tryz.ntmps53
 go_wp2
 refine wp_loop_rounds 1 ?_
 rw [rounds_succ]
 go_wp2
 go_ret
 exact ⟨rfl,rfl⟩
theorem same_any (v u : Value) (l m : List Lb) (w : World) (hv : Lbs w v l) (hu : Lbs w u m) (hl : l.length ≤ 1000000000) (hm : m.length ≤ 1000000000) : Calls Tryz.prog 53 #[v,u] w fun e w'=>SameQ l m w e w':=by
 obtain ⟨a,c,rfl,_,h1⟩:=hv
 obtain ⟨a2,c2,rfl,_,h2⟩:=hu
 by_cases hlm : l.length = m.length
 · rcases h1 with rfl | ⟨b,o,rfl,h1⟩
   · have : m = []:=List.length_eq_zero_iff.1 hlm.symm
     subst this
     refine (same_none c c2 a a2 w).mono ?_
     rintro e w' ⟨rfl,rfl⟩
     exact ⟨true,rfl,⟨fun _=>rfl,fun _=>rfl⟩,Below.refl _ _⟩
   · rcases h2 with rfl | ⟨b2,o2,rfl,h2⟩
     · have : l = []:=List.length_eq_zero_iff.1 hlm
       subst this
       refine (same_none c c2 _ a2 w).mono ?_
       rintro e w' ⟨rfl,rfl⟩
       exact ⟨true,rfl,⟨fun _=>rfl,fun _=>rfl⟩,Below.refl _ _⟩
     · rw [← hlm]
       exact same_some l m b o b2 o2 c c2 w hl hlm h1 h2
 · refine (same_len _ _ c c2 a a2 w (by omega) (by omega) hlm).mono ?_
   rintro e w' ⟨rfl,rfl⟩
   exact ⟨false,rfl,⟨(fun h=>by cases h),fun h=>absurd (congrArg List.length h) hlm⟩,Below.refl _ _⟩
end Go.Proofs.YtdhlfpgibfaimaaGreatDoor
namespace Go.Proofs.YtdhlfpgibfaimaaGreatDoor
open Go.RowKit
structure Bel (w : World) where
 W : World
 h : Below w.heap.size w W
instance (w : World) : Nonempty (Bel w):=⟨⟨w,Below.refl _ _⟩⟩
theorem wp_region_bel {P : Program} {id : Nat} {Q : Exit→Act→World→Prop} {a : Act} {w : World} {l : List Oper} (hm : P.follows .mixedOrders = true) (hB : Region.lexB .any l.toArray = true)
 (h : wpQuiet P l.toArray (fun w'=>∃ p : Bel w,w' = p.W) (fun a'=>∀ w',(∃ p : Bel w,w' = p.W)→Q .normal a' w') l a) : (Code.region id l.toArray true).wp P Q a w :=
 wp_region_quiet (C:=fun w'=>∃ p : Bel w,w' = p.W) hm hB ⟨⟨w.drew,(Below.refl _ _).drew⟩,rfl⟩ (by simpa using h)
theorem Calls.bel {P : Program} {f : FuncId} {args : Array Value} {w : World} {p : Bel w} {v : Value}
 (h : Calls P f args p.W fun e w'=>e = .returned v∧Below p.W.heap.size p.W w') : Calls P f args p.W fun e w''=>e = .returned v∧∃ q : Bel w,w'' = q.W :=
 h.mono fun _ w' ⟨he,hb⟩=>⟨he,⟨w',p.h.trans (hb.mono p.h.size)⟩,rfl⟩
theorem Bel.cell {w : World} (p : Bel w) {b o : Nat} {v : Value} (h : w.cell? ⟨b,o,none⟩ = some v) : p.W.cell? ⟨b,o,none⟩ = some v :=
 (p.h.cell (p:=⟨b,o,none⟩) (World.block_lt_of_cell? w _ h)).trans h
theorem calls_alloc {P : Program} {f : FuncId} {args : Array Value} {W : World} {v : Value} {o : Obj} (h : Calls P f args W fun e w'=>e = .returned v∧w' = W.alloc o) : Calls P f args W fun e w'=>e = .returned v∧Below W.heap.size W w' :=
 h.mono fun _ _ ⟨he,hw⟩=>⟨he,hw ▸ (Below.refl _ _).alloc (Nat.le_refl _) _⟩
theorem calls_same {P : Program} {f : FuncId} {args : Array Value} {W : World} {v : Value} (h : Calls P f args W fun e w'=>e = .returned v∧w' = W) : Calls P f args W fun e w'=>e = .returned v∧Below W.heap.size W w' :=
 h.mono fun _ _ ⟨he,hw⟩=>⟨he,hw ▸ Below.refl _ _⟩
end Go.Proofs.YtdhlfpgibfaimaaGreatDoor
