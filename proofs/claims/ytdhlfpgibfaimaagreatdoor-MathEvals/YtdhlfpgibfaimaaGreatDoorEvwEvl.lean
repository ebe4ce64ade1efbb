/- Evw;Evl. -/
import Derived.Test.YtdhlfpgibfaimaaGreatDoorXbXfGf
import Derived.Test.YtdhlfpgibfaimaaGreatDoorXz
import Derived.SevenTiedAt
import Derived.OpenShut

set_option maxRecDepth 100000
set_option maxHeartbeats 16000000
set_option linter.unusedVariables false
namespace Go.Proofs.YtdhlfpgibfaimaaGreatDoor.mathEvals
open Go.ChangeShapes Go.WideShapes Go.ChangeAt Go.RowKit Go.Maps Go.ChangeMaps Go.MapKept
attribute [local go_sem ↓] Go.wp_at_zero Go.wp_at_succ
theorem walk (s : ByteArray) (fa : Option Addr) (fn fc : Nat) (l : List Fe) (w : World) (hG : G w∧SignsAt w) (hs : s.size ≤ maxLen) (hP : Sls encF w (.slice fa fn fc) l) (hR : ∀ p ∈ l,FrIn w p) (hL : l.length ≤ 4398046511104) : Calls Tryz.prog 4 #[.string s,.slice fa fn fc] w fun e w'=>e = .returned (.bool true)∧Below w.heap.size w w':=by
 obtain ⟨hG,hS⟩:=hG
 unfold maxLen at hs
 have hlv : Hid (∀ W,Below w.heap.size w W→Calls Tryz.prog 7 #[] W fun e w'=>e = .returned (.bool true)∧Below w.heap.size w w'):=fun W h=>(live7 W (hG.grow h) (hS.grow h)).mono fun e w' g=>⟨g.1,h.trans (g.2.mono h.size)⟩
 have hsm:=small19 fa fn fc l w hP hR hL
 obtain ⟨FL,hF1,hF2⟩:=frames_ex w l hR
 have hli0:=hlv.out w (Below.refl _ _)
 have hpr:=rparse9 s w (by omega) parC_r val128 val130 val56
 have hfl : fn = l.length:=hP.len
 have hPh : Hid (Sls encF w (.slice fa fn fc) l):=hP
 have hF2h : Hid (∀ i,i < l.length→(FL.getD i (⟨#[]⟩,[])).1 = (l.getD i encF.d).ref∧IsSer w (l.getD i encF.d).a (l.getD i encF.d).n (l.getD i encF.d).c (FL.getD i (⟨#[]⟩,[])).2∧FR (FL.getD i (⟨#[]⟩,[])).2):=hF2
 have hF1h : Hid (FL.length = l.length):=hF1
 have hflh : Hid (fn = l.length):=hfl
 clear hP hR hF1 hF2 hfl
 by_cases h200 : 200 < s.size
 · have h200i : (200 : Int) < (s.size : Int):=by omega
   clear h200
   go_enter Tryz.func4,Tryz.ntmps4
   go_wp2_with (first
    | (go_at_call 19;refine hsm.mono ?_;clear hsm;rintro e wx ⟨B,rfl,_,hwx⟩;subst wx;cases B)
    | (go_at_call 7;refine hli0.mono ?_;clear hli0;rintro e w2 ⟨rfl,hb2⟩))
   all_goals (go_ret;exact ⟨rfl,hb2⟩)
 have h200i : ¬ (200 : Int) < (s.size : Int):=by omega
 clear h200
 go_enter Tryz.func4,Tryz.ntmps4
 go_wp2_with (first
  | (go_at_call 19;refine hsm.mono ?_;clear hsm;rintro e wx ⟨B,rfl,hB,hwx⟩;subst wx;apply Hid.out))
 unfold Hid
 cases B with
 | false =>
  go_wp2_with (first | (go_at_call 7;refine hli0.mono ?_;clear hli0;rintro e w2 ⟨rfl,hb2⟩))
  go_ret
  exact ⟨rfl,hb2⟩
 | true =>
  obtain ⟨hl40,hn160⟩:=hB rfl
  have hfn40 : fn ≤ 40:=by have:=hflh.out;omega
  have hfew : Hid (∀ p ∈ FL,Few0 p.2):=few0_of hF1h.out hF2h.out hn160
  clear hB hn160 hli0
  go_wp2_with (first
   | (go_at_call 9;refine hpr.mono ?_;clear hpr;rintro e w1 ⟨k,n,x,y,a,m,c,er,at1,rfl,h1,hcase⟩;apply Hid.out))
  have hb1 : Below w.heap.size w (w1.alloc (.cells #[.int .i64 k,.string n,.int .i64 x,.int .i64 y,.slice a m c] 27)):=h1.out.trans ((bW0 w1 _).mono h1.out.size)
  unfold Hid
  rcases hcase with hne | ⟨rfl,hok⟩
  · have hli:=hlv.out _ hb1
    clear hlv
    go_wp2_with (first
     | (go_at_call 7;refine hli.mono ?_;clear hli;rintro e w2 ⟨rfl,hb2⟩))
    go_ret
    exact ⟨rfl,hb2⟩
  · obtain ⟨X,hWE,hV⟩:=hok.out
    obtain ⟨out,er2,hEv⟩:=evW_ex (E:=envE FL) hWE
    have hfo:=hEv.few
    have hbx:=bxNew w1 27 (.int .i64 k) (.string n) (.int .i64 x) (.int .i64 y) (.slice a m c)
    have hVa : Hid (ExV (w1.alloc (.cells #[.int .i64 k,.string n,.int .i64 x,.int .i64 y,.slice a m c] 27)) (fun b=>w.heap.size ≤ b) X (.agg #[.int .i64 k,.string n,.int .i64 x,.int .i64 y,.slice a m c])):=hV.grow (bW0 w1 (.cells #[.int .i64 k,.string n,.int .i64 x,.int .i64 y,.slice a m c] 27))
    have hb1h : Hid (Below w.heap.size w (w1.alloc (.cells #[.int .i64 k,.string n,.int .i64 x,.int .i64 y,.slice a m c] 27))):=hb1
    have hbxh0 : Hid (Bx (w1.alloc (.cells #[.int .i64 k,.string n,.int .i64 x,.int .i64 y,.slice a m c] 27)) w1.heap.size 27 (.int .i64 k) (.string n) (.int .i64 x) (.int .i64 y) (.slice a m c)):=hbx
    have hEvh : Hid (EvT (envE FL) X out er2):=hEv
    have hWEh : Hid (WE X):=hWE
    clear hbx hb1 hV hok hEv hWE h1
    go_wp2
    generalize hW1 : w1.alloc (.cells #[.int .i64 k,.string n,.int .i64 x,.int .i64 y,.slice a m c] 27) = W1 at *
    generalize hBX : w1.heap.size = BX at *
    clear hW1 hBX
    have hbxh : Hid (∀ W,Below W1.heap.size W1 W→Bx W BX 27 (.int .i64 k) (.string n) (.int .i64 x) (.int .i64 y) (.slice a m c)):=fun W h=>hbxh0.out.grow h
    have hC1 : Hid (∀ W ea en ec,Below W1.heap.size W1 W→Sls encF W (.slice ea en ec) l→Calls Tryz.prog 20 #[.agg #[.int .i64 k,.string n,.int .i64 x,.int .i64 y,.slice a m c],.slice ea en ec] W fun e w'=>Told W out er2 e w'):=fun W ea en ec h g=>eval20W hWEh.out W FL ea en ec _ k n x y a m c out er2 (by have:=g.len;omega) (frsV_of hF1h.out hF2h.out (hb1h.out.trans (h.mono hb1h.out.size)) g) hfew.out (hVa.out.grow h) hEvh.out
    have hC2 : Hid (∀ W,Below W1.heap.size W1 W→Calls Tryz.prog 21 #[.agg #[.int .i64 k,.string n,.int .i64 x,.int .i64 y,.slice a m c],.slice fa fn fc] W fun e w'=>Told W out er2 e w'):=fun W h=>eval21 hWEh.out W FL fa fn fc _ k n x y a m c out er2 (by omega) (frsV_of hF1h.out hF2h.out (hb1h.out.trans (h.mono hb1h.out.size)) (hPh.out.grow (hb1h.out.trans (h.mono hb1h.out.size)))) hfew.out (hVa.out.grow h) hEvh.out
    have hsam : Hid (∀ W a5 n5 c5 a6 n6 c6,IsSer W a5 n5 c5 out→IsSer W a6 n6 c6 out→Calls Tryz.prog 22 #[.slice a5 n5 c5,.slice a6 n6 c6] W fun e w'=>e = .returned (.bool true)∧Below W.heap.size W w'):=fun W a5 n5 c5 a6 n6 c6 h g=>sameG h g hfo
    have hnm:=fun W=>lnum_all er2 W
    obtain ⟨x0,x1,x2,x3,x4⟩:=hbxh0.out.cells
    have hbe:=(Below.refl W1.heap.size W1).alloc (Nat.le_refl _) (.cells #[] 54)
    obtain ⟨y0,y1,y2,y3,y4⟩:=(hbxh.out _ hbe).cells
    have hoe : OwnS TF ((W1.alloc (.cells #[] 54)).drew) W1.heap.size (.slice (some ⟨W1.heap.size,0,none⟩) 0 0) []:=own_empty (T:=TF) W1 W1.heap.size (Nat.le_refl _)
    have hle : Sls encF ((W1.alloc (.cells #[] 54)).drew) (.slice fa fn fc) l:=hPh.out.grow ((hb1h.out.alloc hb1h.out.size _).drew)
    have hsz0 : W1.heap.size ≤ ((W1.alloc (.cells #[] 54)).drew).heap.size:=by simp
    have hl6 : ([] : List Fe).length + l.length ≤ 1000000:=by simp;omega
    clear hVa hEvh hfo hWEh hfew hF1h hF2h
    go_region_law (first
     | (refine stepF rfl (.tmp 32) (.tmp 33) rfl W1.heap.size _ _ [] l rfl rfl hoe hle hsz0 (by simp) hl6 ?_;intro v5 w5 ho5 hg5;rw [List.nil_append] at ho5;obtain ⟨a5,c5,rfl⟩:=ho5.shape;have hb5 : Below W1.heap.size W1 w5:=(hbe.drew).trans (hoe.grows hsz0 hg5);obtain ⟨u0,u1,u2,u3,u4⟩:=(hbxh.out w5 hb5).cells;have hc5:=hC1.out w5 a5 _ c5 hb5 ho5.sls)
     | (go_simp;go_at_call 20;refine hc5.mono ?_;clear hc5;rintro e w6 ⟨a6,n6,c6,rfl,hT6⟩))
    all_goals
     have hb6 : Below W1.heap.size W1 w6:=hb5.trans (hT6.out.2.mono hb5.size)
     have hc7:=hC2.out w6 hb6
     have hw6:=hb1h.out.trans (hb6.mono hb1h.out.size)
     simp only [Act.put,List.getElem_toArray,List.getElem_cons_succ,List.getElem_cons_zero,List.setIfInBounds_toArray,List.set_cons_succ,List.set_cons_zero]
     clear x0 x1 x2 x3 x4 y0 y1 y2 y3 y4 hoe hle hsz0 hl6 hbe hC1 hC2 ho5 hg5
     clear u0 u1 u2 u3 u4
     obtain ⟨u0,u1,u2,u3,u4⟩:=(hbxh.out w6 hb6).cells
     go_wp2_with (first
      | (go_at_call 21;refine hc7.mono ?_;clear hc7;rintro e w7 ⟨a7,n7,c7,rfl,hT7⟩;have hcs:=hsam.out w7 a6 n6 c6 a7 n7 c7 (hT6.out.1.grow hT7.out.2) hT7.out.1;have hw7:=hw6.trans (hT7.out.2.mono hw6.size))
      | (go_at_call 22;refine hcs.mono ?_;clear hcs;rintro e w8 ⟨rfl,hb8⟩;have hli:=hlv.out w8 (hw7.trans (hb8.mono hw7.size)))
      | (go_at_call 11;refine (hnm _).mono ?_;rintro e wx ⟨rfl,hwx⟩;subst wx)
      | (go_at_call 7;refine hli.mono ?_;clear hli;rintro e w9 ⟨rfl,hb9⟩))
     go_ret
     exact ⟨rfl,hb9⟩
end Go.Proofs.YtdhlfpgibfaimaaGreatDoor.mathEvals

set_option maxRecDepth 100000
set_option linter.unusedVariables false
namespace Go.Proofs.YtdhlfpgibfaimaaGreatDoor.mathEvals
open Go.ChangeShapes Go.WideShapes Go.ChangeAt Go.RowKit Go.Maps Go.ChangeMaps Go.MapKept
attribute [local go_sem ↓] Go.wp_at_zero Go.wp_at_succ
theorem lifted (os : Os) (started : os.Started) (H : Type) (enc : TypeId × Value→H) :
 ReturnsInHanded {} Tryz.checked os 4 .any (fun w args=>(Rows.mathEvalsSpec.pre enc Tryz.prog Tryz.f4 [] false w args∧laidMetH Tryz.prog laidV w)∧sizedMet enc Tryz.prog Tryz.f4 (OpenSpec.ofChange Rows.mathEvalsSpec) false w args)
  (Rows.mathEvalsSpec.post enc Tryz.prog Tryz.f4 false true false false):=by
 refine wrap (C:=Tryz.checked) (X:=fun w _=>laidMetH Tryz.prog laidV w) (fun _ _ _ hh h=>h.of_heap hh) own started (by kernel_rfl) Tryz.func4
  (ChangeSpec.witness_shaped (enc:=enc) (C:=Tryz.checked) (os:=os) (X:=fun w _=>laidMetH Tryz.prog laidV w) false (World.laidAll Tryz.prog os laidV) #[.string ⟨#[]⟩,.slice none 0 0] 8 (World.laidAll_os _ _ _)
   (World.shaped_of_ZipB (by kernel_rfl) (by kernel_rfl)) (by kernel_rfl) (by kernel_rfl) (by kernel_rfl) (laidV_ok os _)) ?_
 intro W base args ds gs before hval0 hW _ hsz0 hL hsh
 have hG:=G_of hL hsh
 have hval : ∀ (j : Nat) t v,Tryz.f4.params[j]? = some t→args[j]? = some v→Value.okWide Tryz.prog W .any base t v:=hval0
 have hsz : (DataW.weightsEach Tryz.prog (Tryz.f4.params.toList ++ Rows.mathEvalsSpec.plain.varTypes Tryz.prog) (ds ++ gs)).all (· ≤ reachBytes) = true:=hsz0
 have hW':=hW
 obtain ⟨p,q,hA0,hV,rfl,_,_⟩:=hW
 have hA : DataW.TrodAll enc Tryz.prog W 0 (fun _=>true) true Tryz.f4.params.toList args.toList ds p:=hA0
 rw [Tryz.params4] at hA hval hsz
 obtain ⟨v0,vs0,d0,ds0,p0,q0,hargs,rfl,rfl,h0,r0⟩:=trodAll_cons hA
 obtain ⟨v1,vs1,d1,ds1,p1,q1,rfl,rfl,rfl,h1,r1⟩:=trodAll_cons r0
 obtain ⟨rfl,rfl,rfl⟩:=trodAll_nil r1
 obtain rfl : args = #[v0,v1]:=by cases args;simp_all
 obtain ⟨rfl,rfl⟩:=trodVars_none hV
 obtain ⟨a0,rfl,rfl,rfl,w0⟩:=open_string Tryz.underlying9 (hval 0 9 v0 rfl rfl) h0
 obtain ⟨a1,len1,cap1,rfl⟩:=okWide_slice Tryz.underlying41 (hval 1 41 v1 rfl rfl)
 have k1:=h1
 have lt1 : ∀ x ∈ p1,x.block < W.heap.size:=by obtain ⟨m,hm⟩:=k1;exact DataW.trod_lt m _ _ _ hm
 obtain ⟨l1,hP1,hR1,hL1⟩ : ∃ l,Sls encF W (.slice a1 len1 cap1) l∧(∀ p ∈ l,FrIn W p)∧l.length ≤ 4398046511104:=by
  obtain ⟨fuel,hf⟩:=h1
  refine frs_of_trod hf (fun q hq=>?_)
  have:=List.all_eq_true.1 hsz _ (DataW.weights_mem_each (j:=1) (t:=41) rfl rfl q hq)
  simpa using this
 clear hA0 hval0 hL hsz0 hsh
 refine (walk a0 a1 len1 cap1 l1 W hG w0 hP1 hR1 hL1).mono fun e W' ⟨he,bel⟩=>?_
 subst he
 exact ⟨_,rfl,_,_,_,[],_,[],hW',trodAll_mk1 (shut_bool Tryz.underlying4 _),(trodAll_cons_mk (shut_string Tryz.underlying9 w0) (trodAll_cons_mk (Below.trod laidOut (by kernel_rfl) (of_decide_eq_true (by kernel_rfl)) k1 bel lt1) trodAll_mk0)),rfl,bel.frame _,fun h=>by cases h⟩
end Go.Proofs.YtdhlfpgibfaimaaGreatDoor.mathEvals
