/- readGrants, readFolder. -/
import Derived.Test.YtfbeilninpapaaaGt
namespace Go.Proofs.Ytfbeilninpapaaa
set_option linter.unusedVariables false
open Go.RowKit
/-- What a reading of grants leaves. -/
def RgQ (w : World) (bs : List Int) (St : World → Nat → Int → Prop) (g m : Nat) (P : List Gr → List Int → Prop) (v : Value) (w' : World) : Prop :=
  ∃ F p r, OwnG w' w.heap.size v F ∧ F.length ≤ m ∧ (∀ q ∈ F, GrI q ∧ q.name.size ≤ 24) ∧ St w' p r ∧ w.grownBy w' (some g) ∧ (∀ l rest, P l rest → F = l ∧ r = 0 ∧ bs.drop p = rest)
set_option maxRecDepth 100000 in
set_option maxHeartbeats 4000000 in
theorem readGrants_w (lo g : Nat) (bs : List Int) (pl : Nat) (err : Int) (w : World) (hs : IsStrip w lo g bs pl err) (hby : IsBytes bs) (hlen : bs.length ≤ 1000000000) :
    Calls Try.prog 51 #[.pointer (some ⟨g, 0, none⟩)] w fun e w' => ∃ v, e = .returned v ∧ RgQ w bs (fun W p r => IsStrip W lo g bs p r) g 16 (fun l rest => err = 0 ∧ bs.drop pl = enc l.length ++ (cat grB l ++ rest) ∧ GrS l) v w' := by
  have hgb : g < w.heap.size := hs.lt
  have hN1 := sNum_w lo g bs pl err w hs hby hlen
  replace hby : Hid (IsBytes bs) := hby
  obtain ⟨P, hPd⟩ : ∃ P : List Gr → List Int → Prop, P = fun l rest => err = 0 ∧ bs.drop pl = enc l.length ++ (cat grB l ++ rest) ∧ GrS l := ⟨_, rfl⟩
  rw [← hPd]
  have hPl : Hid (∀ l rest, P l rest → GrS l ∧ True) := fun l rest h => by rw [hPd] at h; exact ⟨h.2.2, trivial⟩
  have hPe : Hid (∀ l rest, P l rest → err = 0 ∧ bs.drop pl = enc l.length ++ (cat grB l ++ rest)) := fun l rest h => by rw [hPd] at h; exact ⟨h.1, h.2.1⟩
  clear hPd hs
  go_enter Try.func51, Try.ntmps51
  go_upto_region 2 with fail
  go_wp2_with (first
    | (go_at_call 62; refine hN1.mono ?_; rintro e w1 ⟨n, p1, r1, rfl, hn64, hs1, hg1, hc1⟩; replace hs1 : Hid (IsStrip w1 lo g bs p1 r1) := hs1; replace hg1 : Hid (w.grownBy w1 (some g)) := hg1; replace hc1 : Hid (NumC bs pl err n p1 r1) := hc1))
  all_goals
    rename_i hcmp
    have hC0 : Hid (GrsC bs P 0 [] p1 r1) := fun l rest hp => by
      obtain ⟨h1, h2⟩ := hPe.out l rest hp
      obtain ⟨h3, h4, h5⟩ := hc1.out l.length _ h1 h2 (by have := (hPl.out l rest hp).1.1; omega)
      exact ⟨rfl, h4, by simpa using h5⟩
    have hnl : Hid (∀ l rest, P l rest → n = l.length ∧ l.length ≤ 16) := fun l rest hp => by
      obtain ⟨h1, h2⟩ := hPe.out l rest hp
      have hl16 := (hPl.out l rest hp).1.1
      exact ⟨(hc1.out l.length _ h1 h2 (by omega)).1, hl16⟩
  · have hPN : Hid (∀ l rest, P l rest → l.length = 16) := fun l rest hp => by
      have := hnl.out l rest hp
      omega
    clear hc1 hnl hN1
    go_loopw [3, 7] (fun y i wr => ∃ (k : Nat), k ≤ 16 ∧ i = .int .u64 k ∧ Hid (∃ F p r, OwnG wr w.heap.size y F ∧ F.length = k ∧ (∀ q ∈ F, GrI q ∧ q.name.size ≤ 24) ∧ IsStrip wr lo g bs p r ∧ w.grownBy wr (some g) ∧ GrsC bs P k F p r)) (fun _ i _ => 16 - (intOf i).toNat)
    case atStart => exact ⟨0, Nat.zero_le _, rfl, [], p1, r1, OwnS.nil _ _, rfl, (fun q hq => by cases hq), hs1.out, hg1.out, hC0.out⟩
    case round =>
      obtain ⟨k, hk, rfl, hrest⟩ := hrel
      obtain ⟨F, p, r, ho, hFl, hFg, hst, hgr, hC⟩ := hrest.out
      obtain ⟨mv, rfl⟩ : ∃ mv, mv = u3 := ⟨_, rfl⟩
      clear hrest
      by_cases hlt : k < 16
      · have hki : (k : Int) < 16 := by omega
        have hI1 := sInt_w lo g bs p r wr hst hby.out hlen
        replace ho : Hid (OwnG wr w.heap.size mv F) := ho
        replace hFl : Hid (F.length = k) := hFl
        replace hFg : Hid (∀ q ∈ F, GrI q ∧ q.name.size ≤ 24) := hFg
        replace hst : Hid _ := hst
        replace hgr : Hid (w.grownBy wr (some g)) := hgr
        replace hC : Hid (GrsC bs P k F p r) := hC
        have t1 : True := trivial
        go_wp2_with (first
          | (go_at_call 52; have _t := t1; refine hI1.mono ?_; rintro e w2 ⟨a2, p2, r2, rfl, hin2, hst2, hgr2, hc2⟩; clear t1; have hT2 := sText_w lo g bs p2 r2 w2 hst2 hby.out hlen; replace hin2 : Hid (-9223372036854775808 ≤ a2 ∧ a2 ≤ 9223372036854775807) := hin2; replace hst2 : Hid _ := hst2; replace hgr2 : Hid (wr.grownBy w2 (some g)) := hgr2; replace hc2 : Hid (IntC bs p r a2 p2 r2) := hc2)
          | (go_at_call 50; refine hT2.mono ?_; rintro e w3 ⟨s3, p3, r3, rfl, hin3, hst3, hgr3, hc3⟩; have hI3 := sInt_w lo g bs p3 r3 w3 hst3 hby.out hlen; replace hin3 : Hid (s3.size ≤ 24) := hin3; replace hst3 : Hid _ := hst3; replace hgr3 : Hid (w2.grownBy w3 (some g)) := hgr3; replace hc3 : Hid (TxtC bs p2 r2 s3 p3 r3) := hc3)
          | (go_at_call 52; refine hI3.mono ?_; rintro e w4 ⟨a4, p4, r4, rfl, hin4, hst4, hgr4, hc4⟩; have hgw : w.grownBy w4 (some g) := gtr' (gtr' (gtr' hgr.out hgr2.out) hgr3.out) hgr4; have ho4 : OwnG w4 w.heap.size mv F := OwnS.kept2 (OwnS.kept2 (OwnS.kept2 ho.out hgr2.out hgb) hgr3.out hgb) hgr4 hgb; replace hin4 : Hid (-9223372036854775808 ≤ a4 ∧ a4 ≤ 9223372036854775807) := hin4; replace hst4 : Hid (IsStrip w4 lo g bs p4 r4) := hst4; replace hgr4 : Hid _ := hgr4; replace hc4 : Hid (IntC bs p3 r3 a4 p4 r4) := hc4; replace hgw : Hid (w.grownBy w4 (some g)) := hgw; replace ho4 : Hid (OwnG w4 w.heap.size mv F) := ho4)
          | (at_builtin; refine appR TG rfl (.tmp 9) (.tmp 17) rfl w.heap.size mv (.slice (some ⟨w4.heap.size, 0, none⟩) 1 1) F [⟨a2, s3, a4⟩] rfl rfl (ho4.out.alloc _) (sls_one w4 _ _ _ rfl) (by have := hgw.out.size; simp; omega) (by have := hFl.out; simp; omega) ?_; intro v5 w5 ho5 hg5; replace ho5 : Hid (OwnG w5 w.heap.size v5 (F ++ [⟨a2, s3, a4⟩])) := ho5; replace hg5 : Hid (World.grownBy (w4.alloc (.cells #[.int .i64 a2, .string s3, .int .i64 a4] 52)) w5 mv.ownBlock) := hg5))
        refine ⟨⟨k + 1, by omega, by go_num, ?_⟩, ?_⟩
        · refine ⟨F ++ [⟨a2, s3, a4⟩], p4, r4, ho5.out, by simp [hFl.out], fun q hq => ?_, ?_, ?_, ?_⟩
          · rcases List.mem_append.1 hq with hq | hq
            · exact hFg.out q hq
            · have e : q = ⟨a2, s3, a4⟩ := by simpa using hq
              rw [e]; exact ⟨⟨hin2.out, hin4.out⟩, hin3.out⟩
          · exact strip_ob (strip_stay hst4.out ((Below.refl _ _).alloc (Nat.le_refl _) _)).1 hg5.out (fun q hq => by have := (ho4.out.lt q hq).1; omega)
          · exact gtr (gtr' hgw.out (g_alloc _ _ _)) hg5.out (fun q hq => (ho4.out.lt q hq).1)
          · exact grsC_step (fun l rest hp => ⟨(hPl.out l rest hp).1, by have := hPN.out l rest hp; omega⟩) hC.out hc2.out hc3.out hc4.out
        · simp [intOf]; omega
      · have hk16 : k = 16 := by omega
        subst hk16
        have hki : ¬ (16 : Int) < (16 : Int) := by decide
        have hfin : Hid (RgQ w bs (fun W p r => IsStrip W lo g bs p r) g 16 P mv wr) := ⟨F, p, r, ho, by omega, hFg, hst, hgr, fun l rest hp => by
          obtain ⟨h1, h2, h3⟩ := hC l rest hp
          have hl := hPN.out l rest hp
          rw [List.take_of_length_le (by omega)] at h1
          rw [show l.drop 16 = [] from List.drop_of_length_le (by omega)] at h3
          exact ⟨h1, h2, by simpa [cat] using h3⟩⟩
        clear ho hFl hFg hst hgr hC
        go_wp2
        go_ret
        exact ⟨mv, rfl, hfin.out⟩
  · have hPN : Hid (∀ l rest, P l rest → l.length = n) := fun l rest hp => by
      have := hnl.out l rest hp
      omega
    clear hc1 hnl hN1
    go_loopw [3, 7] (fun y i wr => ∃ (k : Nat), k ≤ n ∧ i = .int .u64 k ∧ Hid (∃ F p r, OwnG wr w.heap.size y F ∧ F.length = k ∧ (∀ q ∈ F, GrI q ∧ q.name.size ≤ 24) ∧ IsStrip wr lo g bs p r ∧ w.grownBy wr (some g) ∧ GrsC bs P k F p r)) (fun _ i _ => n - (intOf i).toNat)
    case atStart => exact ⟨0, Nat.zero_le _, rfl, [], p1, r1, OwnS.nil _ _, rfl, (fun q hq => by cases hq), hs1.out, hg1.out, hC0.out⟩
    case round =>
      obtain ⟨k, hk, rfl, hrest⟩ := hrel
      obtain ⟨F, p, r, ho, hFl, hFg, hst, hgr, hC⟩ := hrest.out
      obtain ⟨mv, rfl⟩ : ∃ mv, mv = u3 := ⟨_, rfl⟩
      clear hrest
      by_cases hlt : k < n
      · have hki : (k : Int) < (n : Int) := by omega
        have hI1 := sInt_w lo g bs p r wr hst hby.out hlen
        replace ho : Hid (OwnG wr w.heap.size mv F) := ho
        replace hFl : Hid (F.length = k) := hFl
        replace hFg : Hid (∀ q ∈ F, GrI q ∧ q.name.size ≤ 24) := hFg
        replace hst : Hid _ := hst
        replace hgr : Hid (w.grownBy wr (some g)) := hgr
        replace hC : Hid (GrsC bs P k F p r) := hC
        have t1 : True := trivial
        go_wp2_with (first
          | (go_at_call 52; have _t := t1; refine hI1.mono ?_; rintro e w2 ⟨a2, p2, r2, rfl, hin2, hst2, hgr2, hc2⟩; clear t1; have hT2 := sText_w lo g bs p2 r2 w2 hst2 hby.out hlen; replace hin2 : Hid (-9223372036854775808 ≤ a2 ∧ a2 ≤ 9223372036854775807) := hin2; replace hst2 : Hid _ := hst2; replace hgr2 : Hid (wr.grownBy w2 (some g)) := hgr2; replace hc2 : Hid (IntC bs p r a2 p2 r2) := hc2)
          | (go_at_call 50; refine hT2.mono ?_; rintro e w3 ⟨s3, p3, r3, rfl, hin3, hst3, hgr3, hc3⟩; have hI3 := sInt_w lo g bs p3 r3 w3 hst3 hby.out hlen; replace hin3 : Hid (s3.size ≤ 24) := hin3; replace hst3 : Hid _ := hst3; replace hgr3 : Hid (w2.grownBy w3 (some g)) := hgr3; replace hc3 : Hid (TxtC bs p2 r2 s3 p3 r3) := hc3)
          | (go_at_call 52; refine hI3.mono ?_; rintro e w4 ⟨a4, p4, r4, rfl, hin4, hst4, hgr4, hc4⟩; have hgw : w.grownBy w4 (some g) := gtr' (gtr' (gtr' hgr.out hgr2.out) hgr3.out) hgr4; have ho4 : OwnG w4 w.heap.size mv F := OwnS.kept2 (OwnS.kept2 (OwnS.kept2 ho.out hgr2.out hgb) hgr3.out hgb) hgr4 hgb; replace hin4 : Hid (-9223372036854775808 ≤ a4 ∧ a4 ≤ 9223372036854775807) := hin4; replace hst4 : Hid (IsStrip w4 lo g bs p4 r4) := hst4; replace hgr4 : Hid _ := hgr4; replace hc4 : Hid (IntC bs p3 r3 a4 p4 r4) := hc4; replace hgw : Hid (w.grownBy w4 (some g)) := hgw; replace ho4 : Hid (OwnG w4 w.heap.size mv F) := ho4)
          | (at_builtin; refine appR TG rfl (.tmp 9) (.tmp 17) rfl w.heap.size mv (.slice (some ⟨w4.heap.size, 0, none⟩) 1 1) F [⟨a2, s3, a4⟩] rfl rfl (ho4.out.alloc _) (sls_one w4 _ _ _ rfl) (by have := hgw.out.size; simp; omega) (by have := hFl.out; simp; omega) ?_; intro v5 w5 ho5 hg5; replace ho5 : Hid (OwnG w5 w.heap.size v5 (F ++ [⟨a2, s3, a4⟩])) := ho5; replace hg5 : Hid (World.grownBy (w4.alloc (.cells #[.int .i64 a2, .string s3, .int .i64 a4] 52)) w5 mv.ownBlock) := hg5))
        refine ⟨⟨k + 1, by omega, by go_num, ?_⟩, ?_⟩
        · refine ⟨F ++ [⟨a2, s3, a4⟩], p4, r4, ho5.out, by simp [hFl.out], fun q hq => ?_, ?_, ?_, ?_⟩
          · rcases List.mem_append.1 hq with hq | hq
            · exact hFg.out q hq
            · have e : q = ⟨a2, s3, a4⟩ := by simpa using hq
              rw [e]; exact ⟨⟨hin2.out, hin4.out⟩, hin3.out⟩
          · exact strip_ob (strip_stay hst4.out ((Below.refl _ _).alloc (Nat.le_refl _) _)).1 hg5.out (fun q hq => by have := (ho4.out.lt q hq).1; omega)
          · exact gtr (gtr' hgw.out (g_alloc _ _ _)) hg5.out (fun q hq => (ho4.out.lt q hq).1)
          · exact grsC_step (fun l rest hp => ⟨(hPl.out l rest hp).1, by have := hPN.out l rest hp; omega⟩) hC.out hc2.out hc3.out hc4.out
        · simp [intOf]; omega
      · obtain rfl : n = k := by omega
        have hki : ¬ (n : Int) < (n : Int) := by omega
        have hfin : Hid (RgQ w bs (fun W p r => IsStrip W lo g bs p r) g 16 P mv wr) := ⟨F, p, r, ho, by omega, hFg, hst, hgr, fun l rest hp => by
          obtain ⟨h1, h2, h3⟩ := hC l rest hp
          have hl := hPN.out l rest hp
          rw [List.take_of_length_le (by omega)] at h1
          rw [show l.drop n = [] from List.drop_of_length_le (by omega)] at h3
          exact ⟨h1, h2, by simpa [cat] using h3⟩⟩
        clear ho hFl hFg hst hgr hC
        go_wp2
        go_ret
        exact ⟨mv, rfl, hfin.out⟩
end Go.Proofs.Ytfbeilninpapaaa
