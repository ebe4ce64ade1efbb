/- The document's Write of metas. -/
import Derived.Test.YtcgjolonapndgabDoorRMGet
import Derived.Test.YtcgjolonapndgabDoorRCnt
import Derived.Test.YtcgjolonapndgabDoorTwoW
namespace Go.Proofs.YtcgjolonapndgabDoor
set_option linter.unusedVariables false
open Go.RowKit Go.Maps Go.ChangeMaps Go.MapKept
theorem TurnedR.back {W X w' : World} {r : Nat} {G : Nat → Prop} {s' : St} (hb : Below W.heap.size W X) (g : TurnedR X r G s' w') : TurnedR W r G s' w' := by
  obtain ⟨G', h1, h2, h3⟩ := g
  exact ⟨G', h1, (Frm.of_below hb G).trans h2 (fun _ hj => .inl hj), fun k hk => ⟨(h3 k hk).1.imp id (fun h => Nat.le_trans hb.size h), (h3 k hk).2⟩⟩
theorem getBack (q : Nat) (r k d : Int) (hq : q < 2 ^ 64) (hk : -9223372036854775808 ≤ k ∧ k ≤ 9223372036854775807) (h : mok q r k d) : getM (metaB q r k d) = ⟨q, r, k, d⟩ ∧ getE (metaB q r k d) = 0 := by
  have hM : isMeta (metaB q r k d) = true := by simpa using isMeta_meta q r k d [] hq h (by simp)
  unfold getM getE
  rw [if_pos hM, if_pos hM]
  unfold mtOf
  rw [show seqOf (metaB q r k d) = q by simpa using seqOf_meta q r k d [] hq, show keysI (metaB q r k d) = k by simpa using keysI_meta q r k d [] hk.1 hk.2, show (rootOf (metaB q r k d) : Int) = r by simpa using root_ok q r k d [] h.2.1 h.2.2.1, show (depthOf (metaB q r k d) : Int) = d by simpa using depth_ok q r k d [] h.2.2.2.2.2.1 h.2.2.2.2.2.2]
  exact ⟨rfl, rfl⟩
theorem getBad (q : Nat) (r k d : Int) (hq : q < 2 ^ 64) (hk : -9223372036854775808 ≤ k ∧ k ≤ 9223372036854775807) (h : ¬ mok q r k d) : getE (metaB q r k d) = 40 ∨ getE (metaB q r k d) = 0 ∧ (getM (metaB q r k d)).q = q ∧ (getM (metaB q r k d)).k = k ∧ ((getM (metaB q r k d)).r ≠ r ∨ (getM (metaB q r k d)).r = r ∧ (getM (metaB q r k d)).d ≠ d) := by
  have e1 : seqOf (metaB q r k d) = q := by simpa using seqOf_meta q r k d [] hq
  have e2 : keysI (metaB q r k d) = k := by simpa using keysI_meta q r k d [] hk.1 hk.2
  generalize metaB q r k d = B at *
  cases hM : isMeta B with
  | false =>
    left
    unfold getE
    rw [hM, if_neg (by simp)]
  | true =>
    right
    have hm := isMeta_mok hM
    have g1 : getE B = 0 := by unfold getE; rw [if_pos hM]
    have g2 : getM B = mtOf B := by unfold getM; rw [if_pos hM]
    rw [g1, g2]
    refine ⟨rfl, e1, e2, ?_⟩
    by_cases a : (rootOf B : Int) = r
    · refine .inr ⟨a, fun b => h ?_⟩
      replace b : (depthOf B : Int) = d := b
      rw [e1, e2, a, b] at hm
      exact hm
    · exact .inl a
section
variable {W : World} {ρ : Nat} {G : Nat → Prop} {s : St}
set_option maxRecDepth 100000 in
set_option maxHeartbeats 4000000 in
theorem rmwrite_any (h : IsR W ρ G s) (hG : ∀ k, G k → k < W.heap.size) (hops : s.ops < 17592186044416) (per : Int) (q : Nat) (r k d : Int) (hq : q < 2 ^ 64) (hk : -9223372036854775808 ≤ k ∧ k ≤ 9223372036854775807) :
    Calls Tryd.prog 19 #[.pointer (some ⟨ρ, 0, none⟩), .int .i64 per, .agg #[.int .u64 q, .int .i64 r, .int .i64 k, .int .i64 d]] W fun e w' => e = .returned (.int .i64 (s.errM per q r k d)) ∧ TurnedR W ρ G (s.writeM per q r k d) w' := by
  have hB1 : Below W.heap.size W (W.alloc (.cells #[.int .u64 q, .int .i64 r, .int .i64 k, .int .i64 d] 24)) := (Below.refl _ _).alloc (Nat.le_refl _) _
  have hm1 : MetaAt (W.alloc (.cells #[.int .u64 q, .int .i64 r, .int .i64 k, .int .i64 d] 24)) W.heap.size q r k d := heap_alloc_new W _
  have hgm := fun X => rmput_any q r k d X hq
  have hgg := fun X => rmget_any (metaB q r k d) X (metaB_bytes _ _ _ _) (by rw [metaB_len]; omega)
  have hge : 0 ≤ getE (metaB q r k d) ∧ getE (metaB q r k d) ≤ 40 := by unfold getE; split <;> omega
  by_cases c1 : cnt s per < 2
  · have hE : Hid (s.errM per q r k d = 2) := by show _ = _; unfold St.errM; rw [if_pos (.inl c1)]
    have hS : Hid (s.writeM per q r k d = s) := by show _ = _; unfold St.writeM; rw [if_pos (.inl c1)]
    generalize (getM (metaB q r k d)).q = gq at *
    generalize (getM (metaB q r k d)).r = gr at *
    generalize (getM (metaB q r k d)).k = gk at *
    generalize (getM (metaB q r k d)).d = gd at *
    generalize getE (metaB q r k d) = ge at *
    go_enter Tryd.func19, Tryd.ntmps19
    go_wp2_with (first
      | (go_at_call 13; refine (hgm _).mono ?_; rintro e w2 ⟨rfl, hb2⟩; have hB2 := hB1.trans (hb2.mono hB1.size))
      | (go_at_call 11; refine (hgg _).mono ?_; rintro e w3 ⟨rfl, hb3⟩; have hB3 := hB2.trans (hb3.mono hB2.size); have hB4 := hB3.alloc hB3.size (.cells #[.int .u64 gq, .int .i64 gr, .int .i64 gk, .int .i64 gd] 24))
      | (go_at_call 42; refine (rcount_any (h.grow hB4) per).mono ?_; rintro e w' ⟨rfl, hw'⟩; subst w'))
    go_ret
    exact ⟨by rw [hE.out]; rfl, by rw [hS.out]; exact (turnedR_same (h.grow hB4)).back hB4⟩
  have d1 : decide (cnt s per < 2) = false := by simpa using c1
  have hper := cnt_per c1
  by_cases c2 : mok q r k d
  · have hE : Hid (s.errM per q r k d = s.errWrite (((q % 2 : Nat) : Int) * per) [metaB q r k d]) := by show _ = _; unfold St.errM; rw [if_neg (by simp [c1, c2])]
    have hS : Hid (s.writeM per q r k d = s.write (((q % 2 : Nat) : Int) * per) [metaB q r k d]) := by show _ = _; unfold St.writeM; rw [if_neg (by simp [c1, c2])]
    obtain ⟨b1, b2⟩ := getBack q r k d hq hk c2
    rw [b1, b2] at hgg
    clear b1 b2 hge c1 c2
    have hT : q % 2 ≤ 1 := by omega
    have hTi : (q : Int).tmod 2 = ((q % 2 : Nat) : Int) := by rw [Int.tmod_eq_emod_of_nonneg (by omega)]; omega
    generalize metaB q r k d = MB at *
    generalize q % 2 = T at hT hE hS hTi
    have hw1 : IntKind.i64.wrap (T : Int) = T := by rw [IntKind.wrap_i64]; omega
    have hTp : 0 ≤ (T : Int) * per ∧ (T : Int) * per ≤ 8192 := by
      match T, hT with
      | 0, _ => simp
      | 1, _ => simp; omega
    have hw2 : IntKind.i64.wrap ((T : Int) * per) = (T : Int) * per := by rw [IntKind.wrap_i64]; omega
    go_enter Tryd.func19, Tryd.ntmps19
    go_upto_region 6 with (first
      | (go_at_call 13; refine (hgm _).mono ?_; rintro e w2 ⟨rfl, hb2⟩; have hB2 := hB1.trans (hb2.mono hB1.size); have hm2 := hm1.keep (hb2.block _ hm1.lt))
      | (go_at_call 11; refine (hgg _).mono ?_; rintro e w3 ⟨rfl, hb3⟩; have hB3 := hB2.trans (hb3.mono hB2.size); have hm3 := hm2.keep (hb3.block _ hm2.lt); have hlt3 := hm3.lt; obtain ⟨x0, x1, x2, x3⟩ := hm3.cells; have hB4 := hB3.alloc hB3.size (.cells #[.int .u64 q, .int .i64 r, .int .i64 k, .int .i64 d] 24); have hm4 : MetaAt (w3.alloc (.cells #[.int .u64 q, .int .i64 r, .int .i64 k, .int .i64 d] 24)) W.heap.size q r k d := hm3.keep ((heap_alloc w3 _).2 _ hm3.lt))
      | (go_at_call 42; refine (rcount_any (h.grow hB4) per).mono ?_; rintro e w' ⟨rfl, hw'⟩; subst w'))
    generalize w3.alloc (.cells #[.int .u64 q, .int .i64 r, .int .i64 k, .int .i64 d] 24) = W4 at *
    clear hm1 hB1 hb2 hB2 hm2 hb3 hB3 hm3 hlt3 x0 x1 x2 x3 hgg
    have hH4 := h.grow hB4
    go_region_held3 (fun X => X.cell? ⟨W.heap.size, 0, none⟩ = some (.int .u64 q) ∧ X.cell? ⟨W.heap.size, 1, none⟩ = some (.int .i64 r) ∧ X.cell? ⟨W.heap.size, 2, none⟩ = some (.int .i64 k) ∧ X.cell? ⟨W.heap.size, 3, none⟩ = some (.int .i64 d))
      (first | exact keepM hm4 rfl | exact keepM hm4 (hB5.block _ hm4.lt) | exact keepM hm4 hF6)
      (first
        | (go_at_call 13; refine (hgm _).mono ?_; rintro e w5 ⟨rfl, hb5⟩; have hB5 : Below W4.heap.size W4 w5 := (Below.refl _ W4).drew.trans hb5)
        | (go_at_call 21; refine (refWrite_any (hH4.grow hB5) hops _ _).mono ?_; rintro e w6 ⟨rfl, hg6⟩; have hF6 : w6.heap[W.heap.size]? = W4.heap[W.heap.size]? := (by obtain ⟨G', _, hf, _⟩ := hg6; exact (hf.block _ (Nat.lt_of_lt_of_le hm4.lt hB5.size) (fun hh => absurd (hG _ hh) (by omega))).trans (hB5.block _ hm4.lt)); replace hg6 := TurnedR.back (hB4.trans (hB5.mono hB4.size)) hg6))
    go_wp2_with fail
    go_ret
    exact ⟨by rw [hE.out]; rfl, by rw [hS.out]; exact hg6⟩
  · have hE : Hid (s.errM per q r k d = 2) := by show _ = _; unfold St.errM; rw [if_pos (.inr c2)]
    have hS : Hid (s.writeM per q r k d = s) := by show _ = _; unfold St.writeM; rw [if_pos (.inr c2)]
    have hbad := getBad q r k d hq hk c2
    clear c2 c1
    generalize (getM (metaB q r k d)).q = gq at *
    generalize (getM (metaB q r k d)).r = gr at *
    generalize (getM (metaB q r k d)).k = gk at *
    generalize (getM (metaB q r k d)).d = gd at *
    generalize getE (metaB q r k d) = ge at *
    generalize metaB q r k d = MB at *
    rcases hbad with rfl | ⟨rfl, rfl, rfl, hrd⟩
    · go_enter Tryd.func19, Tryd.ntmps19
      go_wp2_with (first
        | (go_at_call 13; refine (hgm _).mono ?_; rintro e w2 ⟨rfl, hb2⟩; have hB2 := hB1.trans (hb2.mono hB1.size))
        | (go_at_call 11; refine (hgg _).mono ?_; rintro e w3 ⟨rfl, hb3⟩; have hB3 := hB2.trans (hb3.mono hB2.size); have hB4 := hB3.alloc hB3.size (.cells #[.int .u64 gq, .int .i64 gr, .int .i64 gk, .int .i64 gd] 24))
        | (go_at_call 42; refine (rcount_any (h.grow hB4) per).mono ?_; rintro e w' ⟨rfl, hw'⟩; subst w'))
      go_ret
      exact ⟨by rw [hE.out]; rfl, by rw [hS.out]; exact (turnedR_same (h.grow hB4)).back hB4⟩
    · have hcmp : Hid ((gr == r) = false ∨ gr = r ∧ (gd == d) = false) := by
        rcases hrd with h1 | ⟨h1, h2⟩
        · exact .inl (by simpa using h1)
        · exact .inr ⟨h1, by simpa using h2⟩
      clear hrd
      rcases hcmp.out with hc | ⟨rfl, hc⟩
      all_goals
        clear hcmp
        go_enter Tryd.func19, Tryd.ntmps19
        go_wp2_with (first
          | (go_at_call 13; refine (hgm _).mono ?_; rintro e w2 ⟨rfl, hb2⟩; have hB2 := hB1.trans (hb2.mono hB1.size); have hm2 := hm1.keep (hb2.block _ hm1.lt))
          | (go_at_call 11; refine (hgg _).mono ?_; rintro e w3 ⟨rfl, hb3⟩; have hB3 := hB2.trans (hb3.mono hB2.size); have hm3 := hm2.keep (hb3.block _ hm2.lt); have hlt3 := hm3.lt; obtain ⟨x0, x1, x2, x3⟩ := hm3.cells; have hB4 := fun o => hB3.alloc hB3.size o)
          | (go_at_call 42; refine (rcount_any (h.grow (hB4 _)) per).mono ?_; rintro e w' ⟨rfl, hw'⟩; subst w'))
        go_ret
        exact ⟨by rw [hE.out]; rfl, by rw [hS.out]; exact (turnedR_same (h.grow (hB4 _))).back (hB4 _)⟩
end
end Go.Proofs.YtcgjolonapndgabDoor
