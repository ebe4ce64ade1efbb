/- The contract of comesBack. -/
import Derived.Test.YtcgjolonapndgabDoorMMath
namespace Go.Proofs.YtcgjolonapndgabDoor
open Go.RowKit Go.Maps Go.ChangeMaps Go.MapKept
/-- meta.Put, the block not named. -/
theorem mput_ex (q : Nat) (r k d : Int) (w : World) (hq : q < 2 ^ 64) :
    Calls Tryd.prog 12 #[.agg #[.int .u64 q, .int .i64 r, .int .i64 k, .int .i64 d]] w fun e w' => ∃ g, e = .returned (.slice (some ⟨g, 0, none⟩) 36 36) ∧ w.heap.size ≤ g ∧ Row w' g (metaB q r k d) ∧ Below w.heap.size w w' :=
  (mput_any q r k d w hq).mono fun _ _ h => ⟨_, h.1, Nat.le_succ _, h.2.1, h.2.2⟩
set_option maxRecDepth 100000 in
set_option maxHeartbeats 2000000 in
theorem comesBack_any (q : Nat) (r k d : Int) (w : World) (hq : q < 2 ^ 64) (hk : -9223372036854775808 ≤ k ∧ k ≤ 9223372036854775807) (B : Bool) (hB : Hid (B = decide (mok q r k d))) :
    Calls Tryd.prog 40 #[.agg #[.int .u64 q, .int .i64 r, .int .i64 k, .int .i64 d]] w fun e w' => e = .returned (.bool B) ∧ Below w.heap.size w w' := by
  have hBA : Below w.heap.size w (w.alloc (.cells #[.int .u64 q, .int .i64 r, .int .i64 k, .int .i64 d] 24)) := (Below.refl _ _).alloc (Nat.le_refl _) _
  have hm0 : MetaAt (w.alloc (.cells #[.int .u64 q, .int .i64 r, .int .i64 k, .int .i64 d] 24)) w.heap.size q r k d := heap_alloc_new w _
  have hby := metaB_bytes q r k d
  have hput := mput_ex q r k d (w.alloc (.cells #[.int .u64 q, .int .i64 r, .int .i64 k, .int .i64 d] 24)) hq
  have e1 : seqOf (metaB q r k d) = q := by simpa using seqOf_meta q r k d [] hq
  have e3 : keysI (metaB q r k d) = k := by simpa using keysI_meta q r k d [] hk.1 hk.2
  have hlen := metaB_len q r k d
  by_cases hM : isMeta (metaB q r k d) = true
  · have hok := isMeta_mok hM
    have hget := fun v W (hb : Bts W v (metaB q r k d)) => mget_yes v _ W hb hby hM
    rw [e1, e3] at hok hget
    have hcmp : Hid (B = (decide ((rootOf (metaB q r k d) : Int) = r) && decide ((depthOf (metaB q r k d) : Int) = d))) := by
      show _ = _
      rw [hB.out, ← Bool.decide_and, decide_eq_decide]
      constructor
      · intro h
        exact ⟨by simpa using root_ok q r k d [] h.2.1 h.2.2.1, by simpa using depth_ok q r k d [] h.2.2.2.2.2.1 h.2.2.2.2.2.2⟩
      · rintro ⟨h1, h2⟩
        rw [h1, h2] at hok
        exact hok
    generalize (rootOf (metaB q r k d) : Nat) = R at *
    generalize (depthOf (metaB q r k d) : Nat) = D at *
    generalize metaB q r k d = L at *
    clear hok hB e1 e3 hM
    go_enter Tryd.func40, Tryd.ntmps40
    go_wp2_with (first | (go_at_call 12; refine hput.mono ?_; rintro e w2 ⟨g2, rfl, hg2, hrow2, hb2⟩; have hm2 := hm0.keep (hb2.block _ hm0.lt); have hbt := hrow2.bts; rw [hlen] at hbt) | (go_at_call 10; refine (hget _ _ hbt).mono ?_; rintro e w3 ⟨rfl, hb3⟩; have hm3 := hm2.keep (hb3.block _ hm2.lt); obtain ⟨c0, c1, c2, c3⟩ := hm3.cells; have hlt3 := hm3.lt; have hB3 := (hBA.trans (hb2.mono hBA.size)).trans (hb3.mono (Nat.le_trans hBA.size hb2.size)); clear hget hput hm0 hm2 hbt hrow2))
    all_goals
      go_ret
      refine ⟨?_, hB3.alloc hB3.size _⟩
      rw [hcmp.out]
      show Ending.returned (.bool _) = _
      simp [*]
  · have hM' : isMeta (metaB q r k d) = false := by simpa using hM
    have hget := fun v W (hb : Bts W v (metaB q r k d)) => mget_no v _ W hb hby hM'
    have hBf : B = false := by
      rw [hB.out]
      exact decide_eq_false fun h => hM (by simpa using isMeta_meta q r k d [] hq h (by simp))
    subst hBf
    generalize metaB q r k d = L at *
    clear e1 e3 hM hM' hB
    go_enter Tryd.func40, Tryd.ntmps40
    go_wp2_with (first | (go_at_call 12; refine hput.mono ?_; rintro e w2 ⟨g2, rfl, hg2, hrow2, hb2⟩; have hm2 := hm0.keep (hb2.block _ hm0.lt); have hbt := hrow2.bts; rw [hlen] at hbt) | (go_at_call 10; refine (hget _ _ hbt).mono ?_; rintro e w3 ⟨rfl, hb3⟩; have hm3 := hm2.keep (hb3.block _ hm2.lt); obtain ⟨c0, c1, c2, c3⟩ := hm3.cells; have hlt3 := hm3.lt; have hB3 := (hBA.trans (hb2.mono hBA.size)).trans (hb3.mono (Nat.le_trans hBA.size hb2.size)); clear hget hput hm0 hm2 hbt hrow2))
    go_ret
    exact ⟨rfl, hB3.alloc hB3.size _⟩
end Go.Proofs.YtcgjolonapndgabDoor
