/- byKey, isOfAll. -/
import Derived.Test.YtiajafljgfpdcaaGreatBHe
namespace Go.Proofs.YtiajafljgfpdcaaGreat
set_option linter.unusedVariables false
open Go.RowKit
/-- Entries that are a board's, in their order. -/
def RiseE (l : List En) : Prop := RiseG (fun e : En => e.ls) l ∧ ∀ e ∈ l, IsSet e.ls
def stE (e : En) : Sd := ⟨e.sv, beginA (e.ls, e.x)⟩
theorem putG_snoc {α : Type} {f : α → List Lb} {s : α} : ∀ {L : List α}, (∀ t ∈ L, cmpS (f t) (f s) = -1) → putG f s L = L ++ [s]
  | [], _ => rfl
  | t :: L, h => by
    have h1 := h t (by simp)
    have h2 : cmpS (f s) (f t) = 1 := by rw [cmpS_neg, h1]; rfl
    unfold putG
    rw [if_neg (by rw [h2]; decide), if_neg (by rw [h2]; decide), putG_snoc (fun x hx => h x (by simp [hx]))]
    rfl
theorem take_snoc {l : List En} {k : Nat} (h : RiseE l) (hk : k < l.length) : putG (fun s : Sd => s.s.ls) (stE (l.getD k en0)) ((l.take k).map stE) = (l.take (k + 1)).map stE := by
  rw [putG_snoc]
  · rw [take_getD l en0 k hk, List.map_append]; rfl
  · intro t ht
    obtain ⟨e, he, rfl⟩ := List.mem_map.1 ht
    obtain ⟨j, hj, rfl⟩ := List.mem_iff_getElem.1 he
    rw [List.length_take] at hj
    have hjk : j < k := by omega
    have := List.pairwise_iff_getElem.1 h.1 j k (by omega) hk hjk
    rw [List.getElem_take]
    have e2 : l.getD k en0 = l[k] := by simp [hk]
    rw [e2]
    exact this
/-- isOfAll. -/
def ofAllB (l : List Rn) : Bool := decide (l.length = 1) && (decide ((l.headD rn0).r.ls = []) && (decide ((l.headD rn0).r.k = 3) || decide ((l.headD rn0).r.k = 4)))
theorem lbs_n {w : World} {e : Sv} {l : List Lb} (h : Lbs w e.v l) : e.n = l.length := Sls.len h
set_option maxRecDepth 100000 in
set_option maxHeartbeats 2000000 in
theorem isOfAll_any (v : Value) (l : List Rn) (w : World) (hv : Rns w v l) (hl : l.length ≤ 1000000) (hls : ∀ r ∈ l, r.r.ls.length ≤ 1000000) : Calls Tryz.prog 34 #[v] w fun e w' => e = .returned (.bool (ofAllB l)) ∧ Below w.heap.size w w' := by
  obtain ⟨hs, hg⟩ := hv
  obtain ⟨a, c, rfl⟩ := hs.shape
  unfold ofAllB
  by_cases h1 : l.length = 1
  · obtain ⟨r, rfl⟩ : ∃ r, l = [r] := by
      cases l with
      | nil => cases h1
      | cons r t => cases t with
        | nil => exact ⟨r, rfl⟩
        | cons _ _ => simp at h1
    obtain ⟨b, o, rfl, hat⟩ := rn_at hs 0 (by simp)
    simp only [Nat.zero_mul, Nat.add_zero, List.getD_cons_zero] at hat
    obtain ⟨c0, c1, c2, c3⟩ := at_rn hat
    have hn := lbs_n (hg r (by simp))
    have hll := hls r (by simp)
    clear hat hg hls h1
    obtain ⟨⟨ra, rn, rc⟩, rls, rk, rvk, rvn⟩ := r
    simp only at *
    subst hn
    simp only [List.length_cons, List.length_nil, Nat.zero_add, List.headD_cons]
    by_cases h0 : rls = []
    · subst h0
      by_cases h3 : rk = 3
      · subst h3
        go_enter Tryz.func34, Tryz.ntmps34
        go_wp2
        go_ret
        exact ⟨rfl, Below.refl _ _⟩
      · by_cases h4 : rk = 4
        · subst h4
          go_enter Tryz.func34, Tryz.ntmps34
          go_wp2
          go_ret
          exact ⟨rfl, Below.refl _ _⟩
        · have d3 : decide (rk = 3) = false := by simp [h3]
          have d4 : decide (rk = 4) = false := by simp [h4]
          have b3 : (rk == 3) = false := by simp [h3]
          have b4 : (rk == 4) = false := by simp [h4]
          go_enter Tryz.func34, Tryz.ntmps34
          go_wp2
          go_ret
          exact ⟨by simp [h3, h4], Below.refl _ _⟩
    · have d0 : decide (rls = []) = false := by simp [h0]
      have hpos : (0 : Int) < (rls.length : Int) := by
        have := List.length_pos_iff.2 h0
        omega
      go_enter Tryz.func34, Tryz.ntmps34
      go_wp2
      go_ret
      exact ⟨by simp [h0], Below.refl _ _⟩
  · have hne : decide (l.length = 1) = false := by simp [h1]
    have h1i : ¬ (l.length : Int) = 1 := by omega
    rw [hne]
    go_enter Tryz.func34, Tryz.ntmps34
    go_wp2
    go_ret
    exact ⟨rfl, Below.refl _ _⟩
theorem run_hint (n : Int) (w : World) : (Instr.makeMap 79 (some (.int .i64 n))).run Tryz.prog w = .ok (.map (some w.heap.size)) (w.alloc (.map #[] 0)) := by
  simp [Instr.makeMap, run_underlying Tryz.underlying79, asInt, asIntOf, Result.andThen]
set_option maxRecDepth 100000 in
set_option maxHeartbeats 2000000 in
theorem byKey_any (v : Value) (l : List En) (w : World) (hv : Ens w v l) (hr : RiseE l) (hl : l.length ≤ 10000) : Calls Tryz.prog 33 #[v] w fun e w' => ∃ b, e = .returned (.map (some b)) ∧ MapIs w' b (l.map stE) ∧ Below w.heap.size w w' ∧ w.heap.size ≤ b := by
  obtain ⟨hs, hg⟩ := hv
  obtain ⟨a, c, rfl⟩ := hs.shape
  replace hs : Hid (Sls eEn w (.slice a l.length c) l) := hs
  have hmm := run_hint (l.length : Nat) w
  have hM0 : Hid (MapIs (w.alloc (.map #[] 0)) w.heap.size ((l.take 0).map stE)) := map_made w
  have hB0 : Hid (Below w.heap.size w (w.alloc (.map #[] 0))) := (Below.refl _ w).alloc (Nat.le_refl _) _
  go_enter Tryz.func33, Tryz.ntmps33
  go_wp2
  clear hmm
  go_loopw [11] (fun i wr => ∃ k : Nat, k ≤ l.length ∧ i = .int .i64 k ∧ Hid (MapIs wr w.heap.size ((l.take k).map stE)) ∧ Hid (Below w.heap.size w wr)) (fun i _ => l.length - (intOf i).toNat)
  case atStart => exact ⟨0, Nat.zero_le _, rfl, hM0, hB0⟩
  case round =>
    obtain ⟨k, hk, rfl, hM, hB⟩ := hrel
    have hbz := hB.out.size
    by_cases hlt : k < l.length
    · have hki : (k : Int) < (l.length : Int) := by omega
      obtain ⟨b, o, rfl, hat⟩ := en_at (hs.out.grow hB.out) k hlt
      obtain ⟨x0, x1, x2, x3, x4, x5, x6, x7⟩ := at_en hat
      have hstep := take_snoc hr hlt
      have hkl : ((l.take k).map stE).length = k := by simp; omega
      have hset := hr.2 _ (getD_mem l en0 k hlt)
      have hlb := (hg _ (getD_mem l en0 k hlt)).grow hB.out
      generalize l.getD k en0 = e at *
      obtain ⟨⟨ea, en, ec⟩, els, ⟨st, since, fr, quiet, seen, vk, vn⟩⟩ := e
      simp only at *
      go_wp2
      have hx5 : (wr.alloc (.cells #[.slice ea en ec, .int .i64 st, .int .i64 since, .int .i64 fr, .int .i64 quiet, .int .i64 seen, .int .i64 vk, .int .i64 vn] 67)).heap[wr.heap.size]? = some (.cells #[.slice ea en ec, .int .i64 st, .int .i64 since, .int .i64 fr, .int .i64 quiet, .int .i64 seen, .int .i64 vk, .int .i64 vn] 67 (0, 0)) := heap_new _ _
      have hB5 : Hid (Below w.heap.size w (wr.alloc (.cells #[.slice ea en ec, .int .i64 st, .int .i64 since, .int .i64 fr, .int .i64 quiet, .int .i64 seen, .int .i64 vk, .int .i64 vn] 67))) := hB.out.alloc hbz _
      have hM5 : Hid (MapIs (wr.alloc (.cells #[.slice ea en ec, .int .i64 st, .int .i64 since, .int .i64 fr, .int .i64 quiet, .int .i64 seen, .int .i64 vk, .int .i64 vn] 67)) w.heap.size ((l.take k).map stE)) := hM.out.grow ((Below.refl _ _).alloc (Nat.le_refl _) _)
      have hl5 : Hid (Lbs (wr.alloc (.cells #[.slice ea en ec, .int .i64 st, .int .i64 since, .int .i64 fr, .int .i64 quiet, .int .i64 seen, .int .i64 vk, .int .i64 vn] 67)) (.slice ea en ec) els) := Sls.alloc hlb _
      have hx3 : wr.heap.size < (wr.alloc (.cells #[.slice ea en ec, .int .i64 st, .int .i64 since, .int .i64 fr, .int .i64 quiet, .int .i64 seen, .int .i64 vk, .int .i64 vn] 67)).heap.size := by simp
      clear hat x0 x1 x2 x3 x4 x5 x6 x7 hlb
      generalize (wr.alloc (.cells #[.slice ea en ec, .int .i64 st, .int .i64 since, .int .i64 fr, .int .i64 quiet, .int .i64 seen, .int .i64 vk, .int .i64 vn] 67)) = W5 at *
      have hxq : ∀ q : Bel W5, q.W.heap[wr.heap.size]? = some (.cells #[.slice ea en ec, .int .i64 st, .int .i64 since, .int .i64 fr, .int .i64 quiet, .int .i64 seen, .int .i64 vk, .int .i64 vn] 67 (0, 0)) := fun q => (q.h.block _ hx3).trans hx5
      have s0 : ∀ q : Bel W5, q.W.cell? ⟨wr.heap.size, 0, none⟩ = some (.slice ea en ec) := fun q => by simp [World.cell?, hxq q]
      have s1 : ∀ q : Bel W5, q.W.cell? ⟨wr.heap.size, 1, none⟩ = some (.int .i64 st) := fun q => by simp [World.cell?, hxq q]
      have s2 : ∀ q : Bel W5, q.W.cell? ⟨wr.heap.size, 2, none⟩ = some (.int .i64 since) := fun q => by simp [World.cell?, hxq q]
      have s3 : ∀ q : Bel W5, q.W.cell? ⟨wr.heap.size, 3, none⟩ = some (.int .i64 fr) := fun q => by simp [World.cell?, hxq q]
      have s4 : ∀ q : Bel W5, q.W.cell? ⟨wr.heap.size, 4, none⟩ = some (.int .i64 quiet) := fun q => by simp [World.cell?, hxq q]
      have s5 : ∀ q : Bel W5, q.W.cell? ⟨wr.heap.size, 5, none⟩ = some (.int .i64 seen) := fun q => by simp [World.cell?, hxq q]
      have s6 : ∀ q : Bel W5, q.W.cell? ⟨wr.heap.size, 6, none⟩ = some (.int .i64 vk) := fun q => by simp [World.cell?, hxq q]
      have s7 : ∀ q : Bel W5, q.W.cell? ⟨wr.heap.size, 7, none⟩ = some (.int .i64 vn) := fun q => by simp [World.cell?, hxq q]
      have hkey : ∀ q : Bel W5, Calls Tryz.prog 36 #[.slice ea en ec] q.W fun e w' => e = .returned (.string (keyB els)) ∧ Below q.W.heap.size q.W w' := fun q => key_f _ els _ (Sls.grow hl5.out q.h) hset
      clear hxq
      refine Yquiettail.region_tail (C := fun W => ∃ p : Bel W5, W = p.W) 9 (by kernel_rfl) (by kernel_rfl) ⟨⟨W5.drew, (Below.refl _ _).drew⟩, rfl⟩ ?_
      dsimp only [List.take, List.drop]
      repeat (go_big_quiet_step (first | (go_at_call 36; exact Calls.bel (hkey _))))
      refine wpQuiet_nil ?_
      rintro w8 ⟨⟨wy, h8⟩, rfl⟩
      replace h8 : Below W5.heap.size W5 w8 := h8
      clear s0 s1 s2 s3 s4 s5 s6 s7 hkey
      obtain ⟨w9, hrun, hM9, ht9⟩ := (hM5.out.grow h8).update (by rw [hkl]; omega) ⟨⟨ea, en, ec⟩, ⟨els, ⟨st, since, fr, quiet, seen, vk, vn⟩, st, false⟩⟩ hset
      have hB8 : Below w.heap.size w w8 := hB5.out.trans (h8.mono hB5.out.size)
      have hB9 : Hid (Below w.heap.size w w9) := turned_below hB8 hB8.size (Nat.le_refl _) ht9
      have hM9' : Hid (MapIs w9 w.heap.size ((l.take (k + 1)).map stE)) := by
        show MapIs _ _ _
        rw [← hstep]; exact hM9
      have hrun2 : (Instr.mapUpdate 79 (.map (some w.heap.size)) (.string (keyB els)) (.agg #[.slice ea en ec, .int .i64 st, .int .i64 since, .int .i64 fr, .int .i64 quiet, .int .i64 seen, .int .i64 vk, .int .i64 vn, .int .i64 st, .bool false])).run Tryz.prog w8 = .ok () w9 := hrun
      clear hrun hM9 ht9 hstep
      go_wp2
      go_roundw
      case rel => exact ⟨k + 1, by omega, by go_num, hM9', hB9⟩
      case measure => simp [intOf]; omega
    · obtain rfl : k = l.length := by omega
      have hki : ¬ (l.length : Int) < (l.length : Int) := by omega
      have hM2 : MapIs wr w.heap.size (l.map stE) := by
        have := hM.out
        rwa [List.take_of_length_le (Nat.le_refl _)] at this
      go_wp2
      go_ret
      exact ⟨_, rfl, hM2, hB.out, Nat.le_refl _⟩
end Go.Proofs.YtiajafljgfpdcaaGreat
