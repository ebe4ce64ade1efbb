/- The contracts of standing and meta.Best. -/
import Derived.Test.YtcgjolonapndgabDoorMWri
namespace Go.Proofs.YtcgjolonapndgabDoor
open Go.RowKit Go.Maps Go.ChangeMaps Go.MapKept
section
variable {W : World} {p : Nat} {F : Nat → Prop} {s : St}
set_option maxRecDepth 100000 in
set_option maxHeartbeats 2000000 in
theorem standing_dead (h : IsD W p F s) (per : Int) (T : Nat) (hT : T ≤ 1) (hper : 1 ≤ per ∧ per ≤ 8192 ∧ 2 * per ≤ s.sectors) (hd : s.dead = true) :
    Calls Tryd.prog 51 #[.pointer (some ⟨p, 0, none⟩), .int .i64 per, .int .u64 T] W fun e w' => e = .returned (.tuple #[.agg #[.int .u64 0, .int .i64 0, .int .i64 0, .int .i64 0], .int .i64 20]) ∧ Below W.heap.size W w' := by
  have hw1 : IntKind.i64.wrap (T : Int) = T := by rw [IntKind.wrap_i64]; omega
  have hTp : 0 ≤ (T : Int) * per ∧ (T : Int) * per < s.sectors ∧ (T : Int) * per ≤ 8192 := by
    match T, hT with
    | 0, _ => simp; omega
    | 1, _ => simp; omega
  have hw2 : IntKind.i64.wrap ((T : Int) * per) = (T : Int) * per := by rw [IntKind.wrap_i64]; omega
  have he : s.errRead ((T : Int) * per) = 20 := by simp [St.errRead, hTp.1, hTp.2.1, hd]
  have hr := read_err (h.alloc (.cells #[.int .u64 0, .int .i64 0, .int .i64 0, .int .i64 0] 24)) ((T : Int) * per) (by rw [he]; decide)
  rw [he] at hr
  have hB : Below W.heap.size W (W.alloc (.cells #[.int .u64 0, .int .i64 0, .int .i64 0, .int .i64 0] 24)) := (Below.refl _ _).alloc (Nat.le_refl _) _
  go_enter Tryd.func51, Tryd.ntmps51
  go_wp2_with (first | (go_at_call 61; refine hr.mono ?_; rintro e w' ⟨rfl, hw'⟩; subst w'))
  exact bodyPost_ret (v := .tuple #[.agg #[.int .u64 0, .int .i64 0, .int .i64 0, .int .i64 0], .int .i64 20]) (by simp [results, Tryd.results51, go_sem]) rfl ⟨rfl, by first | exact hB | exact belFour _ _ _ _ hB (Nat.le_refl _)⟩
set_option maxRecDepth 100000 in
set_option maxHeartbeats 2000000 in
theorem standing_yes (h : IsD W p F s) (per : Int) (T : Nat) (hT : T ≤ 1) (hper : 1 ≤ per ∧ per ≤ 8192 ∧ 2 * per ≤ s.sectors) (hd : s.dead = false) (hby : IsBytes (s.now ((T : Int) * per))) (hM : isMeta (s.now ((T : Int) * per)) = true) (hS : seqOf (s.now ((T : Int) * per)) % 2 = T) :
    Calls Tryd.prog 51 #[.pointer (some ⟨p, 0, none⟩), .int .i64 per, .int .u64 T] W fun e w' => e = .returned (.tuple #[.agg #[.int .u64 (seqOf (s.now ((T : Int) * per))), .int .i64 (rootOf (s.now ((T : Int) * per))), .int .i64 (keysI (s.now ((T : Int) * per))), .int .i64 (depthOf (s.now ((T : Int) * per)))], .int .i64 0]) ∧ Below W.heap.size W w' := by
  have hw1 : IntKind.i64.wrap (T : Int) = T := by rw [IntKind.wrap_i64]; omega
  have hTp : 0 ≤ (T : Int) * per ∧ (T : Int) * per < s.sectors ∧ (T : Int) * per ≤ 8192 := by
    match T, hT with
    | 0, _ => simp; omega
    | 1, _ => simp; omega
  have hw2 : IntKind.i64.wrap ((T : Int) * per) = (T : Int) * per := by rw [IntKind.wrap_i64]; omega
  have hr := read_ok (h.alloc (.cells #[.int .u64 0, .int .i64 0, .int .i64 0, .int .i64 0] 24)) ((T : Int) * per) ⟨hTp.1, hTp.2.1⟩ hd
  have hB : Below W.heap.size W (W.alloc (.cells #[.int .u64 0, .int .i64 0, .int .i64 0, .int .i64 0] 24)) := (Below.refl _ _).alloc (Nat.le_refl _) _
  have hm0 : MetaAt (W.alloc (.cells #[.int .u64 0, .int .i64 0, .int .i64 0, .int .i64 0] 24)) W.heap.size 0 0 0 0 := heap_alloc_new W _
  have hlen : (s.now ((T : Int) * per)).length = s.size := by
    obtain ⟨_, _, _, _, _, _, h, _⟩ := h
    exact h.nowLen _
  have hget := fun v X (hb : Bts X v (s.now ((T : Int) * per))) => mget_yes v _ X hb hby hM
  have hto := fun (r k d : Int) X => turnOf_any (seqOf (s.now ((T : Int) * per))) r k d X (seqOf_lt _ hby)
  rw [hS] at hto
  generalize seqOf (s.now ((T : Int) * per)) = Q at *
  generalize rootOf (s.now ((T : Int) * per)) = R at *
  generalize keysI (s.now ((T : Int) * per)) = K at *
  generalize depthOf (s.now ((T : Int) * per)) = D at *
  generalize s.now ((T : Int) * per) = L at *
  simp only [slV] at hr
  clear hM hS
  go_enter Tryd.func51, Tryd.ntmps51
  go_wp2_with (first | (go_at_call 61; refine hr.mono ?_; rintro e w2 ⟨g2, rfl, hg2, hrow2, hb2⟩; have hm2 := hm0.keep (hb2.block _ hm0.lt); have hbt := hrow2.bts; rw [hlen] at hbt) | (go_at_call 10; refine (hget _ _ hbt).mono ?_; rintro e w3 ⟨rfl, hb3⟩; have hm3 := hm2.keep (hb3.block _ hm2.lt); obtain ⟨a0, a1, a2, a3⟩ := hm3.cells; obtain ⟨f0, f1, f2, f3⟩ := hm3.frozen; have hlt3 := hm3.lt; have hB3 := (hB.trans (hb2.mono hB.size)).trans (hb3.mono (Nat.le_trans hB.size hb2.size))) | (go_at_call 41; refine (hto _ _ _ _).mono ?_; rintro e w4 ⟨rfl, hb4⟩; have hx4 := (show MetaAt (w3.alloc (.cells #[.int .u64 Q, .int .i64 R, .int .i64 K, .int .i64 D] 24)) w3.heap.size Q R K D from heap_alloc_new w3 _).keep (hb4.block _ (by simp)); have hm4 := (hm3.keep ((heap_alloc w3 (.cells #[.int .u64 Q, .int .i64 R, .int .i64 K, .int .i64 D] 24)).2 _ hm3.lt)).keep (hb4.block _ (by simp; omega)); obtain ⟨b0, b1, b2, b3⟩ := hm4.cells; obtain ⟨g0, g1, g2', g3⟩ := hm4.frozen; obtain ⟨c0, c1, c2, c3⟩ := hx4.cells; have hB4 := (hB3.alloc hB3.size (.cells #[.int .u64 Q, .int .i64 R, .int .i64 K, .int .i64 D] 24)).trans (hb4.mono (Nat.le_trans hB3.size (by simp)))))
  exact bodyPost_ret (v := .tuple #[.agg #[.int .u64 Q, .int .i64 R, .int .i64 K, .int .i64 D], .int .i64 0]) (by simp [results, Tryd.results51, go_sem, b0, b1, b2, b3]) rfl ⟨rfl, belFour _ _ _ _ hB4 (Nat.le_refl _)⟩
set_option maxRecDepth 100000 in
set_option maxHeartbeats 2000000 in
theorem standing_odd (h : IsD W p F s) (per : Int) (T : Nat) (hT : T ≤ 1) (hper : 1 ≤ per ∧ per ≤ 8192 ∧ 2 * per ≤ s.sectors) (hd : s.dead = false) (hby : IsBytes (s.now ((T : Int) * per))) (hM : isMeta (s.now ((T : Int) * per)) = true) (hS : seqOf (s.now ((T : Int) * per)) % 2 ≠ T) :
    Calls Tryd.prog 51 #[.pointer (some ⟨p, 0, none⟩), .int .i64 per, .int .u64 T] W fun e w' => e = .returned (.tuple #[.agg #[.int .u64 0, .int .i64 0, .int .i64 0, .int .i64 0], .int .i64 0]) ∧ Below W.heap.size W w' := by
  have hw1 : IntKind.i64.wrap (T : Int) = T := by rw [IntKind.wrap_i64]; omega
  have hTp : 0 ≤ (T : Int) * per ∧ (T : Int) * per < s.sectors ∧ (T : Int) * per ≤ 8192 := by
    match T, hT with
    | 0, _ => simp; omega
    | 1, _ => simp; omega
  have hw2 : IntKind.i64.wrap ((T : Int) * per) = (T : Int) * per := by rw [IntKind.wrap_i64]; omega
  have hr := read_ok (h.alloc (.cells #[.int .u64 0, .int .i64 0, .int .i64 0, .int .i64 0] 24)) ((T : Int) * per) ⟨hTp.1, hTp.2.1⟩ hd
  have hB : Below W.heap.size W (W.alloc (.cells #[.int .u64 0, .int .i64 0, .int .i64 0, .int .i64 0] 24)) := (Below.refl _ _).alloc (Nat.le_refl _) _
  have hm0 : MetaAt (W.alloc (.cells #[.int .u64 0, .int .i64 0, .int .i64 0, .int .i64 0] 24)) W.heap.size 0 0 0 0 := heap_alloc_new W _
  have hlen : (s.now ((T : Int) * per)).length = s.size := by
    obtain ⟨_, _, _, _, _, _, h, _⟩ := h
    exact h.nowLen _
  have hget := fun v X (hb : Bts X v (s.now ((T : Int) * per))) => mget_yes v _ X hb hby hM
  have hto := fun (r k d : Int) X => turnOf_any (seqOf (s.now ((T : Int) * per))) r k d X (seqOf_lt _ hby)
  generalize seqOf (s.now ((T : Int) * per)) = Q at *
  generalize rootOf (s.now ((T : Int) * per)) = R at *
  generalize keysI (s.now ((T : Int) * per)) = K at *
  generalize depthOf (s.now ((T : Int) * per)) = D at *
  generalize s.now ((T : Int) * per) = L at *
  simp only [slV] at hr
  have hne : (((Q % 2 : Nat) : Int) == (T : Int)) = false := by simp; omega
  generalize Q % 2 = Y at hto hne
  clear hM hS
  go_enter Tryd.func51, Tryd.ntmps51
  go_wp2_with (first | (go_at_call 61; refine hr.mono ?_; rintro e w2 ⟨g2, rfl, hg2, hrow2, hb2⟩; have hm2 := hm0.keep (hb2.block _ hm0.lt); have hbt := hrow2.bts; rw [hlen] at hbt) | (go_at_call 10; refine (hget _ _ hbt).mono ?_; rintro e w3 ⟨rfl, hb3⟩; have hm3 := hm2.keep (hb3.block _ hm2.lt); obtain ⟨a0, a1, a2, a3⟩ := hm3.cells; obtain ⟨f0, f1, f2, f3⟩ := hm3.frozen; have hlt3 := hm3.lt; have hB3 := (hB.trans (hb2.mono hB.size)).trans (hb3.mono (Nat.le_trans hB.size hb2.size))) | (go_at_call 41; refine (hto _ _ _ _).mono ?_; rintro e w4 ⟨rfl, hb4⟩; have hx4 := (show MetaAt (w3.alloc (.cells #[.int .u64 Q, .int .i64 R, .int .i64 K, .int .i64 D] 24)) w3.heap.size Q R K D from heap_alloc_new w3 _).keep (hb4.block _ (by simp)); have hm4 := (hm3.keep ((heap_alloc w3 (.cells #[.int .u64 Q, .int .i64 R, .int .i64 K, .int .i64 D] 24)).2 _ hm3.lt)).keep (hb4.block _ (by simp; omega)); obtain ⟨b0, b1, b2, b3⟩ := hm4.cells; obtain ⟨g0, g1, g2', g3⟩ := hm4.frozen; obtain ⟨c0, c1, c2, c3⟩ := hx4.cells; have hB4 := (hB3.alloc hB3.size (.cells #[.int .u64 Q, .int .i64 R, .int .i64 K, .int .i64 D] 24)).trans (hb4.mono (Nat.le_trans hB3.size (by simp)))))
  exact bodyPost_ret (v := .tuple #[.agg #[.int .u64 0, .int .i64 0, .int .i64 0, .int .i64 0], .int .i64 0]) (by simp [results, Tryd.results51, go_sem, b0, b1, b2, b3]) rfl ⟨rfl, belFour _ _ _ _ hB4 (Nat.le_refl _)⟩
set_option maxRecDepth 100000 in
set_option maxHeartbeats 2000000 in
theorem standing_no (h : IsD W p F s) (per : Int) (T : Nat) (hT : T ≤ 1) (hper : 1 ≤ per ∧ per ≤ 8192 ∧ 2 * per ≤ s.sectors) (hd : s.dead = false) (hby : IsBytes (s.now ((T : Int) * per))) (hM : isMeta (s.now ((T : Int) * per)) = false) :
    Calls Tryd.prog 51 #[.pointer (some ⟨p, 0, none⟩), .int .i64 per, .int .u64 T] W fun e w' => e = .returned (.tuple #[.agg #[.int .u64 0, .int .i64 0, .int .i64 0, .int .i64 0], .int .i64 0]) ∧ Below W.heap.size W w' := by
  have hw1 : IntKind.i64.wrap (T : Int) = T := by rw [IntKind.wrap_i64]; omega
  have hTp : 0 ≤ (T : Int) * per ∧ (T : Int) * per < s.sectors ∧ (T : Int) * per ≤ 8192 := by
    match T, hT with
    | 0, _ => simp; omega
    | 1, _ => simp; omega
  have hw2 : IntKind.i64.wrap ((T : Int) * per) = (T : Int) * per := by rw [IntKind.wrap_i64]; omega
  have hr := read_ok (h.alloc (.cells #[.int .u64 0, .int .i64 0, .int .i64 0, .int .i64 0] 24)) ((T : Int) * per) ⟨hTp.1, hTp.2.1⟩ hd
  have hB : Below W.heap.size W (W.alloc (.cells #[.int .u64 0, .int .i64 0, .int .i64 0, .int .i64 0] 24)) := (Below.refl _ _).alloc (Nat.le_refl _) _
  have hm0 : MetaAt (W.alloc (.cells #[.int .u64 0, .int .i64 0, .int .i64 0, .int .i64 0] 24)) W.heap.size 0 0 0 0 := heap_alloc_new W _
  have hlen : (s.now ((T : Int) * per)).length = s.size := by
    obtain ⟨_, _, _, _, _, _, h, _⟩ := h
    exact h.nowLen _
  have hget := fun v X (hb : Bts X v (s.now ((T : Int) * per))) => mget_no v _ X hb hby hM
  generalize s.now ((T : Int) * per) = L at *
  simp only [slV] at hr
  clear hM
  go_enter Tryd.func51, Tryd.ntmps51
  go_wp2_with (first | (go_at_call 61; refine hr.mono ?_; rintro e w2 ⟨g2, rfl, hg2, hrow2, hb2⟩; have hm2 := hm0.keep (hb2.block _ hm0.lt); have hbt := hrow2.bts; rw [hlen] at hbt) | (go_at_call 10; refine (hget _ _ hbt).mono ?_; rintro e w3 ⟨rfl, hb3⟩; have hm3 := hm2.keep (hb3.block _ hm2.lt); obtain ⟨a0, a1, a2, a3⟩ := hm3.cells; obtain ⟨f0, f1, f2, f3⟩ := hm3.frozen; have hlt3 := hm3.lt; have hB3 := (hB.trans (hb2.mono hB.size)).trans (hb3.mono (Nat.le_trans hB.size hb2.size))))
  have hset : MetaAt ((((w3.setCell ⟨W.heap.size, 0, none⟩ (.int .u64 0)).setCell ⟨W.heap.size, 1, none⟩ (.int .i64 0)).setCell ⟨W.heap.size, 2, none⟩ (.int .i64 0)).setCell ⟨W.heap.size, 3, none⟩ (.int .i64 0)) W.heap.size 0 0 0 0 := metaSet hm3
  have hB5 : Below W.heap.size W ((((w3.setCell ⟨W.heap.size, 0, none⟩ (.int .u64 0)).setCell ⟨W.heap.size, 1, none⟩ (.int .i64 0)).setCell ⟨W.heap.size, 2, none⟩ (.int .i64 0)).setCell ⟨W.heap.size, 3, none⟩ (.int .i64 0)) := belFour _ _ _ _ hB3 (Nat.le_refl _)
  generalize ((((w3.setCell ⟨W.heap.size, 0, none⟩ (.int .u64 0)).setCell ⟨W.heap.size, 1, none⟩ (.int .i64 0)).setCell ⟨W.heap.size, 2, none⟩ (.int .i64 0)).setCell ⟨W.heap.size, 3, none⟩ (.int .i64 0)) = X at hset hB5 ⊢
  obtain ⟨z0, z1, z2, z3⟩ := (hset.keep ((heap_alloc X (.cells #[.int .u64 0, .int .i64 0, .int .i64 0, .int .i64 0] 24)).2 _ hset.lt)).cells
  have hB6 := hB5.alloc hB5.size (.cells #[.int .u64 0, .int .i64 0, .int .i64 0, .int .i64 0] 24)
  generalize X.alloc (.cells #[.int .u64 0, .int .i64 0, .int .i64 0, .int .i64 0] 24) = Y at z0 z1 z2 z3 hB6 ⊢
  exact bodyPost_ret (v := .tuple #[.agg #[.int .u64 0, .int .i64 0, .int .i64 0, .int .i64 0], .int .i64 0]) (by simp [results, Tryd.results51, go_sem, z0, z1, z2, z3]) rfl ⟨rfl, hB6⟩
end
end Go.Proofs.YtcgjolonapndgabDoor
