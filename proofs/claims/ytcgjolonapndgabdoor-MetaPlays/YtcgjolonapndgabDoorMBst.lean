/- The contract of meta.Best. -/
import Derived.Test.YtcgjolonapndgabDoorMBest
namespace Go.Proofs.YtcgjolonapndgabDoor
open Go.RowKit Go.Maps Go.ChangeMaps Go.MapKept
theorem setB {w : World} {x q q2 : Nat} {r k d r2 k2 d2 : Int} {o : Obj} (h : MetaAt w x q r k d) : MetaAt (((((w.setCell ⟨x, 0, none⟩ (.int .u64 q2)).setCell ⟨x, 1, none⟩ (.int .i64 r2)).setCell ⟨x, 2, none⟩ (.int .i64 k2)).setCell ⟨x, 3, none⟩ (.int .i64 d2)).alloc o) x q2 r2 k2 d2 :=
  (metaSet h).keep ((heap_alloc _ o).2 _ (metaSet h).lt)
theorem setA {w : World} {x y q : Nat} {r k d : Int} {o : Obj} {a b c e : Value} (h : MetaAt w y q r k d) (hn : y ≠ x) : MetaAt (((((w.setCell ⟨x, 0, none⟩ a).setCell ⟨x, 1, none⟩ b).setCell ⟨x, 2, none⟩ c).setCell ⟨x, 3, none⟩ e).alloc o) y q r k d :=
  have h1 := h.keep (setFour (x := x) a b c e hn)
  h1.keep ((heap_alloc _ o).2 _ h1.lt)
theorem belA {w W : World} {x : Nat} {o : Obj} {a b c e : Value} (h : Below W.heap.size W w) (hx : W.heap.size ≤ x) : Below W.heap.size W (((((w.setCell ⟨x, 0, none⟩ a).setCell ⟨x, 1, none⟩ b).setCell ⟨x, 2, none⟩ c).setCell ⟨x, 3, none⟩ e).alloc o) :=
  have h1 := belFour (x := x) a b c e h hx
  h1.alloc h1.size o
section
variable {W : World} {p : Nat} {F : Nat → Prop} {s : St}
set_option maxRecDepth 100000 in
set_option maxHeartbeats 2000000 in
theorem best_gen (h : IsD W p F s) (per : Int) (hc2 : ¬ cnt s per < 2) (q0 q1 : Nat) (r0 k0 d0 r1 k1 d1 : Int)
    (h0 : ∀ X, Below W.heap.size W X → Calls Tryd.prog 51 #[.pointer (some ⟨p, 0, none⟩), .int .i64 per, .int .u64 0] X fun e w' => e = .returned (.tuple #[.agg #[.int .u64 q0, .int .i64 r0, .int .i64 k0, .int .i64 d0], .int .i64 0]) ∧ Below X.heap.size X w')
    (h1 : ∀ X, Below W.heap.size W X → Calls Tryd.prog 51 #[.pointer (some ⟨p, 0, none⟩), .int .i64 per, .int .u64 1] X fun e w' => e = .returned (.tuple #[.agg #[.int .u64 q1, .int .i64 r1, .int .i64 k1, .int .i64 d1], .int .i64 0]) ∧ Below X.heap.size X w')
    (hz0 : q0 = 0 → r0 = 0 ∧ k0 = 0 ∧ d0 = 0) (Q : Nat) (R K D : Int) (hsel : (q0 < q1 ∧ Q = q1 ∧ R = r1 ∧ K = k1 ∧ D = d1) ∨ (q1 ≤ q0 ∧ Q = q0 ∧ R = r0 ∧ K = k0 ∧ D = d0)) (E : Int) (hE : E = if Q = 0 then 40 else 0) :
    Calls Tryd.prog 28 #[.pointer (some ⟨p, 0, none⟩), .int .i64 per] W fun e w' => e = .returned (.tuple #[.agg #[.int .u64 Q, .int .i64 R, .int .i64 K, .int .i64 D], .int .i64 E]) ∧ Below W.heap.size W w' := by
  have hc := count_any (h.alloc (.cells #[.int .u64 0, .int .i64 0, .int .i64 0, .int .i64 0] 24)) per
  have dc : decide (cnt s per < 2) = false := by simpa using hc2
  go_enter Tryd.func28, Tryd.ntmps28
  go_wp2_with (first | (go_at_call 39; refine hc.mono ?_; rintro e w' ⟨rfl, hw'⟩; subst w'))
  have hB1 : Below W.heap.size W ((W.alloc (.cells #[.int .u64 0, .int .i64 0, .int .i64 0, .int .i64 0] 24)).alloc (.cells #[.int .u64 0, .int .i64 0, .int .i64 0, .int .i64 0] 24)) := ((Below.refl _ _).alloc (Nat.le_refl _) _).alloc (by simp) _
  have hm1 : MetaAt ((W.alloc (.cells #[.int .u64 0, .int .i64 0, .int .i64 0, .int .i64 0] 24)).alloc (.cells #[.int .u64 0, .int .i64 0, .int .i64 0, .int .i64 0] 24)) (W.heap.size + 1) 0 0 0 0 := by
    have := heap_alloc_new (W.alloc (.cells #[.int .u64 0, .int .i64 0, .int .i64 0, .int .i64 0] 24)) (.cells #[.int .u64 0, .int .i64 0, .int .i64 0, .int .i64 0] 24)
    rwa [World.size_alloc] at this
  have hr1 : MetaAt ((W.alloc (.cells #[.int .u64 0, .int .i64 0, .int .i64 0, .int .i64 0] 24)).alloc (.cells #[.int .u64 0, .int .i64 0, .int .i64 0, .int .i64 0] 24)) W.heap.size 0 0 0 0 := (show MetaAt (W.alloc (.cells #[.int .u64 0, .int .i64 0, .int .i64 0, .int .i64 0] 24)) W.heap.size 0 0 0 0 from heap_alloc_new W _).keep ((heap_alloc _ _).2 _ (by simp))
  go_loopw [20] (fun i wr => ∃ t : Nat, i = .int .u64 t ∧ ((t = 0 ∧ MetaAt wr (W.heap.size + 1) 0 0 0 0) ∨ (t = 1 ∧ MetaAt wr (W.heap.size + 1) q0 r0 k0 d0) ∨ (t = 2 ∧ MetaAt wr (W.heap.size + 1) Q R K D)) ∧ MetaAt wr W.heap.size 0 0 0 0 ∧ Below W.heap.size W wr) (fun i _ => 2 - (intOf i).toNat)
  case atStart => exact ⟨0, rfl, .inl ⟨rfl, hm1⟩, hr1, hB1⟩
  case round =>
    obtain ⟨t, rfl, ht, hr, hB⟩ := hrel
    clear hB1 hm1 hr1 hc
    rcases ht with ⟨rfl, hm⟩ | ⟨rfl, hm⟩ | ⟨rfl, hm⟩
    · by_cases hq : q0 = 0
      · obtain ⟨e1, e2, e3⟩ := hz0 hq
        subst hq e1 e2 e3
        clear h1
        go_wp2_with (first | (go_at_call 51; refine (h0 _ hB).mono ?_; rintro e w3 ⟨rfl, hb3⟩; have hB3 := hB.trans (hb3.mono hB.size); have hm3 := hm.keep (hb3.block _ hm.lt); have hr3 := hr.keep (hb3.block _ hr.lt); have ltm := hm3.lt; have ltr := hr3.lt; obtain ⟨c0, c1, c2, c3⟩ := hm3.cells; obtain ⟨f0, f1, f2, f3⟩ := hm3.frozen))
        go_round
        case rel => exact ⟨1, rfl, .inr (.inl ⟨rfl, hm3.keep ((heap_alloc w3 _).2 _ ltm)⟩), hr3.keep ((heap_alloc w3 _).2 _ ltr), hB3.alloc hB3.size _⟩
        case measure => simp [intOf]
      · have hpos : (0 : Int) < (q0 : Int) := by omega
        clear h1
        go_wp2_with (first | (go_at_call 51; refine (h0 _ hB).mono ?_; rintro e w3 ⟨rfl, hb3⟩; have hB3 := hB.trans (hb3.mono hB.size); have hm3 := hm.keep (hb3.block _ hm.lt); have hr3 := hr.keep (hb3.block _ hr.lt); have ltm := hm3.lt; have ltr := hr3.lt; obtain ⟨c0, c1, c2, c3⟩ := hm3.cells; obtain ⟨f0, f1, f2, f3⟩ := hm3.frozen))
        go_round
        case rel => exact ⟨1, rfl, .inr (.inl ⟨rfl, setB hm3⟩), setA hr3 (by omega), belA hB3 (by omega)⟩
        case measure => simp [intOf]
    · rcases hsel with ⟨hlt, rfl, rfl, rfl, rfl⟩ | ⟨hge, rfl, rfl, rfl, rfl⟩
      · have hpos : (q0 : Int) < (Q : Int) := by omega
        clear h0
        go_wp2_with (first | (go_at_call 51; refine (h1 _ hB).mono ?_; rintro e w3 ⟨rfl, hb3⟩; have hB3 := hB.trans (hb3.mono hB.size); have hm3 := hm.keep (hb3.block _ hm.lt); have hr3 := hr.keep (hb3.block _ hr.lt); have ltm := hm3.lt; have ltr := hr3.lt; obtain ⟨c0, c1, c2, c3⟩ := hm3.cells; obtain ⟨f0, f1, f2, f3⟩ := hm3.frozen))
        go_round
        case rel => exact ⟨2, rfl, .inr (.inr ⟨rfl, setB hm3⟩), setA hr3 (by omega), belA hB3 (by omega)⟩
        case measure => simp [intOf]
      · have hle : decide ((Q : Int) < (q1 : Int)) = false := by simp; omega
        clear h0
        go_wp2_with (first | (go_at_call 51; refine (h1 _ hB).mono ?_; rintro e w3 ⟨rfl, hb3⟩; have hB3 := hB.trans (hb3.mono hB.size); have hm3 := hm.keep (hb3.block _ hm.lt); have hr3 := hr.keep (hb3.block _ hr.lt); have ltm := hm3.lt; have ltr := hr3.lt; obtain ⟨c0, c1, c2, c3⟩ := hm3.cells; obtain ⟨f0, f1, f2, f3⟩ := hm3.frozen))
        go_round
        case rel => exact ⟨2, rfl, .inr (.inr ⟨rfl, hm3.keep ((heap_alloc w3 _).2 _ ltm)⟩), hr3.keep ((heap_alloc w3 _).2 _ ltr), hB3.alloc hB3.size _⟩
        case measure => simp [intOf]
    · obtain ⟨c0, c1, c2, c3⟩ := hm.cells
      obtain ⟨a0, a1, a2, a3⟩ := hr.cells
      obtain ⟨f0, f1, f2, f3⟩ := hr.frozen
      by_cases hQ : Q = 0
      · have hzz : R = 0 ∧ K = 0 ∧ D = 0 := by
          rcases hsel with ⟨hlt, e1, _⟩ | ⟨hge, e1, e2, e3, e4⟩
          · omega
          · have := hz0 (by omega)
            omega
        obtain ⟨rfl, rfl, rfl⟩ := hzz
        subst hQ
        have hE' : E = 40 := by rw [hE]; rfl
        subst hE'
        clear h0 h1 hsel hE
        go_wp2_with fail
        exact bodyPost_ret (v := .tuple #[.agg #[.int .u64 0, .int .i64 0, .int .i64 0, .int .i64 0], .int .i64 40]) (by simp [results, Tryd.results28, go_sem, a0, a1, a2, a3]) rfl ⟨rfl, belFour _ _ _ _ hB (Nat.le_refl _)⟩
      · have hE' : E = 0 := by rw [hE, if_neg hQ]
        subst hE'
        have hQ' : ((Q : Int) == 0) = false := by simp; exact hQ
        clear h0 h1 hsel hE
        go_wp2_with fail
        exact bodyPost_ret (v := .tuple #[.agg #[.int .u64 Q, .int .i64 R, .int .i64 K, .int .i64 D], .int .i64 0]) (by simp [results, Tryd.results28, go_sem, a0, a1, a2, a3]) rfl ⟨rfl, belFour _ _ _ _ hB (Nat.le_refl _)⟩
set_option maxRecDepth 100000 in
set_option maxHeartbeats 2000000 in
theorem best_arg (h : IsD W p F s) (per : Int) (hc2 : cnt s per < 2) :
    Calls Tryd.prog 28 #[.pointer (some ⟨p, 0, none⟩), .int .i64 per] W fun e w' => e = .returned (.tuple #[.agg #[.int .u64 0, .int .i64 0, .int .i64 0, .int .i64 0], .int .i64 2]) ∧ Below W.heap.size W w' := by
  have hc := count_any (h.alloc (.cells #[.int .u64 0, .int .i64 0, .int .i64 0, .int .i64 0] 24)) per
  have hB : Below W.heap.size W (W.alloc (.cells #[.int .u64 0, .int .i64 0, .int .i64 0, .int .i64 0] 24)) := (Below.refl _ _).alloc (Nat.le_refl _) _
  go_enter Tryd.func28, Tryd.ntmps28
  go_wp2_with (first | (go_at_call 39; refine hc.mono ?_; rintro e w' ⟨rfl, hw'⟩; subst w'))
  exact bodyPost_ret (v := .tuple #[.agg #[.int .u64 0, .int .i64 0, .int .i64 0, .int .i64 0], .int .i64 2]) (by simp [results, Tryd.results28, go_sem]) rfl ⟨rfl, by first | exact hB | exact belFour _ _ _ _ hB (Nat.le_refl _)⟩
set_option maxRecDepth 100000 in
set_option maxHeartbeats 2000000 in
theorem best_dead (h : IsD W p F s) (per : Int) (hc2 : ¬ cnt s per < 2) (hd : s.dead = true) :
    Calls Tryd.prog 28 #[.pointer (some ⟨p, 0, none⟩), .int .i64 per] W fun e w' => e = .returned (.tuple #[.agg #[.int .u64 0, .int .i64 0, .int .i64 0, .int .i64 0], .int .i64 20]) ∧ Below W.heap.size W w' := by
  have hc := count_any (h.alloc (.cells #[.int .u64 0, .int .i64 0, .int .i64 0, .int .i64 0] 24)) per
  have dc : decide (cnt s per < 2) = false := by simpa using hc2
  have h0 : ∀ X, Below W.heap.size W X → Calls Tryd.prog 51 #[.pointer (some ⟨p, 0, none⟩), .int .i64 per, .int .u64 0] X fun e w' => e = .returned (.tuple #[.agg #[.int .u64 0, .int .i64 0, .int .i64 0, .int .i64 0], .int .i64 20]) ∧ Below X.heap.size X w' := fun X hX => standing_dead (h.grow hX) per 0 (by omega) (cnt_per hc2) hd
  have hB1 : Below W.heap.size W ((W.alloc (.cells #[.int .u64 0, .int .i64 0, .int .i64 0, .int .i64 0] 24)).alloc (.cells #[.int .u64 0, .int .i64 0, .int .i64 0, .int .i64 0] 24)) := ((Below.refl _ _).alloc (Nat.le_refl _) _).alloc (by simp) _
  have hr1 : MetaAt ((W.alloc (.cells #[.int .u64 0, .int .i64 0, .int .i64 0, .int .i64 0] 24)).alloc (.cells #[.int .u64 0, .int .i64 0, .int .i64 0, .int .i64 0] 24)) W.heap.size 0 0 0 0 := (show MetaAt (W.alloc (.cells #[.int .u64 0, .int .i64 0, .int .i64 0, .int .i64 0] 24)) W.heap.size 0 0 0 0 from heap_alloc_new W _).keep ((heap_alloc _ _).2 _ (by simp))
  go_enter Tryd.func28, Tryd.ntmps28
  go_wp2_with (first | (go_at_call 39; refine hc.mono ?_; rintro e w' ⟨rfl, hw'⟩; subst w'))
  go_loopw [20] (fun i wr => i = .int .u64 0 ∧ MetaAt wr W.heap.size 0 0 0 0 ∧ Below W.heap.size W wr) (fun i _ => 2 - (intOf i).toNat)
  case atStart => exact ⟨rfl, hr1, hB1⟩
  case round =>
    obtain ⟨rfl, hr, hB⟩ := hrel
    clear hB1 hr1 hc
    go_wp2_with (first | (go_at_call 51; refine (h0 _ hB).mono ?_; rintro e w3 ⟨rfl, hb3⟩; have hB3 := hB.trans (hb3.mono hB.size); have hr3 := hr.keep (hb3.block _ hr.lt); have ltr := hr3.lt; obtain ⟨a0, a1, a2, a3⟩ := hr3.cells; obtain ⟨f0, f1, f2, f3⟩ := hr3.frozen))
    have hset := setB (o := .cells #[.int .u64 0, .int .i64 0, .int .i64 0, .int .i64 0] 24) (q2 := 0) (r2 := 0) (k2 := 0) (d2 := 0) hr3
    have hB5 := belA (x := W.heap.size) (o := .cells #[.int .u64 0, .int .i64 0, .int .i64 0, .int .i64 0] 24) (a := .int .u64 0) (b := .int .i64 0) (c := .int .i64 0) (e := .int .i64 0) hB3 (Nat.le_refl _)
    obtain ⟨z0, z1, z2, z3⟩ := hset.cells
    change Below W.heap.size W (((((w3.setCell ⟨W.heap.size, 0, none⟩ (.int .u64 0)).setCell ⟨W.heap.size, 1, none⟩ (.int .i64 0)).setCell ⟨W.heap.size, 2, none⟩ (.int .i64 0)).setCell ⟨W.heap.size, 3, none⟩ (.int .i64 0)).alloc (.cells #[.int .u64 0, .int .i64 0, .int .i64 0, .int .i64 0] 24)) at hB5
    change World.cell? (((((w3.setCell ⟨W.heap.size, 0, none⟩ (.int .u64 0)).setCell ⟨W.heap.size, 1, none⟩ (.int .i64 0)).setCell ⟨W.heap.size, 2, none⟩ (.int .i64 0)).setCell ⟨W.heap.size, 3, none⟩ (.int .i64 0)).alloc (.cells #[.int .u64 0, .int .i64 0, .int .i64 0, .int .i64 0] 24)) _ = some (.int .u64 0) at z0
    generalize (((((w3.setCell ⟨W.heap.size, 0, none⟩ (.int .u64 0)).setCell ⟨W.heap.size, 1, none⟩ (.int .i64 0)).setCell ⟨W.heap.size, 2, none⟩ (.int .i64 0)).setCell ⟨W.heap.size, 3, none⟩ (.int .i64 0)).alloc (.cells #[.int .u64 0, .int .i64 0, .int .i64 0, .int .i64 0] 24)) = Y at z0 z1 z2 z3 hB5 ⊢
    exact bodyPost_ret (v := .tuple #[.agg #[.int .u64 0, .int .i64 0, .int .i64 0, .int .i64 0], .int .i64 20]) (by simp [results, Tryd.results28, go_sem, z0, z1, z2, z3]) rfl ⟨rfl, hB5⟩
end
/-- A meta. -/
structure Mt where
  q : Nat
  r : Int
  k : Int
  d : Int
def Mt.zero : Mt := ⟨0, 0, 0, 0⟩
def Mt.val (m : Mt) : Value := .agg #[.int .u64 m.q, .int .i64 m.r, .int .i64 m.k, .int .i64 m.d]
/-- The meta of bytes. -/
def mtOf (bs : List Int) : Mt := ⟨seqOf bs, rootOf bs, keysI bs, depthOf bs⟩
/-- What stands in a page of that turn. -/
def stM (bs : List Int) (T : Nat) : Mt := if isMeta bs = true ∧ seqOf bs % 2 = T then mtOf bs else Mt.zero
def pickM (a b : Mt) : Mt := if a.q < b.q then b else a
/-- What Best tells. -/
def St.best (s : St) (per : Int) : Mt := if cnt s per < 2 ∨ s.dead = true then Mt.zero else pickM (stM (s.now 0) 0) (stM (s.now per) 1)
def St.errB (s : St) (per : Int) : Int := if cnt s per < 2 then 2 else if s.dead = true then 20 else if (s.best per).q = 0 then 40 else 0
theorem stM_zero (bs : List Int) (T : Nat) (h : (stM bs T).q = 0) : (stM bs T).r = 0 ∧ (stM bs T).k = 0 ∧ (stM bs T).d = 0 := by
  unfold stM at *
  split
  · rename_i hc
    rw [if_pos hc] at h
    exact absurd h (isMeta_mok hc.1).1
  · exact ⟨rfl, rfl, rfl⟩
section
variable {W : World} {p : Nat} {F : Nat → Prop} {s : St}
theorem standing_any (h : IsD W p F s) (per : Int) (T : Nat) (hT : T ≤ 1) (hper : 1 ≤ per ∧ per ≤ 8192 ∧ 2 * per ≤ s.sectors) (hd : s.dead = false) (hby : IsBytes (s.now ((T : Int) * per))) :
    Calls Tryd.prog 51 #[.pointer (some ⟨p, 0, none⟩), .int .i64 per, .int .u64 T] W fun e w' => e = .returned (.tuple #[(stM (s.now ((T : Int) * per)) T).val, .int .i64 0]) ∧ Below W.heap.size W w' := by
  by_cases hM : isMeta (s.now ((T : Int) * per)) = true
  · by_cases hS : seqOf (s.now ((T : Int) * per)) % 2 = T
    · have e : stM (s.now ((T : Int) * per)) T = mtOf (s.now ((T : Int) * per)) := if_pos ⟨hM, hS⟩
      rw [e]
      exact standing_yes h per T hT hper hd hby hM hS
    · have e : stM (s.now ((T : Int) * per)) T = Mt.zero := if_neg fun hh => hS hh.2
      rw [e]
      exact standing_odd h per T hT hper hd hby hM hS
  · have e : stM (s.now ((T : Int) * per)) T = Mt.zero := if_neg fun hh => hM hh.1
    rw [e]
    exact standing_no h per T hT hper hd hby (by simpa using hM)
/-- meta.Best. -/
theorem best_any (h : IsD W p F s) (hby : ∀ n, IsBytes (s.now n)) (per : Int) :
    Calls Tryd.prog 28 #[.pointer (some ⟨p, 0, none⟩), .int .i64 per] W fun e w' => e = .returned (.tuple #[(s.best per).val, .int .i64 (s.errB per)]) ∧ Below W.heap.size W w' := by
  by_cases c1 : cnt s per < 2
  · have e1 : s.best per = Mt.zero := if_pos (.inl c1)
    have e2 : s.errB per = 2 := if_pos c1
    rw [e1, e2]
    exact best_arg h per c1
  by_cases hd : s.dead = true
  · have e1 : s.best per = Mt.zero := if_pos (.inr hd)
    have e2 : s.errB per = 20 := by unfold St.errB; rw [if_neg c1, if_pos hd]
    rw [e1, e2]
    exact best_dead h per c1 hd
  · have e1 : s.best per = pickM (stM (s.now 0) 0) (stM (s.now per) 1) := if_neg (by simp [c1, hd])
    have e2 : s.errB per = if (s.best per).q = 0 then 40 else 0 := by unfold St.errB; rw [if_neg c1, if_neg hd]
    have hd' : s.dead = false := by simpa using hd
    have h0 := fun X (hX : Below W.heap.size W X) => standing_any (h.grow hX) per 0 (by omega) (cnt_per c1) hd' (hby _)
    have h1 := fun X (hX : Below W.heap.size W X) => standing_any (h.grow hX) per 1 (by omega) (cnt_per c1) hd' (hby _)
    rw [show ((0 : Nat) : Int) * per = 0 by simp] at h0
    rw [show ((1 : Nat) : Int) * per = per by simp] at h1
    have hz := stM_zero (s.now 0) 0
    refine best_gen h per c1 (stM (s.now 0) 0).q (stM (s.now per) 1).q _ _ _ _ _ _ h0 h1 hz _ _ _ _ ?_ _ e2
    rw [e1]
    unfold pickM
    split
    · rename_i hlt
      exact .inl ⟨hlt, rfl, rfl, rfl, rfl⟩
    · rename_i hlt
      exact .inr ⟨by omega, rfl, rfl, rfl, rfl⟩
end
end Go.Proofs.YtcgjolonapndgabDoor
