/- The contract of meta.Write. -/
import Derived.Test.YtcgjolonapndgabDoorMBack
import Derived.Test.YtcgjolonapndgabDoorCount
namespace Go.Proofs.YtcgjolonapndgabDoor
open Go.RowKit Go.Maps Go.ChangeMaps Go.MapKept
section
variable {w W : World} {p : Nat} {F : Nat → Prop} {s : St}
theorem Held.same (h : Held w W p F s) {w' : World} (hb : Below W.heap.size W w') : Gone w W p F s w' := ⟨F, h.grow hb, Frm.of_below hb F, fun _ hk => .inl hk⟩
theorem Gone.back {X w' : World} {s' : St} (hb : Below W.heap.size W X) (g : Gone w X p F s' w') : Gone w W p F s' w' := by
  obtain ⟨F', h1, h2, h3⟩ := g
  exact ⟨F', h1, (Frm.of_below hb F).trans h2 (fun _ hj => .inl hj), fun k hk => (h3 k hk).imp id (fun h => Nat.le_trans hb.size h)⟩
theorem own_slice {g o n c j : Nat} (h : (Value.slice (some ⟨g, o, none⟩) n c).ownBlock = some j) : g = j := by
  cases h; rfl
theorem keepM {X : World} {b q : Nat} {r k d : Int} (hm : MetaAt w b q r k d) (h : X.heap[b]? = w.heap[b]?) : X.cell? ⟨b, 0, none⟩ = some (.int .u64 q) ∧ X.cell? ⟨b, 1, none⟩ = some (.int .i64 r) ∧ X.cell? ⟨b, 2, none⟩ = some (.int .i64 k) ∧ X.cell? ⟨b, 3, none⟩ = some (.int .i64 d) := (hm.keep h).cells
/-- What meta.Write answers, and what it leaves. -/
def St.errM (s : St) (per : Int) (q : Nat) (r k d : Int) : Int := if cnt s per < 2 ∨ ¬ mok q r k d then 2 else s.errWrite (((q % 2 : Nat) : Int) * per) [metaB q r k d]
def St.writeM (s : St) (per : Int) (q : Nat) (r k d : Int) : St := if cnt s per < 2 ∨ ¬ mok q r k d then s else s.write (((q % 2 : Nat) : Int) * per) [metaB q r k d]
theorem cnt_per {s : St} {per : Int} (h : ¬ cnt s per < 2) : 1 ≤ per ∧ per ≤ 8192 ∧ 2 * per ≤ s.sectors := by
  unfold cnt at h
  split at h
  · omega
  · rename_i h1
    have h2 : 2 ≤ (s.sectors : Int) / per := by omega
    have h3 : 2 * per ≤ s.sectors := by
      have := Int.mul_le_of_le_ediv (by omega : 0 < per) h2
      omega
    omega
set_option maxRecDepth 100000 in
set_option maxHeartbeats 4000000 in
theorem mwrite_any (h : Held w W p F s) (hops : s.ops < 17592186044416) (per : Int) (q : Nat) (r k d : Int) (hq : q < 2 ^ 64) (hk : -9223372036854775808 ≤ k ∧ k ≤ 9223372036854775807) :
    Calls Tryd.prog 18 #[.pointer (some ⟨p, 0, none⟩), .int .i64 per, .agg #[.int .u64 q, .int .i64 r, .int .i64 k, .int .i64 d]] W fun e w' => e = .returned (.int .i64 (s.errM per q r k d)) ∧ Gone w W p F (s.writeM per q r k d) w' := by
  have hb1 : Below W.heap.size W (W.alloc (.cells #[.int .u64 q, .int .i64 r, .int .i64 k, .int .i64 d] 24)) := (Below.refl _ _).alloc (Nat.le_refl _) _
  have hm0 : MetaAt (W.alloc (.cells #[.int .u64 q, .int .i64 r, .int .i64 k, .int .i64 d] 24)) W.heap.size q r k d := heap_alloc_new W _
  have hc := count_any (h.disk.alloc (.cells #[.int .u64 q, .int .i64 r, .int .i64 k, .int .i64 d] 24)) per
  by_cases c1 : cnt s per < 2
  · have hE : Hid (s.errM per q r k d = 2) := by show _ = _; unfold St.errM; rw [if_pos (.inl c1)]
    have hS : Hid (s.writeM per q r k d = s) := by show _ = _; unfold St.writeM; rw [if_pos (.inl c1)]
    go_enter Tryd.func18, Tryd.ntmps18
    go_wp2_with (first | (go_at_call 39; refine hc.mono ?_; rintro e w' ⟨rfl, hw'⟩; subst w'))
    go_ret
    exact ⟨by rw [hE.out]; rfl, by rw [hS.out]; exact h.same hb1⟩
  have d1 : decide (cnt s per < 2) = false := by simpa using c1
  have hper := cnt_per c1
  by_cases c2 : mok q r k d
  · have hE : Hid (s.errM per q r k d = s.errWrite (((q % 2 : Nat) : Int) * per) [metaB q r k d]) := by show _ = _; unfold St.errM; rw [if_neg (by simp [c1, c2])]
    have hS : Hid (s.writeM per q r k d = s.write (((q % 2 : Nat) : Int) * per) [metaB q r k d]) := by show _ = _; unfold St.writeM; rw [if_neg (by simp [c1, c2])]
    have hcb := fun W => comesBack_any q r k d W hq hk true (decide_eq_true c2).symm
    have hpu := fun W => mput_ex q r k d W hq
    have hto := fun W => turnOf_any q r k d W hq
    have hT : q % 2 ≤ 1 := by omega
    generalize q % 2 = T at hT hE hS hto
    have hw1 : IntKind.i64.wrap (T : Int) = T := by rw [IntKind.wrap_i64]; omega
    have hTp : 0 ≤ (T : Int) * per ∧ (T : Int) * per ≤ 8192 := by
      match T, hT with
      | 0, _ => simp
      | 1, _ => simp; omega
    have hw2 : IntKind.i64.wrap ((T : Int) * per) = (T : Int) * per := by rw [IntKind.wrap_i64]; omega
    have hFW := fun k (hk : F k) => (h.blocks k hk).2
    clear c1 c2
    go_enter Tryd.func18, Tryd.ntmps18
    go_wp2_with (first | (go_at_call 39; refine hc.mono ?_; rintro e w' ⟨rfl, hw'⟩; subst w') | (go_at_call 40; refine (hcb _).mono ?_; rintro e w2 ⟨rfl, hb2⟩; have hm2 := hm0.keep (hb2.block _ hm0.lt); obtain ⟨x0, x1, x2, x3⟩ := hm2.cells))
    have hB2 := hb1.trans (hb2.mono hb1.size)
    have H2 := h.grow hB2
    have hz2 := hB2.size
    have hWF : ¬ F W.heap.size := fun hF => absurd (hFW _ hF) (by omega)
    clear hm0 hc hcb hb1 hb2
    go_region_held3 (fun X => X.cell? ⟨W.heap.size, 0, none⟩ = some (.int .u64 q) ∧ X.cell? ⟨W.heap.size, 1, none⟩ = some (.int .i64 r) ∧ X.cell? ⟨W.heap.size, 2, none⟩ = some (.int .i64 k) ∧ X.cell? ⟨W.heap.size, 3, none⟩ = some (.int .i64 d))
      (first | exact keepM hm2 rfl | exact keepM hm2 (hF6 _ hm2.lt hWF) | exact keepM hm2 ((hB4.alloc hB4.size _).block _ hm2.lt) | exact keepM hm2 (hB4.block _ hm2.lt) | exact keepM hm2 (hB3.block _ hm2.lt))
      (first
        | (go_at_call 41; refine (hto _).mono ?_; rintro e w3 ⟨rfl, hb3⟩; have hB3 : Below w2.heap.size w2 w3 := (Below.refl _ w2).drew.trans hb3)
        | (go_at_call 12; refine (hpu _).mono ?_; rintro e w4 ⟨g4, rfl, hg4, hrow4, hb4⟩; have hB4 := hB3.trans (hb4.mono hB3.size); have hg4' : w2.heap.size ≤ g4 := Nat.le_trans hB3.size hg4; have hz4 := hB4.size; have hbt := hrow4.bts; rw [metaB_len] at hbt)
        | (go_at_call 20; refine (held_write ((H2.grow hB4).alloc _) hops _ _ [metaB q r k d] (listsB1 hbt (fun hF => absurd (hFW _ hF) (by omega)) (fun _ j hj hF => absurd (hFW _ hF) (by have := own_slice hj; omega))) (by simp) (by omega) (by omega)).mono ?_; rintro e w6 ⟨rfl, hg6⟩; replace hg6 := hg6.back (hB4.alloc hB4.size _); have hF6 : ∀ b, b < w2.heap.size → ¬ F b → w6.heap[b]? = w2.heap[b]? := fun b hb hn => by obtain ⟨F', _, h2, _⟩ := hg6; exact h2.block b hb hn))
    go_wp2_with fail
    go_ret
    exact ⟨by rw [hE.out]; rfl, by rw [hS.out]; exact hg6.back hB2⟩
  · have hE : Hid (s.errM per q r k d = 2) := by show _ = _; unfold St.errM; rw [if_pos (.inr c2)]
    have hS : Hid (s.writeM per q r k d = s) := by show _ = _; unfold St.writeM; rw [if_pos (.inr c2)]
    have hcb := fun W => comesBack_any q r k d W hq hk false (decide_eq_false c2).symm
    clear c2
    go_enter Tryd.func18, Tryd.ntmps18
    go_wp2_with (first | (go_at_call 39; refine hc.mono ?_; rintro e w' ⟨rfl, hw'⟩; subst w') | (go_at_call 40; refine (hcb _).mono ?_; rintro e w2 ⟨rfl, hb2⟩))
    go_ret
    exact ⟨by rw [hE.out]; rfl, by rw [hS.out]; exact h.same (hb1.trans (hb2.mono hb1.size))⟩
end
end Go.Proofs.YtcgjolonapndgabDoor
