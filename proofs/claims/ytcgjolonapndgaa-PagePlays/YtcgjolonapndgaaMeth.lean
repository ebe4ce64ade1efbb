/- The contracts of Read, Sync and Crash. -/
import Derived.Test.YtcgjolonapndgaaWrite
import Derived.Test.YtcgjolonapndgaaLast
namespace Go.Proofs.Ytcgjolonapndgaa
open Go.RowKit Go.Maps Go.ChangeMaps Go.MapKept

/-- Sector n as it was written last. -/
def St.now (s : St) (n : Int) : List Int := (s.fresh n).getD (s.safe n)
def St.errRead (s : St) (n : Int) : Int := if 0 ≤ n ∧ n < s.sectors then (if s.dead then 20 else 0) else 2

section
variable {w : World} {p : Nat} {F : Nat → Prop} {s : St} {bs bf ns nf : Nat} {gs gf : Int → Option Nat}
theorem IsDisk.nowLen (h : IsDisk w p F s bs bf ns nf gs gf) (n : Int) : (s.now n).length = s.size := by
  unfold St.now
  cases hg : gf n with
  | none => rw [h.freshNone n hg]; exact h.safeLen n
  | some g => obtain ⟨x, h1, h2, _⟩ := h.freshRow n g hg; rw [h1]; exact h2
/-- A new slice of one slice of bytes. -/
theorem lists1 {u : Value} {x : List Int} (h : Bts w u x) : Lists (w.alloc (.cells #[u] 23)) (.slice (some ⟨w.heap.size, 0, none⟩) 1 1) [x] := by
  refine ⟨_, 1, rfl, .inr ⟨w.heap.size, 0, rfl, fun t ht => ?_⟩⟩
  have : t = 0 := by simp at ht; omega
  subst this
  exact ⟨u, by simp, h.alloc _⟩

set_option maxRecDepth 100000 in
set_option maxHeartbeats 2000000 in
theorem read_ok (h : IsD w p F s) (n : Int) (hn : 0 ≤ n ∧ n < s.sectors) (hd : s.dead = false) :
    Calls Try.prog 57 #[.pointer (some ⟨p, 0, none⟩), .int .i64 n] w fun e w' => ∃ g, e = .returned (.tuple #[slV s.size g, .int .i64 0]) ∧ w.heap.size ≤ g ∧ Row w' g (s.now n) ∧ Below w.heap.size w w' := by
  have h' := h
  obtain ⟨bs, bf, ns, nf, gs, gf, h, hr⟩ := h
  have c1 := h.c1
  have c2 := h.c2
  have c3 := h.c3
  have c4 := h.c4
  rw [hd] at c4
  have hz := h.size2
  have hse := h.sec2
  have hdn : decide (0 ≤ n ∧ n < (s.sectors : Int)) = true := by simpa using hn
  have hhas := has_any h' n
  rw [hdn] at hhas
  have hlf := SMap.look_ok h.fresh (k := n) (by omega) (by omega)
  have hlen := h.nowLen n
  have main : ∀ u x, Bts w u x → tot [x] ≤ s.size → padded s.size [x].flatten = s.now n → Calls Try.prog 54 #[.int .i64 s.size, .slice (some ⟨w.heap.size, 0, none⟩) 1 1] (w.alloc (.cells #[u] 23)) fun e w' => e = .returned (slV s.size (w.heap.size + 1)) ∧ Row w' (w.heap.size + 1) (s.now n) ∧ Below w.heap.size w w' := fun u x hb ht he => by
    refine (joined_any s.size [x] _ _ (by omega) (by simp) ht (lists1 hb)).mono ?_
    rintro e w' ⟨rfl, hrow, hbe⟩
    rw [World.size_alloc] at hrow hbe ⊢
    rw [he] at hrow
    exact ⟨rfl, hrow, ((Below.refl _ w).alloc (Nat.le_refl _) _).trans (hbe.mono (by omega))⟩
  cases hg : gf n with
  | some g =>
    rw [hg] at hlf
    simp only [slAt, Option.isSome_some] at hlf
    obtain ⟨x, hx1, hx2, hx3⟩ := h.freshRow n g hg
    have hnow : s.now n = x := by simp [St.now, hx1]
    have hbts := hx3.bts
    rw [hx2] at hbts
    have hj := main (slV s.size g) x hbts (by simp [tot, hx2]) (by rw [hnow]; simpa using padded_full _ _ hx2)
    clear main
    simp only [slV] at hj hlf ⊢
    go_enter Try.func57, Try.ntmps57
    go_wp2_with (first | (go_at_call 52; refine hhas.mono ?_; rintro e w1 ⟨rfl, hw1⟩; subst w1) | (go_at_call 54; refine hj.mono ?_; rintro e w1 ⟨rfl, hrow, hbe⟩))
    go_ret2
    exact ⟨_, rfl, Nat.le_succ _, hrow, hbe⟩
  | none =>
    rw [hg] at hlf
    simp only [slAt, Option.isSome_none] at hlf
    have hls := SMap.look h.safe (k := n) (by omega) (by omega)
    have hfn := h.freshNone n hg
    have hnow : s.now n = s.safe n := by simp [St.now, hfn]
    cases hgs : gs n with
    | some g =>
      rw [hgs] at hls
      simp only [slAt] at hls
      have hrow0 := h.safeRow n g hgs
      have hl2 := h.safeLen n
      have hbts := hrow0.bts
      rw [hl2] at hbts
      have hj := main (slV s.size g) (s.safe n) hbts (by simp [tot, hl2]) (by rw [hnow]; simpa using padded_full _ _ hl2)
      clear main
      simp only [slV] at hj hls ⊢
      go_enter Try.func57, Try.ntmps57
      go_wp2_with (first | (go_at_call 52; refine hhas.mono ?_; rintro e w1 ⟨rfl, hw1⟩; subst w1) | (go_at_call 54; refine hj.mono ?_; rintro e w1 ⟨rfl, hrow, hbe⟩))
      go_ret2
      exact ⟨_, rfl, Nat.le_succ _, hrow, hbe⟩
    | none =>
      rw [hgs] at hls
      simp only [slAt] at hls
      have hj := main (.slice none 0 0) [] (bts_nil w) (by simp [tot]) (by rw [hnow, h.safeNone n hgs]; simp [padded_nil])
      clear main
      go_enter Try.func57, Try.ntmps57
      go_wp2_with (first | (go_at_call 52; refine hhas.mono ?_; rintro e w1 ⟨rfl, hw1⟩; subst w1) | (go_at_call 54; refine hj.mono ?_; rintro e w1 ⟨rfl, hrow, hbe⟩))
      go_ret2
      exact ⟨_, rfl, Nat.le_succ _, hrow, hbe⟩

set_option maxRecDepth 100000 in
set_option maxHeartbeats 2000000 in
theorem read_err (h : IsD w p F s) (n : Int) (he : s.errRead n ≠ 0) :
    Calls Try.prog 57 #[.pointer (some ⟨p, 0, none⟩), .int .i64 n] w fun e w' => e = .returned (.tuple #[.slice none 0 0, .int .i64 (s.errRead n)]) ∧ w' = w := by
  have hhas := has_any h n
  obtain ⟨bs, bf, ns, nf, gs, gf, h, hr⟩ := h
  have c4 := h.c4
  by_cases hn : 0 ≤ n ∧ n < s.sectors
  · have hdn : decide (0 ≤ n ∧ n < (s.sectors : Int)) = true := by simpa using hn
    rw [hdn] at hhas
    have hd : s.dead = true := by
      cases hd : s.dead
      · exact absurd (by simp [St.errRead, hn, hd]) he
      · rfl
    rw [hd] at c4
    have e1 : s.errRead n = 20 := by simp [St.errRead, hn, hd]
    rw [e1]
    go_enter Try.func57, Try.ntmps57
    go_wp2_with (first | (go_at_call 52; refine hhas.mono ?_; rintro e w1 ⟨rfl, hw1⟩; subst w1))
    go_ret2
    exact ⟨rfl, rfl⟩
  · have hdn : decide (0 ≤ n ∧ n < (s.sectors : Int)) = false := by simpa using hn
    rw [hdn] at hhas
    have e1 : s.errRead n = 2 := by unfold St.errRead; rw [if_neg hn]
    rw [e1]
    go_enter Try.func57, Try.ntmps57
    go_wp2_with (first | (go_at_call 52; refine hhas.mono ?_; rintro e w1 ⟨rfl, hw1⟩; subst w1))
    go_ret2
    exact ⟨rfl, rfl⟩
/-- What Sync leaves. -/
def St.sync (s : St) : St := if s.live then s.op.settle (fun _ => s.size) else s.op

set_option maxRecDepth 100000 in
set_option maxHeartbeats 2000000 in
theorem sync_any (h : IsD w p F s) (hops : s.ops < 17592186044416) : Calls Try.prog 27 #[.pointer (some ⟨p, 0, none⟩)] w fun e w' => e = .returned (.int .i64 s.errOp) ∧ Turned w p F s.sync w' := by
  obtain ⟨bs, bf, ns, nf, gs, gf, h, hr⟩ := h
  have h1 : IsDisk (w.alloc (.cells #[.pointer (some ⟨p, 0, none⟩)] 42)) p F s bs bf ns nf gs gf := h.keep fun k _ hk => (heap_alloc w _).2 k hk
  have hop := operate_any h1 (by omega)
  obtain ⟨esec, esz, _, _, hop1, hop2⟩ := op_same s
  have hplt := h.lt
  have hfa : Frm F w (w.alloc (.cells #[.pointer (some ⟨p, 0, none⟩)] 42)) := Frm.alloc _ _ _
  cases hlv : s.live with
  | false =>
    have e3 : s.errOp = 20 := by simp [St.errOp, hlv]
    have e2 : s.sync = s.op := by simp [St.sync, hlv]
    rw [e3] at hop
    rw [e3, e2]
    go_enter Try.func27, Try.ntmps27
    go_wp2_with (first | (go_at_call 47; refine hop.mono ?_; rintro e w1 ⟨rfl, hd1, hg1⟩))
    go_ret
    refine ⟨rfl, turned_of (hd1.wide fun k hk => .inl hk) (by omega) (hfa.trans (Frm.of_grown hg1 (fun j e => by cases e; exact .inl h.inP)) (fun j hj => .inl hj))⟩
  | true =>
    have e3 : s.errOp = 0 := by simp [St.errOp, hlv]
    have e2 : s.sync = s.op.settle (fun _ => s.size) := by simp [St.sync, hlv]
    rw [e3] at hop
    rw [e3, e2]
    have hset : ∀ w1, IsDisk w1 p F s.op bs bf ns nf gs gf → (w.alloc (.cells #[.pointer (some ⟨p, 0, none⟩)] 42)).grownBy w1 (some p) → Calls Try.prog 48 #[.pointer (some ⟨p, 0, none⟩), .func (.func 49) #[] #[.pointer (some ⟨w.heap.size, 0, none⟩)]] w1 fun e w' => e = .returned (.tuple #[]) ∧ Turned w p F (s.op.settle (fun _ => s.size)) w' := fun w1 hd1 hg1 => by
      have hbx : w1.heap[w.heap.size]? = some (.cells #[.pointer (some ⟨p, 0, none⟩)] 42 (0, 0)) := (hg1.block _ (by simp) (fun e => by have := Option.some.inj e; omega)).trans (heap_alloc w _).1
      have hs1 : w.heap.size < w1.heap.size := (Array.getElem?_eq_some_iff.1 hbx).1
      refine (settle_36 w.heap.size (fun _ => s.size) hd1 (by omega) (fun _ => by rw [esz]; exact Nat.le_refl _) (fun W hW n hn1 hn2 => ?_)).mono ?_
      · have hb2 : W.heap[w.heap.size]? = some (.cells #[.pointer (some ⟨p, 0, none⟩)] 42 (0, 0)) := (hW.block _ hs1 (not_safeF hd1 (fun es c e => by rw [hbx] at e; cases e) (fun C e => by rw [hbx] at e; cases e))).trans hbx
        have hp2 : W.heap[p]? = some (.cells (diskCells s.op bs bf) 84 (0, 0)) := (hW.block _ hd1.lt (not_safeF hd1 (fun es c e => by rw [hd1.cells] at e; cases e) (fun C e => by
          rw [hd1.cells] at e
          have := congrArg (fun o => match o with | some (Obj.cells _ t _) => t | _ => 0) e
          simp at this))).trans hd1.cells
        have hc1 := (disk_cell hp2 1 _ rfl).1
        refine sync36 w.heap.size p s.size (by simp [World.cell?, hb2]) ?_ n
        rw [← esz]; exact hc1
      · rintro e w' ⟨rfl, ns', gs', hn', hd', hf'⟩
        refine ⟨rfl, turned_of (hd'.wide fun k hk => ?_) ?_ ?_⟩
        · rcases hk with hk | hk
          · exact .inl hk
          · exact .inr (by omega)
        · show ns' + 0 ≤ s.op.ops
          omega
        · exact (hfa.trans (Frm.of_grown hg1 (fun j e => by cases e; exact .inl h.inP)) (fun j hj => .inl hj)).trans hf' (fun j hj => .inl hj)
    go_enter Try.func27, Try.ntmps27
    go_wp2_with (first | (go_at_call 47; refine hop.mono ?_; rintro e w1 ⟨rfl, hd1, hg1⟩; have hs1 : Hid _ := hset w1 hd1 hg1; have hbx : w1.cell? ⟨w.heap.size, 0, none⟩ = some (.pointer (some ⟨p, 0, none⟩)) := (World.cell?_of_block (w := w.alloc (.cells #[.pointer (some ⟨p, 0, none⟩)] 42)) (hg1.block _ (by simp) (fun e => by have := Option.some.inj e; simp at this; omega))).trans (by simp)) | (go_at_call 48; refine Calls.mono hs1.out ?_; rintro e w2 ⟨rfl, ht2⟩; replace ht2 : Hid _ := ht2))
    go_ret
    exact ⟨rfl, ht2.out⟩
end
end Go.Proofs.Ytcgjolonapndgaa
