/- The contracts of soundValue, sound and fits, at leaves that are as Put lays them. -/
import Derived.Test.YtdobleekjiehdaaGreatRis
namespace Go.Proofs.YtdobleekjiehdaaGreat
set_option linter.unusedVariables false
open Go.RowKit
section
variable {w : World}
/-- A leaf's cell with a short value. -/
def Cl.short (c : Cl) (room : Nat) : Prop := c.page = 0 ∧ c.val.size ≤ shortOf room ∧ c.count = 0
set_option maxRecDepth 100000 in
set_option maxHeartbeats 4000000 in
theorem soundValue_ok {p room mb : Nat} {nv : Value} (h : WalkAt w p nv room mb) (h1 : 480 ≤ room) (h2 : room ≤ 1000000) (c : Cl) (hc : c.short room) :
    Calls Tryz.prog 86 #[.pointer (some ⟨p, 0, none⟩), .agg #[.string c.key, .string c.val, .int .i64 c.page, .int .i64 c.count]] w fun e w' => e = .returned (.bool true) ∧ Below w.heap.size w w' := by
  obtain ⟨hp, hv, hq⟩ := hc
  clear hq
  have hpe : ((c.page : Int) == 0) = true := by simp [hp]
  have hvd : decide ((c.val.size : Int) ≤ (shortOf room : Int)) = true := by simp; omega
  have hB : Below w.heap.size w (w.alloc (.cells #[.string c.key, .string c.val, .int .i64 c.page, .int .i64 c.count] 90)) := (Below.refl _ w).alloc (Nat.le_refl _) _
  have hx : Bc (w.alloc (.cells #[.string c.key, .string c.val, .int .i64 c.page, .int .i64 c.count] 90)) w.heap.size #[.string c.key, .string c.val, .int .i64 c.page, .int .i64 c.count] := heap_alloc_new w _
  have hsh : ∀ W, Below w.heap.size w W → Calls Tryz.prog 51 #[.pointer (some ⟨p, 0, none⟩)] W fun e w' => e = .returned (.int .i64 (shortOf room)) ∧ w' = W := fun W hW => short_any (h.keep (hW.block _ h.lt)) h1 h2
  clear hp
  generalize shortOf room = sh at *
  go_enter Tryz.func86, Tryz.ntmps86
  go_wp2_with fail
  generalize w.alloc (.cells #[.string c.key, .string c.val, .int .i64 c.page, .int .i64 c.count] 90) = W1 at *
  obtain ⟨⟨x0, x1, x2, x3⟩, _⟩ := hx.at
  go_region_held3 (fun W => W.cell? ⟨w.heap.size, 1, none⟩ = some (.string c.val)) (go_keep) (first | (go_at_call 51; refine (hsh _ (by first | exact hB | exact hB.drew)).mono ?_; rintro e wA ⟨rfl, hwA⟩; subst wA))
  go_wp2_with fail
  go_ret
  exact ⟨rfl, hB.drew⟩
set_option maxRecDepth 100000 in
set_option maxHeartbeats 4000000 in
theorem sound_ok {p room mb : Nat} {nv : Value} (h : WalkAt w p nv room mb) (h1 : 480 ≤ room) (h2 : room ≤ 1000000) (a : Option Addr) (n cap : Nat) (l : List Cl) (hc : Cells w (.slice a n cap) l) (hl : l.length ≤ 8000000) (hs : ∀ c ∈ l, c.short room) :
    Calls Tryz.prog 70 #[.pointer (some ⟨p, 0, none⟩), .int .i64 1, .slice a n cap] w fun e w' => e = .returned (.bool true) ∧ Below w.heap.size w w' := by
  have hn : n = l.length := by obtain ⟨_, _, e, _⟩ := hc; cases e; rfl
  have hg : Hid (∀ W, Below w.heap.size w W → Cells W (.slice a n cap) l) := fun W hW => hc.grow hW
  have hn3 : n ≤ 8000000 := by rw [hn]; exact hl
  replace hn : Hid _ := hn
  replace hs : Hid _ := hs
  clear hc
  go_enter Tryz.func70, Tryz.ntmps70
  go_wp2
  go_loopw [18] (fun i wr => ∃ k : Nat, k ≤ n ∧ i = .int .i64 k ∧ Below w.heap.size w wr) (fun i _ => n - (intOf i).toNat)
  case atStart => exact ⟨0, Nat.zero_le _, rfl, Below.refl _ _⟩
  case round =>
    obtain ⟨k, hk, rfl, hbw⟩ := hrel
    by_cases hlt : k < n
    · have hki : (k : Int) < (n : Int) := by omega
      have hltl : k < l.length := by rw [← hn.out]; exact hlt
      obtain ⟨a', c', e, _, hcs⟩ := hg.out wr hbw
      cases e
      rcases hcs with hcs | ⟨b, o, rfl, hcs⟩
      · rw [hcs] at hltl; simp at hltl
      · obtain ⟨x0, x1, x2, x3⟩ := hcs k hltl
        have hcc := hs.out _ (getD_map hltl)
        generalize l.getD k cl0 = c at x0 x1 x2 x3 hcc
        clear hcs
        have hB2 := hbw.alloc hbw.size (.cells #[.string c.key, .string c.val, .int .i64 c.page, .int .i64 c.count] 90)
        have hsv := soundValue_ok (w := wr.alloc (.cells #[.string c.key, .string c.val, .int .i64 c.page, .int .i64 c.count] 90)) (h.keep (hB2.block _ h.lt)) h1 h2 c hcc
        go_wp2_with (first | (go_at_call 86; refine hsv.mono ?_; rintro e w2 ⟨rfl, hb2⟩))
        go_roundw
        case rel => exact ⟨k + 1, by omega, by go_num, hB2.trans (hb2.mono hB2.size)⟩
        case measure => simp [intOf]; omega
    · obtain rfl : k = n := by omega
      have hkd : decide ((k : Int) < (k : Int)) = false := by simp
      go_wp2
      go_ret
      exact ⟨rfl, hbw⟩
set_option maxRecDepth 100000 in
set_option maxHeartbeats 4000000 in
theorem fits_ok (page : Int) (level keys : Nat) (a : Option Addr) (n cap : Nat) (l : List Cl) (hc : Cells w (.slice a n cap) l) (hl : l.length ≤ 8000000) (h0 : l ≠ []) (hr : risB l = true) (hk : keysL level l = keys) (hcn : ∀ c ∈ l, c.count ≤ 2147483647) :
    Calls Tryz.prog 69 #[.agg #[.int .i64 page, .int .i64 level, .int .i64 keys, .string ⟨#[]⟩, .string ⟨#[]⟩], .slice a n cap] w fun e w' => e = .returned (.bool true) ∧ Below w.heap.size w w' := by
  have hn : n = l.length := by obtain ⟨_, _, e, _⟩ := hc; cases e; rfl
  have hn0 : ((n : Int) == 0) = false := by
    have : l.length ≠ 0 := fun e => h0 (List.length_eq_zero_iff.1 e)
    simp; omega
  have hri : ∀ W, Below w.heap.size w W → Calls Tryz.prog 84 #[.slice a n cap] W fun e w' => e = .returned (.bool true) ∧ Below W.heap.size W w' := fun W hW => by
    have := rising_any (w := W) a n cap l (hc.grow hW) hl
    rw [hr] at this
    exact this
  have hke : ∀ W, Below w.heap.size w W → Calls Tryz.prog 85 #[.int .i64 level, .slice a n cap] W fun e w' => e = .returned (.int .i64 (keys : Int)) ∧ Below W.heap.size W w' := fun W hW => by
    have := keysOf_any (w := W) level a n cap l (hc.grow hW) hl hcn
    rw [hk] at this
    exact this
  have hB : Below w.heap.size w (w.alloc (.cells #[.int .i64 page, .int .i64 level, .int .i64 keys, .string ⟨#[]⟩, .string ⟨#[]⟩] 99)) := (Below.refl _ w).alloc (Nat.le_refl _) _
  have hx : (w.alloc (.cells #[.int .i64 page, .int .i64 level, .int .i64 keys, .string ⟨#[]⟩, .string ⟨#[]⟩] 99)).heap[w.heap.size]? = some (.cells #[.int .i64 page, .int .i64 level, .int .i64 keys, .string ⟨#[]⟩, .string ⟨#[]⟩] 99 (0, 0)) := heap_alloc_new w _
  clear hk hr hc hcn h0 hn
  go_enter Tryz.func69, Tryz.ntmps69
  go_wp2_with fail
  generalize w.alloc (.cells #[.int .i64 page, .int .i64 level, .int .i64 keys, .string ⟨#[]⟩, .string ⟨#[]⟩] 99) = W1 at *
  have key : Hid (∀ W, Below W1.heap.size W1 W → W.cell? ⟨w.heap.size, 1, none⟩ = some (.int .i64 level) ∧ W.cell? ⟨w.heap.size, 2, none⟩ = some (.int .i64 keys) ∧ W.cell? ⟨w.heap.size, 3, none⟩ = some (.string ⟨#[]⟩) ∧ W.cell? ⟨w.heap.size, 4, none⟩ = some (.string ⟨#[]⟩)) := by
    show ∀ W, _ → _
    intro W hW
    have hh := (hW.block _ (lt_of_block hx)).trans hx
    refine ⟨?_, ?_, ?_, ?_⟩ <;> simp [World.cell?, hh]
  obtain ⟨x1, x2, x3, x4⟩ := key.out W1 (Below.refl _ _)
  go_region_held3 (fun W => W.cell? ⟨w.heap.size, 1, none⟩ = some (.int .i64 level) ∧ W.cell? ⟨w.heap.size, 2, none⟩ = some (.int .i64 keys)) (first | go_keep | exact ⟨y1, y2⟩ | exact ⟨z1, z2⟩) (first
    | (go_at_call 84; refine (hri _ (by first | exact hB | exact hB.drew)).mono ?_; rintro e w2 ⟨rfl, hb2⟩; have hB2 : Below W1.heap.size W1 w2 := Below.trans (by first | exact Below.refl _ _ | exact below_draw _ 1) hb2; have hB2' : Below w.heap.size w w2 := hB.trans (hB2.mono hB.size); obtain ⟨y1, y2, y3, y4⟩ := key.out w2 hB2)
    | (go_at_call 85; refine (hke _ (by first | exact hB2' | exact hB2'.drew)).mono ?_; rintro e w3 ⟨rfl, hb3⟩; have hB3 : Below W1.heap.size W1 w3 := hB2.trans (Below.mono (Below.trans (by first | exact Below.refl _ _ | exact below_draw _ 1) hb3) hB2.size); have hB3' : Below w.heap.size w w3 := hB.trans (hB3.mono hB.size); obtain ⟨z1, z2, z3, z4⟩ := key.out w3 hB3))
  go_wp2_with fail
  go_quiet (fail)
  go_wp2_with fail
  go_quiet (fail)
  go_wp2_with fail
  go_ret
  exact ⟨rfl, below_drewN (below_drewN hB3' _) _⟩
end
end Go.Proofs.YtdobleekjiehdaaGreat
