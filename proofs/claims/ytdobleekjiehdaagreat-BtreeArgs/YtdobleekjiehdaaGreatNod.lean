/- Slices of cells; the contracts of nodeBytes, keysOf. -/
import Derived.Test.YtdobleekjiehdaaGreatCel
namespace Go.Proofs.YtdobleekjiehdaaGreat
set_option linter.unusedVariables false
open Go.RowKit
/-- A cell in memory. -/
def CellAt (w : World) (b o : Nat) (c : Cl) : Prop := w.cell? ⟨b, o, none⟩ = some (.string c.key) ∧ w.cell? ⟨b, o + 1, none⟩ = some (.string c.val) ∧ w.cell? ⟨b, o + 2, none⟩ = some (.int .i64 c.page) ∧ w.cell? ⟨b, o + 3, none⟩ = some (.int .i64 c.count)
/-- A slice value whose elements are the cells l. -/
def Cells (w : World) (v : Value) (l : List Cl) : Prop :=
  ∃ a c, v = .slice a l.length c ∧ ((a = none → c = 0) ∧ l.length ≤ c) ∧ (l = [] ∨ ∃ b o, a = some ⟨b, o, none⟩ ∧ ∀ t, t < l.length → CellAt w b (o + t * 4) (l.getD t cl0))
theorem CellAt.keep {w w' : World} {b o : Nat} {c : Cl} (h : CellAt w b o c) (e : w'.heap[b]? = w.heap[b]?) : CellAt w' b o c := by
  obtain ⟨h0, h1, h2, h3⟩ := h
  have k : ∀ i u, w.cell? ⟨b, i, none⟩ = some u → w'.cell? ⟨b, i, none⟩ = some u := fun i u hu => (World.cell?_of_block (w := w) (w' := w') (a := ⟨b, i, none⟩) e).trans hu
  exact ⟨k _ _ h0, k _ _ h1, k _ _ h2, k _ _ h3⟩
theorem CellAt.lt {w : World} {b o : Nat} {c : Cl} (h : CellAt w b o c) : b < w.heap.size := World.block_lt_of_cell? w _ h.1
theorem Cells.keep {w w' : World} {v : Value} {l : List Cl} (h : Cells w v l) (hv : ∀ k, v.ownBlock = some k → k < w.heap.size → w'.heap[k]? = w.heap[k]?) : Cells w' v l := by
  obtain ⟨a, c, rfl, hn, h⟩ := h
  refine ⟨a, c, rfl, hn, ?_⟩
  rcases h with h | ⟨b, o, rfl, h⟩
  · exact .inl h
  · exact .inr ⟨b, o, rfl, fun t ht => (h t ht).keep (hv b rfl (h t ht).lt)⟩
theorem Cells.grow {w w' : World} {v : Value} {l : List Cl} (h : Cells w v l) (hb : Below w.heap.size w w') : Cells w' v l := h.keep (fun k _ hl => hb.block k hl)
/-- A node's bytes. -/
def nodeB (level : Nat) (l : List Cl) : List Int := enc level ++ cat cellB l
theorem getD_map {l : List Cl} {k : Nat} (h : k < l.length) : l.getD k cl0 ∈ l := by
  rw [List.getD_eq_getElem?_getD, List.getElem?_eq_getElem h]; simp
theorem nodeB_take (level : Nat) (l : List Cl) (k : Nat) : (enc level ++ cat cellB (l.take k)).length ≤ (nodeB level l).length := by
  unfold nodeB cat
  have h : (List.map cellB l).flatten = (List.map cellB (l.take k)).flatten ++ (List.map cellB (l.drop k)).flatten := by
    rw [← List.flatten_append, ← List.map_append, List.take_append_drop]
  rw [h]
  simp only [List.length_append]
  omega
section
variable {w : World}
set_option maxRecDepth 100000 in
set_option maxHeartbeats 4000000 in
theorem nodeBytes_any (level : Nat) (hlv : level < 9223372036854775808) (a : Option Addr) (n cap : Nat) (l : List Cl) (h : Cells w (.slice a n cap) l) (hok : ∀ c ∈ l, c.ok) (hlen : (nodeB level l).length ≤ 8000000) (hl2 : l.length ≤ 8000000) :
    Calls Tryz.prog 99 #[.int .i64 level, .slice a n cap] w fun e w' => ∃ v', e = .returned v' ∧ Own w' w.heap.size v' (nodeB level l) ∧ Below w.heap.size w w' := by
  have hn : n = l.length := by obtain ⟨_, _, e, _⟩ := h; cases e; rfl
  have hu := u64_of level hlv
  have hpre := nodeB_take level l
  have hg : Hid (∀ W, Below w.heap.size w W → Cells W (.slice a n cap) l) := fun W hW => h.grow hW
  replace hpre : Hid _ := hpre
  replace hn : Hid _ := hn
  replace hok : Hid _ := hok
  clear h
  have hA : Below w.heap.size w (w.alloc (.cells #[.int .u64 level] 113)) := (Below.refl _ w).alloc (Nat.le_refl _) _
  have hl3 : n ≤ 8000000 := by rw [hn.out]; exact hl2
  go_enter Tryz.func99, Tryz.ntmps99
  go_wp2_with (first | (go_at_call 113; refine (number1 w.heap.size (.slice none 0 0) [] level w.heap.size _ (by omega) (World.ownsRow_nil _ _ _ _) (by simp) (by simp) (newC rfl _ _)).mono ?_; rintro e w1 ⟨v1, rfl, ho1, hb1, _⟩))
  go_loopw [5, 14] (fun u i wr => ∃ k : Nat, k ≤ n ∧ i = .int .i64 k ∧ Own wr w.heap.size u (enc level ++ cat cellB (l.take k)) ∧ Below w.heap.size w wr) (fun _ i _ => n - (intOf i).toNat)
  case atStart => exact ⟨0, Nat.zero_le _, rfl, by simpa [cat] using ho1, hA.trans hb1⟩
  case round =>
    clear ho1 hb1 hA
    obtain ⟨k, hk, rfl, ho, hbw⟩ := hrel
    have hsz := hbw.size
    have hpk := hpre.out k
    by_cases hlt : k < n
    · have hki : (k : Int) < (n : Int) := by omega
      have hltl : k < l.length := by rw [← hn.out]; exact hlt
      obtain ⟨a', c', e, _, hc⟩ := hg.out wr hbw
      cases e
      rcases hc with hc | ⟨b, o, rfl, hc⟩
      · rw [hc] at hltl; simp at hltl
      · obtain ⟨x0, x1, x2, x3⟩ := hc k hltl
        have hcok := hok.out _ (getD_map hltl)
        have HN : Hid (∀ (u : Value) (w1 : World), Own w1 w.heap.size u (enc level ++ cat cellB (l.take k) ++ cellB (l.getD k cl0)) → Own w1 w.heap.size u (enc level ++ cat cellB (l.take (k + 1)))) := fun u w1 h => h.cast (by rw [cat_take cellB l cl0 k hltl]; simp)
        generalize l.getD k cl0 = c at x0 x1 x2 x3 hcok HN
        clear hc
        have hB2 : Below w.heap.size w (wr.alloc (.cells #[.string c.key, .string c.val, .int .i64 c.page, .int .i64 c.count] 90)) := hbw.alloc hsz _
        have hap := appendCell_any (w := wr.alloc (.cells #[.string c.key, .string c.val, .int .i64 c.page, .int .i64 c.count] 90)) w.heap.size _ _ c hcok (ho.alloc _) hB2.size (by omega)
        go_wp2_with (first | (go_at_call 114; refine hap.mono ?_; rintro e w2 ⟨v2, rfl, ho2, hb2, _⟩))
        go_roundw
        case rel => exact ⟨k + 1, by omega, by go_num, HN.out _ _ ho2, hB2.trans hb2⟩
        case measure => simp [intOf]; omega
    · obtain rfl : k = n := by omega
      have hkd : decide ((k : Int) < (k : Int)) = false := by simp
      rw [List.take_of_length_le (by rw [hn.out]; omega)] at ho
      go_wp2
      go_ret
      exact ⟨_, rfl, ho, hbw⟩
end
end Go.Proofs.YtdobleekjiehdaaGreat
