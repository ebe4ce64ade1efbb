/- The disk's Write once more, with the two maps named; what a loop's own book-keeping leaves of a disk. -/
import Derived.Test.YtcgjolonapndgaaHeld
import Derived.Deep.RegionHeld3
import Derived.RangeFuncWrites
namespace Go.Proofs.Ytcgjolonapndgaa
set_option linter.unusedVariables false
open Go.RowKit Go.Maps Go.ChangeMaps Go.MapKept
/-- Block p is a disk that holds s, its maps bs and bf. -/
def IsDB (w : World) (p : Nat) (F : Nat → Prop) (s : St) (bs bf : Nat) : Prop := ∃ ns nf gs gf, IsDisk w p F s bs bf ns nf gs gf ∧ ns + nf ≤ s.ops
def TurnedB (w : World) (p : Nat) (F : Nat → Prop) (bs bf : Nat) (s' : St) (w' : World) : Prop := ∃ F', IsDB w' p F' s' bs bf ∧ Frm F w w' ∧ ∀ k, F' k → (F k ∨ w.heap.size ≤ k) ∧ k < w'.heap.size
section
variable {w : World} {p : Nat} {F : Nat → Prop} {s : St} {bs bf : Nat}
theorem IsDB.isD (h : IsDB w p F s bs bf) : IsD w p F s := by
  obtain ⟨ns, nf, gs, gf, h, hr⟩ := h
  exact ⟨bs, bf, ns, nf, gs, gf, h, hr⟩
theorem isDB_of (h : IsD w p F s) : ∃ bs bf, IsDB w p F s bs bf ∧ bs < w.heap.size ∧ bf < w.heap.size := by
  obtain ⟨bs, bf, ns, nf, gs, gf, h, hr⟩ := h
  exact ⟨bs, bf, ⟨ns, nf, gs, gf, h, hr⟩, MapG.lt h.safe, MapG.lt h.fresh⟩
theorem turnedB_of {W : World} {s' : St} {bs bf ns nf : Nat} {gs gf : Int → Option Nat} (h : IsDisk W p (fun k => F k ∨ w.heap.size ≤ k) s' bs bf ns nf gs gf) (hr : ns + nf ≤ s'.ops) (hf : Frm F w W) : TurnedB w p F bs bf s' W :=
  ⟨_, ⟨ns, nf, gs, gf, h.tight, hr⟩, hf, fun _ hk => hk⟩
theorem turnedB_same (h : IsDB w p F s bs bf) : TurnedB w p F bs bf s w := by
  obtain ⟨ns, nf, gs, gf, h, hr⟩ := h
  exact turnedB_of (h.wide fun k hk => .inl hk) hr (Frm.refl _ _)
/-- New blocks, and a turn of what is no cells and lies behind the maps: the disk is as it was. -/
theorem IsDB.own {B : Nat} {A W : World} {row : Option Nat} (h : IsDB A p F s bs bf) (h1 : bs < B) (h2 : bf < B) (hg : A.grownBy W row) (hr : ∀ r, row = some r → B ≤ r ∧ ∃ o : Obj, A.heap[r]? = some o ∧ o.isCells = false) : IsDB W p F s bs bf := by
  obtain ⟨ns, nf, gs, gf, h, hn⟩ := h
  have key : ∀ (k : Nat) (c : Array Value) (t : TypeId) (fr : Nat × Nat), A.heap[k]? = some (Obj.cells c t fr) → W.heap[k]? = A.heap[k]? := fun k c t fr hc =>
    hg.block k (Array.getElem?_eq_some_iff.1 hc).1 (fun e => by
      obtain ⟨_, o, ho, hi⟩ := hr k e.symm
      rw [hc] at ho
      cases ho
      cases hi)
  have low : ∀ k, k < B → k < A.heap.size → W.heap[k]? = A.heap[k]? := fun k hk hl =>
    hg.block k hl (fun e => by have := (hr k e.symm).1; omega)
  have hF : IsDisk A p (fun k => k = p ∨ k = bs ∨ k = bf ∨ (∃ n, gs n = some k) ∨ ∃ n, gf n = some k) s bs bf ns nf gs gf :=
    { h with
      inP := .inl rfl
      inS := .inr (.inl rfl)
      inF := .inr (.inr (.inl rfl))
      inG := fun n g hg => .inr (.inr (.inr (.inl ⟨n, hg⟩)))
      inH := fun n g hg => .inr (.inr (.inr (.inr ⟨n, hg⟩))) }
  have hW := hF.keep (w' := W) (fun k hk hl => by
    rcases hk with rfl | rfl | rfl | ⟨n, e⟩ | ⟨n, e⟩
    · exact key _ _ _ _ h.cells
    · exact low _ h1 hl
    · exact low _ h2 hl
    · exact key _ _ _ _ (h.safeRow n k e)
    · obtain ⟨x, _, _, hrow⟩ := h.freshRow n k e
      exact key _ _ _ _ hrow)
  refine ⟨ns, nf, gs, gf, hW.wide (fun k hk => ?_), hn⟩
  rcases hk with rfl | rfl | rfl | ⟨n, e⟩ | ⟨n, e⟩
  · exact h.inP
  · exact h.inS
  · exact h.inF
  · exact h.inG n k e
  · exact h.inH n k e
set_option maxRecDepth 100000 in
set_option maxHeartbeats 4000000 in
theorem writeB_any (h : IsDB w p F s bs bf) (hops : s.ops < 17592186044416) (n : Int) (v : Value) (ls : List (List Int)) (hl : ∀ W, Frm F w W → Lists W v ls) (hll : ls.length ≤ 1000000) (hn1 : -9223372036854775808 ≤ n) (hn2 : n ≤ 9223372036854775807) :
    Calls Try.prog 33 #[.pointer (some ⟨p, 0, none⟩), .int .i64 n, v] w fun e w' => e = .returned (.int .i64 (s.errWrite n ls)) ∧ TurnedB w p F bs bf (s.write n ls) w' := by
  have hB := h
  obtain ⟨ns, nf, gs, gf, h, hr⟩ := h
  have h' : IsD w p F s := ⟨bs, bf, ns, nf, gs, gf, h, hr⟩
  have c1 := h.c1
  have hz := h.size2
  by_cases hn : 0 ≤ n ∧ n < s.sectors
  · have hdn : decide (0 ≤ n ∧ n < (s.sectors : Int)) = true := by simpa using hn
    have hhas := has_any h' n
    rw [hdn] at hhas
    have hfit := fit_any s.size ls v w (by omega) (by omega) (hl w (Frm.refl _ _))
    by_cases ht : tot ls ≤ s.size
    · have hdt : decide (tot ls ≤ s.size) = true := by simpa using ht
      rw [hdt] at hfit
      have hop := operate_any h (by omega)
      cases hlv : s.live with
      | false =>
        have e1 : s.errWrite n ls = 20 := by simp [St.errWrite, hn, ht, St.errOp, hlv]
        have e2 : s.write n ls = s.op := by simp [St.write, hn, ht, hlv]
        have e3 : s.errOp = 20 := by simp [St.errOp, hlv]
        rw [e3] at hop
        rw [e1, e2]
        go_enter Try.func33, Try.ntmps33
        go_wp2_with (first | (go_at_call 52; refine hhas.mono ?_; rintro e w1 ⟨rfl, hw1⟩; subst w1) | (go_at_call 53; refine hfit.mono ?_; rintro e w1 ⟨rfl, hw1⟩; subst w1) | (go_at_call 47; refine hop.mono ?_; rintro e w1 ⟨rfl, hd1, hg1⟩))
        go_ret
        refine ⟨rfl, turnedB_of (hd1.wide fun k hk => .inl hk) ?_ (Frm.of_grown hg1 (fun j e => by cases e; exact .inl h.inP))⟩
        have := op_same s; omega
      | true =>
        have e1 : s.errWrite n ls = 0 := by simp [St.errWrite, hn, ht, St.errOp, hlv]
        have e2 : s.write n ls = s.op.wrote n (padded s.size ls.flatten) := by simp [St.write, hn, ht, hlv]
        have e3 : s.errOp = 0 := by simp [St.errOp, hlv]
        rw [e3] at hop
        rw [e1, e2]
        go_enter Try.func33, Try.ntmps33
        go_wp2_with (first | (go_at_call 52; refine hhas.mono ?_; rintro e w1 ⟨rfl, hw1⟩; subst w1) | (go_at_call 53; refine hfit.mono ?_; rintro e w1 ⟨rfl, hw1⟩; subst w1) | (go_at_call 47; refine hop.mono ?_; rintro e w1 ⟨rfl, hd1, hg1⟩))
        have hf1 : Frm F w w1 := Frm.of_grown hg1 (fun j e => by cases e; exact .inl h.inP)
        have hl1 := hl w1 hf1
        obtain ⟨esec, esz, _, _, hop1, hop2⟩ := op_same s
        have c1' := hd1.c1
        have c3' := hd1.c3
        rw [esz] at c1'
        obtain ⟨nw, hnw⟩ := upd_fun hd1.fresh (k := n) (by unfold maxLen; omega) hn1 hn2
        rw [esz] at hnw
        have hpb : p ≠ bf := fun e => by
          obtain ⟨es, c, h1⟩ := MapG.isMap h.fresh
          rw [← e, h.cells] at h1; cases h1
        have ncel : ∀ W g, OkW w1 W → (nw W g).heap[p]? = some (.cells (diskCells s.op bs bf) 84 (0, 0)) := fun W g hW =>
          ((hnw W g hW).2.2.grown.block p (Nat.lt_of_lt_of_le hd1.lt hW.size) (fun e => hpb (by cases e; rfl))).trans ((hW.block p hd1.lt).trans hd1.cells)
        have hall : Hid (∀ W, OkW w1 W → ((Instr.mapUpdate 82 (.map (some bf)) (.int .i64 n) (slV s.size w1.heap.size)).run Try.prog W = .ok () (nw W w1.heap.size) ∧ (nw W w1.heap.size).cell? ⟨p, 1, none⟩ = some (.int .i64 s.size) ∧ (nw W w1.heap.size).cell? ⟨p, 3, none⟩ = some (.map (some bf))) ∧ W.cell? ⟨p, 1, none⟩ = some (.int .i64 s.size) ∧ W.cell? ⟨p, 3, none⟩ = some (.map (some bf))) := by
          show ∀ W, _ → _
          intro W hW
          have hc : W.heap[p]? = some (.cells (diskCells s.op bs bf) 84 (0, 0)) := (hW.block p hd1.lt).trans hd1.cells
          have q1 := (disk_cell (ncel W w1.heap.size hW) 1 _ rfl).1
          have q2 := (disk_cell hc 1 _ rfl).1
          refine ⟨⟨(hnw W _ hW).1, ?_, (disk_cell (ncel W _ hW) 3 _ rfl).1⟩, ?_, (disk_cell hc 3 _ rfl).1⟩
          · rw [← esz]; exact q1
          · rw [← esz]; exact q2
        have hj : ∀ W, OkW w1 W → W.heap.size = w1.heap.size → Calls Try.prog 54 #[.int .i64 s.size, v] W fun e w2 => e = .returned (slV s.size w1.heap.size) ∧ Row w2 w1.heap.size (padded s.size ls.flatten) ∧ OkW w1 w2 := fun W hW hs => by
          refine (joined_any s.size ls v W (by omega) hll ht (hl1.grow hW)).mono ?_
          rintro e w2 ⟨rfl, hrow, hb⟩
          rw [hs] at hrow hb ⊢
          exact ⟨rfl, hrow, Below.trans hW hb⟩
        have hj0 : Hid _ := hj w1 (OkW.refl w1) rfl
        have hj1 : Hid _ := hj w1.drew (OkW.refl w1).drew rfl
        have hj2 : Hid _ := hj w1.drew.drew (OkW.refl w1).drew.drew rfl
        clear ncel hj
        replace hnw : Hid _ := hnw
        replace hl : Hid _ := hl
        replace hl1 : Hid _ := hl1
        go_region_held3 (fun w' => w'.cell? ⟨p, 1, none⟩ = some (.int .i64 s.size) ∧ w'.cell? ⟨p, 3, none⟩ = some (.map (some bf))) (go_keep) (first | (go_at_call 54; (first | refine Calls.mono hj1.out ?_ | refine Calls.mono hj0.out ?_ | refine Calls.mono hj2.out ?_); rintro e w2 ⟨rfl, hrow, hok⟩; obtain ⟨⟨hu2, hv2, hx2⟩, hy2, hz2⟩ := hall.out _ hok; obtain ⟨⟨hu3, hv3, hx3⟩, _, _⟩ := hall.out _ hok.drew; obtain ⟨⟨hu4, hv4, hx4⟩, _, _⟩ := hall.out _ hok.drew.drew))
        obtain ⟨_, hN2, hN3⟩ := hnw.out w2 w1.heap.size hok
        have hgr := hN3.grown
        have hbf := MapG.lt hd1.fresh
        have hfin : Hid (TurnedB w p F bs bf (s.op.wrote n (padded s.size ls.flatten)) (nw w2 w1.heap.size)) := by
          have hsz := hf1.size
          have hk : ∀ k, k < w1.heap.size → k ≠ bf → (nw w2 w1.heap.size).heap[k]? = w1.heap[k]? := fun k hk hb =>
            (hgr.block k (Nat.lt_of_lt_of_le hk hok.size) (fun e => hb (by cases e; rfl))).trans (hok.block k hk)
          have hrw : Row (nw w2 w1.heap.size) w1.heap.size (padded s.size ls.flatten) :=
            hrow.keep (hgr.block _ hrow.lt (fun e => by have := Option.some.inj e; omega))
          refine turnedB_of ((hd1.wrote (n := n) (x := padded s.size ls.flatten) (g := w1.heap.size) ?_ ?_ ?_ hrw hk (Nat.le_refl _)).wide (fun k hk => ?_)) ?_ ?_
          · rw [esz]; exact padded_len _ _ ht
          · rw [esec]; exact hn
          · rw [esz]; exact hN2
          · rcases hk with hk | hk
            · exact .inl hk
            · exact .inr (by omega)
          · have : s.op.ops = s.ops + 1 := by simp [St.op, hlv]
            show ns + (nf + 1) ≤ s.op.ops
            omega
          · refine hf1.trans (Frm.mk (F := fun k => k = bf) (hgr.os.trans hok.os) (hgr.tape.trans hok.tape) (hgr.output.trans hok.output) (Nat.le_trans hok.size hgr.size) (fun k hk' hb => hk k hk' hb)) (fun j hj => .inl (by rw [hj]; exact h.inF))
        clear hnw hall hj0 hj1 hj2 hN2 hN3 hgr hu2 hv2 hx2 hy2 hz2 hu3 hv3 hx3 hu4 hv4 hx4 hl hl1
        go_wp2
        go_ret
        exact ⟨rfl, hfin.out⟩
    · have hdt : decide (tot ls ≤ s.size) = false := by simpa using ht
      rw [hdt] at hfit
      have e1 : s.errWrite n ls = 1 := by simp [St.errWrite, hn, ht]
      have e2 : s.write n ls = s := by simp [St.write, hn, ht]
      rw [e1, e2]
      go_enter Try.func33, Try.ntmps33
      go_wp2_with (first | (go_at_call 52; refine hhas.mono ?_; rintro e w1 ⟨rfl, hw1⟩; subst w1) | (go_at_call 53; refine hfit.mono ?_; rintro e w1 ⟨rfl, hw1⟩; subst w1))
      go_ret
      exact ⟨rfl, turnedB_same hB⟩
  · have hdn : decide (0 ≤ n ∧ n < (s.sectors : Int)) = false := by simpa using hn
    have hhas := has_any h' n
    rw [hdn] at hhas
    have e1 : s.errWrite n ls = 2 := by unfold St.errWrite; rw [if_neg hn]
    have e2 : s.write n ls = s := by unfold St.write; rw [if_neg hn]
    rw [e1, e2]
    go_enter Try.func33, Try.ntmps33
    go_wp2_with (first | (go_at_call 52; refine hhas.mono ?_; rintro e w1 ⟨rfl, hw1⟩; subst w1))
    go_ret
    exact ⟨rfl, turnedB_same hB⟩
end
end Go.Proofs.Ytcgjolonapndgaa
