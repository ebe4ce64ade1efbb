/- The contract of Write. -/
import Derived.Test.YtcgjolonapndgaaSettle
namespace Go.Proofs.Ytcgjolonapndgaa
open Go.RowKit Go.Maps Go.ChangeMaps Go.MapKept

/-- What Write answers, and what it leaves. -/
def St.errWrite (s : St) (n : Int) (ls : List (List Int)) : Int := if 0 ≤ n ∧ n < s.sectors then (if tot ls ≤ s.size then s.errOp else 1) else 2
def St.wrote (s : St) (n : Int) (x : List Int) : St := { s with fresh := upd s.fresh n (some x) }
def St.write (s : St) (n : Int) (ls : List (List Int)) : St :=
  if 0 ≤ n ∧ n < s.sectors then (if tot ls ≤ s.size then (if s.live then s.op.wrote n (padded s.size ls.flatten) else s.op) else s) else s

/-- A disk's new state, and what else may have turned. -/
def Turned (w : World) (p : Nat) (F : Nat → Prop) (s' : St) (w' : World) : Prop := ∃ F', IsD w' p F' s' ∧ Frm F w w' ∧ ∀ k, F' k → (F k ∨ w.heap.size ≤ k) ∧ k < w'.heap.size

section
variable {w : World} {p : Nat} {F : Nat → Prop} {s : St} {bs bf ns nf : Nat} {gs gf : Int → Option Nat}
theorem IsDisk.wrote {W : World} {n : Int} {x : List Int} {g : Nat} (h : IsDisk w p F s bs bf ns nf gs gf) (hx : x.length = s.size) (hn : 0 ≤ n ∧ n < s.sectors) (hm : SMap s.size W bf (nf + 1) (upd gf n (some g))) (hr : Row W g x)
    (hk : ∀ k, k < w.heap.size → k ≠ bf → W.heap[k]? = w.heap[k]?) (hg : w.heap.size ≤ g) :
    IsDisk W p (fun k => F k ∨ w.heap.size ≤ k) (s.wrote n x) bs bf ns (nf + 1) gs (upd gf n (some g)) := by
  have hpf : p ≠ bf := fun e => by
    obtain ⟨es, c, h1⟩ := MapG.isMap h.fresh
    rw [← e, h.cells] at h1; cases h1
  have hrb : ∀ q y b n' m', Row w q y → SMap s.size w b n' m' → q ≠ b := fun q y b n' m' hr hm e => by
    obtain ⟨es, c, h1⟩ := MapG.isMap hm
    unfold Row at hr
    rw [e, h1] at hr; cases hr
  have hu1 : upd gf n (some g) n = some g := by simp [upd]
  have hu2 : ∀ m, m ≠ n → upd gf n (some g) m = gf m := fun m hm => by simp [upd, hm]
  have hs1 : (s.wrote n x).fresh n = some x := by simp [St.wrote, upd]
  have hs2 : ∀ m, m ≠ n → (s.wrote n x).fresh m = s.fresh m := fun m hm => by simp [St.wrote, upd, hm]
  exact {
    cells := (hk p h.lt hpf).trans h.cells
    safe := MapG.keep h.safe (hk bs (MapG.lt h.safe) h.apart)
    fresh := hm
    apart := h.apart
    safeNone := h.safeNone
    safeRow := fun m q hq => (h.safeRow m q hq).keep (hk q (h.safeRow m q hq).lt (hrb q _ bf _ _ (h.safeRow m q hq) h.fresh))
    safeLen := h.safeLen
    safeInj := h.safeInj
    freshNone := fun m hm => by
      by_cases e : m = n
      · subst e; rw [hu1] at hm; cases hm
      · rw [hu2 m e] at hm; rw [hs2 m e]; exact h.freshNone m hm
    freshRow := fun m q hq => by
      by_cases e : m = n
      · subst e; rw [hu1] at hq; cases hq; exact ⟨x, hs1, hx, hr⟩
      · rw [hu2 m e] at hq
        obtain ⟨y, h1, h2, h3⟩ := h.freshRow m q hq
        exact ⟨y, (hs2 m e).trans h1, h2, h3.keep (hk q h3.lt (hrb q _ bf _ _ h3 h.fresh))⟩
    freshIn := fun m q hq => by
      by_cases e : m = n
      · subst e; exact hn
      · rw [hu2 m e] at hq; exact h.freshIn m q hq
    unlike := fun a b q ha hb => by
      by_cases e : b = n
      · subst e; rw [hu1] at hb; cases hb
        have := (h.safeRow a g ha).lt; omega
      · rw [hu2 b e] at hb; exact h.unlike a b q ha hb
    inP := .inl h.inP
    inS := .inl h.inS
    inF := .inl h.inF
    inG := fun m q hq => .inl (h.inG m q hq)
    inH := fun m q hq => by
      by_cases e : m = n
      · subst e; rw [hu1] at hq; cases hq; exact .inr hg
      · rw [hu2 m e] at hq; exact .inl (h.inH m q hq)
    sec1 := h.sec1
    sec2 := h.sec2
    size1 := h.size1
    size2 := h.size2
    left1 := h.left1
    left2 := h.left2 }

/-- A disk's blocks are blocks that there are. -/
theorem IsDisk.tight (h : IsDisk w p F s bs bf ns nf gs gf) : IsDisk w p (fun k => F k ∧ k < w.heap.size) s bs bf ns nf gs gf :=
  { h with
    inP := ⟨h.inP, h.lt⟩
    inS := ⟨h.inS, MapG.lt h.safe⟩
    inF := ⟨h.inF, MapG.lt h.fresh⟩
    inG := fun n g hg => ⟨h.inG n g hg, (h.safeRow n g hg).lt⟩
    inH := fun n g hg => ⟨h.inH n g hg, by obtain ⟨_, _, _, h3⟩ := h.freshRow n g hg; exact h3.lt⟩ }
theorem turned_of {W : World} {s' : St} {bs bf ns nf : Nat} {gs gf : Int → Option Nat} (h : IsDisk W p (fun k => F k ∨ w.heap.size ≤ k) s' bs bf ns nf gs gf) (hr : ns + nf ≤ s'.ops) (hf : Frm F w W) : Turned w p F s' W :=
  ⟨_, ⟨bs, bf, ns, nf, gs, gf, h.tight, hr⟩, hf, fun _ hk => hk⟩
theorem turned_same (h : IsD w p F s) : Turned w p F s w := by
  obtain ⟨bs, bf, ns, nf, gs, gf, h, hr⟩ := h
  exact turned_of (h.wide fun k hk => .inl hk) hr (Frm.refl _ _)

set_option maxRecDepth 100000 in
set_option maxHeartbeats 4000000 in
theorem write_any (h : IsD w p F s) (hops : s.ops < 17592186044416) (n : Int) (v : Value) (ls : List (List Int)) (hl : ∀ W, Frm F w W → Lists W v ls) (hll : ls.length ≤ 1000000) (hn1 : -9223372036854775808 ≤ n) (hn2 : n ≤ 9223372036854775807) :
    Calls Try.prog 33 #[.pointer (some ⟨p, 0, none⟩), .int .i64 n, v] w fun e w' => e = .returned (.int .i64 (s.errWrite n ls)) ∧ Turned w p F (s.write n ls) w' := by
  have h' := h
  obtain ⟨bs, bf, ns, nf, gs, gf, h, hr⟩ := h
  have c1 := h.c1
  have hz := h.size2
  by_cases hn : 0 ≤ n ∧ n < s.sectors
  · have hdn : decide (0 ≤ n ∧ n < (s.sectors : Int)) = true := by simpa using hn
    have hhas := has_any h' n
    rw [hdn] at hhas
    have hfit := fit_any s.size ls v w (by omega) (by omega) (hl w (Frm.refl _ _))
    by_cases ht : tot ls ≤ s.size
    · have hdt : decide (tot ls ≤ s.size) = true := by simpa using ht
      rw [hdt] at hfit
      have hop := operate_any h (by omega)
      cases hlv : s.live with
      | false =>
        have e1 : s.errWrite n ls = 20 := by simp [St.errWrite, hn, ht, St.errOp, hlv]
        have e2 : s.write n ls = s.op := by simp [St.write, hn, ht, hlv]
        have e3 : s.errOp = 20 := by simp [St.errOp, hlv]
        rw [e3] at hop
        rw [e1, e2]
        go_enter Try.func33, Try.ntmps33
        go_wp2_with (first | (go_at_call 52; refine hhas.mono ?_; rintro e w1 ⟨rfl, hw1⟩; subst w1) | (go_at_call 53; refine hfit.mono ?_; rintro e w1 ⟨rfl, hw1⟩; subst w1) | (go_at_call 47; refine hop.mono ?_; rintro e w1 ⟨rfl, hd1, hg1⟩))
        go_ret
        refine ⟨rfl, turned_of (hd1.wide fun k hk => .inl hk) ?_ (Frm.of_grown hg1 (fun j e => by cases e; exact .inl h.inP))⟩
        have := op_same s; omega
      | true =>
        have e1 : s.errWrite n ls = 0 := by simp [St.errWrite, hn, ht, St.errOp, hlv]
        have e2 : s.write n ls = s.op.wrote n (padded s.size ls.flatten) := by simp [St.write, hn, ht, hlv]
        have e3 : s.errOp = 0 := by simp [St.errOp, hlv]
        rw [e3] at hop
        rw [e1, e2]
        go_enter Try.func33, Try.ntmps33
        go_wp2_with (first | (go_at_call 52; refine hhas.mono ?_; rintro e w1 ⟨rfl, hw1⟩; subst w1) | (go_at_call 53; refine hfit.mono ?_; rintro e w1 ⟨rfl, hw1⟩; subst w1) | (go_at_call 47; refine hop.mono ?_; rintro e w1 ⟨rfl, hd1, hg1⟩))
        have hf1 : Frm F w w1 := Frm.of_grown hg1 (fun j e => by cases e; exact .inl h.inP)
        have hl1 := hl w1 hf1
        obtain ⟨esec, esz, _, _, hop1, hop2⟩ := op_same s
        have c1' := hd1.c1
        have c3' := hd1.c3
        rw [esz] at c1'
        obtain ⟨nw, hnw⟩ := upd_fun hd1.fresh (k := n) (by unfold maxLen; omega) hn1 hn2
        rw [esz] at hnw
        have hpb : p ≠ bf := fun e => by
          obtain ⟨es, c, h1⟩ := MapG.isMap h.fresh
          rw [← e, h.cells] at h1; cases h1
        have ncel : ∀ W g, OkW w1 W → (nw W g).heap[p]? = some (.cells (diskCells s.op bs bf) 84 (0, 0)) := fun W g hW =>
          ((hnw W g hW).2.2.grown.block p (Nat.lt_of_lt_of_le hd1.lt hW.size) (fun e => hpb (by cases e; rfl))).trans ((hW.block p hd1.lt).trans hd1.cells)
        have hall : Hid (∀ W, OkW w1 W → ((Instr.mapUpdate 82 (.map (some bf)) (.int .i64 n) (slV s.size w1.heap.size)).run Try.prog W = .ok () (nw W w1.heap.size) ∧ (nw W w1.heap.size).cell? ⟨p, 1, none⟩ = some (.int .i64 s.size) ∧ (nw W w1.heap.size).cell? ⟨p, 3, none⟩ = some (.map (some bf))) ∧ W.cell? ⟨p, 1, none⟩ = some (.int .i64 s.size) ∧ W.cell? ⟨p, 3, none⟩ = some (.map (some bf))) := by
          show ∀ W, _ → _
          intro W hW
          have hc : W.heap[p]? = some (.cells (diskCells s.op bs bf) 84 (0, 0)) := (hW.block p hd1.lt).trans hd1.cells
          have q1 := (disk_cell (ncel W w1.heap.size hW) 1 _ rfl).1
          have q2 := (disk_cell hc 1 _ rfl).1
          refine ⟨⟨(hnw W _ hW).1, ?_, (disk_cell (ncel W _ hW) 3 _ rfl).1⟩, ?_, (disk_cell hc 3 _ rfl).1⟩
          · rw [← esz]; exact q1
          · rw [← esz]; exact q2
        have hj : ∀ W, OkW w1 W → W.heap.size = w1.heap.size → Calls Try.prog 54 #[.int .i64 s.size, v] W fun e w2 => e = .returned (slV s.size w1.heap.size) ∧ Row w2 w1.heap.size (padded s.size ls.flatten) ∧ OkW w1 w2 := fun W hW hs => by
          refine (joined_any s.size ls v W (by omega) hll ht (hl1.grow hW)).mono ?_
          rintro e w2 ⟨rfl, hrow, hb⟩
          rw [hs] at hrow hb ⊢
          exact ⟨rfl, hrow, Below.trans hW hb⟩
        have hj0 : Hid _ := hj w1 (OkW.refl w1) rfl
        have hj1 : Hid _ := hj w1.drew (OkW.refl w1).drew rfl
        have hj2 : Hid _ := hj w1.drew.drew (OkW.refl w1).drew.drew rfl
        clear ncel hj
        replace hnw : Hid _ := hnw
        replace hl : Hid _ := hl
        replace hl1 : Hid _ := hl1
        go_region_held3 (fun w' => w'.cell? ⟨p, 1, none⟩ = some (.int .i64 s.size) ∧ w'.cell? ⟨p, 3, none⟩ = some (.map (some bf))) (go_keep) (first | (go_at_call 54; (first | refine Calls.mono hj1.out ?_ | refine Calls.mono hj0.out ?_ | refine Calls.mono hj2.out ?_); rintro e w2 ⟨rfl, hrow, hok⟩; obtain ⟨⟨hu2, hv2, hx2⟩, hy2, hz2⟩ := hall.out _ hok; obtain ⟨⟨hu3, hv3, hx3⟩, _, _⟩ := hall.out _ hok.drew; obtain ⟨⟨hu4, hv4, hx4⟩, _, _⟩ := hall.out _ hok.drew.drew))
        obtain ⟨_, hN2, hN3⟩ := hnw.out w2 w1.heap.size hok
        have hgr := hN3.grown
        have hbf := MapG.lt hd1.fresh
        have hfin : Hid (Turned w p F (s.op.wrote n (padded s.size ls.flatten)) (nw w2 w1.heap.size)) := by
          have hsz := hf1.size
          have hk : ∀ k, k < w1.heap.size → k ≠ bf → (nw w2 w1.heap.size).heap[k]? = w1.heap[k]? := fun k hk hb =>
            (hgr.block k (Nat.lt_of_lt_of_le hk hok.size) (fun e => hb (by cases e; rfl))).trans (hok.block k hk)
          have hrw : Row (nw w2 w1.heap.size) w1.heap.size (padded s.size ls.flatten) :=
            hrow.keep (hgr.block _ hrow.lt (fun e => by have := Option.some.inj e; omega))
          refine turned_of ((hd1.wrote (n := n) (x := padded s.size ls.flatten) (g := w1.heap.size) ?_ ?_ ?_ hrw hk (Nat.le_refl _)).wide (fun k hk => ?_)) ?_ ?_
          · rw [esz]; exact padded_len _ _ ht
          · rw [esec]; exact hn
          · rw [esz]; exact hN2
          · rcases hk with hk | hk
            · exact .inl hk
            · exact .inr (by omega)
          · have : s.op.ops = s.ops + 1 := by simp [St.op, hlv]
            show ns + (nf + 1) ≤ s.op.ops
            omega
          · refine hf1.trans (Frm.mk (F := fun k => k = bf) (hgr.os.trans hok.os) (hgr.tape.trans hok.tape) (hgr.output.trans hok.output) (Nat.le_trans hok.size hgr.size) (fun k hk' hb => hk k hk' hb)) (fun j hj => .inl (by rw [hj]; exact h.inF))
        clear hnw hall hj0 hj1 hj2 hN2 hN3 hgr hu2 hv2 hx2 hy2 hz2 hu3 hv3 hx3 hu4 hv4 hx4 hl hl1
        go_wp2
        go_ret
        exact ⟨rfl, hfin.out⟩
    · have hdt : decide (tot ls ≤ s.size) = false := by simpa using ht
      rw [hdt] at hfit
      have e1 : s.errWrite n ls = 1 := by simp [St.errWrite, hn, ht]
      have e2 : s.write n ls = s := by simp [St.write, hn, ht]
      rw [e1, e2]
      go_enter Try.func33, Try.ntmps33
      go_wp2_with (first | (go_at_call 52; refine hhas.mono ?_; rintro e w1 ⟨rfl, hw1⟩; subst w1) | (go_at_call 53; refine hfit.mono ?_; rintro e w1 ⟨rfl, hw1⟩; subst w1))
      go_ret
      exact ⟨rfl, turned_same h'⟩
  · have hdn : decide (0 ≤ n ∧ n < (s.sectors : Int)) = false := by simpa using hn
    have hhas := has_any h' n
    rw [hdn] at hhas
    have e1 : s.errWrite n ls = 2 := by unfold St.errWrite; rw [if_neg hn]
    have e2 : s.write n ls = s := by unfold St.write; rw [if_neg hn]
    rw [e1, e2]
    go_enter Try.func33, Try.ntmps33
    go_wp2_with (first | (go_at_call 52; refine hhas.mono ?_; rintro e w1 ⟨rfl, hw1⟩; subst w1))
    go_ret
    exact ⟨rfl, turned_same h'⟩
end
end Go.Proofs.Ytcgjolonapndgaa
