/- The contract of lay. -/
import Derived.Test.YtcgjolonapndgaaJoin
import Derived.Deep.RegionHeld3
import Derived.Deep.QuietTactic
import Derived.BigQuiet
import Derived.Lib.SliceRun
namespace Go.Proofs.Ytcgjolonapndgaa
open Go.RowKit Go.Maps Go.ChangeMaps Go.MapKept

/-- What was there is there; new blocks may have come. -/
def OkW (w W : World) : Prop := Below w.heap.size w W
theorem OkW.refl (w : World) : OkW w w := Below.refl _ _
theorem OkW.drew {w W : World} (h : OkW w W) : OkW w W.drew := ⟨h.os, h.tape, h.output, h.size, h.block⟩
theorem OkW.alloc {w W : World} (h : OkW w W) (O : Obj) : OkW w (W.alloc O) := Below.alloc h h.size O
/-- The store into a map of a disk as one function of the world. -/
theorem upd_fun {w : World} {s : Nat} {b n : Nat} {m : Int → Option Nat} (h : SMap s w b n m) (hn : n < maxLen) {k : Int} (h1 : -9223372036854775808 ≤ k) (h2 : k ≤ 9223372036854775807) :
    ∃ nw : World → Nat → World, ∀ W g, OkW w W → (Instr.mapUpdate 82 (.map (some b)) (.int .i64 k) (slV s g)).run Try.prog W = .ok () (nw W g) ∧ SMap s (nw W g) b (n + 1) (upd m k (some g)) ∧ W.mapTurned (nw W g) b := by
  have key : ∀ (x : World × Nat), ∃ W', OkW w x.1 → (Instr.mapUpdate 82 (.map (some b)) (.int .i64 k) (slV s x.2)).run Try.prog x.1 = .ok () W' ∧ SMap s W' b (n + 1) (upd m k (some x.2)) ∧ x.1.mapTurned W' b := fun x => by
    by_cases hx : OkW w x.1
    · have hm : SMap s x.1 b n m := MapG.keep h (hx.block b (MapG.lt h))
      obtain ⟨W', h3⟩ := hm.update hn h1 h2 x.2
      exact ⟨W', fun _ => h3⟩
    · exact ⟨x.1, fun h => absurd h hx⟩
  obtain ⟨f, hf⟩ := Classical.axiomOfChoice key
  exact ⟨fun W g => f (W, g), fun W g hW => hf (W, g) hW⟩

section
variable {w : World} {p : Nat} {F : Nat → Prop} {s : St} {bs bf ns nf : Nat} {gs gf : Int → Option Nat}
/-- What a disk holds when x was laid over the first bytes of sector n. -/
def over (x old : List Int) : List Int := x ++ old.drop x.length
theorem over_len (x old : List Int) (h : x.length ≤ old.length) : (over x old).length = old.length := by simp [over]; omega
def St.lay (s : St) (n : Int) (x : List Int) : St := { s with safe := upd s.safe n (over x (s.safe n)) }
theorem St.lay_nil (s : St) (n : Int) : s.lay n [] = s := by
  unfold St.lay
  have : upd s.safe n (over [] (s.safe n)) = s.safe := by
    funext j; unfold upd over; split
    · rename_i e; simp [e]
    · rfl
  rw [this]

/-- Sector n's safe bytes lie in block g now. -/
theorem IsDisk.laid {W : World} {n : Int} {x : List Int} {g ns' : Nat} (h : IsDisk w p F s bs bf ns nf gs gf) (hx : x.length ≤ s.size) (hm : SMap s.size W bs ns' (upd gs n (some g))) (hr : Row W g (over x (s.safe n)))
    (hk : ∀ k, k < w.heap.size → k ≠ bs → k ≠ g → W.heap[k]? = w.heap[k]?) (hg : gs n = some g ∨ (gs n = none ∧ w.heap.size ≤ g)) :
    IsDisk W p (fun k => F k ∨ w.heap.size ≤ k) (s.lay n x) bs bf ns' nf (upd gs n (some g)) gf := by
  have hps : p ≠ bs := fun e => by
    obtain ⟨es, c, h1⟩ := MapG.isMap h.safe
    rw [← e, h.cells] at h1; cases h1
  have hgl : ∀ m q, gs m = some q → q < w.heap.size := fun m q hq => (h.safeRow m q hq).lt
  have hbs := MapG.lt h.safe
  have hbf := MapG.lt h.fresh
  have hrb : ∀ q y b n' m', Row w q y → SMap s.size w b n' m' → q ≠ b := fun q y b n' m' hr hm e => by
    obtain ⟨es, c, h1⟩ := MapG.isMap hm
    unfold Row at hr
    rw [e, h1] at hr; cases hr
  have hpg : p ≠ g := fun e => by
    rcases hg with hg | ⟨_, hg⟩
    · exact row_ne (h.safeRow n g hg) h.cells e.symm
    · have := h.lt; omega
  have hfg : bf ≠ g := fun e => by
    rcases hg with hg | ⟨_, hg⟩
    · exact hrb g _ bf _ _ (h.safeRow n g hg) h.fresh e.symm
    · omega
  have ho : ∀ m, m ≠ n → gs m ≠ some g := fun m hne e => by
    rcases hg with hg | ⟨_, hg⟩
    · exact hne (h.safeInj m n g e hg)
    · have := hgl m g e; omega
  have hlen := over_len x (s.safe n) (by rw [h.safeLen]; exact hx)
  have hu1 : upd gs n (some g) n = some g := by simp [upd]
  have hu2 : ∀ m, m ≠ n → upd gs n (some g) m = gs m := fun m hm => by simp [upd, hm]
  have hs1 : (s.lay n x).safe n = over x (s.safe n) := by simp [St.lay, upd]
  have hs2 : ∀ m, m ≠ n → (s.lay n x).safe m = s.safe m := fun m hm => by simp [St.lay, upd, hm]
  exact {
    cells := (hk p h.lt hps hpg).trans h.cells
    safe := hm
    fresh := MapG.keep h.fresh (hk bf hbf (fun e => h.apart e.symm) hfg)
    apart := h.apart
    safeNone := fun m hm => by
      by_cases e : m = n
      · subst e; rw [hu1] at hm; cases hm
      · rw [hu2 m e] at hm; rw [hs2 m e]; exact h.safeNone m hm
    safeRow := fun m q hq => by
      by_cases e : m = n
      · subst e; rw [hu1] at hq; cases hq; rw [hs1]; exact hr
      · rw [hu2 m e] at hq
        rw [hs2 m e]
        have hrow := h.safeRow m q hq
        exact hrow.keep (hk q hrow.lt (hrb q _ bs _ _ hrow h.safe) (fun e' => ho m e (e' ▸ hq)))
    safeLen := fun m => by
      by_cases e : m = n
      · subst e; rw [hs1, hlen]; exact h.safeLen m
      · rw [hs2 m e]; exact h.safeLen m
    safeInj := fun a b q ha hb => by
      by_cases e1 : a = n
      · by_cases e2 : b = n
        · rw [e1, e2]
        · rw [e1, hu1] at ha; cases ha
          rw [hu2 b e2] at hb
          exact absurd hb (ho b e2)
      · by_cases e2 : b = n
        · rw [e2, hu1] at hb; cases hb
          rw [hu2 a e1] at ha
          exact absurd ha (ho a e1)
        · rw [hu2 a e1] at ha; rw [hu2 b e2] at hb
          exact h.safeInj a b q ha hb
    freshNone := h.freshNone
    freshRow := fun m q hq => by
      obtain ⟨y, h1, h2, h3⟩ := h.freshRow m q hq
      refine ⟨y, h1, h2, h3.keep (hk q h3.lt (hrb q _ bs _ _ h3 h.safe) (fun e' => ?_))⟩
      rcases hg with hg | ⟨_, hg⟩
      · exact h.unlike n m g hg (e' ▸ hq)
      · have := h3.lt; omega
    freshIn := h.freshIn
    unlike := fun a b q ha hb => by
      by_cases e1 : a = n
      · rw [e1, hu1] at ha; cases ha
        rcases hg with hg | ⟨_, hg⟩
        · exact h.unlike n b g hg hb
        · obtain ⟨y, _, _, h3⟩ := h.freshRow b g hb
          have := h3.lt; omega
      · rw [hu2 a e1] at ha
        exact h.unlike a b q ha hb
    inP := .inl h.inP
    inS := .inl h.inS
    inF := .inl h.inF
    inG := fun m q hq => by
      by_cases e : m = n
      · subst e; rw [hu1] at hq; cases hq
        rcases hg with hg | ⟨_, hg⟩
        · exact .inl (h.inG m g hg)
        · exact .inr hg
      · rw [hu2 m e] at hq; exact .inl (h.inG m q hq)
    inH := fun m q hq => .inl (h.inH m q hq)
    sec1 := h.sec1
    sec2 := h.sec2
    size1 := h.size1
    size2 := h.size2
    left1 := h.left1
    left2 := h.left2 }

theorem splice_over (x old : List Int) : splice old 0 x = over x old := by simp [splice, over]
theorem upd_same {m : Int → Option Nat} {n : Int} {g : Nat} (h : m n = some g) : upd m n (some g) = m := by
  funext j; unfold upd; split
  · rename_i e; rw [e, h]
  · rfl

theorem cell_ne_map {b o t n' : Nat} {v : Value} {m' : Int → Option Nat} (hc : w.cell? ⟨b, o, none⟩ = some v) (hm : SMap t w bs n' m') : b ≠ bs := fun e => by
  obtain ⟨es, c, h1⟩ := MapG.isMap hm
  simp [World.cell?, e, h1] at hc
/-- What lay leaves. -/
def Laid (w : World) (p : Nat) (F : Nat → Prop) (s : St) (bs bf ns nf : Nat) (gs gf : Int → Option Nat) (n : Int) (x : List Int) (w' : World) : Prop :=
  ∃ ns' gs', ns' ≤ ns + 1 ∧ IsDisk w' p (fun k => F k ∨ w.heap.size ≤ k) (s.lay n x) bs bf ns' nf gs' gf ∧ Frm (fun k => k = bs ∨ ∃ m, gs m = some k) w w' ∧ ∀ m q, gs' m = some q → gs m = some q ∨ w.heap.size ≤ q

set_option maxRecDepth 100000 in
set_option maxHeartbeats 1000000 in
theorem lay_none (n : Int) (x : List Int) (sp : Option Addr) (c : Nat) (hx0 : 0 < x.length) (hx : x.length ≤ s.size) (hsrc : x = [] ∨ ∃ b o, sp = some ⟨b, o, none⟩ ∧ Rest w 0 x.length b o fun t => Value.int .u8 (x.getD t 0)) (h : IsDisk w p F s bs bf ns nf gs gf) (hns : ns < 4611686018427387904) (hn1 : -9223372036854775808 ≤ n) (hn2 : n ≤ 9223372036854775807) (hg : gs n = none) :
    Calls Try.prog 58 #[.pointer (some ⟨p, 0, none⟩), .int .i64 n, .slice sp x.length c] w fun e w' => e = .returned (.tuple #[]) ∧ Laid w p F s bs bf ns nf gs gf n x w' := by
  obtain ⟨k, hkl⟩ : ∃ k, k = x.length := ⟨_, rfl⟩
  rw [← hkl] at hx0 ⊢
  have c1 := h.c1
  have c2 := h.c2
  have hlk := SMap.look h.safe hn1 hn2
  rw [hg] at hlk
  simp only [slAt] at hlk
  have hz := h.size2
  have hmk : ∀ W, (Instr.makeSlice 23 (.int .i64 s.size) (.int .i64 s.size)).run Try.prog W = _ := fun W => makeZ W s.size (by omega)
  generalize HO : Obj.cells ((zeros s.size).map (Value.int .u8)).toArray 5 = O at hmk
  replace HO : Hid _ := HO
  have hkk : ((k : Int) == 0) = false := by simp; omega
  replace hkl : Hid _ := hkl
  have hq : ∀ (w : World) (a : Option Addr) (n c n' c' : Nat), (binOp .eql 23 (.slice a n c) (.slice none n' c')).run Try.prog w = .ok (.bool a.isNone) w := fun w a n c n' c' => Lib.run_eql_slice_nil w _ _ a n c n' c' Try.underlying23
  obtain ⟨nw, hnw⟩ := upd_fun h.safe (by unfold maxLen; omega) hn1 hn2
  have hu1 : ∀ W g, OkW w W → (Instr.mapUpdate 82 (.map (some bs)) (.int .i64 n) (slV s.size g)).run Try.prog W = .ok () (nw W g) := fun W g hW => (hnw W g hW).1
  have hpb : p ≠ bs := fun e => by
    obtain ⟨es, c, h1⟩ := MapG.isMap h.safe
    rw [← e, h.cells] at h1; cases h1
  have ncel : ∀ W g, OkW w W → (nw W g).heap[p]? = some (.cells (diskCells s bs bf) 84 (0, 0)) := fun W g hW =>
    ((hnw W g hW).2.2.grown.block p (Nat.lt_of_lt_of_le h.lt hW.size) (fun e => hpb (by cases e; rfl))).trans ((hW.block p h.lt).trans h.cells)
  have ok0 : OkW w (w.alloc O) := (OkW.refl w).alloc O
  have hall : ∀ W, OkW w W → (Instr.mapUpdate 82 (.map (some bs)) (.int .i64 n) (slV s.size w.heap.size)).run Try.prog W = .ok () (nw W w.heap.size) ∧ (nw W w.heap.size).cell? ⟨p, 1, none⟩ = some (.int .i64 s.size) ∧ (nw W w.heap.size).cell? ⟨p, 2, none⟩ = some (.map (some bs)) :=
    fun W hW => ⟨hu1 W _ hW, (disk_cell (ncel W _ hW) 1 _ rfl).1, (disk_cell (ncel W _ hW) 2 _ rfl).1⟩
  obtain ⟨hu2, hv2, hw2⟩ := hall _ ok0
  obtain ⟨hu3, hv3, hw3⟩ := hall _ ok0.drew
  obtain ⟨hu4, hv4, hw4⟩ := hall _ ok0.drew.drew
  obtain ⟨hu5, hv5, hw5⟩ := hall _ ok0.drew.drew.drew
  obtain ⟨hu6, hv6, hw6⟩ := hall _ ok0.drew.drew.drew.drew
  clear hu1 ncel hall
  replace hnw : Hid _ := hnw
  go_enter Try.func58, Try.ntmps58
  go_wp2
  go_region_held3 (fun w' => w'.cell? ⟨p, 1, none⟩ = some (.int .i64 s.size) ∧ w'.cell? ⟨p, 2, none⟩ = some (.map (some bs))) (go_keep) (fail)
  obtain ⟨hN1, hN2, hN3⟩ := hnw.out (w.alloc O).drew w.heap.size ok0.drew
  have hgr := hN3.grown
  have hbs := MapG.lt h.safe
  have hnew : (nw (w.alloc O).drew w.heap.size).heap[w.heap.size]? = some O :=
    (hgr.block w.heap.size (by simp) (fun e => by cases e; omega)).trans (heap_alloc w O).1
  have hold : ∀ k, k < w.heap.size → k ≠ bs → (nw (w.alloc O).drew w.heap.size).heap[k]? = w.heap[k]? := fun k hk hb =>
    (hgr.block k (by simp; omega) (fun e => hb (by cases e; rfl))).trans (ok0.drew.block k hk)
  have hosz : w.heap.size ≤ (nw (w.alloc O).drew w.heap.size).heap.size := Nat.le_trans ok0.drew.size hgr.size
  have hfr0 : Frm (fun k => k = bs ∨ ∃ m, gs m = some k) w (nw (w.alloc O).drew w.heap.size) :=
    ⟨hgr.os.trans ok0.drew.os, hgr.tape.trans ok0.drew.tape, hgr.output.trans ok0.drew.output, hosz, fun k hk hn => hold k hk (fun e => hn (.inl e))⟩
  clear hu2 hv2 hw2 hu4 hv4 hw4 hu5 hv5 hw5 hu6 hv6 hw6 hu3 hN1 hN3 hgr hnw hlk
  generalize nw (w.alloc O).drew w.heap.size = W at *
  have hrow : Row W w.heap.size (zeros s.size) := by rw [← HO.out] at hnew; exact hnew
  have hlk2 := SMap.look hN2 hn1 hn2
  simp only [upd, if_true, slAt] at hlk2
  have hsrc2 : x = [] ∨ ∃ b o, sp = some ⟨b, o, none⟩ ∧ Rest W 0 x.length b o fun t => Value.int .u8 (x.getD t 0) := by
    rcases hsrc with h0 | ⟨b, o, h1, h2⟩
    · exact .inl h0
    · refine .inr ⟨b, o, h1, fun t h0 ht => ?_⟩
      have hc := h2 t h0 ht
      have hb := World.block_lt_of_cell? w _ hc
      exact (World.cell?_of_block (w := w) (w' := W) (a := ⟨b, o + t, none⟩) (hold b hb (cell_ne_map hc h.safe))).trans hc
  obtain ⟨W2, hcp, hrow2, _, hg2⟩ := copyR (w := W) (w0 := W) (B := 0) (some ⟨w.heap.size, 0, none⟩) sp s.size s.size c w.heap.size 0 (zeros s.size) x hx hrow (Below.refl _ _) (Nat.zero_le _) (fun _ => rfl) (by simp [zeros]; omega) hsrc2
  rw [← hkl.out] at hcp
  rw [splice_over] at hrow2
  simp only [slV] at *
  replace hrow2 : Hid _ := hrow2
  go_wp2
  go_end0
  refine ⟨rfl, ns + 1, upd gs n (some w.heap.size), Nat.le_refl _, ?_, ?_, ?_⟩
  · refine h.laid hx ?_ ?_ ?_ (.inr ⟨hg, Nat.le_refl _⟩)
    · exact MapG.keep hN2 (hg2.block bs (by omega) (fun e => by cases e; omega))
    · rw [h.safeNone n hg]; exact hrow2.out
    · intro k hk hb hne
      exact (hg2.block k (by omega) (fun e => hne (by cases e; rfl))).trans (hold k hk hb)
  · exact hfr0.trans (Frm.of_grown (F := fun k => w.heap.size ≤ k) hg2 (fun j e => by cases e; exact .inl (Nat.le_refl _))) (fun j hj => .inr hj)
  · intro m q hq
    unfold upd at hq
    split at hq
    · cases hq; exact .inr (Nat.le_refl _)
    · exact .inl hq

set_option maxRecDepth 100000 in
set_option maxHeartbeats 1000000 in
theorem lay_some (n : Int) (x : List Int) (sp : Option Addr) (c : Nat) (hx0 : 0 < x.length) (hx : x.length ≤ s.size) (hsrc : x = [] ∨ ∃ b o, sp = some ⟨b, o, none⟩ ∧ Rest w 0 x.length b o fun t => Value.int .u8 (x.getD t 0)) (h : IsDisk w p F s bs bf ns nf gs gf) (hn1 : -9223372036854775808 ≤ n) (hn2 : n ≤ 9223372036854775807) (g : Nat) (hg : gs n = some g) :
    Calls Try.prog 58 #[.pointer (some ⟨p, 0, none⟩), .int .i64 n, .slice sp x.length c] w fun e w' => e = .returned (.tuple #[]) ∧ Laid w p F s bs bf ns nf gs gf n x w' := by
  obtain ⟨k, hkl⟩ : ∃ k, k = x.length := ⟨_, rfl⟩
  rw [← hkl] at hx0 ⊢
  have c1 := h.c1
  have c2 := h.c2
  have hlk := SMap.look h.safe hn1 hn2
  rw [hg] at hlk
  simp only [slAt, slV] at hlk
  have hz := h.size2
  have hkk : ((k : Int) == 0) = false := by simp; omega
  have hq : ∀ (w : World) (a : Option Addr) (n c n' c' : Nat), (binOp .eql 23 (.slice a n c) (.slice none n' c')).run Try.prog w = .ok (.bool a.isNone) w := fun w a n c n' c' => Lib.run_eql_slice_nil w _ _ a n c n' c' Try.underlying23
  have hrow := h.safeRow n g hg
  have hlen := h.safeLen n
  obtain ⟨W2, hcp, hrow2, _, hg2⟩ := copyR (w := w) (w0 := w) (B := 0) (some ⟨g, 0, none⟩) sp s.size s.size c g 0 (s.safe n) x hx hrow (Below.refl _ _) (Nat.zero_le _) (fun _ => rfl) (by omega) hsrc
  rw [← hkl] at hcp
  rw [splice_over] at hrow2
  replace hkl : Hid _ := hkl
  replace hrow2 : Hid _ := hrow2
  go_enter Try.func58, Try.ntmps58
  go_wp2
  go_end0
  have hbg : bs ≠ g := fun e => by
    obtain ⟨es, c, h1⟩ := MapG.isMap h.safe
    unfold Row at hrow
    rw [← e, h1] at hrow; cases hrow
  refine ⟨rfl, ns, upd gs n (some g), Nat.le_succ _, ?_, ?_, ?_⟩
  · refine h.laid hx ?_ hrow2.out ?_ (.inl hg)
    · rw [upd_same hg]
      exact MapG.keep h.safe (hg2.block bs (MapG.lt h.safe) (fun e => hbg (by cases e; rfl)))
    · intro k hk hb hne
      exact hg2.block k hk (fun e => hne (by cases e; rfl))
  · exact Frm.of_grown hg2 (fun j e => by cases e; exact .inl (.inr ⟨n, hg⟩))
  · intro m q hq
    rw [upd_same hg] at hq
    exact .inl hq

set_option maxRecDepth 100000 in
theorem lay_empty (n : Int) (sp : Option Addr) (c : Nat) : Calls Try.prog 58 #[.pointer (some ⟨p, 0, none⟩), .int .i64 n, .slice sp 0 c] w fun e w' => e = .returned (.tuple #[]) ∧ w' = w := by
  go_enter Try.func58, Try.ntmps58
  go_wp2
  refine bodyPost_ret (results_none rfl _ _ _) rfl ?_
  exact ⟨rfl, rfl⟩

/-- A disk's footprint may be told larger. -/
theorem IsDisk.wide {F' : Nat → Prop} (h : IsDisk w p F s bs bf ns nf gs gf) (hF : ∀ k, F k → F' k) : IsDisk w p F' s bs bf ns nf gs gf :=
  { h with inP := hF _ h.inP, inS := hF _ h.inS, inF := hF _ h.inF, inG := fun n g hg => hF _ (h.inG n g hg), inH := fun n g hg => hF _ (h.inH n g hg) }

theorem lay_any (n : Int) (x : List Int) (sp : Option Addr) (c : Nat) (hx : x.length ≤ s.size) (hsrc : x = [] ∨ ∃ b o, sp = some ⟨b, o, none⟩ ∧ Rest w 0 x.length b o fun t => Value.int .u8 (x.getD t 0)) (h : IsDisk w p F s bs bf ns nf gs gf) (hns : ns < 4611686018427387904) (hn1 : -9223372036854775808 ≤ n) (hn2 : n ≤ 9223372036854775807) :
    Calls Try.prog 58 #[.pointer (some ⟨p, 0, none⟩), .int .i64 n, .slice sp x.length c] w fun e w' => e = .returned (.tuple #[]) ∧ Laid w p F s bs bf ns nf gs gf n x w' := by
  by_cases h0 : x = []
  · subst h0
    refine (lay_empty n sp c).mono ?_
    rintro e w' ⟨rfl, rfl⟩
    refine ⟨rfl, ns, gs, Nat.le_succ _, ?_, Frm.refl _ _, fun m q hq => .inl hq⟩
    rw [St.lay_nil]
    exact h.wide (fun k hk => .inl hk)
  · have hpos : 0 < x.length := List.length_pos_iff.2 h0
    cases hg : gs n with
    | none => exact lay_none n x sp c hpos hx hsrc h hns hn1 hn2 hg
    | some g => exact lay_some n x sp c hpos hx hsrc h hn1 hn2 g hg
end
end Go.Proofs.Ytcgjolonapndgaa
