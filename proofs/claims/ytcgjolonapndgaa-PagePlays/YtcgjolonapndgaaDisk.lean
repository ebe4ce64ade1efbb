/- A disk in memory, and the contracts of its small methods. -/
import Derived.Test.YtcgjolonapndgaaBase
namespace Go.Proofs.Ytcgjolonapndgaa
open Go.RowKit Go.Maps Go.ChangeMaps Go.MapKept

/-- What a disk holds. -/
structure St where
  sectors : Nat
  size : Nat
  safe : Int → List Int
  fresh : Int → Option (List Int)
  dead : Bool
  left : Int
  ops : Nat

def zeros (n : Nat) : List Int := List.replicate n 0

/-- Its fields in memory. -/
def diskCells (s : St) (bs bf : Nat) : Array Value :=
  #[.int .i64 s.sectors, .int .i64 s.size, .map (some bs), .map (some bf), .bool s.dead, .int .i64 s.left, .int .i64 s.ops]

/-- Block p is a disk that holds s; its blocks are of F. -/
structure IsDisk (w : World) (p : Nat) (F : Nat → Prop) (s : St) (bs bf ns nf : Nat) (gs gf : Int → Option Nat) : Prop where
  cells : w.heap[p]? = some (.cells (diskCells s bs bf) 84 (0, 0))
  safe : SMap s.size w bs ns gs
  fresh : SMap s.size w bf nf gf
  apart : bs ≠ bf
  safeNone : ∀ n, gs n = none → s.safe n = zeros s.size
  safeRow : ∀ n g, gs n = some g → Row w g (s.safe n)
  safeLen : ∀ n, (s.safe n).length = s.size
  safeInj : ∀ n m g, gs n = some g → gs m = some g → n = m
  freshNone : ∀ n, gf n = none → s.fresh n = none
  freshRow : ∀ n g, gf n = some g → ∃ x, s.fresh n = some x ∧ x.length = s.size ∧ Row w g x
  freshIn : ∀ n g, gf n = some g → 0 ≤ n ∧ n < s.sectors
  unlike : ∀ n m g, gs n = some g → gf m = some g → False
  inP : F p
  inS : F bs
  inF : F bf
  inG : ∀ n g, gs n = some g → F g
  inH : ∀ n g, gf n = some g → F g
  sec1 : 1 ≤ s.sectors
  sec2 : s.sectors ≤ 65536
  size1 : 64 ≤ s.size
  size2 : s.size ≤ 1024
  left1 : -1 ≤ s.left
  left2 : s.left ≤ 9223372036854775807

def IsD (w : World) (p : Nat) (F : Nat → Prop) (s : St) : Prop := ∃ bs bf ns nf gs gf, IsDisk w p F s bs bf ns nf gs gf ∧ ns + nf ≤ s.ops

section
variable {w : World} {p : Nat} {F : Nat → Prop} {s : St} {bs bf ns nf : Nat} {gs gf : Int → Option Nat}

theorem IsDisk.lt (h : IsDisk w p F s bs bf ns nf gs gf) : p < w.heap.size := (Array.getElem?_eq_some_iff.1 h.cells).1
theorem IsD.lt (h : IsD w p F s) : p < w.heap.size := by obtain ⟨_, _, _, _, _, _, h, _⟩ := h; exact h.lt

/-- It stays while its blocks stay. -/
theorem IsDisk.keep {w' : World} (h : IsDisk w p F s bs bf ns nf gs gf) (hF : ∀ k, F k → k < w.heap.size → w'.heap[k]? = w.heap[k]?) : IsDisk w' p F s bs bf ns nf gs gf :=
  { h with
    cells := (hF p h.inP h.lt).trans h.cells
    safe := MapG.keep h.safe (hF bs h.inS (MapG.lt h.safe))
    fresh := MapG.keep h.fresh (hF bf h.inF (MapG.lt h.fresh))
    safeRow := fun n g hg => (h.safeRow n g hg).keep (hF g (h.inG n g hg) (h.safeRow n g hg).lt)
    freshRow := fun n g hg => by
      obtain ⟨x, h1, h2, h3⟩ := h.freshRow n g hg
      exact ⟨x, h1, h2, h3.keep (hF g (h.inH n g hg) h3.lt)⟩ }
theorem IsD.keep {w' : World} (h : IsD w p F s) (hF : ∀ k, F k → k < w.heap.size → w'.heap[k]? = w.heap[k]?) : IsD w' p F s := by
  obtain ⟨bs, bf, ns, nf, gs, gf, h, hr⟩ := h; exact ⟨bs, bf, ns, nf, gs, gf, h.keep hF, hr⟩
/-- .. while only others' blocks turn. -/
theorem IsD.frm {w' : World} {G : Nat → Prop} (h : IsD w p F s) (hf : Frm G w w') (hG : ∀ k, F k → ¬ G k) : IsD w' p F s :=
  h.keep fun k hk hl => hf.block k hl (hG k hk)
theorem IsD.grow {w' : World} (h : IsD w p F s) (hb : Below w.heap.size w w') : IsD w' p F s := h.keep fun k _ hl => hb.block k hl
theorem IsD.alloc (h : IsD w p F s) (o : Obj) : IsD (w.alloc o) p F s := h.grow ((Below.refl _ w).alloc (Nat.le_refl _) o)

/-- A cell of the disk. -/
theorem disk_cell (h : w.heap[p]? = some (.cells (diskCells s bs bf) 84 (0, 0))) (i : Nat) (v : Value) (hv : (diskCells s bs bf)[i]? = some v) : w.cell? ⟨p, i, none⟩ = some v ∧ w.frozen? ⟨p, i, none⟩ = false := by
  constructor
  · simp [World.cell?, h, hv]
  · simp [World.frozen?, h]
theorem block_setCell {w : World} {g i : Nat} {C : Array Value} {t : TypeId} {u : Value} (h : w.heap[g]? = some (.cells C t (0, 0))) : (w.setCell ⟨g, i, none⟩ u).heap[g]? = some (.cells (C.setIfInBounds i u) t (0, 0)) := by
  unfold World.setCell
  rw [Array.getElem?_modify, if_pos rfl, h]
  rfl
theorem IsDisk.c0 (h : IsDisk w p F s bs bf ns nf gs gf) : w.cell? ⟨p, 0, none⟩ = some (.int .i64 s.sectors) := (disk_cell h.cells 0 _ rfl).1
theorem IsDisk.c1 (h : IsDisk w p F s bs bf ns nf gs gf) : w.cell? ⟨p, 1, none⟩ = some (.int .i64 s.size) := (disk_cell h.cells 1 _ rfl).1
theorem IsDisk.c2 (h : IsDisk w p F s bs bf ns nf gs gf) : w.cell? ⟨p, 2, none⟩ = some (.map (some bs)) := (disk_cell h.cells 2 _ rfl).1
theorem IsDisk.c3 (h : IsDisk w p F s bs bf ns nf gs gf) : w.cell? ⟨p, 3, none⟩ = some (.map (some bf)) := (disk_cell h.cells 3 _ rfl).1
theorem IsDisk.c4 (h : IsDisk w p F s bs bf ns nf gs gf) : w.cell? ⟨p, 4, none⟩ = some (.bool s.dead) := (disk_cell h.cells 4 _ rfl).1
theorem IsDisk.c5 (h : IsDisk w p F s bs bf ns nf gs gf) : w.cell? ⟨p, 5, none⟩ = some (.int .i64 s.left) := (disk_cell h.cells 5 _ rfl).1
theorem IsDisk.c6 (h : IsDisk w p F s bs bf ns nf gs gf) : w.cell? ⟨p, 6, none⟩ = some (.int .i64 s.ops) := (disk_cell h.cells 6 _ rfl).1
theorem IsDisk.fr (h : IsDisk w p F s bs bf ns nf gs gf) (i : Nat) : w.frozen? ⟨p, i, none⟩ = false := by simp [World.frozen?, h.cells]
theorem row_ne {w : World} {g p : Nat} {x : List Int} {C : Array Value} (hr : Row w g x) (h : w.heap[p]? = some (.cells C 84 (0, 0))) : g ≠ p := fun e => by
  unfold Row at hr
  rw [e, h] at hr
  have := congrArg (fun o => match o with | some (Obj.cells _ t _) => t | _ => 0) hr
  simp at this
/-- The disk's number fields turn; its maps stay. -/
theorem IsDisk.turn {w' : World} {s' : St} (h : IsDisk w p F s bs bf ns nf gs gf) (hc : w'.heap[p]? = some (.cells (diskCells s' bs bf) 84 (0, 0))) (hk : ∀ k, k ≠ p → w'.heap[k]? = w.heap[k]?)
    (e1 : s'.sectors = s.sectors) (e2 : s'.size = s.size) (e3 : s'.safe = s.safe) (e4 : s'.fresh = s.fresh) (l1 : -1 ≤ s'.left) (l2 : s'.left ≤ 9223372036854775807) : IsDisk w' p F s' bs bf ns nf gs gf := by
  have hps : bs ≠ p := fun e => by
    obtain ⟨es, c, h1⟩ := MapG.isMap h.safe
    rw [e, h.cells] at h1; cases h1
  have hpf : bf ≠ p := fun e => by
    obtain ⟨es, c, h1⟩ := MapG.isMap h.fresh
    rw [e, h.cells] at h1; cases h1
  have hrow : ∀ g x, Row w g x → g ≠ p := fun g x hr => row_ne hr h.cells
  exact { cells := hc
          safe := by rw [e2]; exact MapG.keep h.safe (hk bs hps)
          fresh := by rw [e2]; exact MapG.keep h.fresh (hk bf hpf)
          apart := h.apart
          safeNone := by rw [e3, e2]; exact h.safeNone
          safeRow := fun n g hg => by rw [e3]; exact (h.safeRow n g hg).keep (hk g (hrow g _ (h.safeRow n g hg)))
          safeLen := by rw [e3, e2]; exact h.safeLen
          safeInj := h.safeInj
          freshNone := by rw [e4]; exact h.freshNone
          freshRow := fun n g hg => by
            rw [e4, e2]
            obtain ⟨x, h1, h2, h3⟩ := h.freshRow n g hg
            exact ⟨x, h1, h2, h3.keep (hk g (hrow g _ h3))⟩
          freshIn := by rw [e1]; exact h.freshIn
          unlike := h.unlike
          inP := h.inP, inS := h.inS, inF := h.inF, inG := h.inG, inH := h.inH
          sec1 := by rw [e1]; exact h.sec1
          sec2 := by rw [e1]; exact h.sec2
          size1 := by rw [e2]; exact h.size1
          size2 := by rw [e2]; exact h.size2
          left1 := l1, left2 := l2 }
end

set_option maxRecDepth 100000 in
theorem num_any (x : Int) (w : World) (_h1 : -9223372036854775808 ≤ x) (_h2 : x ≤ 9223372036854775807) : Calls Try.prog 14 #[.int .i64 x] w fun e w' => e = .returned (.int .i64 x) ∧ w' = w := by
  go_enter Try.func14, Try.ntmps14
  go_wp2
  go_ret
  exact ⟨rfl, rfl⟩

section
variable {w : World} {p : Nat} {F : Nat → Prop} {s : St}
/-- has(n). -/
theorem has_any (h : IsD w p F s) (n : Int) : Calls Try.prog 52 #[.pointer (some ⟨p, 0, none⟩), .int .i64 n] w fun e w' => e = .returned (.bool (decide (0 ≤ n ∧ n < s.sectors))) ∧ w' = w := by
  obtain ⟨bs, bf, ns, nf, gs, gf, h, _⟩ := h
  have c0 := h.c0
  by_cases h0 : 0 ≤ n
  · go_enter Try.func52, Try.ntmps52
    go_wp2
    go_ret
    exact ⟨by simp [h0], rfl⟩
  · have hd : decide (0 ≤ n) = false := by simpa using h0
    go_enter Try.func52, Try.ntmps52
    go_wp2
    go_ret
    exact ⟨by simp, rfl⟩
theorem ops_any (h : IsD w p F s) : Calls Try.prog 35 #[.pointer (some ⟨p, 0, none⟩)] w fun e w' => e = .returned (.int .i64 s.ops) ∧ w' = w := by
  obtain ⟨bs, bf, ns, nf, gs, gf, h, _⟩ := h
  have c0 := h.c6
  go_enter Try.func35, Try.ntmps35
  go_wp2
  go_ret
  exact ⟨by simp, rfl⟩
theorem sectors_any (h : IsD w p F s) : Calls Try.prog 43 #[.pointer (some ⟨p, 0, none⟩)] w fun e w' => e = .returned (.int .i64 s.sectors) ∧ w' = w := by
  obtain ⟨bs, bf, ns, nf, gs, gf, h, _⟩ := h
  have c0 := h.c0
  go_enter Try.func43, Try.ntmps43
  go_wp2
  go_ret
  exact ⟨by simp, rfl⟩
theorem size_any (h : IsD w p F s) : Calls Try.prog 42 #[.pointer (some ⟨p, 0, none⟩)] w fun e w' => e = .returned (.int .i64 s.size) ∧ w' = w := by
  obtain ⟨bs, bf, ns, nf, gs, gf, h, _⟩ := h
  have c0 := h.c1
  go_enter Try.func42, Try.ntmps42
  go_wp2
  go_ret
  exact ⟨by simp, rfl⟩
end
end Go.Proofs.Ytcgjolonapndgaa
