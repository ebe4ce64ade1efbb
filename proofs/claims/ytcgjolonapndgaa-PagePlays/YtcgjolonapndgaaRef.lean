/- The document's answer in memory: a disk of klaxonref02 that mirrors a state; its small methods. -/
import Derived.Test.YtcgjolonapndgaaSafeM
namespace Go.Proofs.Ytcgjolonapndgaa
open Go.RowKit Go.Maps Go.ChangeMaps Go.MapKept

/-- Block g holds n values of type t, in a row of cap cells. -/
def VRow (t : TypeId) (w : World) (g cap n : Nat) (f : Nat → Value) : Prop := ∃ cur, w.heap[g]? = some (.cells cur t (0, 0)) ∧ n ≤ cap ∧ cur.size = cap ∧ ∀ i, i < n → cur[i]? = some (f i)
theorem VRow.lt {t : TypeId} {w : World} {g cap n : Nat} {f : Nat → Value} (h : VRow t w g cap n f) : g < w.heap.size := by
  obtain ⟨cur, h, _⟩ := h
  exact (Array.getElem?_eq_some_iff.1 h).1
theorem VRow.keep {t : TypeId} {w w' : World} {g cap n : Nat} {f : Nat → Value} (h : VRow t w g cap n f) (e : w'.heap[g]? = w.heap[g]?) : VRow t w' g cap n f := by
  obtain ⟨cur, h, r⟩ := h
  exact ⟨cur, e.trans h, r⟩
theorem VRow.cell {t : TypeId} {w : World} {g cap n : Nat} {f : Nat → Value} (h : VRow t w g cap n f) (i : Nat) (hi : i < n) : w.cell? ⟨g, i, none⟩ = some (f i) ∧ w.frozen? ⟨g, i, none⟩ = false := by
  obtain ⟨cur, h, h1, h2, h3⟩ := h
  constructor
  · simp [World.cell?, h, h3 i hi]
  · simp [World.frozen?, h]
theorem VRow.store {t : TypeId} {w : World} {g cap n : Nat} {f : Nat → Value} (h : VRow t w g cap n f) (k : Nat) (v : Value) : VRow t (w.setCell ⟨g, k, none⟩ v) g cap n (fun i => if i = k then v else f i) := by
  obtain ⟨cur, h, h1, h2, h3⟩ := h
  refine ⟨cur.setIfInBounds k v, block_setCell h, h1, by simp [h2], fun i hi => ?_⟩
  show _ = some (if i = k then v else f i)
  by_cases e : i = k
  · subst e
    rw [if_pos rfl]
    have : i < cur.size := by omega
    simp [this]
  · rw [if_neg e, Array.getElem?_setIfInBounds_ne (fun h => e h.symm)]
    exact h3 i hi
theorem VRow.congr {t : TypeId} {w : World} {g cap n : Nat} {f f' : Nat → Value} (h : VRow t w g cap n f) (e : ∀ i, i < n → f' i = f i) : VRow t w g cap n f' := by
  obtain ⟨cur, h, h1, h2, h3⟩ := h
  exact ⟨cur, h, h1, h2, fun i hi => by rw [e i hi]; exact h3 i hi⟩

def refCells (s : St) (vn vs vu : Value) : Array Value := #[.int .i64 s.size, vn, vs, vu, .int .i64 s.ops, .int .i64 s.left, .bool s.dead]
/-- The slice of a whole row. -/
def slR3 (g n c : Nat) : Value := .slice (some ⟨g, 0, none⟩) n c
/-- Block r is a disk of the document's answer that mirrors s; its blocks are of G. -/
structure IsRef (w : World) (r : Nat) (G : Nat → Prop) (s : St) (gn cn gs cs gu cu : Nat) : Prop where
  cells : w.heap[r]? = some (.cells (refCells s (slR3 gn s.sectors cn) (slR3 gs s.sectors cs) (slR3 gu s.sectors cu)) 68 (0, 0))
  now : VRow 9 w gn cn s.sectors (fun i => .string (strOfNums (s.now i)))
  safe : VRow 9 w gs cs s.sectors (fun i => .string (strOfNums (s.safe i)))
  u : VRow 4 w gu cu s.sectors (fun i => .bool (s.fresh i).isSome)
  apart : gn ≠ gs
  inR : G r
  inN : G gn
  inS : G gs
  inU : G gu
  nowLen : ∀ i : Int, (s.now i).length = s.size
  safeLen : ∀ i : Int, (s.safe i).length = s.size
  sec1 : 1 ≤ s.sectors
  sec2 : s.sectors ≤ 65536
  size1 : 64 ≤ s.size
  size2 : s.size ≤ 1024
  left1 : -1 ≤ s.left
  left2 : s.left ≤ 9223372036854775807
def IsR (w : World) (r : Nat) (G : Nat → Prop) (s : St) : Prop := ∃ gn cn gs cs gu cu, IsRef w r G s gn cn gs cs gu cu

section
variable {w : World} {r : Nat} {G : Nat → Prop} {s : St} {gn cn gs cs gu cu : Nat}
theorem IsRef.lt (h : IsRef w r G s gn cn gs cs gu cu) : r < w.heap.size := (Array.getElem?_eq_some_iff.1 h.cells).1
theorem ref_cell {C : Array Value} (h : w.heap[r]? = some (.cells C 68 (0, 0))) (i : Nat) (v : Value) (hv : C[i]? = some v) : w.cell? ⟨r, i, none⟩ = some v := by simp [World.cell?, h, hv]
theorem IsRef.c0 (h : IsRef w r G s gn cn gs cs gu cu) : w.cell? ⟨r, 0, none⟩ = some (.int .i64 s.size) := ref_cell h.cells 0 _ rfl
theorem IsRef.c1 (h : IsRef w r G s gn cn gs cs gu cu) : w.cell? ⟨r, 1, none⟩ = some (.slice (some ⟨gn, 0, none⟩) s.sectors cn) := ref_cell h.cells 1 _ rfl
theorem IsRef.c2 (h : IsRef w r G s gn cn gs cs gu cu) : w.cell? ⟨r, 2, none⟩ = some (.slice (some ⟨gs, 0, none⟩) s.sectors cs) := ref_cell h.cells 2 _ rfl
theorem IsRef.c3 (h : IsRef w r G s gn cn gs cs gu cu) : w.cell? ⟨r, 3, none⟩ = some (.slice (some ⟨gu, 0, none⟩) s.sectors cu) := ref_cell h.cells 3 _ rfl
theorem IsRef.c4 (h : IsRef w r G s gn cn gs cs gu cu) : w.cell? ⟨r, 4, none⟩ = some (.int .i64 s.ops) := ref_cell h.cells 4 _ rfl
theorem IsRef.c5 (h : IsRef w r G s gn cn gs cs gu cu) : w.cell? ⟨r, 5, none⟩ = some (.int .i64 s.left) := ref_cell h.cells 5 _ rfl
theorem IsRef.c6 (h : IsRef w r G s gn cn gs cs gu cu) : w.cell? ⟨r, 6, none⟩ = some (.bool s.dead) := ref_cell h.cells 6 _ rfl
theorem IsRef.fr (h : IsRef w r G s gn cn gs cs gu cu) (i : Nat) : w.frozen? ⟨r, i, none⟩ = false := by simp [World.frozen?, h.cells]
theorem vrow_ne {t t' : TypeId} {g g' cap n : Nat} {f : Nat → Value} {C : Array Value} (h : VRow t w g cap n f) (h' : w.heap[g']? = some (.cells C t' (0, 0))) (ht : t ≠ t') : g ≠ g' := fun e => by
  obtain ⟨cur, h, _⟩ := h
  rw [e, h'] at h
  have := congrArg (fun o => match o with | some (Obj.cells _ t _) => t | _ => 0) h
  simp at this
  exact ht this.symm
theorem IsRef.nr (h : IsRef w r G s gn cn gs cs gu cu) : gn ≠ r ∧ gs ≠ r ∧ gu ≠ r := ⟨vrow_ne h.now h.cells (by decide), vrow_ne h.safe h.cells (by decide), vrow_ne h.u h.cells (by decide)⟩
theorem IsRef.nu (h : IsRef w r G s gn cn gs cs gu cu) : gn ≠ gu ∧ gs ≠ gu := by
  obtain ⟨cur, hu, _⟩ := h.u
  exact ⟨vrow_ne h.now hu (by decide), vrow_ne h.safe hu (by decide)⟩
theorem IsRef.keep {w' : World} (h : IsRef w r G s gn cn gs cs gu cu) (hG : ∀ k, G k → k < w.heap.size → w'.heap[k]? = w.heap[k]?) : IsRef w' r G s gn cn gs cs gu cu :=
  { h with
    cells := (hG r h.inR h.lt).trans h.cells
    now := h.now.keep (hG gn h.inN h.now.lt)
    safe := h.safe.keep (hG gs h.inS h.safe.lt)
    u := h.u.keep (hG gu h.inU h.u.lt) }
theorem IsR.keep {w' : World} (h : IsR w r G s) (hG : ∀ k, G k → k < w.heap.size → w'.heap[k]? = w.heap[k]?) : IsR w' r G s := by
  obtain ⟨gn, cn, gs, cs, gu, cu, h⟩ := h; exact ⟨gn, cn, gs, cs, gu, cu, h.keep hG⟩
theorem IsR.grow {w' : World} (h : IsR w r G s) (hb : Below w.heap.size w w') : IsR w' r G s := h.keep fun k _ hl => hb.block k hl
theorem IsR.frm {w' : World} {F : Nat → Prop} (h : IsR w r G s) (hf : Frm F w w') (hG : ∀ k, G k → ¬ F k) : IsR w' r G s := h.keep fun k hk hl => hf.block k hl (hG k hk)
/-- Its number fields turn; its rows stay. -/
theorem IsRef.turn {w' : World} {s' : St} (h : IsRef w r G s gn cn gs cs gu cu) (hc : w'.heap[r]? = some (.cells (refCells s' (slR3 gn s.sectors cn) (slR3 gs s.sectors cs) (slR3 gu s.sectors cu)) 68 (0, 0))) (hk : ∀ k, k ≠ r → w'.heap[k]? = w.heap[k]?)
    (e1 : s'.sectors = s.sectors) (e2 : s'.size = s.size) (e3 : s'.safe = s.safe) (e4 : s'.fresh = s.fresh) (l1 : -1 ≤ s'.left) (l2 : s'.left ≤ 9223372036854775807) : IsRef w' r G s' gn cn gs cs gu cu := by
  obtain ⟨n1, n2, n3⟩ := h.nr
  have en : s'.now = s.now := by funext i; simp [St.now, e3, e4]
  exact {
    cells := by rw [e1]; exact hc
    now := by rw [e1, en]; exact h.now.keep (hk gn n1)
    safe := by rw [e1, e3]; exact h.safe.keep (hk gs n2)
    u := by rw [e1, e4]; exact h.u.keep (hk gu n3)
    apart := h.apart
    inR := h.inR
    inN := h.inN
    inS := h.inS
    inU := h.inU
    nowLen := by rw [en, e2]; exact h.nowLen
    safeLen := by rw [e3, e2]; exact h.safeLen
    sec1 := by rw [e1]; exact h.sec1
    sec2 := by rw [e1]; exact h.sec2
    size1 := by rw [e2]; exact h.size1
    size2 := by rw [e2]; exact h.size2
    left1 := l1
    left2 := l2 }

set_option maxRecDepth 100000 in
set_option maxHeartbeats 1000000 in
theorem begin_raw (h : IsRef w r G s gn cn gs cs gu cu) (hops : s.ops < 4611686018427387904) : Calls Try.prog 50 #[.pointer (some ⟨r, 0, none⟩)] w fun e w' => e = .returned (.int .i64 s.errOp) ∧ w'.heap[r]? = some (.cells (refCells s.op (slR3 gn s.sectors cn) (slR3 gs s.sectors cs) (slR3 gu s.sectors cu)) 68 (0, 0)) ∧ (∀ k, k ≠ r → w'.heap[k]? = w.heap[k]?) ∧ w.grownBy w' (some r) := by
  have c4 := h.c4
  have c5 := h.c5
  have c6 := h.c6
  have f4 := h.fr 4
  have f5 := h.fr 5
  have f6 := h.fr 6
  have l1 := h.left1
  have l2 := h.left2
  have HC : Hid _ := h.cells
  clear h
  generalize slR3 gn s.sectors cn = vn at HC
  generalize slR3 gs s.sectors cs = vs at HC
  generalize slR3 gu s.sectors cu = vu at HC
  obtain ⟨sec, sz, sf, fr, dead, left, ops⟩ := s
  simp only at c4 c5 c6 l1 l2 hops
  cases dead with
  | true =>
    go_enter Try.func50, Try.ntmps50
    go_wp2
    go_ret
    refine ⟨by simp [St.errOp, St.live], (block_setCell HC.out).trans ?_, other_set _ _ _ _, grown_set (grown_refl _ _) _ _⟩
    simp [St.op, St.live, refCells]
  | false =>
    by_cases hl : left = 0
    · subst hl
      go_enter Try.func50, Try.ntmps50
      go_wp2
      go_ret
      refine ⟨by simp [St.errOp, St.live], (block_setCell HC.out).trans ?_, other_set _ _ _ _, grown_set (grown_refl _ _) _ _⟩
      simp [St.op, St.live, refCells]
    · have hln : (left == 0) = false := by simpa using hl
      by_cases hm : left = -1
      · subst hm
        go_enter Try.func50, Try.ntmps50
        go_wp2
        go_ret
        refine ⟨by simp [St.errOp, St.live], (block_setCell HC.out).trans ?_, other_set _ _ _ _, grown_set (grown_refl _ _) _ _⟩
        simp [St.op, St.live, refCells]
      · have hpos : 0 < left := by omega
        go_enter Try.func50, Try.ntmps50
        go_wp2
        go_ret
        refine ⟨by simp [St.errOp, St.live, hl], (block_setCell (block_setCell HC.out)).trans ?_, fun k hk => (other_set _ _ _ _ k hk).trans (other_set _ _ _ _ k hk), grown_set (grown_set (grown_refl _ _) _ _) _ _⟩
        simp [St.op, St.live, refCells, hl, hm]
theorem begin_any (h : IsRef w r G s gn cn gs cs gu cu) (hops : s.ops < 4611686018427387904) : Calls Try.prog 50 #[.pointer (some ⟨r, 0, none⟩)] w fun e w' => e = .returned (.int .i64 s.errOp) ∧ IsRef w' r G s.op gn cn gs cs gu cu ∧ w.grownBy w' (some r) := by
  refine (begin_raw h hops).mono ?_
  rintro e w' ⟨rfl, hc, hk, hg⟩
  obtain ⟨e1, e2, e3, e4, _⟩ := op_same s
  obtain ⟨l1, l2⟩ := op_left s h.left1 h.left2
  exact ⟨rfl, h.turn hc hk e1 e2 e3 e4 l1 l2, hg⟩

set_option maxRecDepth 100000 in
set_option maxHeartbeats 1000000 in
theorem refArm_any (h : IsR w r G s) (after : Int) (h1 : -9223372036854775808 ≤ after) (h2 : after ≤ 9223372036854775807) : Calls Try.prog 30 #[.pointer (some ⟨r, 0, none⟩), .int .i64 after] w fun e w' => e = .returned (.tuple #[]) ∧ IsR w' r G (s.arm after) ∧ Frm G w w' ∧ w'.heap.size = w.heap.size := by
  obtain ⟨gn, cn, gs, cs, gu, cu, h⟩ := h
  have c6 := h.c6
  have c5 := h.c5
  have f5 := h.fr 5
  have hF : ∀ j, some r = some j → G j ∨ w.heap.size ≤ j := fun j e => by cases e; exact .inl h.inR
  cases hd : s.dead with
  | true =>
    rw [hd] at c6
    have e : s.arm after = s := by simp [St.arm, hd]
    go_enter Try.func30, Try.ntmps30
    go_wp2
    go_end0
    rw [e]
    exact ⟨rfl, ⟨gn, cn, gs, cs, gu, cu, h⟩, Frm.refl _ _, rfl⟩
  | false =>
    rw [hd] at c6
    have e : s.arm after = { s with left := max after (-1) } := by simp [St.arm, hd]
    have key : ∀ z, z = max after (-1) → (IsR (w.setCell ⟨r, 5, none⟩ (.int .i64 z)) r G (s.arm after) ∧ Frm G w (w.setCell ⟨r, 5, none⟩ (.int .i64 z)) ∧ (w.setCell ⟨r, 5, none⟩ (.int .i64 z)).heap.size = w.heap.size) := by
      rintro z rfl
      rw [e]
      refine ⟨⟨gn, cn, gs, cs, gu, cu, h.turn ((block_setCell h.cells).trans ?_) (fun k hk => other_set _ _ _ _ k hk) rfl rfl rfl rfl (by simp only; omega) (by simp only; omega)⟩, Frm.of_grown (grown_set (grown_refl _ _) _ _) hF, by simp [World.setCell]⟩
      simp [refCells]
    clear h e
    rcases Int.lt_or_le after (-1) with hl | hl
    · have hk := key (-1) (by omega)
      clear key
      go_enter Try.func30, Try.ntmps30
      go_wp2
      go_end0
      exact ⟨rfl, hk⟩
    · have hk := key after (by omega)
      clear key
      have hd' : decide (after < -1) = false := by simpa using hl
      go_enter Try.func30, Try.ntmps30
      go_wp2
      go_end0
      exact ⟨rfl, hk⟩

/-- Read(n) of the document's answer. -/
def St.textAt (s : St) (n : Int) : ByteArray := if s.errRead n = 0 then strOfNums (s.now n) else ⟨#[]⟩
set_option maxRecDepth 100000 in
set_option maxHeartbeats 1000000 in
theorem refRead_any (h : IsR w r G s) (n : Int) : Calls Try.prog 46 #[.pointer (some ⟨r, 0, none⟩), .int .i64 n] w fun e w' => e = .returned (.tuple #[.string (s.textAt n), .int .i64 (s.errRead n)]) ∧ w' = w := by
  obtain ⟨gn, cn, gs, cs, gu, cu, h⟩ := h
  have c1 := h.c1
  have c6 := h.c6
  by_cases h0 : n < 0
  · have e1 : s.errRead n = 2 := by unfold St.errRead; rw [if_neg (by omega)]
    have e2 : s.textAt n = ⟨#[]⟩ := by unfold St.textAt; rw [e1]; rfl
    rw [e1, e2]
    go_enter Try.func46, Try.ntmps46
    go_wp2
    go_ret2
    exact ⟨rfl, rfl⟩
  · have d0 : decide (n < 0) = false := by simpa using h0
    by_cases hs : (s.sectors : Int) ≤ n
    · have e1 : s.errRead n = 2 := by unfold St.errRead; rw [if_neg (by omega)]
      have e2 : s.textAt n = ⟨#[]⟩ := by unfold St.textAt; rw [e1]; rfl
      rw [e1, e2]
      go_enter Try.func46, Try.ntmps46
      go_wp2
      go_ret2
      exact ⟨rfl, rfl⟩
    · have d1 : decide ((s.sectors : Int) ≤ n) = false := by simpa using hs
      obtain ⟨k, rfl⟩ : ∃ k : Nat, n = k := ⟨n.toNat, by omega⟩
      have hk : k < s.sectors := by omega
      have hki : (k : Int) < (s.sectors : Int) := by omega
      have hc := (h.now.cell k hk).1
      cases hd : s.dead with
      | true =>
        rw [hd] at c6
        have e1 : s.errRead k = 20 := by unfold St.errRead; rw [if_pos (by omega), hd]; rfl
        have e2 : s.textAt k = ⟨#[]⟩ := by unfold St.textAt; rw [e1]; rfl
        rw [e1, e2]
        go_enter Try.func46, Try.ntmps46
        go_wp2
        go_ret2
        exact ⟨rfl, rfl⟩
      | false =>
        rw [hd] at c6
        have e1 : s.errRead k = 0 := by unfold St.errRead; rw [if_pos (by omega), hd]; rfl
        have e2 : s.textAt k = strOfNums (s.now k) := by unfold St.textAt; rw [e1]; rfl
        rw [e1, e2]
        generalize strOfNums (s.now k) = S at hc
        go_enter Try.func46, Try.ntmps46
        go_wp2
        go_ret2
        exact ⟨rfl, rfl⟩
end
end Go.Proofs.Ytcgjolonapndgaa
