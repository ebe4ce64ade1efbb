/- New of the document's answer. -/
import Derived.Test.YtcgjolonapndgaaRefS
import Derived.Maps.AppendAt
namespace Go.Proofs.Ytcgjolonapndgaa
open Go.RowKit Go.Maps Go.ChangeMaps Go.MapKept

/-- append(v, s): and where the new slice lies. -/
theorem appStrAt {w : World} {ops : Array Oper} {rest : List Oper} {o : Oper} {a : Act} {Q : Exit → Act → World → Prop} (hgd : o.guard = none) (s x : Operand)
    (ho : o.op = .call { callee := .builtin .append, args := #[s, x], argTypes := #[65, 65] })
    (base : Nat) (v : Value) (ss : List ByteArray) (str : ByteArray) (sz : Nat) (hsz : w.heap.size = sz) (hs : a.eval s = v) (hx : a.eval x = .slice (some ⟨sz, 0, none⟩) 1 1)
    (hown : StrOwn w base v ss) (hbase : base ≤ w.heap.size) (hlen : ss.length ≤ 1000000)
    (h : ∀ a' c' w', StrOwn w' base (.slice a' (ss.length + 1) c') (ss ++ [str]) → w.heap.size ≤ w'.heap.size → (∀ j, j < w.heap.size → v.ownBlock ≠ some j → w'.heap[j]? = w.heap[j]?) → w'.os = w.os → w'.tape = w.tape → w'.output = w.output → ((Value.slice a' (ss.length + 1) c').ownBlock = v.ownBlock ∨ (Value.slice a' (ss.length + 1) c').ownBlock = some (w.heap.size + 1)) → wpList Try.prog ops Q rest (a.put o.dst (.slice a' (ss.length + 1) c')) w') :
    wpList Try.prog ops Q (o :: rest) a (w.alloc (.cells #[.string str] 9)) := by
  obtain ⟨i0, hi, hz0, hz1, hz2⟩ := info_parts info9
  subst hsz
  refine wpList_append_own_at _ hgd s x 65 ho base 9 i0 (.string ⟨#[]⟩) 1 16 Try.underlying65 hi hz0 hz1 hz2 rfl (by decide) v ss.length (ss.map Value.string) hs (World.ownsRow.alloc hown _) ⟨w.heap.size, 0, none⟩ 1 1 [.string str] hx rfl (cell_one_new _ _ _) ?_ ?_ ?_ ?_ ?_
  · intro u hu; simp at hu; subst hu; rfl
  · unfold maxLen; omega
  · omega
  · simp; omega
  · intro v' w' h1 h2 _ h4
    have h1' : StrOwn w' base v' (ss ++ [str]) := by unfold StrOwn; simpa using h1
    obtain ⟨a', c', e, _⟩ := h1'.strs
    have hl : (ss ++ [str]).length = ss.length + 1 := by simp
    rw [hl] at e
    subst e
    have hsz := h2.size
    rw [World.size_alloc] at hsz h4
    exact h a' c' w' h1' (by omega) (fun j hj hn => (h2.block j (by simp; omega) (fun e => hn e.symm)).trans ((heap_alloc w _).2 j hj)) h2.os h2.tape h2.output h4
theorem refNew_bad (sectors size : Int) (h : sectors < 1 ∨ 65536 < sectors ∨ size < 64 ∨ 1024 < size) (w : World) : Calls Try.prog 20 #[.int .i64 sectors, .int .i64 size] w fun e w' => e = .returned (.tuple #[.pointer none, .int .i64 2]) ∧ w' = w := by
  by_cases c1 : sectors < 1
  · go_enter Try.func20, Try.ntmps20
    go_wp2
    go_ret2
    exact ⟨rfl, rfl⟩
  · have d1 : decide (sectors < 1) = false := by simpa using c1
    by_cases c2 : 65536 < sectors
    · go_enter Try.func20, Try.ntmps20
      go_wp2
      go_ret2
      exact ⟨rfl, rfl⟩
    · have d2 : decide (65536 < sectors) = false := by simpa using c2
      by_cases c3 : size < 64
      · go_enter Try.func20, Try.ntmps20
        go_wp2
        go_ret2
        exact ⟨rfl, rfl⟩
      · have d3 : decide (size < 64) = false := by simpa using c3
        have c4 : 1024 < size := by omega
        go_enter Try.func20, Try.ntmps20
        go_wp2
        go_ret2
        exact ⟨rfl, rfl⟩

/-- Fields of the answer's disk under way. -/
def newCells (size : Nat) (vn vs vu : Value) : Array Value := #[.int .i64 size, vn, vs, vu, .int .i64 0, .int .i64 (-1), .bool false]
/-- The answer's disk while New fills its lists. -/
structure Grow (w wr : World) (size k : Nat) (an : Option Addr) (cn : Nat) (az : Option Addr) (cs : Nat) (Z : ByteArray) : Prop where
  cells : wr.heap[w.heap.size]? = some (.cells (newCells size (.slice an k cn) (.slice az k cs) (.slice none 0 0)) 68 (0, 0))
  now : StrOwn wr (w.heap.size + 1) (.slice an k cn) (List.replicate k Z)
  safe : StrOwn wr (w.heap.size + 1) (.slice az k cs) (List.replicate k Z)
  apart : ∀ g, (Value.slice an k cn).ownBlock = some g → (Value.slice az k cs).ownBlock ≠ some g
  below : Below w.heap.size w wr
  lt : w.heap.size + 1 ≤ wr.heap.size
theorem StrOwn.keep {w w' : World} {base : Nat} {v : Value} {ss : List ByteArray} (h : StrOwn w base v ss) (hv : ∀ g, v.ownBlock = some g → w'.heap[g]? = w.heap[g]?) : StrOwn w' base v ss := by
  obtain ⟨h1, h2⟩ := h
  refine ⟨h1, ?_⟩
  rcases h2 with h2 | ⟨g, cap, cur, rfl, hb, hg, r⟩
  · exact .inl h2
  · exact .inr ⟨g, cap, cur, rfl, hb, (hv g rfl).trans hg, r⟩
section
variable {w wr : World} {size k cn cs : Nat} {an az : Option Addr} {Z : ByteArray}
theorem frozen_block {W : World} {r i : Nat} {C : Array Value} {t : TypeId} (h : W.heap[r]? = some (.cells C t (0, 0))) : W.frozen? ⟨r, i, none⟩ = false := by simp [World.frozen?, h]
/-- Behind the store of the second list. -/
theorem Grow.stepB (hg : Grow w wr size k an cn az cs Z) {wA : World} {aN : Option Addr} {cN : Nat} (hoA : StrOwn wA (w.heap.size + 1) (.slice aN (k + 1) cN) (List.replicate (k + 1) Z)) (hsA : wr.heap.size ≤ wA.heap.size)
    (hcA : wA.heap[w.heap.size]? = some (.cells (newCells size (.slice an k cn) (.slice az k cs) (.slice none 0 0)) 68 (0, 0))) (hne : ∀ g, (Value.slice aN (k + 1) cN).ownBlock = some g → (Value.slice az k cs).ownBlock ≠ some g) (hbA : Below w.heap.size w wA)
    {wB : World} {aM : Option Addr} {cM : Nat} (hoB : StrOwn wB (w.heap.size + 1) (.slice aM (k + 1) cM) (List.replicate k Z ++ [Z])) (hsB : (wA.setCell ⟨w.heap.size, 1, none⟩ (.slice aN (k + 1) cN)).heap.size ≤ wB.heap.size)
    (hkB : ∀ j, j < (wA.setCell ⟨w.heap.size, 1, none⟩ (.slice aN (k + 1) cN)).heap.size → (Value.slice az k cs).ownBlock ≠ some j → wB.heap[j]? = (wA.setCell ⟨w.heap.size, 1, none⟩ (.slice aN (k + 1) cN)).heap[j]?)
    (os : wB.os = (wA.setCell ⟨w.heap.size, 1, none⟩ (.slice aN (k + 1) cN)).os) (tp : wB.tape = (wA.setCell ⟨w.heap.size, 1, none⟩ (.slice aN (k + 1) cN)).tape) (ou : wB.output = (wA.setCell ⟨w.heap.size, 1, none⟩ (.slice aN (k + 1) cN)).output)
    (loc : (Value.slice aM (k + 1) cM).ownBlock = (Value.slice az k cs).ownBlock ∨ (Value.slice aM (k + 1) cM).ownBlock = some ((wA.setCell ⟨w.heap.size, 1, none⟩ (.slice aN (k + 1) cN)).heap.size + 1)) :
    wB.cell? ⟨w.heap.size, 2, none⟩ = some (.slice az k cs) ∧ wB.frozen? ⟨w.heap.size, 2, none⟩ = false ∧ Grow w (wB.setCell ⟨w.heap.size, 2, none⟩ (.slice aM (k + 1) cM)) size (k + 1) aN cN aM cM Z := by
  have hsz : (wA.setCell ⟨w.heap.size, 1, none⟩ (.slice aN (k + 1) cN)).heap.size = wA.heap.size := by simp [World.setCell]
  rw [hsz] at hsB hkB loc
  have hlt := hg.lt
  have hsl := hg.safe.lt
  have hcB : wB.heap[w.heap.size]? = _ := (hkB w.heap.size (by omega) (fun e => by have := (hsl _ e).1; omega)).trans (block_setCell hcA)
  refine ⟨ref_cell hcB 2 _ rfl, frozen_block hcB, ?_⟩
  have hAl := hoA.lt
  have hBl := hoB.lt
  exact {
    cells := (block_setCell hcB).trans (by simp [newCells])
    now := hoA.keep (fun g hgA => by
      have := hAl g hgA
      exact (other_set wB _ _ _ g (by omega)).trans ((hkB g (by omega) (hne g hgA)).trans (other_set wA _ _ _ g (by omega))))
    safe := by
      have e : List.replicate (k + 1) Z = List.replicate k Z ++ [Z] := List.replicate_succ'
      rw [e]
      exact hoB.keep (fun g hgB => other_set wB _ _ _ g (by have := (hBl g hgB).1; omega))
    apart := fun g hgA hgM => by
      have := hAl g hgA
      rcases loc with loc | loc
      · rw [loc] at hgM; exact hne g hgA hgM
      · rw [loc] at hgM; have := Option.some.inj hgM; omega
    below := by
      have hb : Below w.heap.size wA wB := ⟨os, tp, ou, hsB, fun j hj => (hkB j (by omega) (fun e => by have := (hsl _ e).1; omega)).trans (other_set wA _ _ _ j (by omega))⟩
      have hb2 : Below w.heap.size wB (wB.setCell ⟨w.heap.size, 2, none⟩ (.slice aM (k + 1) cM)) := ⟨rfl, rfl, rfl, by simp [World.setCell], fun j hj => other_set wB _ _ _ j (by omega)⟩
      exact (hbA.trans hb).trans hb2
    lt := by simp [World.setCell]; omega }
theorem Grow.stepA (hg : Grow w wr size k an cn az cs Z) {wA : World} {aN : Option Addr} {cN : Nat} (hoA : StrOwn wA (w.heap.size + 1) (.slice aN (k + 1) cN) (List.replicate k Z ++ [Z])) (hsA : wr.heap.size ≤ wA.heap.size)
    (hkA : ∀ j, j < wr.heap.size → (Value.slice an k cn).ownBlock ≠ some j → wA.heap[j]? = wr.heap[j]?) (os : wA.os = wr.os) (tp : wA.tape = wr.tape) (ou : wA.output = wr.output)
    (loc : (Value.slice aN (k + 1) cN).ownBlock = (Value.slice an k cn).ownBlock ∨ (Value.slice aN (k + 1) cN).ownBlock = some (wr.heap.size + 1)) :
    wA.cell? ⟨w.heap.size, 1, none⟩ = some (.slice an k cn) ∧ wA.frozen? ⟨w.heap.size, 1, none⟩ = false ∧ (wA.setCell ⟨w.heap.size, 1, none⟩ (.slice aN (k + 1) cN)).cell? ⟨w.heap.size, 2, none⟩ = some (.slice az k cs) ∧ ((wA.setCell ⟨w.heap.size, 1, none⟩ (.slice aN (k + 1) cN)).alloc (.cells #[.string Z] 9)).cell? ⟨w.heap.size, 2, none⟩ = some (.slice az k cs) ∧
    StrOwn (wA.setCell ⟨w.heap.size, 1, none⟩ (.slice aN (k + 1) cN)) (w.heap.size + 1) (.slice az k cs) (List.replicate k Z) ∧ w.heap.size + 1 ≤ (wA.setCell ⟨w.heap.size, 1, none⟩ (.slice aN (k + 1) cN)).heap.size ∧
    (∀ {wB : World} {aM : Option Addr} {cM : Nat} (_ : StrOwn wB (w.heap.size + 1) (.slice aM (k + 1) cM) (List.replicate k Z ++ [Z])) (_ : (wA.setCell ⟨w.heap.size, 1, none⟩ (.slice aN (k + 1) cN)).heap.size ≤ wB.heap.size)
      (_ : ∀ j, j < (wA.setCell ⟨w.heap.size, 1, none⟩ (.slice aN (k + 1) cN)).heap.size → (Value.slice az k cs).ownBlock ≠ some j → wB.heap[j]? = (wA.setCell ⟨w.heap.size, 1, none⟩ (.slice aN (k + 1) cN)).heap[j]?)
      (_ : wB.os = (wA.setCell ⟨w.heap.size, 1, none⟩ (.slice aN (k + 1) cN)).os) (_ : wB.tape = (wA.setCell ⟨w.heap.size, 1, none⟩ (.slice aN (k + 1) cN)).tape) (_ : wB.output = (wA.setCell ⟨w.heap.size, 1, none⟩ (.slice aN (k + 1) cN)).output)
      (_ : (Value.slice aM (k + 1) cM).ownBlock = (Value.slice az k cs).ownBlock ∨ (Value.slice aM (k + 1) cM).ownBlock = some ((wA.setCell ⟨w.heap.size, 1, none⟩ (.slice aN (k + 1) cN)).heap.size + 1)),
      wB.cell? ⟨w.heap.size, 2, none⟩ = some (.slice az k cs) ∧ wB.frozen? ⟨w.heap.size, 2, none⟩ = false ∧ Grow w (wB.setCell ⟨w.heap.size, 2, none⟩ (.slice aM (k + 1) cM)) size (k + 1) aN cN aM cM Z) := by
  have hlt := hg.lt
  have hnl := hg.now.lt
  have hsl := hg.safe.lt
  have hcA : wA.heap[w.heap.size]? = _ := (hkA w.heap.size (by omega) (fun e => by have := (hnl _ e).1; omega)).trans hg.cells
  have hcA1 := block_setCell (i := 1) (u := .slice aN (k + 1) cN) hcA
  have e : List.replicate (k + 1) Z = List.replicate k Z ++ [Z] := List.replicate_succ'
  have hne : ∀ g, (Value.slice aN (k + 1) cN).ownBlock = some g → (Value.slice az k cs).ownBlock ≠ some g := fun g h1 h2 => by
    rcases loc with loc | loc
    · rw [loc] at h1; exact hg.apart g h1 h2
    · rw [loc] at h1
      have := Option.some.inj h1
      have := (hsl g h2).2
      omega
  have hbA : Below w.heap.size w wA := hg.below.trans ⟨os, tp, ou, hsA, fun j hj => hkA j (by omega) (fun e => by have := (hnl _ e).1; omega)⟩
  refine ⟨ref_cell hcA 1 _ rfl, frozen_block hcA, ref_cell hcA1 2 _ rfl, ?_, ?_, ?_, fun h1 h2 h3 h4 h5 h6 h7 => hg.stepB (by rw [e]; exact hoA) hsA hcA hne hbA h1 h2 h3 h4 h5 h6 h7⟩
  · exact (World.cell?_of_block (w := wA.setCell ⟨w.heap.size, 1, none⟩ (.slice aN (k + 1) cN)) ((heap_alloc _ _).2 w.heap.size (by simp [World.setCell]; omega))).trans (ref_cell hcA1 2 _ rfl)
  · exact hg.safe.keep (fun g hgS => by
      have := hsl g hgS
      exact (other_set wA _ _ _ g (by omega)).trans (hkA g this.2 (fun h => hg.apart g h hgS)))
  · simp [World.setCell]; omega
theorem Grow.done (hg : Grow w wr size k an cn az cs Z) (hZ : Z = strOfNums (zeros size)) (h1 : 1 ≤ k) (h2 : k ≤ 65536) (h3 : 64 ≤ size) (h4 : size ≤ 1024) {W : World} (hW : W = (wr.alloc (.cells (madeCells #[.bool false] k) 4)).setCell ⟨w.heap.size, 3, none⟩ (.slice (some ⟨wr.heap.size, 0, none⟩) k k)) :
    IsR W w.heap.size (fun j => w.heap.size ≤ j ∧ j < W.heap.size) (St.new k size) ∧ Below w.heap.size w W := by
  subst hW
  have hlt := hg.lt
  have hsz : ((wr.alloc (.cells (madeCells #[.bool false] k) 4)).setCell ⟨w.heap.size, 3, none⟩ (.slice (some ⟨wr.heap.size, 0, none⟩) k k)).heap.size = wr.heap.size + 1 := by simp [World.setCell]
  have hb : Below w.heap.size w ((wr.alloc (.cells (madeCells #[.bool false] k) 4)).setCell ⟨w.heap.size, 3, none⟩ (.slice (some ⟨wr.heap.size, 0, none⟩) k k)) := by
    have hb2 : Below w.heap.size (wr.alloc (.cells (madeCells #[.bool false] k) 4)) ((wr.alloc (.cells (madeCells #[.bool false] k) 4)).setCell ⟨w.heap.size, 3, none⟩ (.slice (some ⟨wr.heap.size, 0, none⟩) k k)) := ⟨rfl, rfl, rfl, by simp [World.setCell], fun j hj => other_set _ _ _ _ j (by omega)⟩
    exact (hg.below.alloc (by omega) _).trans hb2
  refine ⟨?_, hb⟩
  obtain ⟨gn, cpn, en, bn, vn⟩ := vrow_owns hg.now (by simp; omega) rfl
  obtain ⟨gs, cps, es, bs, vs⟩ := vrow_owns hg.safe (by simp; omega) rfl
  rw [List.length_replicate] at en es vn vs
  have hgl := vn.lt
  have hsl := vs.lt
  have hne : gn ≠ gs := fun e => hg.apart gn (by rw [en]; rfl) (by rw [es, e]; rfl)
  have hcell := hg.cells
  rw [en, es] at hcell
  have hc2 := block_setCell (i := 3) (u := .slice (some ⟨wr.heap.size, 0, none⟩) k k) (((heap_alloc wr (.cells (madeCells #[.bool false] k) 4)).2 w.heap.size (by omega)).trans hcell)
  have hk : ∀ j, j < wr.heap.size → w.heap.size < j → ((wr.alloc (.cells (madeCells #[.bool false] k) 4)).setCell ⟨w.heap.size, 3, none⟩ (.slice (some ⟨wr.heap.size, 0, none⟩) k k)).heap[j]? = wr.heap[j]? := fun j hj hj2 => (other_set _ _ _ _ j (by omega)).trans ((heap_alloc wr _).2 j hj)
  have hnow : ∀ i : Int, (St.new k size).now i = zeros size := fun i => rfl
  refine ⟨gn, cpn, gs, cps, wr.heap.size, k, {
    cells := hc2.trans (by simp [newCells, refCells, St.new, slR3])
    now := (vn.keep (hk gn hgl (by omega))).congr fun i hi => by
      have hi : i < k := hi
      rw [hnow, ← hZ]
      simp [hi]
    safe := (vs.keep (hk gs hsl (by omega))).congr fun i hi => by
      have hi : i < k := hi
      show Value.string (strOfNums (zeros size)) = _
      rw [← hZ]
      simp [hi]
    u := (vrow_made (((other_set _ _ _ _ wr.heap.size (by omega)).trans (heap_alloc wr _).1)))
    apart := hne
    inR := ⟨Nat.le_refl _, by omega⟩
    inN := ⟨by omega, by omega⟩
    inS := ⟨by omega, by omega⟩
    inU := ⟨by omega, by omega⟩
    nowLen := fun i => by rw [hnow]; simp [zeros, St.new]
    safeLen := fun i => by simp [zeros, St.new]
    sec1 := h1
    sec2 := h2
    size1 := h3
    size2 := h4
    left1 := by simp [St.new]
    left2 := by simp [St.new] }⟩
end

set_option maxRecDepth 100000 in
set_option maxHeartbeats 4000000 in
theorem refNew_ok (sectors size : Nat) (h1 : 1 ≤ sectors) (h2 : sectors ≤ 65536) (h3 : 64 ≤ size) (h4 : size ≤ 1024) (w : World) : Calls Try.prog 20 #[.int .i64 sectors, .int .i64 size] w fun e w' => ∃ r, e = .returned (.tuple #[.pointer (some ⟨r, 0, none⟩), .int .i64 0]) ∧ IsR w' r (fun k => w.heap.size ≤ k ∧ k < w'.heap.size) (St.new sectors size) ∧ Below w.heap.size w w' := by
  have d1 : decide ((sectors : Int) < 1) = false := by simp; omega
  have d2 : decide ((65536 : Int) < (sectors : Int)) = false := by simp; omega
  have d3 : decide ((size : Int) < 64) = false := by simp; omega
  have d4 : decide ((1024 : Int) < (size : Int)) = false := by simp; omega
  have hmk : ∀ W, (Instr.makeSlice 23 (.int .i64 size) (.int .i64 size)).run Try.prog W = _ := fun W => makeZ W size (by omega)
  have hcv : ∀ W : World, (convert 23 9 (slV size W.heap.size)).run Try.prog (W.alloc (.cells ((zeros size).map (Value.int .u8)).toArray 5)) = .ok (.string (strOfNums (zeros size))) (W.alloc (.cells ((zeros size).map (Value.int .u8)).toArray 5)) := fun W => by
    have hr : Row (W.alloc (.cells ((zeros size).map (Value.int .u8)).toArray 5)) W.heap.size (zeros size) := (heap_alloc W _).1
    have hb := hr.bts
    have hzl : (zeros size).length = size := by simp [zeros]
    rw [hzl] at hb
    exact conv_str hb
  generalize HO : Obj.cells ((zeros size).map (Value.int .u8)).toArray 5 = O at hmk hcv
  obtain ⟨Z, hZ⟩ : ∃ Z, Hid (Z = strOfNums (zeros size)) := ⟨_, rfl⟩
  rw [← hZ.out] at hcv
  replace HO : Hid _ := HO
  have hcv1 := hcv (w.alloc (.cells (newCells size (.slice none 0 0) (.slice none 0 0) (.slice none 0 0)) 68))
  simp only [World.size_alloc, newCells] at hcv1
  have hmb : ∀ W, (Instr.makeSlice 66 (.int .i64 sectors) (.int .i64 sectors)).run Try.prog W = _ := fun W => makeBo W sectors (by omega)
  simp only [slR3] at hmb
  generalize HO2 : Obj.cells (madeCells #[.bool false] sectors) 4 = O2 at hmb
  replace HO2 : Hid _ := HO2
  clear hcv
  go_enter Try.func20, Try.ntmps20
  go_wp2
  go_loopw [8] (fun i wr => ∃ (k : Nat) (an az : Option Addr) (cn cs : Nat), k ≤ sectors ∧ i = .int .i64 k ∧ Grow w wr size k an cn az cs Z) (fun i _ => sectors - (intOf i).toNat)
  case atStart =>
    refine ⟨0, none, none, 0, 0, Nat.zero_le _, rfl, ?_⟩
    exact {
      cells := ((heap_alloc (w.alloc _) O).2 _ (by simp)).trans (heap_alloc w _).1
      now := World.ownsRow_nil _ _ _ _
      safe := World.ownsRow_nil _ _ _ _
      apart := fun g h => by cases h
      below := ((Below.refl _ w).alloc (Nat.le_refl _) _).alloc (by simp) _
      lt := by simp }
  case round =>
    obtain ⟨k, an, az, cn, cs, hk, rfl, hg⟩ := hrel
    by_cases hlt : k < sectors
    · have c1 : wr.cell? ⟨w.heap.size, 1, none⟩ = some (.slice an k cn) := ref_cell hg.cells 1 _ rfl
      have tokA : True := trivial
      have tokB : True := trivial
      have hki : (k : Int) < (sectors : Int) := by omega
      have hsz : w.heap.size + 1 ≤ wr.heap.size := hg.lt
      have k1 : (wr.alloc (.cells #[.string Z] 9)).cell? ⟨w.heap.size, 1, none⟩ = some (.slice an k cn) := (World.cell?_of_block (w := wr) ((heap_alloc wr _).2 w.heap.size (by omega))).trans c1
      have hrl : (List.replicate k Z).length = k := by simp
      have hnow := hg.now
      have hsafe := hg.safe
      replace hnow : Hid _ := hnow
      replace hsafe : Hid _ := hsafe
      go_wp2_with (first
        | (at_builtin; have _t := tokA; (refine appStrAt rfl _ _ rfl (w.heap.size + 1) (.slice an k cn) (List.replicate k Z) Z wr.heap.size rfl rfl rfl hnow.out hsz (by omega) ?_); clear tokA; rw [hrl]; intro aN cN wA hoA hsA hkA osA tpA ouA locA; have hA := hg.stepA hoA hsA hkA osA tpA ouA locA; have fA := hA.1; have fB := hA.2.1; have fC := hA.2.2.1; have fD := hA.2.2.2.1; have hA2 : Hid _ := hA.2.2.2.2; replace hoA : Hid _ := hoA; replace hkA : Hid _ := hkA; clear hA k1 c1)
        | (at_builtin; have _t := tokB; (refine appStrAt rfl _ _ rfl (w.heap.size + 1) (.slice az k cs) (List.replicate k Z) Z wA.heap.size (by simp [World.setCell]) rfl rfl hA2.out.1 hA2.out.2.1 (by omega) ?_); clear tokB; rw [hrl]; intro aM cM wB hoB hsB hkB osB tpB ouB locB; have hB := hA2.out.2.2 hoB hsB hkB osB tpB ouB locB; have gA := hB.1; have gB := hB.2.1; have hB2 : Hid _ := hB.2.2; replace hoB : Hid _ := hoB; replace hkB : Hid _ := hkB; clear hB))
      exact ⟨⟨k + 1, aN, aM, cN, cM, by omega, by simp, hB2.out⟩, by simp [intOf]; omega⟩
    · have hke : k = sectors := by omega
      subst hke
      have hki : decide ((k : Int) < (k : Int)) = false := by simp
      have c6 : ∀ u, (wr.alloc u).cell? ⟨w.heap.size, 3, none⟩ = some (.slice none 0 0) := fun u => (World.cell?_of_block (w := wr) ((heap_alloc wr _).2 w.heap.size (by have := hg.lt; omega))).trans (ref_cell hg.cells 3 _ rfl)
      have f6 : ∀ u, (wr.alloc u).frozen? ⟨w.heap.size, 3, none⟩ = false := fun u => frozen_block (((heap_alloc wr u).2 w.heap.size (by have := hg.lt; omega)).trans hg.cells)
      go_wp2
      go_ret2
      exact ⟨_, rfl, hg.done hZ.out h1 h2 h3 h4 (by rw [HO2.out])⟩
end Go.Proofs.Ytcgjolonapndgaa
