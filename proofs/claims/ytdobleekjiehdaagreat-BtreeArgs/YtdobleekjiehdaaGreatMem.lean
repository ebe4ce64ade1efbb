/- The statements' own memory of pages: Lay and Load. -/
import Derived.Test.YtdobleekjiehdaaGreatMet
import Derived.Test.YtdobleekjiehdaaGreatRm
import Derived.Deep.RegionLaw
import Derived.Lib.ConvBytes
namespace Go.Proofs.YtdobleekjiehdaaGreat
set_option linter.unusedVariables false
open Go.RowKit Go.Lib
/-- Is the block no row of texts? -/
def NoS (w : World) (k : Nat) : Prop := ∀ (c : Array Value) (fr : Nat × Nat), w.heap[k]? ≠ some (.cells c 9 fr)
/-- Whatever is neither block m nor a row of texts is as it was, and so is whatever lies ahead of m. -/
structure Kl (m : Nat) (w w' : World) : Prop where
  os : w'.os = w.os
  tape : w'.tape = w.tape
  output : w'.output = w.output
  size : w.heap.size ≤ w'.heap.size
  block : ∀ k, k < w.heap.size → k ≠ m → NoS w k → w'.heap[k]? = w.heap[k]?
  low : ∀ k, k < w.heap.size → k < m → w'.heap[k]? = w.heap[k]?
theorem Kl.refl (m : Nat) (w : World) : Kl m w w := ⟨rfl, rfl, rfl, Nat.le_refl _, fun _ _ _ _ => rfl, fun _ _ _ => rfl⟩
theorem Kl.trans {m : Nat} {a b c : World} (h : Kl m a b) (k : Kl m b c) : Kl m a c :=
  ⟨k.os.trans h.os, k.tape.trans h.tape, k.output.trans h.output, Nat.le_trans h.size k.size, fun i hi hm hn => (k.block i (Nat.lt_of_lt_of_le hi h.size) hm (fun c fr e => hn c fr ((h.block i hi hm hn).symm.trans e))).trans (h.block i hi hm hn),
    fun i hi hm => (k.low i (Nat.lt_of_lt_of_le hi h.size) hm).trans (h.low i hi hm)⟩
theorem Kl.of_below {m : Nat} {w w' : World} (h : Below w.heap.size w w') : Kl m w w' := ⟨h.os, h.tape, h.output, h.size, fun k hk _ _ => h.block k hk, fun k hk _ => h.block k hk⟩
theorem Kl.below {m : Nat} {w w' : World} (h : Kl m w w') (hm : m ≤ w.heap.size) : Below m w w' := ⟨h.os, h.tape, h.output, h.size, fun k hk => h.low k (by omega) hk⟩
theorem nos_of {w : World} {k : Nat} {c : Array Value} {t : TypeId} {fr : Nat × Nat} (h : w.heap[k]? = some (.cells c t fr)) (ht : t ≠ 9) : NoS w k := fun c' fr' e => by
  rw [h] at e
  cases e
  exact ht rfl
/-- Block m is a memory of these pages. -/
def IsMem (w : World) (m : Nat) (ps : List ByteArray) (most size : Nat) : Prop :=
  ∃ vP, w.heap[m]? = some (.cells #[vP, .int .i64 most, .int .i64 size] 29 (0, 0)) ∧ w.ownsRow (m + 1) 9 1 vP ps.length (ps.map Value.string)
section
variable {w : World} {m most size : Nat} {ps : List ByteArray}
theorem IsMem.lt (h : IsMem w m ps most size) : m < w.heap.size := by obtain ⟨v, h, _⟩ := h; exact lt_of_block h
theorem IsMem.grow {W : World} (h : IsMem w m ps most size) (hb : Below w.heap.size w W) : IsMem W m ps most size := by
  have hl := h.lt
  obtain ⟨v, h1, h2⟩ := h
  refine ⟨v, (hb.block m hl).trans h1, World.ownsRow.kept (row := none) h2 ⟨hb.os, hb.tape, hb.output, hb.size, fun k hk _ => hb.block k hk⟩ (by cases v.ownBlock <;> simp)⟩
theorem info9 : (Tryz.prog.info? 9).map (fun i => (i.zero, i.size, i.bytes)) = some (some (.string ⟨#[]⟩), 1, 16) := by kernel_rfl
theorem row_shape {base n k : Nat} {v : Value} {xs : List Value} (h : w.ownsRow base 9 1 v n xs) (e : n = k) : ∃ a c, v = .slice a k c := by
  subst e
  rcases h.2 with ⟨rfl, h0⟩ | ⟨g, cap, cur, rfl, _⟩
  · rw [h0]; exact ⟨none, 0, rfl⟩
  · exact ⟨_, _, rfl⟩
/-- append(P, s), in a region that draws. -/
theorem stepStr {ops : Array Oper} {o : Oper} {a : Act} {K : Act → World → Prop} {Q : Exit → Act → World → Prop} {E : Prop} (hg : o.guard = none) (s x : Operand)
    (hop : o.op = Op.call { callee := Callee.builtin Builtin.append, args := #[s, x], argTypes := #[27, 27] }) (base : Nat) (v : Value) (ad : Addr) (ps : List ByteArray) (S : ByteArray) (hs : a.eval s = v) (hx : a.eval x = .slice (some ad) 1 1)
    (hown : w.ownsRow base 9 1 v ps.length (ps.map Value.string)) (hb : w.cell? ad = some (.string S)) (hbase : base ≤ w.heap.size) (hlen : ps.length ≤ 1000000)
    (h : ∀ v' w', w'.ownsRow base 9 1 v' (ps ++ [S]).length ((ps ++ [S]).map Value.string) → w.grownBy w' v.ownBlock → K (a.put o.dst v') w') : if Region.wanted o (yielded ops a.tmps) = true then Oper.wp Tryz.prog o a w K Q else E := by
  have hw : Region.wanted o (yielded ops a.tmps) = true := by simp [Region.wanted, hg]
  rw [if_pos hw]
  obtain ⟨i0, hi, hz0, hz1, hz2⟩ := info_parts info9
  refine wp_append_own w s x 27 hop base 9 i0 (.string ⟨#[]⟩) 1 16 Tryz.underlying27 hi hz0 hz1 hz2 rfl (by decide) v ps.length (ps.map Value.string) hs hown ad 1 1 [.string S] hx rfl ?_ ?_ (by unfold maxLen; omega) (by omega) hbase ?_
  · intro j y hj
    cases j with
    | zero => simp at hj; subst hj; simpa [Addr.add] using hb
    | succ j => simp at hj
  · intro u hu; simp at hu; subst hu; rfl
  · intro v' w' h1 h2 _
    refine h v' w' ?_ h2
    simpa using h1
set_option maxRecDepth 100000 in
set_option maxHeartbeats 4000000 in
theorem mload_ok (h : IsMem w m ps most size) (id : Nat) (h1 : 1 ≤ id) (h2 : id ≤ ps.length) (hp : ps.length ≤ 1000000) :
    Calls Tryz.prog 141 #[.pointer (some ⟨m, 0, none⟩), .int .i64 id] w fun e w' => ∃ v, e = .returned (.tuple #[v, .int .i64 0]) ∧ Bts w' v (numsS (ps.getD (id - 1) ByteArray.empty)) ∧ Below w.heap.size w w' := by
  obtain ⟨vP, hm, ho⟩ := h
  obtain ⟨j, rfl⟩ : ∃ j, id = j + 1 := ⟨id - 1, by omega⟩
  rw [Nat.add_sub_cancel]
  rcases ho.2 with ⟨rfl, h0⟩ | ⟨g, cap, cur, rfl, hb, hg, hnc, hcm, hcs, htake⟩
  · omega
  · have c0 : w.cell? ⟨m, 0, none⟩ = some (.slice (some ⟨g, 0, none⟩) ps.length cap) := by simp [World.cell?, hm]
    have hcell := World.ownsRow.cells ho (g := g) rfl j (.string (ps.getD j ByteArray.empty)) (by rw [List.getElem?_map, List.getD_eq_getElem?_getD, List.getElem?_eq_getElem (by omega)]; rfl)
    rw [add_at, Nat.zero_add] at hcell
    have d1 : decide ((ps.length : Int) < ((j + 1 : Nat) : Int)) = false := by simp; omega
    have d2 : decide (((j + 1 : Nat) : Int) < 1) = false := by simp; omega
    have e1 : ((j + 1 : Nat) : Int) - 1 = (j : Int) := by omega
    have hjl : j < ps.length := by omega
    have hcv := Go.Lib.run_convert_string_bytes (P := Tryz.prog) w 9 62 5 (ps.getD j ByteArray.empty) Tryz.underlying9 Tryz.underlying62 Tryz.underlying5
    have hbt : Bts (bytesWorld w 5 (ps.getD j ByteArray.empty)) (.slice (some ⟨w.heap.size, 0, none⟩) (ps.getD j ByteArray.empty).size (grownCap w (ps.getD j ByteArray.empty).size 0 5)) (numsS (ps.getD j ByteArray.empty)) := by
      refine ⟨_, _, by rw [numsS_length], ⟨(fun e => by cases e), by rw [numsS_length]; exact grownCap_ge _ _ _ _⟩, .inr ⟨w.heap.size, 0, rfl, fun t _ ht => ?_⟩⟩
      rw [numsS_length] at ht
      rw [Nat.zero_add, bytesWorld_cell _ _ _ _ ht]
      simp [numsS, List.getD_eq_getElem?_getD, List.getElem?_map]
      generalize (ps[j]?.getD ByteArray.empty).data[t]? = q
      cases q <;> rfl
    have hbw : Below w.heap.size w (bytesWorld w 5 (ps.getD j ByteArray.empty)) := ⟨rfl, rfl, rfl, by rw [bytesWorld_size]; omega, fun k hk => bytesWorld_at_old _ _ _ k hk⟩
    generalize ps.getD j ByteArray.empty = S at *
    clear hm ho hg hnc hcm hcs htake
    go_enter Tryz.func141, Tryz.ntmps141
    go_wp2_with fail
    go_ret2
    exact ⟨_, rfl, hbt, hbw⟩
set_option maxRecDepth 100000 in
set_option maxHeartbeats 4000000 in
theorem mlay_ok (h : IsMem w m ps most size) (v : Value) (bs : List Int) (hb : Bts w v bs) (hl : bs.length ≤ size) (hmo : ps.length < most) (hp : ps.length ≤ 1000000) :
    Calls Tryz.prog 140 #[.pointer (some ⟨m, 0, none⟩), v] w fun e w' => e = .returned (.tuple #[.int .i64 ((ps.length + 1 : Nat) : Int), .int .i64 0]) ∧ IsMem w' m (ps ++ [strOfNums bs]) most size ∧ Kl m w w' := by
  have hml := h.lt
  obtain ⟨vP, hm, ho⟩ := h
  obtain ⟨aP, cP, rfl⟩ : ∃ a c, vP = .slice a ps.length c := by
    rcases ho.2 with ⟨rfl, h0⟩ | ⟨g, cap, cur, rfl, _⟩
    · rw [h0]; exact ⟨none, 0, rfl⟩
    · exact ⟨_, _, rfl⟩
  obtain ⟨S, hS⟩ : ∃ S, strOfNums bs = S := ⟨_, rfl⟩
  rw [hS]
  obtain ⟨n, hn⟩ : ∃ n, Hid (n = ps.length) := ⟨_, rfl⟩
  rw [← hn.out] at hm hmo hp ⊢
  have ho' : Hid (w.ownsRow (m + 1) 9 1 (.slice aP n cP) ps.length (ps.map Value.string)) := by rw [hn.out]; exact ho
  clear ho
  have hlb := len_bts hb
  have hcv := fun W (hW : Below w.heap.size w W) => conv_str (hb.grow hW)
  rw [hS] at hcv
  clear hS
  have hmk : ∀ W, Below w.heap.size w W → W.cell? ⟨m, 0, none⟩ = some (.slice aP n cP) ∧ W.cell? ⟨m, 1, none⟩ = some (.int .i64 most) ∧ W.cell? ⟨m, 2, none⟩ = some (.int .i64 size) ∧ W.frozen? ⟨m, 0, none⟩ = false := fun W hW => by
    have hh := (hW.block m hml).trans hm
    refine ⟨?_, ?_, ?_, ?_⟩ <;> simp [World.cell?, World.frozen?, hh]
  obtain ⟨c0, c1, c2, f0⟩ := hmk w (Below.refl _ _)
  have d1 : decide ((size : Int) < (bs.length : Int)) = false := by simp; omega
  have d2 : decide ((most : Int) ≤ (n : Int)) = false := by simp; omega
  go_enter Tryz.func140, Tryz.ntmps140
  go_wp2_with fail
  go_quiet (fail)
  go_wp2_with fail
  have hB0 : Below w.heap.size w (w.drewN nq) := below_draw w nq
  generalize w.drewN nq = w0 at *
  have hcv0 := hcv w0.drew hB0.drew
  have ho0 : w0.ownsRow (m + 1) 9 1 (.slice aP n cP) ps.length (ps.map Value.string) := World.ownsRow.kept (row := none) ho'.out ⟨hB0.os, hB0.tape, hB0.output, hB0.size, fun k hk _ => hB0.block k hk⟩ (by cases (Value.slice aP n cP).ownBlock <;> simp)
  have hoA : ((w0.alloc (.cells #[.string S] 9)).drew).ownsRow (m + 1) 9 1 (.slice aP n cP) ps.length (ps.map Value.string) := World.ownsRow.kept (row := none) (ho0.alloc (.cells #[.string S] 9)) ⟨rfl, rfl, rfl, Nat.le_refl _, fun _ _ _ => rfl⟩ (by cases (Value.slice aP n cP).ownBlock <;> simp)
  have hBA : Below w.heap.size w ((w0.alloc (.cells #[.string S] 9)).drew) := (hB0.alloc hB0.size _).drew
  have hwn : ∀ k, (Value.slice aP n cP).ownBlock = some k → m + 1 ≤ k := fun k hk => (World.ownsRow.lt ho0 k hk).1
  have hm0 := (hBA.block m hml).trans hm
  obtain ⟨c0', c1', c2', f0'⟩ := hmk w0 hB0
  have hmA : (w0.alloc (.cells #[.string S] 9)).cell? ⟨m, 0, none⟩ = some (.slice aP n cP) := by
    have hh : (w0.alloc (.cells #[.string S] 9)).heap[m]? = _ := hm0
    simp [World.cell?, hh]
  have hml0 : m + 1 ≤ w0.heap.size := by have := hB0.size; omega
  have hNS : ∀ k, (Value.slice aP n cP).ownBlock = some k → ¬ NoS w k := fun k hk hn2 => by
    rcases ho'.out.2 with ⟨e, _⟩ | ⟨g, cap, cur, e, hb1, hg1, _⟩
    · rw [e] at hk; simp [Value.ownBlock] at hk
    · rw [e] at hk
      simp [Value.ownBlock] at hk
      subst hk
      exact hn2 _ _ hg1
  clear hcv hmk hlb ho' ho0 c0 c1 c2 f0
  go_region_law (first | (refine stepStr rfl (.tmp 27) (.tmp 30) rfl (m + 1) _ _ ps S rfl rfl hoA (newCd rfl _ _) (by simp; omega) (by rw [← hn.out]; exact hp) ?_; intro v5 w5 ho5 hg5; have hm5 := (hg5.block m (Nat.lt_of_lt_of_le hml hBA.size) (fun e => by have := hwn _ e.symm; omega)).trans hm0; obtain ⟨a5, c5, rfl⟩ := row_shape ho5 (k := n + 1) (by rw [hn.out]; simp); have k0 : w5.cell? ⟨m, 0, none⟩ = some (.slice aP n cP) := (by simp [World.cell?, hm5]); have k1 : w5.frozen? ⟨m, 0, none⟩ = false := (by simp [World.frozen?, hm5])))
  all_goals
    have hw6 : (w5.setCell ⟨m, 0, none⟩ (.slice a5 (n + 1) c5)).heap[m]? = some (.cells #[.slice a5 (n + 1) c5, .int .i64 most, .int .i64 size] 29 (0, 0)) := block_setCell hm5
    have k6 : (w5.setCell ⟨m, 0, none⟩ (.slice a5 (n + 1) c5)).cell? ⟨m, 0, none⟩ = some (.slice a5 (n + 1) c5) := by simp [World.cell?, hw6]
    go_wp2_with fail
    go_ret2
    refine ⟨rfl, ⟨_, hw6, ?_⟩, ⟨?_, ?_, ?_, ?_, ?_, ?_⟩⟩
    · have := World.ownsRow.kept (row := some m) ho5 (grownBy_set (Below.refl _ w5) m 0 (.slice a5 (n + 1) c5)) (.inr (fun e => by have := (World.ownsRow.lt ho5 m e).1; omega))
      exact this
    · exact hg5.os.trans hBA.os
    · exact hg5.tape.trans hBA.tape
    · exact hg5.output.trans hBA.output
    · have := hg5.size
      have := hBA.size
      simp at *
      omega
    · intro k hk hkm hkn
      refine (Below.heap_setCell _ _ _ _ hkm).trans ((hg5.block k (Nat.lt_of_lt_of_le hk hBA.size) (fun e => hNS k e.symm hkn)).trans (hBA.block k hk))
    · intro k hk hkm
      refine (Below.heap_setCell _ _ _ _ (by show k ≠ m; omega)).trans ((hg5.block k (Nat.lt_of_lt_of_le hk hBA.size) (fun e => by have := hwn k e.symm; omega)).trans (hBA.block k hk))
end
end Go.Proofs.YtdobleekjiehdaaGreat
