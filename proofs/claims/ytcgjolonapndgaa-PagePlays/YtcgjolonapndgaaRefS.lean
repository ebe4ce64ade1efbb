/- Sync of the document's answer. -/
import Derived.Test.YtcgjolonapndgaaRefW
namespace Go.Proofs.Ytcgjolonapndgaa
open Go.RowKit Go.Maps Go.ChangeMaps Go.MapKept

theorem info4 : (Try.prog.info? 4).map (fun i => (i.zero, i.size, i.bytes)) = some (some (.bool false), 1, 1) := by kernel_rfl
theorem makeBo (w : World) (n : Nat) (hn : n ≤ 1000000) : (Instr.makeSlice 66 (.int .i64 n) (.int .i64 n)).run Try.prog w = .ok (slR3 w.heap.size n n) (w.alloc (.cells (madeCells #[.bool false] n) 4)) := by
  obtain ⟨i0, hi, hz0, hz1, hz2⟩ := info_parts info4
  rw [run_make w 66 4 i0 (.bool false) Try.underlying66 hi hz0 .i64 .i64 n n (by omega) (by omega) (by rw [hz2]; omega) (by omega), hz1]
  simp [slR3, Value.cells]
theorem vrow_made {w : World} {g n : Nat} (h : w.heap[g]? = some (.cells (madeCells #[.bool false] n) 4 (0, 0))) : VRow 4 w g n n (fun _ => .bool false) := by
  refine ⟨_, h, Nat.le_refl _, by simp [madeCells], fun i hi => ?_⟩
  simp [madeCells, hi, Nat.mod_one]
theorem vrow_owns {w : World} {base : Nat} {v : Value} {n : Nat} {xs : List ByteArray} (h : w.ownsRow base 9 1 v n (xs.map Value.string)) (hn : 0 < n) (hx : xs.length = n) : ∃ g cap, v = slR3 g n cap ∧ base ≤ g ∧ VRow 9 w g cap n (fun i => .string (xs.getD i ⟨#[]⟩)) := by
  obtain ⟨h1, h2⟩ := h
  rcases h2 with ⟨_, h0⟩ | ⟨g, cap, cur, rfl, hb, hg, hnc, _, hcs, htake⟩
  · omega
  · refine ⟨g, cap, rfl, hb, cur, hg, hnc, by simpa using hcs, fun i hi => ?_⟩
    have : (cur.toList.take (n * 1))[i]? = (xs.map Value.string)[i]? := by rw [htake]
    rw [List.getElem?_take, if_pos (by omega)] at this
    rw [← Array.getElem?_toList, this]
    simp [List.getElem?_eq_getElem (show i < xs.length by omega)]
/-- append([]string{}, v...), v a row that is read. -/
theorem appStrs {ops : Array Oper} {rest : List Oper} {o : Oper} {a : Act} {Q : Exit → Act → World → Prop} (hgd : o.guard = none) (sl x : Operand)
    (ho : o.op = .call { callee := .builtin .append, args := #[sl, x], argTypes := #[65, 65] })
    (W0 : World) (g cap n : Nat) (xs : List ByteArray) (hs : a.eval sl = .slice (some ⟨W0.heap.size, 0, none⟩) 0 0) (hx : a.eval x = .slice (some ⟨g, 0, none⟩) n cap) (hxl : xs.length = n) (hn0 : 0 < n) (hn : n ≤ 1000000)
    (hrow : VRow 9 W0 g cap n (fun i => .string (xs.getD i ⟨#[]⟩)))
    (h : ∀ g' cap' w', VRow 9 w' g' cap' n (fun i => .string (xs.getD i ⟨#[]⟩)) → W0.heap.size ≤ g' → Below W0.heap.size W0 w' → wpList Try.prog ops Q rest (a.put o.dst (slR3 g' n cap')) w') :
    wpList Try.prog ops Q (o :: rest) a (W0.alloc (.cells #[] 9)) := by
  obtain ⟨i0, hi, hz0, hz1, hz2⟩ := info_parts info9
  have hown : (W0.alloc (.cells #[] 9)).ownsRow W0.heap.size 9 1 (.slice (some ⟨W0.heap.size, 0, none⟩) 0 0) 0 [] :=
    ⟨rfl, .inr ⟨W0.heap.size, 0, #[], rfl, Nat.le_refl _, (heap_alloc W0 _).1, Nat.le_refl _, Nat.zero_le _, rfl, rfl⟩⟩
  refine wpList_append_own _ hgd sl x 65 ho W0.heap.size 9 i0 (.string ⟨#[]⟩) 1 16 Try.underlying65 hi hz0 hz1 hz2 rfl (by decide) _ 0 [] hs hown ⟨g, 0, none⟩ n cap (xs.map Value.string) hx (by simp [hxl]) (fun j u hj => ?_) (fun u hu => by obtain ⟨z, _, rfl⟩ := List.mem_map.1 hu; rfl) (by unfold maxLen; omega) (by omega) (by simp) ?_
  · rw [List.getElem?_map] at hj
    have hjl : j < xs.length := by
      rcases Nat.lt_or_ge j xs.length with h | h
      · exact h
      · rw [List.getElem?_eq_none h] at hj; cases hj
    rw [List.getElem?_eq_getElem hjl] at hj
    simp only [Option.map_some, Option.some.injEq] at hj
    subst hj
    have hc := ((hrow.keep ((heap_alloc W0 (.cells #[] 9)).2 g hrow.lt)).cell j (by omega)).1
    rw [add_at, Nat.zero_add, hc]
    simp [hjl]
  · intro v' w' h1 h2 _
    rw [Nat.zero_add, List.nil_append] at h1
    obtain ⟨g', cap', rfl, hb, hv⟩ := vrow_owns h1 hn0 hxl
    refine h g' cap' w' hv hb (((Below.refl _ W0).alloc (Nat.le_refl _) _).grown h2 (by simp) (fun k hk => by cases hk; exact Nat.le_refl _))

section
variable {w : World} {r : Nat} {G : Nat → Prop} {s : St} {gn cn gs cs gu cu : Nat}
theorem sync_state (s : St) (hl : s.live = true) (h1 : ∀ i : Int, (s.now i).length = s.size) (h2 : ∀ i : Int, (s.safe i).length = s.size) : s.sync = { s.op with safe := s.now, fresh := fun _ => none } := by
  obtain ⟨_, e2, e3, e4, _⟩ := op_same s
  unfold St.sync
  rw [if_pos hl]
  unfold St.settle
  congr 1
  funext n
  have hn := h1 n
  have hs := h2 n
  unfold St.settled
  rw [e4, e3]
  unfold St.now at hn ⊢
  cases hf : s.fresh n with
  | none => rfl
  | some x =>
    rw [hf] at hn
    simp only [Option.getD_some] at hn ⊢
    unfold over
    rw [List.take_of_length_le (by omega), List.drop_eq_nil_of_le (by omega), List.append_nil]

/-- The safe row and the marks are new rows. -/
theorem IsRef.synced {W : World} {s' : St} {gs' cs' gu' cu' : Nat} (h : IsRef w r G s gn cn gs cs gu cu) (hc : W.heap[r]? = some (.cells (refCells s' (slR3 gn s.sectors cn) (slR3 gs' s.sectors cs') (slR3 gu' s.sectors cu')) 68 (0, 0))) (hn : W.heap[gn]? = w.heap[gn]?)
    (hs : VRow 9 W gs' cs' s.sectors (fun i => .string (strOfNums (s.now i)))) (hu : VRow 4 W gu' cu' s.sectors (fun _ => .bool false)) (hgs : w.heap.size ≤ gs') (hgu : w.heap.size ≤ gu')
    (e1 : s'.sectors = s.sectors) (e2 : s'.size = s.size) (e3 : s'.safe = s.now) (e4 : s'.fresh = fun _ => none) (l1 : -1 ≤ s'.left) (l2 : s'.left ≤ 9223372036854775807) : IsRef W r (fun k => G k ∨ w.heap.size ≤ k) s' gn cn gs' cs' gu' cu' := by
  have en : s'.now = s.now := by funext i; simp [St.now, e3, e4]
  exact {
    cells := by rw [e1]; exact hc
    now := by rw [e1, en]; exact h.now.keep hn
    safe := by rw [e1, e3]; exact hs
    u := by rw [e1, e4]; exact hu
    apart := fun e => by have := h.now.lt; omega
    inR := .inl h.inR
    inN := .inl h.inN
    inS := .inr hgs
    inU := .inr hgu
    nowLen := by rw [en, e2]; exact h.nowLen
    safeLen := by rw [e3, e2]; exact h.nowLen
    sec1 := by rw [e1]; exact h.sec1
    sec2 := by rw [e1]; exact h.sec2
    size1 := by rw [e2]; exact h.size1
    size2 := by rw [e2]; exact h.size2
    left1 := l1
    left2 := l2 }

/-- The third field behind the store of the second and a new block. -/
theorem ref_store {w2 : World} {vn vs vu : Value} (hc : w2.heap[r]? = some (.cells (refCells s vn vs vu) 68 (0, 0))) (hr : r < w2.heap.size) (g n c : Nat) (O : Obj) : ((w2.setCell ⟨r, 2, none⟩ (.slice (some ⟨g, 0, none⟩) n c)).alloc O).cell? ⟨r, 3, none⟩ = some vu ∧ ((w2.setCell ⟨r, 2, none⟩ (.slice (some ⟨g, 0, none⟩) n c)).alloc O).frozen? ⟨r, 3, none⟩ = false := by
  have h1 := block_setCell (i := 2) (u := .slice (some ⟨g, 0, none⟩) n c) hc
  have h2 : ((w2.setCell ⟨r, 2, none⟩ (.slice (some ⟨g, 0, none⟩) n c)).alloc O).heap[r]? = _ := ((heap_alloc _ O).2 r (by simpa [World.setCell] using hr)).trans h1
  constructor
  · simp [World.cell?, h2, refCells]
  · simp [World.frozen?, h2]

set_option maxRecDepth 100000 in
set_option maxHeartbeats 4000000 in
theorem refSync_any (h : IsR w r G s) (hops : s.ops < 17592186044416) : Calls Try.prog 28 #[.pointer (some ⟨r, 0, none⟩)] w fun e w' => e = .returned (.int .i64 s.errOp) ∧ TurnedR w r G s.sync w' := by
  obtain ⟨gn, cn, gs, cs, gu, cu, h⟩ := h
  have hop := begin_any h (by omega)
  cases hl : s.live with
  | false =>
    have e3 : s.errOp = 20 := by simp [St.errOp, hl]
    have e2 : s.sync = s.op := by simp [St.sync, hl]
    rw [e3] at hop
    rw [e3, e2]
    go_enter Try.func28, Try.ntmps28
    go_wp2_with (first | (go_at_call 50; refine hop.mono ?_; rintro e w1 ⟨rfl, hd1, hg1⟩))
    go_ret
    exact ⟨rfl, turnedR_of (hd1.wide fun j hj => .inl hj) (Frm.of_grown hg1 (fun j e => by cases e; exact .inl h.inR))⟩
  | true =>
    have e3 : s.errOp = 0 := by simp [St.errOp, hl]
    rw [e3] at hop
    rw [e3]
    obtain ⟨esec, esz, esf, efr, _⟩ := op_same s
    have hsec := h.sec2
    have hsec1 := h.sec1
    obtain ⟨xs, hxs⟩ : ∃ xs, Hid (xs = (List.range s.sectors).map (fun (i : Nat) => strOfNums (s.now i))) := ⟨_, rfl⟩
    have hxl : xs.length = s.sectors := by rw [hxs.out]; simp
    have enow : s.op.now = s.now := by funext i; simp [St.now, esf, efr]
    have hxg : ∀ i, i < s.sectors → xs.getD i ⟨#[]⟩ = strOfNums (s.now i) := fun i hi => by rw [hxs.out]; simp [hi]
    have mk : Hid (∀ w1, IsRef w1 r G s.op gn cn gs cs gu cu → VRow 9 w1 gn cn s.sectors (fun i => .string (xs.getD i ⟨#[]⟩))) := by
      show ∀ w1, _ → _
      intro w1 h1
      have := h1.now
      rw [esec, enow] at this
      exact this.congr (fun i hi => by rw [hxg i hi])
    clear hxg
    replace hxl : Hid _ := hxl
    clear enow
    have hmb : ∀ W, (Instr.makeSlice 66 (.int .i64 s.sectors) (.int .i64 s.sectors)).run Try.prog W = _ := fun W => makeBo W s.sectors (by omega)
    simp only [slR3] at hmb
    generalize HO : Obj.cells (madeCells #[.bool false] s.sectors) 4 = O at hmb
    replace HO : Hid _ := HO
    go_enter Try.func28, Try.ntmps28
    go_wp2_with (first
      | (go_at_call 50; refine hop.mono ?_; rintro e w1 ⟨rfl, hd1, hg1⟩; have a1 := hd1.c1; have a2 := hd1.c2; have f2 := hd1.fr 2; rw [esec] at a1 a2; have k1 : (w1.alloc (.cells #[] 9)).cell? ⟨r, 1, none⟩ = some (.slice (some ⟨gn, 0, none⟩) s.sectors cn) := (World.cell?_of_block (w := w1) ((heap_alloc w1 _).2 r hd1.lt)).trans a1)
      | (at_builtin; refine appStrs rfl _ _ rfl w1 gn cn s.sectors xs rfl rfl hxl.out (by omega) (by omega) (mk.out w1 hd1) ?_; intro g2 c2 w2 hv2 hg2 hb2; unfold slR3; have z1 : w2.cell? ⟨r, 1, none⟩ = some (.slice (some ⟨gn, 0, none⟩) s.sectors cn) := (World.cell?_of_block (w := w1) (hb2.block r hd1.lt)).trans a1; have z2 := (World.cell?_of_block (w := w1) (w' := w2) (a := ⟨r, 2, none⟩) (hb2.block r hd1.lt)).trans a2; have zf := (World.frozen?_of_block (w := w1) (w' := w2) (a := ⟨r, 2, none⟩) (hb2.block r hd1.lt)).trans f2; have hr2 : r < w2.heap.size := Nat.lt_of_lt_of_le hd1.lt hb2.size; have hc2 : w2.heap[r]? = _ := (hb2.block r hd1.lt).trans hd1.cells; obtain ⟨z3, z4⟩ := ref_store hc2 hr2 g2 s.sectors c2 O))
    go_ret
    refine ⟨rfl, ?_⟩
    have hsy := sync_state s hl h.nowLen h.safeLen
    have hr2 : r < w2.heap.size := Nat.lt_of_lt_of_le hd1.lt hb2.size
    obtain ⟨n1, _, _⟩ := hd1.nr
    have hW : ∀ j, j < w2.heap.size → j ≠ r → (((w2.setCell ⟨r, 2, none⟩ (.slice (some ⟨g2, 0, none⟩) s.sectors c2)).setCell ⟨r, 3, none⟩ (.slice (some ⟨w2.heap.size, 0, none⟩) s.sectors s.sectors)).alloc O).heap[j]? = w2.heap[j]? := fun j hj hn =>
      ((heap_alloc _ O).2 j (by simpa [World.setCell] using hj)).trans ((other_set _ _ _ _ j hn).trans (other_set _ _ _ _ j hn))
    have hcr : (((w2.setCell ⟨r, 2, none⟩ (.slice (some ⟨g2, 0, none⟩) s.sectors c2)).setCell ⟨r, 3, none⟩ (.slice (some ⟨w2.heap.size, 0, none⟩) s.sectors s.sectors)).alloc O).heap[r]? = _ := ((heap_alloc _ O).2 r (by simpa [World.setCell] using hr2)).trans (block_setCell (block_setCell hc2))
    have hob : (((w2.setCell ⟨r, 2, none⟩ (.slice (some ⟨g2, 0, none⟩) s.sectors c2)).setCell ⟨r, 3, none⟩ (.slice (some ⟨w2.heap.size, 0, none⟩) s.sectors s.sectors)).alloc O).heap[w2.heap.size]? = some O := by
      have := (heap_alloc ((w2.setCell ⟨r, 2, none⟩ (.slice (some ⟨g2, 0, none⟩) s.sectors c2)).setCell ⟨r, 3, none⟩ (.slice (some ⟨w2.heap.size, 0, none⟩) s.sectors s.sectors)) O).1
      simpa [World.setCell] using this
    have hng2 : g2 ≠ r := fun e => by have := hd1.lt; omega
    obtain ⟨l1, l2⟩ := op_left s h.left1 h.left2
    rw [hsy]
    refine turnedR_of ((hd1.synced (s' := { s.op with safe := s.now, fresh := fun _ => none }) (gs' := g2) (cs' := c2) (gu' := w2.heap.size) (cu' := s.sectors) ?_ ?_ ?_ ?_ hg2 hb2.size rfl rfl ?_ rfl l1 l2).wide (fun j hj => ?_)) ?_
    · rw [hcr, esec]
      simp [refCells, slR3]
    · exact (hW gn (Nat.lt_of_lt_of_le hd1.now.lt hb2.size) n1).trans (hb2.block gn hd1.now.lt)
    · rw [esec]
      refine (hv2.keep (hW g2 hv2.lt hng2)).congr (fun i hi => ?_)
      have e : s.op.now = s.now := by funext i; simp [St.now, esf, efr]
      rw [e, hxs.out]
      simp [hi]
    · rw [esec]; exact vrow_made (hob.trans (by rw [HO.out]))
    · have e : s.op.now = s.now := by funext i; simp [St.now, esf, efr]
      rw [e]
    · have hs1 : w.heap.size ≤ w1.heap.size := hg1.size
      rcases hj with hj | hj
      · exact .inl hj
      · exact .inr (by omega)
    · have hf1 : Frm G w w1 := Frm.of_grown hg1 (fun j e => by cases e; exact .inl h.inR)
      refine (hf1.trans (Frm.of_below hb2 G) (fun _ h => .inl h)).trans (Frm.mk (F := fun j => j = r) rfl rfl rfl (by simp [World.setCell]) (fun j hj hn => hW j hj hn)) (fun j hj => .inl (by rw [hj]; exact h.inR))
end
end Go.Proofs.Ytcgjolonapndgaa
