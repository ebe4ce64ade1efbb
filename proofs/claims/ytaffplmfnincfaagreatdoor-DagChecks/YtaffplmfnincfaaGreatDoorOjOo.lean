/- Oj; Ok; Ol; Om; On; Oo. -/
import Derived.Test.YtaffplmfnincfaaGreatDoorOaOd
import Derived.Test.YtaffplmfnincfaaGreatDoorDeDi
import Derived.Deep.RegionLaw
import Derived.WalkMore
/- What is told: a map of refs; the closure that asks it; slices.ContainsFunc. -/
namespace Go.Proofs.YtaffplmfnincfaaGreatDoor
set_option linter.unusedVariables false
open Go.RowKit
def UnI (_ : World) (f : Value) (_ : Unit) : Prop := f = .agg #[]
theorem UnI.keep : ∀ w w' f φ, CellsKept w w' → UnI w f φ → UnI w' f φ := fun _ _ _ _ _ h => h
/-- The refs that are told. -/
abbrev TTab (w : World) (b : Nat) (T : List ByteArray) : Prop := Tab UnI w b (T.map fun r => (r, ()))
theorem map51 : Tryz.prog.underlying 51 = some (.map 9 52) := Tryz.underlying51
theorem asc_in (r : ByteArray) : ∀ T : List ByteArray, (asc r (T.map fun t => (t, ()))).isSome = inB T r
  | [] => rfl
  | t :: T => by
    have ih := asc_in r T
    unfold inB at ih ⊢
    rw [List.map_cons, asc, List.any_cons]
    by_cases h : r = t
    · rw [if_pos h]; simp [h]
    · rw [if_neg h, ih]
      have : decide (t = r) = false := by simpa using fun e => h e.symm
      rw [this, Bool.false_or]
/-- What a look-up tells. -/
theorem look_t {w : World} {b : Nat} {T : List ByteArray} (h : TTab w b T) (r : ByteArray) : (Instr.lookup 51 (.map (some b)) (.string r) true).run Tryz.prog w = .ok (.tuple #[.agg #[], .bool (inB T r)]) w := by
  rw [← asc_in]
  obtain ⟨arr, clock, h1, h2⟩ := h
  rcases h2.find r with ⟨g1, g2⟩ | ⟨φ, v, g1, g2, g3⟩
  · rw [g1]
    simp [Instr.lookup, Sem.run_bind, run_underlying map51, MapKept.run_getObj_map h1, MapKept.run_checkKey (k := .string r) str9 (by simp [MapKept.IsKey]), MapKept.run_findKey str9 (g2 0), Result.andThen]
  · rw [g1]
    obtain ⟨j, hj⟩ := g3 0
    have e : v = .agg #[] := g2
    subst e
    simp [Instr.lookup, Sem.run_bind, run_underlying map51, MapKept.run_getObj_map h1, MapKept.run_checkKey (k := .string r) str9 (by simp [MapKept.IsKey]), MapKept.run_findKey str9 hj, Result.andThen]
theorem TTab.grow {w w' : World} {b : Nat} {T : List ByteArray} (h : TTab w b T) (hb : Below w.heap.size w w') : TTab w' b T := Tab.keep UnI.keep h hb
set_option maxRecDepth 100000 in
set_option maxHeartbeats 1000000 in
/-- The closure: is a ref not told yet? -/
theorem untold23 (r : ByteArray) (q b : Nat) (T : List ByteArray) (w : World) (hq : w.cell? ⟨q, 0, none⟩ = some (.map (some b))) (hT : TTab w b T) : Calls Tryz.prog 23 #[.string r, .pointer (some ⟨q, 0, none⟩)] w fun e w' => e = .returned (.bool (!inB T r)) ∧ Below w.heap.size w w' := by
  have hl := look_t hT r
  generalize inB T r = B at *
  have hb := bW0 w (.cells #[] 52)
  go_enter Tryz.func23, Tryz.ntmps23
  go_wp2
  go_ret
  exact ⟨rfl, hb⟩
end Go.Proofs.YtaffplmfnincfaaGreatDoor
/- slices.ContainsFunc at texts. -/
namespace Go.Proofs.YtaffplmfnincfaaGreatDoor
set_option linter.unusedVariables false
open Go.RowKit
section
variable {α : Type} (p : α → Bool) (d : α)
/-- The place of the first one. -/
def idxP (l : List α) : Int := if l.any p = true then (l.findIdx p : Int) else -1
theorem getD_get' (l : List α) (k : Nat) (h : k < l.length) : l.getD k d = l[k] := by rw [List.getD_eq_getElem?_getD, List.getElem?_eq_getElem h]; rfl
theorem idxP_some {l : List α} (h : l.any p = true) : l.findIdx p < l.length ∧ p (l.getD (l.findIdx p) d) = true ∧ ∀ k, k < l.findIdx p → p (l.getD k d) = false := by
  have h1 : l.findIdx p < l.length := by
    rw [List.findIdx_lt_length]
    obtain ⟨x, hx, hu⟩ := List.any_eq_true.1 h
    exact ⟨x, hx, hu⟩
  refine ⟨h1, ?_, fun k hk => ?_⟩
  · rw [getD_get' d _ _ h1]; exact List.findIdx_getElem (w := h1)
  · rw [getD_get' d _ _ (by omega)]
    have := List.not_of_lt_findIdx hk
    simpa using this
theorem idxP_none {l : List α} (h : l.any p = false) (k : Nat) (hk : k < l.length) : p (l.getD k d) = false := by
  rw [getD_get' d _ _ hk]
  have := List.any_eq_false.1 h l[k] (List.getElem_mem hk)
  simpa using this
end
set_option maxRecDepth 100000 in
set_option maxHeartbeats 4000000 in
/-- slices.IndexFunc. -/
theorem idx45 (v f : Value) (q : Nat) (hf : f = .func (.func 23) #[] #[.pointer (some ⟨q, 0, none⟩)]) (p : ByteArray → Bool) (l : List ByteArray) (w : World) (hv : Txs w v l) (hl : l.length ≤ 1000000) (hp : ∀ r W, Below w.heap.size w W → Calls Tryz.prog 23 #[.string r, .pointer (some ⟨q, 0, none⟩)] W fun e w' => e = .returned (.bool (p r)) ∧ Below W.heap.size W w') : Calls Tryz.prog 45 #[v, f] w fun e w' => e = .returned (.int .i64 (idxP p l)) ∧ Below w.heap.size w w' := by
  obtain ⟨a, c, rfl⟩ := hv.shape
  replace hv : Hid (Txs w (.slice a l.length c) l) := hv
  replace hp : Hid (∀ r W, Below w.heap.size w W → Calls Tryz.prog 23 #[.string r, .pointer (some ⟨q, 0, none⟩)] W fun e w' => e = .returned (.bool (p r)) ∧ Below W.heap.size W w') := hp
  subst hf
  cases hany : l.any p with
  | false =>
    have hid : Hid (idxP p l = -1) := by unfold idxP; rw [hany]; rfl
    have hno : Hid (∀ k, k < l.length → p (l.getD k ⟨#[]⟩) = false) := fun k hk => idxP_none p _ hany k hk
    clear hany
    rw [hid.out]
    go_enter Tryz.func45, Tryz.ntmps45
    go_wp2
    go_loopw [8] (fun i wr => ∃ k : Nat, k ≤ l.length ∧ i = .int .i64 k ∧ Hid (Below w.heap.size w wr)) (fun i _ => l.length - (intOf i).toNat)
    case atStart => exact ⟨0, Nat.zero_le _, rfl, Below.refl _ _⟩
    case round =>
      obtain ⟨k, hk, rfl, hB⟩ := hrel
      by_cases hlt : k < l.length
      · have hki : (k : Int) < (l.length : Int) := by omega
        obtain ⟨b, o, rfl, x0⟩ := tx_at (hv.out.grow hB.out) k hlt
        have hu := hp.out (l.getD k ⟨#[]⟩) wr hB.out
        rw [hno.out k hlt] at hu
        generalize l.getD k ⟨#[]⟩ = r at *
        go_wp2_with (first
          | (go_at_call 23; refine hu.mono ?_; rintro e w1 ⟨rfl, hb1⟩; have hB1 : Hid _ := hB.out.trans (hb1.mono hB.out.size)))
        refine ⟨⟨k + 1, by omega, by go_num, hB1⟩, ?_⟩
        simp [intOf]; omega
      · obtain rfl : k = l.length := by omega
        have hki : ¬ (l.length : Int) < (l.length : Int) := by omega
        have hB' := hB.out
        go_wp2
        go_ret
        exact ⟨rfl, hB'⟩
  | true =>
    obtain ⟨h1, h2, h3⟩ := idxP_some p ⟨#[]⟩ hany
    have hid : Hid (idxP p l = (l.findIdx p : Int)) := by unfold idxP; rw [hany]; rfl
    rw [hid.out]
    clear hid hany
    generalize l.findIdx p = K at *
    replace h2 : Hid (p (l.getD K ⟨#[]⟩) = true) := h2
    replace h3 : Hid (∀ k, k < K → p (l.getD k ⟨#[]⟩) = false) := h3
    go_enter Tryz.func45, Tryz.ntmps45
    go_wp2
    go_loopw [8] (fun i wr => ∃ k : Nat, k ≤ K ∧ i = .int .i64 k ∧ Hid (Below w.heap.size w wr)) (fun i _ => l.length - (intOf i).toNat)
    case atStart => exact ⟨0, Nat.zero_le _, rfl, Below.refl _ _⟩
    case round =>
      obtain ⟨k, hk, rfl, hB⟩ := hrel
      have hki : (k : Int) < (l.length : Int) := by omega
      obtain ⟨b, o, rfl, x0⟩ := tx_at (hv.out.grow hB.out) k (by omega)
      have hu := hp.out (l.getD k ⟨#[]⟩) wr hB.out
      by_cases hlt : k < K
      · rw [h3.out k hlt] at hu
        generalize l.getD k ⟨#[]⟩ = r at *
        go_wp2_with (first
          | (go_at_call 23; refine hu.mono ?_; rintro e w1 ⟨rfl, hb1⟩; have hB1 : Hid _ := hB.out.trans (hb1.mono hB.out.size)))
        refine ⟨⟨k + 1, by omega, by go_num, hB1⟩, ?_⟩
        simp [intOf]; omega
      · obtain rfl : k = K := by omega
        rw [h2.out] at hu
        clear h3
        generalize l.getD k ⟨#[]⟩ = r at *
        go_wp2_with (first
          | (go_at_call 23; refine hu.mono ?_; rintro e w1 ⟨rfl, hb1⟩; have hB1 := hB.out.trans (hb1.mono hB.out.size)))
        go_ret
        exact ⟨rfl, hB1⟩
set_option maxRecDepth 100000 in
set_option maxHeartbeats 2000000 in
/-- slices.ContainsFunc. -/
theorem cont24 (v f : Value) (q : Nat) (hf : f = .func (.func 23) #[] #[.pointer (some ⟨q, 0, none⟩)]) (p : ByteArray → Bool) (l : List ByteArray) (w : World) (hv : Txs w v l) (hl : l.length ≤ 1000000) (hp : ∀ r W, Below w.heap.size w W → Calls Tryz.prog 23 #[.string r, .pointer (some ⟨q, 0, none⟩)] W fun e w' => e = .returned (.bool (p r)) ∧ Below W.heap.size W w') : Calls Tryz.prog 24 #[v, f] w fun e w' => e = .returned (.bool (l.any p)) ∧ Below w.heap.size w w' := by
  have hi := idx45 v f q hf p l w hv hl hp
  obtain ⟨a, c, rfl⟩ := hv.shape
  subst hf
  clear hp hv
  cases hany : l.any p with
  | false =>
    rw [show idxP p l = -1 by unfold idxP; rw [hany]; rfl] at hi
    go_enter Tryz.func24, Tryz.ntmps24
    go_wp2_with (first | (go_at_call 45; refine hi.mono ?_; rintro e w1 ⟨rfl, hb1⟩))
    go_ret
    exact ⟨rfl, hb1⟩
  | true =>
    rw [show idxP p l = (l.findIdx p : Int) by unfold idxP; rw [hany]; rfl] at hi
    generalize l.findIdx p = K at *
    go_enter Tryz.func24, Tryz.ntmps24
    go_wp2_with (first | (go_at_call 45; refine hi.mono ?_; rintro e w1 ⟨rfl, hb1⟩))
    go_ret
    exact ⟨by simp, hb1⟩
end Go.Proofs.YtaffplmfnincfaaGreatDoor
/- slices.Delete at steps. -/
namespace Go.Proofs.YtaffplmfnincfaaGreatDoor
set_option linter.unusedVariables false
open Go.RowKit
/-- Values laid over a list, from place o on. -/
def over (xs : List Value) : Nat → List Value → List Value
  | _, [] => xs
  | o, v :: r => over (xs.set o v) (o + 1) r
theorem over_at : ∀ (vs p q : List Value) (o : Nat), o = p.length → vs.length ≤ q.length → over (p ++ q) o vs = p ++ vs ++ q.drop vs.length
  | [], p, q, o, ho, hq => by simp [over]
  | v :: vs, p, [], o, ho, hq => by simp at hq
  | v :: vs, p, u :: q, o, ho, hq => by
    subst ho
    rw [over, List.set_append_right _ _ (Nat.le_refl _), Nat.sub_self, List.set_cons_zero, show p ++ v :: q = (p ++ [v]) ++ q by simp]
    rw [over_at vs (p ++ [v]) q (p.length + 1) (by simp) (by simpa using hq)]
    simp
theorem own_setCells {base g n cap : Nat} {e : TypeId} {size : Nat} : ∀ {vs xs : List Value} {o : Nat} {w : World}, w.ownsRow base e size (.slice (some ⟨g, 0, none⟩) n cap) n xs → (w.setCells g o vs).ownsRow base e size (.slice (some ⟨g, 0, none⟩) n cap) n (over xs o vs) ∧ w.grownBy (w.setCells g o vs) (some g)
  | [], xs, o, w, h => ⟨h, grown_refl _ _⟩
  | v :: vs, xs, o, w, h => by
    obtain ⟨h1, h2⟩ := World.ownsRow.stored h o v
    obtain ⟨h3, h4⟩ := own_setCells (vs := vs) (o := o + 1) h1
    refine ⟨h3, ⟨h4.os.trans h2.os, h4.tape.trans h2.tape, h4.output.trans h2.output, Nat.le_trans h2.size h4.size, fun k hk hne => ?_⟩⟩
    exact (h4.block k (Nat.lt_of_lt_of_le hk h2.size) hne).trans (h2.block k hk hne)
theorem own_pre {α : Type} {E : Enc α} {T : RowTy E} {w : World} {base g n cap : Nat} {L : List α} {xs : List Value} (h : w.ownsRow base T.et E.k (.slice (some ⟨g, 0, none⟩) n cap) n xs) (hp : xs.take (L.length * E.k) = flat E L) (hL : L.length ≤ n) : OwnS T w base (.slice (some ⟨g, 0, none⟩) L.length cap) L := by
  rcases h.2 with ⟨e, _⟩ | ⟨g', cap', cur, e, hb, hg, hnc, hcm, hcs, htk⟩
  · cases e
  · cases e
    refine ⟨flat_len L, .inr ⟨g, cap, cur, rfl, hb, hg, by omega, hcm, hcs, ?_⟩⟩
    rw [← hp, ← htk, List.take_take, Nat.min_eq_left (Nat.mul_le_mul_right _ hL)]
def zX : Value := .agg #[.string ⟨#[]⟩, .slice none 0 0]
/-- clear of the last one. -/
theorem clearX {w : World} {base g n cap : Nat} {xs : List Value} (h : w.ownsRow base 56 2 (.slice (some ⟨g, 0, none⟩) n cap) n xs) (k : Nat) (hk : k + 1 = n) (c : Nat) (ty : TypeId) :
    (Builtin.clear_ #[49] ty #[.slice (some ⟨g, k * 2, none⟩) 1 c]).run Tryz.prog w = .ok (.tuple #[]) (w.setCells g (k * 2) [.string ⟨#[]⟩, .slice none 0 0]) := by
  have hcell : ∀ x, x < n * 2 → (w.cell? ⟨g, x, none⟩).isSome = true := fun x hx => by
    have h1 := World.ownsRow.cellAt h x hx
    have h2 : x < xs.length := by rw [h.1]; exact hx
    rw [h1, List.getElem?_eq_getElem h2]
    rfl
  have hz : (Builtin.zeroCells zX.cells 1).toList = [.string ⟨#[]⟩, .slice none 0 0] := by kernel_rfl
  have hst := run_storeCells_cells (P := Tryz.prog) g (k * 2) [.string ⟨#[]⟩, .slice none 0 0] 0 w
    (fun j hj => by simp at hj; exact hcell _ (by omega)) (fun j hj => World.ownsRow.frozenAt h _) (by intro v hv; simp at hv; rcases hv with rfl | rfl <;> rfl)
  simp only [Nat.add_zero] at hst
  rw [← hz] at hst ⊢
  unfold zX at hst ⊢
  simp [Builtin.clear_, run_underlying Tryz.underlying49, Tryz.zeroValue56, hst]
set_option maxRecDepth 100000 in
set_option maxHeartbeats 4000000 in
/-- slices.Delete. -/
theorem delete25 (base g cap i n : Nat) (A B : List Sx) (x : Sx) (w : World) (hi : i = A.length) (hn : n = i + 1 + B.length) (hcap : n ≤ cap) (hcm : cap ≤ 1000000) (hown : OwnX w base (.slice (some ⟨g, 0, none⟩) n cap) (A ++ x :: B)) : Calls Tryz.prog 25 #[.slice (some ⟨g, 0, none⟩) n cap, .int .i64 i, .int .i64 ((i : Int) + 1)] w fun e w' => e = .returned (.slice (some ⟨g, 0, none⟩) (i + (n - (i + 1))) cap) ∧ Hid (OwnX w' base (.slice (some ⟨g, 0, none⟩) (A ++ B).length cap) (A ++ B) ∧ w.grownBy w' (some g)) := by
  obtain ⟨i0, hi0, hz0, hz1, hz2⟩ := info_parts (show (Tryz.prog.info? 56).map (fun i => (i.zero, i.size, i.bytes)) = some (some (.agg #[.string ⟨#[]⟩, .slice none 0 0]), 2, 40) by kernel_rfl)
  have hlen : (A ++ x :: B).length = n := by simp; omega
  have hraw : w.ownsRow base 56 2 (.slice (some ⟨g, 0, none⟩) n cap) n (flat encX (A ++ x :: B)) := by
    have h := hown
    unfold OwnX OwnS at h
    rw [hlen] at h
    exact h
  have hfl : flat encX (A ++ x :: B) = flat encX A ++ (encX.arr x ++ flat encX B) := by rw [flat_app]; rfl
  have hfB : (flat encX B).length = (n - (i + 1)) * 2 := by rw [flat_len]; show B.length * 2 = _; rw [show n - (i + 1) = B.length by omega]
  have hfA : (flat encX A).length = i * 2 := by rw [flat_len, ← hi]; rfl
  have hcells : ∀ j, j < n * 2 → w.cell? ⟨g, j, none⟩ = (flat encX (A ++ x :: B))[j]? := fun j hj => World.ownsRow.cellAt hraw j hj
  obtain ⟨AD, hA, hnews⟩ : ∃ AD : Addr, (if cap = i + 1 then some (⟨g, 0, none⟩ : Addr) else some ⟨g, (i + 1) * 2, none⟩) = some AD ∧ Hid (∀ j u, (flat encX B)[j]? = some u → w.drew.cell? (AD.add j) = some u) := by
    by_cases h : cap = i + 1
    · refine ⟨⟨g, 0, none⟩, by simp [h], fun j u hu => ?_⟩
      have h0 : (flat encX B).length = 0 := by rw [hfB]; omega
      rw [List.length_eq_zero_iff.1 h0] at hu
      simp at hu
    · refine ⟨⟨g, (i + 1) * 2, none⟩, by simp [h], fun j u hu => ?_⟩
      have hj : j < (n - (i + 1)) * 2 := by
        have := (List.getElem?_eq_some_iff.1 hu).1
        rwa [hfB] at this
      rw [ladd_at]
      show w.cell? _ = _
      rw [hcells _ (by omega), hfl, List.getElem?_append_right (by rw [hfA]; omega), hfA, List.getElem?_append_right (by rw [encX.len]; show 2 ≤ _; omega), encX.len]
      show (flat encX B)[(i + 1) * 2 + j - i * 2 - 2]? = _
      rw [show (i + 1) * 2 + j - i * 2 - 2 = j by omega]
      exact hu
  have s1 : Hid ((flat encX B).length = (n - (i + 1)) * 2) := hfB
  have s2 : Hid (∀ u ∈ flat encX B, u.oneCell' = true) := flat_one B
  have s3 : Hid (∀ j, j < (flat encX B).length → (w.drew.cell? ⟨g, 0 + i * 2 + j, none⟩).isSome = true ∧ w.drew.frozen? ⟨g, 0 + i * 2 + j, none⟩ = false) := by
    intro j hj
    rw [hfB] at hj
    refine ⟨?_, World.ownsRow.frozenAt hraw _⟩
    show (w.cell? _).isSome = true
    have h2 : 0 + i * 2 + j < (flat encX (A ++ x :: B)).length := by rw [flat_len, hlen]; show _ < n * 2; omega
    rw [hcells _ (by omega), List.getElem?_eq_getElem h2]
    rfl
  have hraw2 := own_setCells (vs := flat encX B) (o := i * 2) (show w.drew.ownsRow base 56 2 (.slice (some ⟨g, 0, none⟩) n cap) n (flat encX (A ++ x :: B)) from World.ownsRow.kept (row := none) hraw ⟨rfl, rfl, rfl, Nat.le_refl _, fun _ _ _ => rfl⟩ (.inr (by intro e; cases e)))
  have hov : over (flat encX (A ++ x :: B)) (i * 2) (flat encX B) = (flat encX A ++ flat encX B) ++ (encX.arr x ++ flat encX B).drop (flat encX B).length := by
    rw [hfl, over_at _ _ _ _ (by rw [hfA]) (by simp)]
  have hcl : Hid (∀ c ty, (Builtin.clear_ #[49] ty #[.slice (some ⟨g, (i + (n - (i + 1))) * 2, none⟩) 1 c]).run Tryz.prog (w.drew.setCells g (i * 2) (flat encX B)) = .ok (.tuple #[]) ((w.drew.setCells g (i * 2) (flat encX B)).setCells g ((i + (n - (i + 1))) * 2) [.string ⟨#[]⟩, .slice none 0 0])) := fun c ty => clearX hraw2.1 (i + (n - (i + 1))) (by omega) c ty
  have hraw3 := own_setCells (vs := [.string ⟨#[]⟩, .slice none 0 0]) (o := (i + (n - (i + 1))) * 2) hraw2.1
  have hab : (flat encX A ++ flat encX B).length = (i + (n - (i + 1))) * 2 := by rw [List.length_append, hfA, hfB]; omega
  have hfin : Hid (OwnX ((w.drew.setCells g (i * 2) (flat encX B)).setCells g ((i + (n - (i + 1))) * 2) [.string ⟨#[]⟩, .slice none 0 0]) base (.slice (some ⟨g, 0, none⟩) (A ++ B).length cap) (A ++ B) ∧ w.grownBy ((w.drew.setCells g (i * 2) (flat encX B)).setCells g ((i + (n - (i + 1))) * 2) [.string ⟨#[]⟩, .slice none 0 0]) (some g)) := by
    refine ⟨own_pre (T := TX) hraw3.1 ?_ (by simp; omega), ?_⟩
    · rw [hov, over_at _ _ _ _ hab.symm (by rw [List.length_drop, List.length_append, encX.len]; show 2 ≤ 2 + _ - _; omega), List.append_assoc, List.take_left' (by rw [hab]; show _ = (A ++ B).length * 2; simp; omega), flat_app]
    · have h1 := hraw2.2
      have h2 := hraw3.2
      refine ⟨h2.os.trans h1.os, h2.tape.trans h1.tape, h2.output.trans h1.output, Nat.le_trans h1.size h2.size, fun k hk hne => ?_⟩
      exact (h2.block k (Nat.lt_of_lt_of_le hk h1.size) hne).trans (h1.block k hk hne)
  have hwr : IntKind.i64.wrap ((i : Int) + 1) = (i : Int) + 1 := by rw [IntKind.wrap_i64]; omega
  have hp0 : (0 : Int) ≤ (i : Int) + 1 := by omega
  have hp1 : (i : Int) + 1 ≤ (n : Int) := by omega
  have hp2 : ((i : Int) + 1).toNat = i + 1 := by omega
  have hic : i ≤ cap := by omega
  have hin : i ≤ n := by omega
  have hne : ((i : Int) == (i : Int) + 1) = false := by simp; omega
  have hlen2 : i + (n - (i + 1)) + 1 = n := by omega
  clear hraw hraw2 hraw3 hov hcells hown hfl hfA hfB hab hi hn
  generalize flat encX B = FB at *
  go_enter Tryz.func25, Tryz.ntmps25
  go_wp2
  go_region_law (refine step_append_room rfl (.tmp 22) (.tmp 25) 49 rfl 56 i0 2 Tryz.underlying49 hi0 hz1 g 0 i cap (by simp [Act.eval, Act.put]) AD (n - (i + 1)) (cap - (i + 1)) FB (by simp [Act.eval, Act.put]) s1.out hnews.out s2.out (by omega) s3.out ?_)
  have hcl := hcl.out
  clear s1 s2 s3 hnews hA
  generalize hm : n - (i + 1) = m at *
  obtain rfl : n = i + m + 1 := by omega
  clear hm hlen2 hlen
  have hq0 : (0 : Int) ≤ ((i + m : Nat) : Int) := by omega
  have hq1 : ((i + m : Nat) : Int) ≤ ((i + m + 1 : Nat) : Int) := by omega
  have hq2 : ¬ cap = i + m := by omega
  have hq3 : i + m + 1 - (i + m) = 1 := by omega
  go_wp2
  go_ret
  exact ⟨by rw [show i + m + 1 - (i + 1) = m by omega]; rfl, hfin⟩
end Go.Proofs.YtaffplmfnincfaaGreatDoor
/- Order: what stands between two rounds. -/
namespace Go.Proofs.YtaffplmfnincfaaGreatDoor
set_option linter.unusedVariables false
open Go.RowKit
theorem len_ntab {w : World} {b : Nat} {l : List (ByteArray × Nd)} (h : NTab w b l) : (Builtin.len_ #[47] 3 #[.map (some b)]).run Tryz.prog w = .ok (.int .i64 (l.length : Int)) w := by
  obtain ⟨arr, clock, h1, h2⟩ := h
  have e : arr.size = l.length := by have := h2.len; simpa using this
  simp [Builtin.len_, Sem.run_bind, run_underlying map47, MapKept.run_getObj_map h1, Result.andThen, e]
  rfl
theorem own_keptC {α : Type} {E : Enc α} {T : RowTy E} {w w' : World} {base : Nat} {v : Value} {l : List α} (h : OwnS T w base v l) (hk : CellsKept w w') : OwnS T w' base v l := by
  refine ⟨h.1, ?_⟩
  rcases h.2 with h | ⟨g, cap, cur, e, hb, hg, h2⟩
  · exact .inl h
  · exact .inr ⟨g, cap, cur, e, hb, hk _ _ _ _ hg, h2⟩
theorem AlU.any {w w' : World} : ∀ {es : List MapEntry} {l : List (ByteArray × Unit)}, Al UnI w es l → Al UnI w' es l
  | [], [], _ => trivial
  | e :: es, p :: l, h => ⟨⟨h.1.1, h.1.2⟩, AlU.any h.2⟩
  | [], _ :: _, h => h.elim
  | _ :: _, [], h => h.elim
theorem TTab.same {w w' : World} {b : Nat} {T : List ByteArray} (h : TTab w b T) (e : w'.heap[b]? = w.heap[b]?) : TTab w' b T := by
  obtain ⟨arr, clock, h1, h2⟩ := h
  exact ⟨arr, clock, e.trans h1, AlU.any h2⟩
theorem TTab.lt {w : World} {b : Nat} {T : List ByteArray} (h : TTab w b T) : b < w.heap.size := by
  obtain ⟨arr, clock, h1, h2⟩ := h
  exact (Array.getElem?_eq_some_iff.1 h1).1
/-- Where things lie. -/
structure OrdC (w w1 w2 : World) (g q b : Nat) (L0 : List Sx) : Prop where
  g0 : w.heap.size ≤ g
  g1 : g < w1.heap.size
  b1 : w1.heap.size ≤ b
  q1 : w1.heap.size ≤ q
  b2 : b < w2.heap.size
  q2 : q < w2.heap.size
  qb : q ≠ b
  ok : LxOk w1 g L0
/-- What stands between two rounds. -/
structure OrdI (w w1 w2 : World) (g q b cap : Nat) (L0 : List Sx) (wr : World) (vO : Value) (L : List Sx) (T : List ByteArray) : Prop where
  own : OwnX wr w.heap.size (.slice (some ⟨g, 0, none⟩) L.length cap) L
  sub : ∀ x ∈ L, x ∈ L0
  kp : ∀ k, k < w1.heap.size → k ≠ g → wr.heap[k]? = w1.heap[k]?
  tab : TTab wr b T
  box : wr.heap[q]? = some (.cells #[.map (some b)] 51)
  ord : OwnT wr w2.heap.size vO T
  bel : Below w.heap.size w wr
  siz : w2.heap.size ≤ wr.heap.size
  all : ordF L.length (L.map sqOf) T = ordF L0.length (L0.map sqOf) []
  nod : (T ++ L.map (·.ref)).Nodup
  cnt : T.length + L.length ≤ L0.length
section
variable {w w1 w2 : World} {g q b cap : Nat} {L0 : List Sx} {wr W : World} {vO : Value} {L : List Sx} {T : List ByteArray}
theorem OrdI.grow (h : OrdI w w1 w2 g q b cap L0 wr vO L T) (c : OrdC w w1 w2 g q b L0) (hb : Below wr.heap.size wr W) : OrdI w w1 w2 g q b cap L0 W vO L T where
  own := h.own.stay hb
  sub := h.sub
  kp := fun k hk hne => (hb.block k (by have := h.siz; have := c.b1; have := c.b2; omega)).trans (h.kp k hk hne)
  tab := h.tab.grow hb
  box := (hb.block q (by have := h.siz; have := c.q2; omega)).trans h.box
  ord := h.ord.stay hb
  bel := h.bel.trans (hb.mono h.bel.size)
  siz := Nat.le_trans h.siz hb.size
  all := h.all
  nod := h.nod
  cnt := h.cnt
/-- A step's inputs, as they lie now. -/
theorem OrdI.inp (h : OrdI w w1 w2 g q b cap L0 wr vO L T) (c : OrdC w w1 w2 g q b L0) {x : Sx} (hx : x ∈ L) : Txs wr (.slice x.a x.n x.c) x.inp := ((c.ok x (h.sub x hx)).keep fun k hk hne => h.kp k hk hne).1
theorem OrdI.cell (h : OrdI w w1 w2 g q b cap L0 wr vO L T) : wr.cell? ⟨q, 0, none⟩ = some (.map (some b)) := by
  unfold World.cell?
  rw [h.box]
  rfl
/-- A ref that is left is not told. -/
theorem OrdI.new (h : OrdI w w1 w2 g q b cap L0 wr vO L T) {x : Sx} (hx : x ∈ L) : asc x.ref (T.map fun r => (r, ())) = none := by
  cases e : asc x.ref (T.map fun r => (r, ())) with
  | none => rfl
  | some u =>
    exfalso
    have h1 : inB T x.ref = true := by rw [← asc_in, e]; rfl
    have h2 := inB_iff.1 h1
    exact (List.nodup_append.1 h.nod).2.2 _ h2 _ (List.mem_map_of_mem hx) rfl
/-- A step is told. -/
theorem OrdI.hit {A B : List Sx} {x : Sx} (h : OrdI w w1 w2 g q b cap L0 wr vO (A ++ x :: B) T) (c : OrdC w w1 w2 g q b L0) (hA : ∀ y ∈ A, rdy T (sqOf y) = false) (hx : rdy T (sqOf x) = true) {W2 W3 W4 : World} {v2 : Value} {o : Obj}
    (t2 : TTab W2 b (T ++ [x.ref])) (b2 : Below b wr W2) (k2 : CellsKept wr W2)
    (o3 : OwnT W3 w2.heap.size v2 (T ++ [x.ref])) (d3 : (W2.alloc o).grownBy W3 vO.ownBlock)
    (o4 : OwnX W4 w.heap.size (.slice (some ⟨g, 0, none⟩) (A ++ B).length cap) (A ++ B)) (d4 : W3.grownBy W4 (some g)) : OrdI w w1 w2 g q b cap L0 W4 v2 (A ++ B) (T ++ [x.ref]) := by
  have s2 := b2.size
  have e2 : (W2.alloc o).heap.size = W2.heap.size + 1 := by simp
  have s3 := d3.size
  have s4 := d4.size
  have hs := h.siz
  have c1 := c.b1
  have c2 := c.b2
  have c3 := c.q1
  have c4 := c.q2
  have c5 := c.g0
  have c6 := c.g1
  have hvO : ∀ k, k < w2.heap.size → ¬ some k = vO.ownBlock := fun k hk e => by have := (h.ord.lt k e.symm).1; omega
  have blk : ∀ k, k < w2.heap.size → k ≠ b → k ≠ g → W2.heap[k]? = wr.heap[k]? → W4.heap[k]? = wr.heap[k]? := fun k hk hb hg e => by
    have f3 : (W2.alloc o).heap[k]? = W2.heap[k]? := (bW0 W2 o).block k (by omega)
    have f4 := d3.block k (by omega) (hvO k hk)
    have f5 := d4.block k (by omega) (fun e => hg (by injection e with e))
    exact f5.trans (f4.trans (f3.trans e))
  refine ⟨o4, fun y hy => h.sub y ?_, fun k hk hne => ?_, ?_, ?_, ?_, ?_, by omega, ?_, ?_, ?_⟩
  · rcases List.mem_append.1 hy with hy | hy
    · exact List.mem_append.2 (.inl hy)
    · exact List.mem_append.2 (.inr (List.mem_cons_of_mem _ hy))
  · exact (blk k (by omega) (by omega) hne (b2.block k (by omega))).trans (h.kp k hk hne)
  · refine t2.same ?_
    have f3 : (W2.alloc o).heap[b]? = W2.heap[b]? := (bW0 W2 o).block b (by have := t2.lt; omega)
    have f4 := d3.block b (by have := t2.lt; omega) (hvO b c2)
    have f5 := d4.block b (by have := t2.lt; omega) (fun e => by injection e with e; omega)
    exact f5.trans (f4.trans f3)
  · have e2 : W2.heap[q]? = wr.heap[q]? := (k2 _ _ _ _ h.box).trans h.box.symm
    exact (blk q c4 c.qb (by omega) e2).trans h.box
  · refine World.ownsRow.kept o3 d4 (.inr fun e => ?_)
    have := (o3.lt g e).1
    omega
  · have h1 : Below w.heap.size w W2 := h.bel.trans (b2.mono (by omega))
    have h2 := h1.trans ((bW0 W2 o).mono h1.size)
    have h3 : Below w.heap.size w W3 := h2.grown d3 h2.size fun j hj => by have := (h.ord.lt j hj).1; omega
    exact h3.grown d4 h3.size fun j hj => by injection hj with e; omega
  · have h1 := h.all
    rw [List.map_append, List.map_cons] at h1
    have h2 := ordF_step (A := A.map sqOf) (B := B.map sqOf) (s := sqOf x) (T := T) (fun y hy => by obtain ⟨z, hz, rfl⟩ := List.mem_map.1 hy; exact hA z hz) hx
    simp only [List.length_append, List.length_map, List.length_cons, List.map_append] at h1 h2 ⊢
    rw [← h1, h2]
    rfl
  · have h1 := h.nod
    simp only [List.map_append, List.map_cons] at h1 ⊢
    refine (List.Perm.nodup_iff ?_).1 h1
    rw [List.append_assoc]
    refine List.Perm.append_left T ?_
    exact List.perm_middle
  · have h1 := h.cnt
    simp at h1 ⊢
    omega
end
end Go.Proofs.YtaffplmfnincfaaGreatDoor
/- Order. -/
namespace Go.Proofs.YtaffplmfnincfaaGreatDoor
set_option linter.unusedVariables false
open Go.RowKit
theorem mkm51 (n : Nat) (hn : n ≤ 1000000) (W : World) : (Instr.makeMap 51 (some (.int .i64 (n : Int)))).run Tryz.prog W = .ok (.map (some W.heap.size)) (W.alloc (.map #[] 0)) := by
  simp [Instr.makeMap, asInt, asIntOf]
/-- What Order tells. -/
def OrdT (l : List Nd) (r : Option (List ByteArray)) : Prop := ∃ L : List Sq, L.Perm (l.map sqN) ∧ SRise L ∧ r = ordF L.length L []
theorem OrdT.one {l : List Nd} {r s : Option (List ByteArray)} (h : OrdT l r) (g : OrdT l s) : r = s := by
  obtain ⟨L, p, hr, rfl⟩ := h
  obtain ⟨M, p', hr', rfl⟩ := g
  rw [srise_eq hr hr' (p.trans p'.symm)]
theorem asc_some_of {β : Type} {p : ByteArray × β} : ∀ {l : List (ByteArray × β)}, p ∈ l → (asc p.1 l).isSome = true
  | [], h => by cases h
  | q :: l, h => by
    unfold asc
    by_cases e : p.1 = q.1
    · rw [if_pos e]; rfl
    · rw [if_neg e]
      rcases List.mem_cons.1 h with h | h
      · exact absurd (congrArg Prod.fst h) e
      · exact asc_some_of h
theorem addN_keys {acc : List (ByteArray × Nd)} {x : Nd} (h : (acc.map (·.1)).Nodup) : ((addN acc x).map (·.1)).Nodup := by
  unfold addN
  split
  · rename_i hn
    rw [List.map_append, List.nodup_append]
    refine ⟨h, by simp, ?_⟩
    intro a ha b hb e
    simp at hb
    subst hb e
    obtain ⟨p, hp, hpe⟩ := List.mem_map.1 ha
    have := asc_some_of hp
    rw [hpe] at this
    rw [Option.isNone_iff_eq_none] at hn
    rw [hn] at this
    cases this
  · exact h
set_option maxRecDepth 100000 in
set_option maxHeartbeats 8000000 in
/-- Order: two have one Ref. -/
theorem order9_there (a : Option Addr) (n c : Nat) (l : List Nd) (w : World) (hv : Sls encN w (.slice a n c) l) (hl : l.length ≤ 1000) (hd : (byN l).length < l.length) : Calls Tryz.prog 9 #[.slice a n c] w fun e w' => e = .returned (.tuple #[.slice none 0 0, .int .i64 8]) ∧ Below w.heap.size w w' := by
  have hn : Hid (n = l.length) := hv.len
  have hn1 : n ≤ 1000 := by have := hn.out; omega
  have hby := byRef21 a n c l w hv (by omega)
  have hlt : ((byN l).length : Int) < (n : Int) := by have := hn.out; omega
  clear hv hl hd
  generalize byN l = M at *
  go_enter Tryz.func9, Tryz.ntmps9
  go_wp2
  go_step3
  go_wp2_with (first
    | (go_at_call 21; refine hby.mono ?_; clear hby; rintro e W ⟨b, rfl, h1⟩; have hlen := len_ntab h1.out.1))
  rw [Exit.noGoto_ret]
  go_ret2
  exact ⟨rfl, h1.out.2.2⟩
theorem foldN_len : ∀ (l : List Nd) (acc : List (ByteArray × Nd)), (l.foldl addN acc).length ≤ acc.length + l.length
  | [], acc => by simp
  | x :: l, acc => by
    have h := foldN_len l (addN acc x)
    have h2 : (addN acc x).length ≤ acc.length + 1 := by unfold addN; split <;> simp
    rw [List.foldl_cons, List.length_cons]
    omega
theorem foldN_full : ∀ (l : List Nd) (acc : List (ByteArray × Nd)), (acc.map (·.1)).Nodup → (l.foldl addN acc).length = acc.length + l.length → l.foldl addN acc = acc ++ l.map (fun x => (x.ref, x)) ∧ ((acc ++ l.map (fun x => (x.ref, x))).map (·.1)).Nodup
  | [], acc, hn, _ => by simpa using hn
  | x :: l, acc, hn, h => by
    rw [List.foldl_cons] at h ⊢
    have h1 := foldN_len l (addN acc x)
    have h2 : addN acc x = acc ++ [(x.ref, x)] := by
      unfold addN at h1 h ⊢
      split
      · rfl
      · rename_i hno
        rw [if_neg hno, List.length_cons] at h
        rw [if_neg hno] at h1
        omega
    have h3 := foldN_full l (addN acc x) (addN_keys hn) (by rw [h, h2]; simp; omega)
    rw [h2] at h3 ⊢
    simpa using h3
theorem byN_nodup {l : List Nd} (h : ¬ (byN l).length < l.length) : (l.map (·.ref)).Nodup := by
  have h1 := foldN_len l []
  have h2 := foldN_full l [] (by simp) (by unfold byN at h; simp at h1 ⊢; omega)
  have := h2.2
  simpa [List.map_map, Function.comp_def] using this
theorem foldN_new : ∀ (l : List Nd) (acc : List (ByteArray × Nd)), ((acc ++ l.map (fun x => (x.ref, x))).map (·.1)).Nodup → l.foldl addN acc = acc ++ l.map (fun x => (x.ref, x))
  | [], acc, _ => by simp
  | x :: l, acc, h => by
    have h1 : asc x.ref acc = none := by
      cases e : asc x.ref acc with
      | none => rfl
      | some y =>
        exfalso
        have hm := asc_mem e
        rw [List.map_append, List.nodup_append] at h
        exact h.2.2 _ (List.mem_map_of_mem hm) x.ref (by simp) rfl
    rw [List.foldl_cons, show addN acc x = acc ++ [(x.ref, x)] by unfold addN; rw [h1]; rfl, foldN_new l _ (by simpa using h)]
    simp
theorem byN_of_nodup {l : List Nd} (h : (l.map (·.ref)).Nodup) : byN l = l.map (fun x => (x.ref, x)) := by
  have := foldN_new l [] (by simpa [List.map_map, Function.comp_def] using h)
  simpa [byN] using this
theorem there_iff (l : List Nd) : (byN l).length < l.length ↔ ¬ (l.map (·.ref)).Nodup := by
  constructor
  · intro h hn
    rw [byN_of_nodup hn] at h
    simp at h
  · intro h
    exact Classical.byContradiction fun hh => h (byN_nodup hh)
theorem ordI_new {w w1 : World} {g n : Nat} {L : List Sx} (ho : OwnX w1 w.heap.size (.slice (some ⟨g, 0, none⟩) n n) L) (hn : L.length = n) (hok : LxOk w1 g L) (hb : Below w.heap.size w w1) (hd : (L.map (·.ref)).Nodup) :
    OrdC w w1 ((w1.alloc (.map #[] 0)).alloc (.cells #[.map (some w1.heap.size)] 51)) g (w1.heap.size + 1) w1.heap.size L ∧ OrdI w w1 ((w1.alloc (.map #[] 0)).alloc (.cells #[.map (some w1.heap.size)] 51)) g (w1.heap.size + 1) w1.heap.size n L ((w1.alloc (.map #[] 0)).alloc (.cells #[.map (some w1.heap.size)] 51)) (.slice none 0 0) L [] := by
  have hg := ho.lt g rfl
  have hB1 := bW0 w1 (.map #[] 0)
  have hB2 : Below w1.heap.size w1 ((w1.alloc (.map #[] 0)).alloc (.cells #[.map (some w1.heap.size)] 51)) := hB1.trans ((bW0 _ _).mono hB1.size)
  refine ⟨⟨hg.1, hg.2, Nat.le_refl _, by omega, by simp; omega, by simp, by omega, hok⟩, ⟨?_, fun x hx => hx, fun k hk hne => hB2.block k hk, ?_, ?_, OwnS.nil _ _, hb.trans (hB2.mono hb.size), Nat.le_refl _, rfl, by simpa using hd, by simp⟩⟩
  · rw [hn]; exact ho.stay hB2
  · exact TTab.grow (T := []) (tabNew w1) (bW0 _ _)
  · have := heap_alloc_new (w1.alloc (.map #[] 0)) (.cells #[.map (some w1.heap.size)] 51)
    rwa [show (w1.alloc (.map #[] 0)).heap.size = w1.heap.size + 1 by simp] at this
end Go.Proofs.YtaffplmfnincfaaGreatDoor
/- Order: the walk. -/
namespace Go.Proofs.YtaffplmfnincfaaGreatDoor
set_option linter.unusedVariables false
open Go.RowKit
/-- What Order answers. -/
def OrdA (r : Option (List ByteArray)) (e : Ending) (w' : World) : Prop := (r = none ∧ e = .returned (.tuple #[.slice none 0 0, .int .i64 121])) ∨ ∃ out a n c, r = some out ∧ e = .returned (.tuple #[.slice a n c, .int .i64 0]) ∧ Txs w' (.slice a n c) out
section
variable {w w1 w2 : World} {g q b cap : Nat} {L0 : List Sx} {wr W : World} {vO : Value} {L : List Sx} {T : List ByteArray}
theorem OrdI.sideO (h : OrdI w w1 w2 g q b cap L0 wr vO L T) {W2 : World} (k2 : CellsKept wr W2) (o : Obj) : OwnT (W2.alloc o) w2.heap.size vO T := (own_keptC h.ord k2).alloc o
theorem OrdI.sideX (h : OrdI w w1 w2 g q b cap L0 wr vO L T) (c : OrdC w w1 w2 g q b L0) {W2 W3 : World} {o : Obj} (k2 : CellsKept wr W2) (d3 : (W2.alloc o).grownBy W3 vO.ownBlock) : OwnX W3 w.heap.size (.slice (some ⟨g, 0, none⟩) L.length cap) L := by
  refine World.ownsRow.kept ((own_keptC h.own k2).alloc o) d3 (.inr fun e => ?_)
  have h1 := (h.ord.lt g (by rw [← e]; rfl)).1
  have := c.g1
  have := c.b1
  have := c.b2
  omega
end
theorem rdy_any (T : List ByteArray) (x : Sx) : (x.inp.any fun r => !inB T r) = !rdy T (sqOf x) := by
  unfold rdy sqOf
  rw [List.not_all_eq_any_not]
theorem split_at (L : List Sx) (k : Nat) (hk : k < L.length) : L = L.take k ++ L.getD k sx0 :: L.drop (k + 1) := by
  rw [List.getD_eq_getElem?_getD, List.getElem?_eq_getElem hk]
  simp
set_option maxRecDepth 100000 in
set_option maxHeartbeats 8000000 in
/-- Order. -/
theorem order9_ok (a : Option Addr) (n c : Nat) (l : List Nd) (w : World) (hG : G w) (hS : SignsAt w) (hv : Sls encN w (.slice a n c) l) (hl : l.length ≤ 1000) (hsh : ShN l) (hd : (l.map (·.ref)).Nodup) : Calls Tryz.prog 9 #[.slice a n c] w fun e w' => ∃ r, Hid (OrdT l r ∧ OrdA r e w' ∧ Below w.heap.size w w') := by
  have hn : Hid (n = l.length) := hv.len
  have hn1 : n ≤ 1000 := by have := hn.out; omega
  have hby := byRef21 a n c l w hv (by omega)
  have hst : Hid (∀ W, Below w.heap.size w W → Calls Tryz.prog 22 #[.slice a n c] W fun e w' => ∃ L g, e = .returned (.slice (some ⟨g, 0, none⟩) n n) ∧ Hid (OwnX w' W.heap.size (.slice (some ⟨g, 0, none⟩) n n) L ∧ LxOk w' g L ∧ (L.map sqOf).Perm (l.map sqN) ∧ SrtX L ∧ Below W.heap.size W w')) := fun W hB => steps22 a n c l W (hG.grow hB) (hS.grow hB) (hv.grow hB) hl hsh
  have hlt : ¬ ((byN l).length : Int) < (n : Int) := by rw [byN_of_nodup hd]; have := hn.out; simp; omega
  have hmk := mkm51 n (by omega)
  clear hv hl hsh hG hS
  generalize byN l = M at *
  go_enter Tryz.func9, Tryz.ntmps9
  go_wp2
  go_step3
  go_wp2_with (first
    | (go_at_call 21; refine hby.mono ?_; clear hby; rintro e W ⟨b, rfl, h1⟩; have hlen := len_ntab h1.out.1; have hst2 := hst.out W h1.out.2.2; have hBW : Below w.heap.size w W := h1.out.2.2; clear h1 hst)
    | (go_at_call 22; refine hst2.mono ?_; clear hst2 hlen; rintro e w1 ⟨L0, g, rfl, h2⟩))
  go_step3
  go_wp2
  obtain ⟨hoX, hok, hperm, hsrt, hb1⟩ := h2.out
  have hL0 : L0.length = n := hoX.sls.len.symm
  have hrf : (L0.map (·.ref)).Nodup := by
    have h := hperm.map Prod.fst
    rw [List.map_map, List.map_map] at h
    exact (h.nodup_iff).2 hd
  obtain ⟨hC, hI0⟩ := ordI_new (w := w) (hoX.wide hBW.size) hL0 hok (hBW.trans (hb1.mono hBW.size)) hrf
  have hrise : Hid (OrdT l (ordF L0.length (L0.map sqOf) [])) := ⟨L0.map sqOf, hperm, srt_rise hsrt hrf, by rw [List.length_map]⟩
  have hfew : Hid (∀ x ∈ L0, x.inp.length ≤ 1000000) := fun x hx => by
    obtain ⟨y, hy, e⟩ := List.mem_map.1 (hperm.subset (List.mem_map_of_mem hx))
    have h1 : x.inp = inpN y := (congrArg Prod.snd e).symm
    rw [h1]
    have := inpN_len y
    omega
  replace hC : Hid _ := hC
  replace hI0 : Hid (OrdI w w1 _ g _ _ n L0 _ (.slice none 0 0) L0 []) := hI0
  clear h2 hoX hok hperm hsrt hrf hmk hlt hd hn
  generalize hq : w1.heap.size + 1 = q at *
  generalize hb : w1.heap.size = b at *
  generalize (w1.alloc (.map #[] 0)).alloc (.cells #[.map (some b)] 51) = W2 at *
  clear hq hb
  go_loopw [4, 7] (fun vL vO wr => ∃ (nl : Nat) (aO : Option Addr) (nO cO : Nat) (L : List Sx) (T : List ByteArray), vL = .slice (some ⟨g, 0, none⟩) nl n ∧ vO = .slice aO nO cO ∧ nl ≤ n ∧ Hid (nl = L.length) ∧ Hid (OrdI w w1 W2 g q b n L0 wr vO L T)) (fun vL _ _ => lenV vL)
  case atStart => exact ⟨n, none, 0, 0, L0, [], rfl, rfl, Nat.le_refl _, hL0.symm, hI0⟩
  case round =>
    obtain ⟨nl, aO, nO, cO, L, T, rfl, rfl, hnl, hlL, hI⟩ := hrel
    by_cases hz : nl = 0
    · subst hz
      have hfin : Hid (OrdT l (some T)) := by
        have h := hI.out.all
        have e : L = [] := List.eq_nil_of_length_eq_zero hlL.out.symm
        rw [e] at h
        have h2 := hrise.out
        rw [← h] at h2
        exact h2
      have hT : Hid (Txs wr (.slice aO nO cO) T) := hI.out.ord.sls
      have hB : Hid (Below w.heap.size w wr) := hI.out.bel
      clear hI hI0 hC
      go_wp2
      try rw [Exit.noGoto_ret]
      go_ret2
      exact ⟨some T, hfin.out, .inr ⟨T, aO, nO, cO, rfl, rfl, hT.out⟩, hB.out⟩
    · have hz0 : (0 : Int) < (nl : Int) := by omega
      have hz1 : 0 < nl := by omega
      clear hz hI0
      go_wp2
      go_loopw [4, 7, 27] (fun vL vO i wr => ∃ k : Nat, k ≤ nl ∧ i = .int .i64 k ∧ vL = .slice (some ⟨g, 0, none⟩) nl n ∧ vO = .slice aO nO cO ∧ Hid (OrdI w w1 W2 g q b n L0 wr (.slice aO nO cO) L T) ∧ Hid (∀ j, j < k → rdy T (sqOf (L.getD j sx0)) = false)) (fun _ _ i _ => nl - (intOf i).toNat)
      case atStart => exact ⟨0, Nat.zero_le _, rfl, rfl, rfl, hI, fun j hj => absurd hj (Nat.not_lt_zero _)⟩
      case round =>
        clear hI
        obtain ⟨k, hk, rfl, rfl, rfl, hI, hno⟩ := hrel
        by_cases hlt : k < nl
        · have hki : (k : Int) < (nl : Int) := by omega
          have hkl : k < L.length := by have := hlL.out; omega
          have hmem : Hid (L.getD k sx0 ∈ L) := lgetD_mem L sx0 k hkl
          have hsp : Hid (L = L.take k ++ L.getD k sx0 :: L.drop (k + 1)) := split_at L k hkl
          have hno2 : Hid (∀ y ∈ L.take k, rdy T (sqOf y) = false) := fun y hy => by
            obtain ⟨j, hj, rfl⟩ := List.getElem_of_mem hy
            have hj2 : j < k := by rw [List.length_take] at hj; omega
            have := hno.out j hj2
            rw [List.getD_eq_getElem?_getD, List.getElem?_eq_getElem (by omega)] at this
            rw [List.getElem_take]
            exact this
          obtain ⟨⟨x0, x1⟩, -, -⟩ := own_cellX (show OwnX wr w.heap.size (.slice (some ⟨g, 0, none⟩) nl n) L by rw [hlL.out]; exact hI.out.own) hlL.out k hlt
          have hcon : Hid (∀ W, Below wr.heap.size wr W → Calls Tryz.prog 24 #[.slice (L.getD k sx0).a (L.getD k sx0).n (L.getD k sx0).c, .func (.func 23) #[] #[.pointer (some ⟨q, 0, none⟩)]] W fun e w' => e = .returned (.bool (!rdy T (sqOf (L.getD k sx0)))) ∧ Below W.heap.size W w') := fun W hW => by
            have hIW := hI.out.grow hC.out hW
            have h := cont24 _ _ q rfl (fun r => !inB T r) (L.getD k sx0).inp W (hIW.inp hC.out hmem.out) (hfew.out _ (hI.out.sub _ hmem.out)) (fun r W' hB' => by
              have hIW' := hIW.grow hC.out hB'
              exact untold23 r q b T W' hIW'.cell hIW'.tab)
            rw [rdy_any] at h
            exact h
          have hst : Hid (rdy T (sqOf (L.getD k sx0)) = false → ∀ j, j < k + 1 → rdy T (sqOf (L.getD j sx0)) = false) := fun h j hj => by
            by_cases e : j = k
            · rw [e]; exact h
            · exact hno.out j (by omega)
          generalize L.getD k sx0 = x at *
          have hb0 := bW0 wr (.cells (sxC x) 56)
          have hcal := hcon.out (wr.alloc (.cells (sxC x) 56)) hb0
          cases hr : rdy T (sqOf x) with
          | false =>
            rw [hr] at hcal
            have hst' := hst.out hr
            go_wp2_with (first
              | (go_at_call 24; refine hcal.mono ?_; clear hcal; rintro e w3 ⟨rfl, hb3⟩; have hI3 : Hid _ := hI.out.grow hC.out (hb0.trans (hb3.mono hb0.size))))
            go_roundw
            case rel => exact ⟨k + 1, by omega, by go_num, rfl, rfl, hI3, hst'⟩
            case measure => simp [intOf]; omega
          | true =>
            rw [hr] at hcal
            have hnew := hI.out.new hmem.out
            clear hcon hst hno
            have hcr : Hid (∀ W, Below (wr.alloc (.cells (sxC x) 56)).heap.size (wr.alloc (.cells (sxC x) 56)) W → W.cell? ⟨wr.heap.size, 0, none⟩ = some (.string x.ref)) := fun W h => by
              have e : W.heap[wr.heap.size]? = some (.cells (sxC x) 56) := (h.block wr.heap.size (by simp)).trans (heap_alloc_new wr _)
              unfold World.cell?
              rw [e]
              rfl
            have hdel : Hid (∀ W, OwnX W w.heap.size (.slice (some ⟨g, 0, none⟩) L.length n) L → Calls Tryz.prog 25 #[.slice (some ⟨g, 0, none⟩) nl n, .int .i64 k, .int .i64 ((k : Int) + 1)] W fun e w' => e = .returned (.slice (some ⟨g, 0, none⟩) (k + (nl - (k + 1))) n) ∧ Hid (OwnX w' w.heap.size (.slice (some ⟨g, 0, none⟩) (L.take k ++ L.drop (k + 1)).length n) (L.take k ++ L.drop (k + 1)) ∧ W.grownBy w' (some g))) := fun W h => by
              rw [hsp.out, ← hsp.out, ← hlL.out] at h
              rw [hsp.out] at h
              exact delete25 w.heap.size g n k nl (L.take k) (L.drop (k + 1)) x W (by rw [List.length_take]; omega) (by rw [List.length_drop]; have := hlL.out; omega) hnl (by omega) h
            have hlt1 : (T.length + [x.ref].length) ≤ 1000000000 := by
              have h1 := hI.out.cnt
              simp
              omega
            go_wp2_with (first
              | (go_at_call 24; refine hcal.mono ?_; clear hcal; rintro e w3 ⟨rfl, hb3⟩; have hI3 : Hid _ := hI.out.grow hC.out (hb0.trans (hb3.mono hb0.size)); have hc3 := hcr.out w3 hb3; have hq3 := hI3.out.cell; have ht3 := hI3.out.tab)
              | (refine wpUpd UnI.keep map51 rfl _ _ _ rfl ht3 (show UnI _ (.agg #[]) () from rfl) hnew rfl rfl rfl ?_; intro w4 t4 b4 k4; have hc4 := k4.cell hc3; have ho4 := hI3.out.sideO k4 (.cells #[.string x.ref] 9))
              | (at_builtin; refine appR TS rfl (.tmp 40) (.tmp 43) rfl W2.heap.size _ _ T [x.ref] rfl rfl ho4 (sls_one (E := encS) w4 x.ref #[.string x.ref] 9 rfl) (by have := hI3.out.siz; have := b4.size; simp; omega) hlt1 ?_; intro v5 w5 o5 d5; obtain ⟨a5, c5, hv5⟩ := o5.shape; have hdl := hdel.out w5 (hI3.out.sideX hC.out k4 d5))
              | (go_at_call 25; refine hdl.mono ?_; rintro e w6 ⟨rfl, h6⟩))
            have hI6 : Hid (OrdI w w1 W2 g q b n L0 w6 v5 (L.take k ++ L.drop (k + 1)) (T ++ [x.ref])) := by
              have hI3' := hI3.out
              rw [hsp.out] at hI3'
              exact hI3'.hit hC.out hno2.out hr (by show Tab UnI w4 b ((T ++ [x.ref]).map fun r => (r, ())); rw [List.map_append]; exact t4) b4 k4 o5 d5 h6.out.1 h6.out.2
            rw [hv5] at hI6
            refine ⟨⟨k + (nl - (k + 1)), a5, T.length + 1, c5, L.take k ++ L.drop (k + 1), T ++ [x.ref], rfl, rfl, by omega, ?_, ?_⟩, by simp [lenV]; omega⟩
            · show _ = _
              have := hlL.out
              simp
              omega
            · have h := hI6.out
              rw [List.length_append] at h
              exact h

        · have hki : ¬ (k : Int) < (nl : Int) := by omega
          have hfin : Hid (OrdT l none) := by
            have h := hI.out.all
            have h2 := hrise.out
            rw [← h, ← List.length_map (f := sqOf), ordF_stuck] at h2
            · exact h2
            · intro e
              have h3 := hlL.out
              rw [← List.length_map (f := sqOf), e] at h3
              simp at h3
              omega
            · intro y hy
              obtain ⟨z, hz, rfl⟩ := List.mem_map.1 hy
              obtain ⟨j, hj, rfl⟩ := List.getElem_of_mem hz
              have := hno.out j (by have := hlL.out; omega)
              rw [List.getD_eq_getElem?_getD, List.getElem?_eq_getElem hj] at this
              exact this
          have hB : Hid (Below w.heap.size w wr) := hI.out.bel
          clear hI hC hno
          go_wp2
          try rw [Exit.noGoto_ret]
          go_ret2
          exact ⟨none, hfin.out, .inl ⟨rfl, rfl⟩, hB.out⟩
end Go.Proofs.YtaffplmfnincfaaGreatDoor
