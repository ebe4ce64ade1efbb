/- Se; Sf. -/
import Derived.Test.YtejdmielhaldaaaGreatSbSd
import Derived.Lib.SliceRun
import Derived.Test.YtejdmielhaldaaaGreatCpAr
/- slices.Clone, IndexFunc, ContainsFunc at points, asked by isUnknown. -/
namespace Go.Proofs.YtejdmielhaldaaaGreat
set_option linter.unusedVariables false
open Go.RowKit
set_option maxRecDepth 100000 in
set_option maxHeartbeats 2000000 in
/-- slices.Clone. -/
theorem sclone_any (v : Value) (l : List Pn) (w : World) (hv : Pns w v l) (hl : l.length ≤ 1000000) : Calls Tryz.prog 57 #[v] w fun e w' => ∃ u, e = .returned u ∧ OwnP w' w.heap.size u l ∧ Below w.heap.size w w' := by
  have q22 : ∀ (w : World) (a : Option Addr) (n c n' c' : Nat), (binOp .eql 22 (.slice a n c) (.slice none n' c')).run Tryz.prog w = .ok (.bool a.isNone) w := fun w a n c n' c' => Lib.run_eql_slice_nil w _ _ a n c n' c' Tryz.underlying22
  obtain ⟨a, c, rfl, hn, hc⟩ := id hv
  cases a with
  | none =>
    have hl0 : l = [] := by
      rcases hc with h | ⟨_, _, e, _⟩
      · exact h
      · cases e
    subst hl0
    obtain rfl := hn.1 rfl
    go_enter Tryz.func57, Tryz.ntmps57
    go_wp2
    go_ret
    exact ⟨_, rfl, OwnS.nil _ _, Below.refl _ _⟩
  | some ad =>
    obtain ⟨n, hN⟩ : ∃ n, Hid (n = l.length) := ⟨_, rfl⟩
    rw [← hN.out]
    have hv' : Hid (Pns w (.slice (some ad) n c) l) := by rw [hN.out]; exact hv
    clear hv hn hc
    go_enter Tryz.func57, Tryz.ntmps57
    go_wp2_with (first
      | (at_builtin; refine appR TP rfl (.tmp 5) (.tmp 6) rfl w.heap.size (.slice (some ⟨w.heap.size, 0, none⟩) 0 0) (.slice (some ad) n c) [] l rfl rfl (own_empty (T := TP) w w.heap.size (Nat.le_refl _)) (hv'.out.alloc _) (by simp) (by simp; omega) ?_; intro v2 w2 ho2 hg2; rw [List.nil_append] at ho2; have hb2 : Below w.heap.size w w2 := ((Below.refl _ w).alloc (Nat.le_refl _) _).grown hg2 (by simp) (by intro q hq; cases hq; exact Nat.le_refl _)))
    go_ret
    exact ⟨_, rfl, ho2, hb2⟩
/-- The place of the first that is unknown. -/
def idxU (l : List Pn) : Int := if l.any unkB = true then (l.findIdx unkB : Int) else -1
theorem getD_get (l : List Pn) (k : Nat) (h : k < l.length) : l.getD k pn0 = l[k] := by rw [List.getD_eq_getElem?_getD, List.getElem?_eq_getElem h]; rfl
theorem idxU_some {l : List Pn} (h : l.any unkB = true) : l.findIdx unkB < l.length ∧ unkB (l.getD (l.findIdx unkB) pn0) = true ∧ ∀ k, k < l.findIdx unkB → unkB (l.getD k pn0) = false := by
  have h1 : l.findIdx unkB < l.length := by
    rw [List.findIdx_lt_length]
    obtain ⟨x, hx, hu⟩ := List.any_eq_true.1 h
    exact ⟨x, hx, hu⟩
  refine ⟨h1, ?_, fun k hk => ?_⟩
  · rw [getD_get _ _ h1]; exact List.findIdx_getElem (w := h1)
  · rw [getD_get _ _ (by omega)]
    have := List.not_of_lt_findIdx hk
    simpa using this
theorem idxU_none {l : List Pn} (h : l.any unkB = false) (k : Nat) (hk : k < l.length) : unkB (l.getD k pn0) = false := by
  rw [getD_get _ _ hk]
  have := List.any_eq_false.1 h l[k] (List.getElem_mem hk)
  simpa using this
set_option maxRecDepth 100000 in
set_option maxHeartbeats 4000000 in
/-- slices.IndexFunc. -/
theorem sidx_any (v : Value) (l : List Pn) (w : World) (hv : Pns w v l) (hl : l.length ≤ 1000000) (hva : ∀ p ∈ l, IsV p.v) : Calls Tryz.prog 85 #[v, .func (.func 58) #[] #[]] w fun e w' => e = .returned (.int .i64 (idxU l)) ∧ Below w.heap.size w w' := by
  obtain ⟨a, c, rfl⟩ := hv.shape
  have hmem : Hid (∀ k, k < l.length → IsV (l.getD k pn0).v) := fun k hk => hva _ (by rw [getD_get _ _ hk]; exact List.getElem_mem hk)
  replace hv : Hid (Pns w (.slice a l.length c) l) := hv
  clear hva
  cases hany : l.any unkB with
  | false =>
    have hid : Hid (idxU l = -1) := by unfold idxU; rw [hany]; rfl
    have hno : Hid (∀ k, k < l.length → unkB (l.getD k pn0) = false) := fun k hk => idxU_none hany k hk
    clear hany
    rw [hid.out]
    go_enter Tryz.func85, Tryz.ntmps85
    go_wp2
    go_loopw [8] (fun i wr => ∃ k : Nat, k ≤ l.length ∧ i = .int .i64 k ∧ Hid (Below w.heap.size w wr)) (fun i _ => l.length - (intOf i).toNat)
    case atStart => exact ⟨0, Nat.zero_le _, rfl, Below.refl _ _⟩
    case round =>
      obtain ⟨k, hk, rfl, hB⟩ := hrel
      by_cases hlt : k < l.length
      · have hki : (k : Int) < (l.length : Int) := by omega
        obtain ⟨b, o, rfl, x0, x1, x2⟩ := pn_at (hv.out.grow hB.out) k hlt
        have hu := unk_any (l.getD k pn0) wr (hmem.out k hlt)
        rw [hno.out k hlt] at hu
        generalize l.getD k pn0 = q at *
        go_wp2_with (first
          | (go_at_call 58; refine hu.mono ?_; rintro e w1 ⟨rfl, hb1⟩; have hB1 : Hid _ := hB.out.trans (hb1.mono hB.out.size)))
        refine ⟨⟨k + 1, by omega, by go_num, hB1⟩, ?_⟩
        simp [intOf]; omega
      · obtain rfl : k = l.length := by omega
        have hki : ¬ (l.length : Int) < (l.length : Int) := by omega
        have hB' := hB.out
        go_wp2
        go_ret
        exact ⟨rfl, hB'⟩
  | true =>
    obtain ⟨h1, h2, h3⟩ := idxU_some hany
    have hid : Hid (idxU l = (l.findIdx unkB : Int)) := by unfold idxU; rw [hany]; rfl
    rw [hid.out]
    clear hid hany
    generalize l.findIdx unkB = K at *
    replace h2 : Hid (unkB (l.getD K pn0) = true) := h2
    replace h3 : Hid (∀ k, k < K → unkB (l.getD k pn0) = false) := h3
    go_enter Tryz.func85, Tryz.ntmps85
    go_wp2
    go_loopw [8] (fun i wr => ∃ k : Nat, k ≤ K ∧ i = .int .i64 k ∧ Hid (Below w.heap.size w wr)) (fun i _ => l.length - (intOf i).toNat)
    case atStart => exact ⟨0, Nat.zero_le _, rfl, Below.refl _ _⟩
    case round =>
      obtain ⟨k, hk, rfl, hB⟩ := hrel
      have hki : (k : Int) < (l.length : Int) := by omega
      obtain ⟨b, o, rfl, x0, x1, x2⟩ := pn_at (hv.out.grow hB.out) k (by omega)
      have hu := unk_any (l.getD k pn0) wr (hmem.out k (by omega))
      by_cases hlt : k < K
      · rw [h3.out k hlt] at hu
        generalize l.getD k pn0 = q at *
        go_wp2_with (first
          | (go_at_call 58; refine hu.mono ?_; rintro e w1 ⟨rfl, hb1⟩; have hB1 : Hid _ := hB.out.trans (hb1.mono hB.out.size)))
        refine ⟨⟨k + 1, by omega, by go_num, hB1⟩, ?_⟩
        simp [intOf]; omega
      · obtain rfl : k = K := by omega
        rw [h2.out] at hu
        clear h3
        generalize l.getD k pn0 = q at *
        go_wp2_with (first
          | (go_at_call 58; refine hu.mono ?_; rintro e w1 ⟨rfl, hb1⟩; have hB1 := hB.out.trans (hb1.mono hB.out.size)))
        go_ret
        exact ⟨rfl, hB1⟩
set_option maxRecDepth 100000 in
set_option maxHeartbeats 2000000 in
/-- slices.ContainsFunc. -/
theorem scont_any (v : Value) (l : List Pn) (w : World) (hv : Pns w v l) (hl : l.length ≤ 1000000) (hva : ∀ p ∈ l, IsV p.v) : Calls Tryz.prog 61 #[v, .func (.func 58) #[] #[]] w fun e w' => e = .returned (.bool (l.any unkB)) ∧ Below w.heap.size w w' := by
  have hi := sidx_any v l w hv hl hva
  cases hany : l.any unkB with
  | false =>
    rw [show idxU l = -1 by unfold idxU; rw [hany]; rfl] at hi
    go_enter Tryz.func61, Tryz.ntmps61
    go_wp2_with (first | (go_at_call 85; refine hi.mono ?_; rintro e w1 ⟨rfl, hb1⟩))
    go_ret
    exact ⟨rfl, hb1⟩
  | true =>
    rw [show idxU l = (l.findIdx unkB : Int) by unfold idxU; rw [hany]; rfl] at hi
    generalize l.findIdx unkB = K at *
    go_enter Tryz.func61, Tryz.ntmps61
    go_wp2_with (first | (go_at_call 85; refine hi.mono ?_; rintro e w1 ⟨rfl, hb1⟩))
    go_ret
    exact ⟨by simp, hb1⟩
end Go.Proofs.YtejdmielhaldaaaGreat
/- slices.DeleteFunc at points, asked by isUnknown; series.known. -/
namespace Go.Proofs.YtejdmielhaldaaaGreat
set_option linter.unusedVariables false
open Go.RowKit
theorem flatP_set (xs : List Pn) (j : Nat) (x : Pn) : flat encP (xs.set j x) = (((flat encP xs).set (j * 3) (.int .i64 x.at')).set (j * 3 + 1) (.int .i64 x.v.kind)).set (j * 3 + 2) (.int .i64 x.v.n) := by
  induction xs generalizing j with
  | nil => simp [flat]
  | cons a r ih =>
    cases j with
    | zero => rfl
    | succ j =>
      show encP.arr a ++ flat encP (r.set j x) = ((((encP.arr a ++ flat encP r)).set ((j + 1) * 3) _).set ((j + 1) * 3 + 1) _).set ((j + 1) * 3 + 2) _
      rw [ih, show (j + 1) * 3 = j * 3 + 1 + 1 + 1 by omega]
      rfl
theorem own_storeP {w : World} {base g n cap : Nat} {xs : List Pn} (h : OwnP w base (.slice (some ⟨g, 0, none⟩) n cap) xs) (hn : n = xs.length) (j : Nat) (x : Pn) : OwnP (((w.setCell ⟨g, j * 3, none⟩ (.int .i64 x.at')).setCell ⟨g, j * 3 + 1, none⟩ (.int .i64 x.v.kind)).setCell ⟨g, j * 3 + 2, none⟩ (.int .i64 x.v.n)) base (.slice (some ⟨g, 0, none⟩) n cap) (xs.set j x) := by
  subst hn
  have h1 := (World.ownsRow.stored h (j * 3) (.int .i64 x.at')).1
  have h2 := (World.ownsRow.stored h1 (j * 3 + 1) (.int .i64 x.v.kind)).1
  have h3 := (World.ownsRow.stored h2 (j * 3 + 2) (.int .i64 x.v.n)).1
  unfold OwnP OwnS
  rw [List.length_set, flatP_set]
  exact h3
def zP : Value := .agg #[.int .i64 0, .int .i64 0, .int .i64 0]
theorem zerosP_len (n : Nat) : (Builtin.zeroCells zP.cells n).toList.length = n * 3 := by
  simp [Builtin.zeroCells, zP, Value.cells]
theorem zerosP_one (n : Nat) : ∀ v ∈ (Builtin.zeroCells zP.cells n).toList, v.oneCell' = true := by
  intro v hv
  simp [Builtin.zeroCells, zP, Value.cells] at hv
  obtain ⟨a, _, rfl⟩ := hv
  have h2 : a % 3 = 0 ∨ a % 3 = 1 ∨ a % 3 = 2 := by omega
  rcases h2 with h | h | h <;> rw [h] <;> rfl
/-- clear(s[k:]). -/
theorem clearP {w : World} {base g cap : Nat} {L : List Pn} (h : OwnP w base (.slice (some ⟨g, 0, none⟩) L.length cap) L) (k : Nat) (hk : k < L.length) (c : Nat) (ty : TypeId) :
    (Builtin.clear_ #[22] ty #[.slice (some ⟨g, k * 3, none⟩) (L.length - k) c]).run Tryz.prog w = .ok (.tuple #[]) (w.setCells g (k * 3) (Builtin.zeroCells zP.cells (L.length - k)).toList) := by
  have hcell : ∀ x, x < L.length * 3 → (w.cell? ⟨g, x, none⟩).isSome = true := fun x hx => by
    obtain ⟨h1, _⟩ := h.cellR rfl (x / 3) (x % 3) (by omega) (Nat.mod_lt _ (by decide))
    have e : x / 3 * encP.k + x % 3 = x := Nat.div_add_mod' x 3
    rw [e] at h1
    rw [h1, List.getElem?_eq_getElem (by rw [encP.len]; exact Nat.mod_lt _ (by decide))]
    rfl
  have hst := run_storeCells_cells (P := Tryz.prog) g (k * 3) (Builtin.zeroCells zP.cells (L.length - k)).toList 0 w
    (fun j hj => by rw [zerosP_len] at hj; exact hcell _ (by omega)) (fun j hj => World.ownsRow.frozenAt h _) (zerosP_one _)
  simp only [Nat.add_zero] at hst
  obtain ⟨m, hm⟩ : ∃ m, L.length - k = m + 1 := ⟨L.length - k - 1, by omega⟩
  rw [hm] at hst ⊢
  unfold zP at hst ⊢
  simp [Builtin.clear_, run_underlying Tryz.underlying22, Tryz.zeroValue51, hst]
theorem pns_take {w : World} {g n cap : Nat} {L : List Pn} (h : Pns w (.slice (some ⟨g, 0, none⟩) L.length cap) L) (hn : n ≤ L.length) : Pns w (.slice (some ⟨g, 0, none⟩) n cap) (L.take n) := by
  have hl : (L.take n).length = n := by rw [List.length_take]; omega
  obtain ⟨a, c, e, hnc, h⟩ := h
  cases e
  refine ⟨_, cap, by rw [hl], ⟨(fun e => by cases e), by rw [hl]; have := hnc.2; omega⟩, .inr ⟨g, 0, rfl, fun t ht => ?_⟩⟩
  rw [hl] at ht
  have hg : (L.take n).getD t encP.d = L.getD t encP.d := by
    rw [List.getD_eq_getElem?_getD, List.getD_eq_getElem?_getD, List.getElem?_take_of_lt ht]
  rw [hg]
  rcases h with h | ⟨b, o, e2, h⟩
  · rw [h] at hn; simp at hn; omega
  · cases e2
    exact h t (by omega)
theorem pns_setCells {w : World} {g n cap k : Nat} {l : List Pn} {vs : List Value} (h : Pns w (.slice (some ⟨g, 0, none⟩) n cap) l) (hk : n ≤ k) : Pns (w.setCells g (k * 3) vs) (.slice (some ⟨g, 0, none⟩) n cap) l := by
  obtain ⟨a, c, e, hn, h⟩ := h
  have hln : n = l.length := by cases e; rfl
  refine ⟨a, c, e, hn, ?_⟩
  rcases h with h | ⟨b, o, e2, h⟩
  · exact .inl h
  · cases e
    cases e2
    refine .inr ⟨g, 0, rfl, fun t ht i u hu => ?_⟩
    have hi : i < 3 := by
      have : i < (encP.arr (l.getD t encP.d)).length := by
        rcases Nat.lt_or_ge i (encP.arr (l.getD t encP.d)).length with h | h
        · exact h
        · rw [List.getElem?_eq_none h] at hu; cases hu
      rw [encP.len] at this
      exact this
    rw [World.cell?_setCells_out g vs (k * 3) w _ (fun _ _ => .inl (by show 0 + t * 3 + i < k * 3; omega))]
    exact h t ht i u hu
def knwB (p : Pn) : Bool := !unkB p
/-- Those that are known. -/
def knownL (l : List Pn) : List Pn := l.filter knwB
/-- What stands when j of them have been asked: i were kept. -/
structure DelI (l : List Pn) (j i : Nat) (L : List Pn) : Prop where
  len : L.length = l.length
  lt : i < j
  le : j ≤ l.length
  low : L.take i = knownL (l.take j)
  high : ∀ t, j ≤ t → t < l.length → L.getD t pn0 = l.getD t pn0
theorem known_take (l : List Pn) (j : Nat) (h : j < l.length) : knownL (l.take (j + 1)) = knownL (l.take j) ++ (if knwB (l.getD j pn0) = true then [l.getD j pn0] else []) := by
  unfold knownL
  rw [List.take_succ_eq_append_getElem h, List.filter_append, getD_get l j h]
  congr 1
  by_cases hb : knwB l[j] = true
  · rw [if_pos hb]; simp [hb]
  · rw [if_neg hb]; simp [hb]
theorem DelI.start {l : List Pn} (h : l.any unkB = true) : DelI l (l.findIdx unkB + 1) (l.findIdx unkB) l := by
  obtain ⟨h1, h2, h3⟩ := idxU_some h
  refine ⟨rfl, by omega, by omega, ?_, fun _ _ _ => rfl⟩
  rw [known_take l _ h1, if_neg (by unfold knwB; rw [h2]; decide), List.append_nil]
  symm
  unfold knownL
  rw [List.filter_eq_self]
  intro x hx
  obtain ⟨k, hk, rfl⟩ := List.getElem_of_mem hx
  rw [List.length_take] at hk
  rw [List.getElem_take]
  have := h3 k (by omega)
  rw [getD_get _ _ (by omega)] at this
  unfold knwB
  rw [this]
  rfl
theorem DelI.skip {l L : List Pn} {j i : Nat} (h : DelI l j i L) (hj : j < l.length) (hu : unkB (l.getD j pn0) = true) : DelI l (j + 1) i L :=
  ⟨h.len, by have := h.lt; omega, hj, by rw [known_take l j hj, if_neg (by unfold knwB; rw [hu]; decide), List.append_nil]; exact h.low, fun t ht => h.high t (by omega)⟩
theorem DelI.keep {l L : List Pn} {j i : Nat} (h : DelI l j i L) (hj : j < l.length) (hu : unkB (l.getD j pn0) = false) : DelI l (j + 1) (i + 1) (L.set i (l.getD j pn0)) := by
  have hlt := h.lt
  have hil : i < L.length := by rw [h.len]; omega
  refine ⟨by rw [List.length_set]; exact h.len, by omega, hj, ?_, fun t ht htl => ?_⟩
  · rw [known_take l j hj, if_pos (by unfold knwB; rw [hu]; rfl), ← h.low, List.take_succ_eq_append_getElem (by rw [List.length_set]; exact hil), List.getElem_set_self]
    congr 1
    rw [List.take_set_of_le (Nat.le_refl _)]
  · rw [List.getD_eq_getElem?_getD, List.getElem?_set_ne (by omega), ← List.getD_eq_getElem?_getD]
    exact h.high t (by omega) htl
theorem own_cellP {w : World} {base g n cap : Nat} {xs : List Pn} (h : OwnP w base (.slice (some ⟨g, 0, none⟩) n cap) xs) (hn : n = xs.length) (j : Nat) (hj : j < n) :
    (w.cell? ⟨g, j * 3, none⟩ = some (.int .i64 (xs.getD j pn0).at') ∧ w.cell? ⟨g, j * 3 + 1, none⟩ = some (.int .i64 (xs.getD j pn0).v.kind) ∧ w.cell? ⟨g, j * 3 + 2, none⟩ = some (.int .i64 (xs.getD j pn0).v.n)) ∧ (w.frozen? ⟨g, j * 3, none⟩ = false ∧ w.frozen? ⟨g, j * 3 + 1, none⟩ = false ∧ w.frozen? ⟨g, j * 3 + 2, none⟩ = false) := by
  obtain ⟨c0, f0⟩ := h.cellR hn j 0 hj (by decide)
  obtain ⟨c1, f1⟩ := h.cellR hn j 1 hj (by decide)
  obtain ⟨c2, f2⟩ := h.cellR hn j 2 hj (by decide)
  exact ⟨⟨c0, c1, c2⟩, f0, f1, f2⟩
set_option maxRecDepth 100000 in
set_option maxHeartbeats 8000000 in
theorem del_some (l : List Pn) (base g cap : Nat) (w : World) (hown : OwnP w base (.slice (some ⟨g, 0, none⟩) l.length cap) l) (hbg : base ≤ g) (hl : l.length ≤ 1000000) (hcap : l.length ≤ cap) (hcm : cap ≤ maxLen) (hva : ∀ p ∈ l, IsV p.v) (hany : l.any unkB = true) :
    Calls Tryz.prog 56 #[.slice (some ⟨g, 0, none⟩) l.length cap, .func (.func 58) #[] #[]] w fun e w' => ∃ u, e = .returned u ∧ Pns w' u (knownL l) ∧ Below base w w' := by
  have hi := sidx_any _ l w hown.sls hl hva
  have hst := DelI.start hany
  have hmem : Hid (∀ k, k < l.length → IsV (l.getD k pn0).v) := fun k hk => hva _ (by rw [getD_get _ _ hk]; exact List.getElem_mem hk)
  rw [show idxU l = (l.findIdx unkB : Int) by unfold idxU; rw [hany]; rfl] at hi
  have hK := (idxU_some hany).1
  clear hany hva
  generalize l.findIdx unkB = K at *
  obtain ⟨n, hN⟩ : ∃ n, Hid (n = l.length) := ⟨_, rfl⟩
  rw [← hN.out] at hl hcap hK hi hown ⊢
  replace hown : Hid (OwnP w base (.slice (some ⟨g, 0, none⟩) n cap) l) := hown
  replace hst : Hid (DelI l (K + 1) K l) := hst
  unfold maxLen at hcm
  have hKi : ((K : Int) == -1) = false := by simp
  go_enter Tryz.func56, Tryz.ntmps56
  go_wp2_with (first | (go_at_call 85; refine hi.mono ?_; rintro e w1 ⟨rfl, hb1⟩; have ho1 : Hid _ := hown.out.stay hb1))
  have hlt1 : Hid (g < w.heap.size) := (hown.out.lt g rfl).2
  have hB1 : Hid (Below base w w1) := hb1.mono (by have := hlt1.out; omega)
  go_loopw [5, 6] (fun s5 s6 wr => ∃ (i j : Nat) (L : List Pn), s5 = .int .i64 i ∧ s6 = .int .i64 j ∧ Hid (DelI l j i L) ∧ Hid (OwnP wr base (.slice (some ⟨g, 0, none⟩) n cap) L) ∧ Hid (Below base w wr)) (fun _ s6 _ => n - (intOf s6).toNat)
  case atStart => exact ⟨K, K + 1, l, rfl, by go_num, hst, ho1, hB1⟩
  case round =>
    obtain ⟨i, j, L, rfl, rfl, hI, ho, hB⟩ := hrel
    have hij := hI.out.lt
    have hjn : j ≤ n := by rw [hN.out]; exact hI.out.le
    have hLn : Hid (n = L.length) := hN.out.trans hI.out.len.symm
    by_cases hlt : j < n
    · have hji : (j : Int) < (n : Int) := by omega
      have hjl : j < l.length := by rw [← hN.out]; exact hlt
      have hx : Hid (L.getD j pn0 = l.getD j pn0) := hI.out.high j (Nat.le_refl _) hjl
      have hrow := ho.out.sls
      obtain ⟨b2, o2, e2, x0, x1, x2⟩ := pn_at hrow j (by rw [← hLn.out]; exact hlt)
      cases e2
      rw [hx.out] at x0 x1 x2
      simp only [Nat.zero_add] at x0 x1 x2
      have hgl : g < wr.heap.size := (ho.out.lt g rfl).2
      have hbw : base ≤ wr.heap.size := by omega
      have hbx : ∀ o : Obj, base ≤ (wr.alloc o).heap.size := fun o => by rw [World.size_alloc]; omega
      have hu := fun W => unk_any (l.getD j pn0) W (hmem.out j hjl)
      cases hub : unkB (l.getD j pn0) with
      | true =>
        have hI2 : Hid (DelI l (j + 1) i L) := hI.out.skip hjl hub
        rw [hub] at hu
        clear hx hrow
        generalize l.getD j pn0 = q at *
        go_wp2_with (first
          | (go_at_call 58; refine (hu _).mono ?_; rintro e w2 ⟨rfl, hb2⟩; have ho2 : Hid _ := (ho.out.alloc _).stay hb2; have hB2 : Hid _ := (hB.out.alloc hbw _).trans (hb2.mono (hbx _))))
        refine ⟨⟨i, j + 1, L, rfl, by go_num, hI2, ho2, hB2⟩, ?_⟩
        simp [intOf]; omega
      | false =>
        have hI2 : Hid (DelI l (j + 1) (i + 1) (L.set i (l.getD j pn0))) := hI.out.keep hjl hub
        rw [hub] at hu
        clear hx hrow
        generalize l.getD j pn0 = q at *
        have hin : (i : Int) < (n : Int) := by omega
        go_wp2_with (first
          | (go_at_call 58; refine (hu _).mono ?_; rintro e w2 ⟨rfl, hb2⟩; have ho2 := (ho.out.alloc _).stay hb2; have hB2 := (hB.out.alloc hbw _).trans (hb2.mono (hbx _)); have hq2 := (pnNew wr q).grow hb2; obtain ⟨z0, z1, z2⟩ := hq2.cells; obtain ⟨⟨c0, c1, c2⟩, f0, f1, f2⟩ := own_cellP ho2 hLn.out i (by omega); have ho3 : Hid _ := own_storeP ho2 hLn.out i q))
        refine ⟨⟨i + 1, j + 1, _, by go_num, by go_num, hI2, ho3, ?_⟩, ?_⟩
        · exact ((hB2.setCell (p := ⟨g, i * 3, none⟩) hbg _).setCell (p := ⟨g, i * 3 + 1, none⟩) hbg _).setCell (p := ⟨g, i * 3 + 2, none⟩) hbg _
        · simp [intOf]; omega
    · obtain rfl : j = n := by omega
      have hji : ¬ (j : Int) < (j : Int) := by omega
      have hlow : Hid (L.take i = knownL l) := by
        show _ = _
        rw [hI.out.low, List.take_of_length_le (by rw [← hN.out]; exact Nat.le_refl _)]
      have hoL : OwnP wr base (.slice (some ⟨g, 0, none⟩) L.length cap) L := by rw [← hLn.out]; exact ho.out
      have hcl := fun c ty => clearP hoL i (by rw [← hLn.out]; omega) c ty
      rw [← hLn.out] at hcl
      have hsl := pns_take hoL.sls (n := i) (by rw [← hLn.out]; omega)
      rw [hlow.out] at hsl
      have hii : (i : Int) ≤ (j : Int) := by omega
      have hsl' : Hid _ := hsl
      have hB' := hB.out
      clear hsl hoL
      go_wp2
      go_ret
      exact ⟨_, rfl, pns_setCells hsl'.out (Nat.le_refl _), hB'.trans (Lib.below_setCells_w hbg _ _ _)⟩
set_option maxRecDepth 100000 in
set_option maxHeartbeats 2000000 in
theorem del_none (v : Value) (l : List Pn) (w : World) (hv : Pns w v l) (hl : l.length ≤ 1000000) (hva : ∀ p ∈ l, IsV p.v) (hany : l.any unkB = false) :
    Calls Tryz.prog 56 #[v, .func (.func 58) #[] #[]] w fun e w' => e = .returned v ∧ Below w.heap.size w w' := by
  have hi := sidx_any v l w hv hl hva
  rw [show idxU l = -1 by unfold idxU; rw [hany]; rfl] at hi
  go_enter Tryz.func56, Tryz.ntmps56
  go_wp2_with (first | (go_at_call 85; refine hi.mono ?_; rintro e w1 ⟨rfl, hb1⟩))
  go_ret
  exact ⟨rfl, hb1⟩
/-- slices.DeleteFunc. -/
theorem del_any (base : Nat) (v : Value) (l : List Pn) (w : World) (hown : OwnP w base v l) (hbase : base ≤ w.heap.size) (hl : l.length ≤ 1000000) (hva : ∀ p ∈ l, IsV p.v) :
    Calls Tryz.prog 56 #[v, .func (.func 58) #[] #[]] w fun e w' => ∃ u, e = .returned u ∧ Pns w' u (knownL l) ∧ Below base w w' := by
  cases hany : l.any unkB with
  | false =>
    refine (del_none v l w hown.sls hl hva hany).mono ?_
    rintro e w' ⟨rfl, hb⟩
    refine ⟨_, rfl, ?_, hb.mono hbase⟩
    have : knownL l = l := by
      unfold knownL
      rw [List.filter_eq_self]
      intro x hx
      have := List.any_eq_false.1 hany x hx
      unfold knwB
      simpa using this
    rw [this]
    exact hown.sls.grow hb
  | true =>
    rcases hown.2 with ⟨rfl, h0⟩ | ⟨g, cap, cur, rfl, hbg, hg, hnc, hcm, hcs, htake⟩
    · have : l = [] := by
        cases l with
        | nil => rfl
        | cons a r => simp at h0
      rw [this] at hany
      cases hany
    · exact del_some l base g cap w hown hbg hl hnc hcm hva hany
set_option maxRecDepth 100000 in
set_option maxHeartbeats 2000000 in
/-- series.known. -/
theorem known_any (v : Value) (l : List Pn) (w : World) (hv : Pns w v l) (hl : l.length ≤ 1000000) (hva : ∀ p ∈ l, IsV p.v) :
    Calls Tryz.prog 33 #[v] w fun e w' => ∃ u, e = .returned u ∧ Pns w' u (knownL l) ∧ Below w.heap.size w w' := by
  have hc := sclone_any v l w hv hl
  go_enter Tryz.func33, Tryz.ntmps33
  go_wp2_with (first
    | (go_at_call 57; refine hc.mono ?_; rintro e w1 ⟨u1, rfl, ho1, hb1⟩)
    | (go_at_call 56; refine (del_any w.heap.size u1 l w1 ho1 hb1.size hl hva).mono ?_; rintro e w2 ⟨u2, rfl, hp2, hb2⟩))
  go_ret
  exact ⟨_, rfl, hp2, hb1.trans hb2⟩
end Go.Proofs.YtejdmielhaldaaaGreat
