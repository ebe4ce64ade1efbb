/- The map of stands, by their labels' keys. -/
import Derived.Test.YtiajafljgfpdcaaGreatBRw
import Derived.Test.YtiajafljgfpdcaaGreatKy
import Derived.Test.YtiajafljgfpdcaaGreatPk
import Derived.Maps.RangeWalk
import Derived.Maps.Ext
namespace Go.Proofs.YtiajafljgfpdcaaGreat
set_option linter.unusedVariables false
open Go.RowKit Go.Maps Go.ChangeMaps Go.MapKept
theorem lawS : Keyed Tryz.prog 9 := string_keyed Tryz.underlying9
/-- Labels' key, as bytes. -/
def keyB (l : List Lb) : ByteArray := strOfNums (keyL l)
def keyU (l : List Lb) : List UInt8 := (keyB l).data.toList
theorem keyU_inj {l m : List Lb} (hl : IsSet l) (hm : IsSet m) (h : keyU l = keyU m) : l = m := by
  have h1 : keyB l = keyB m := by
    unfold keyU at h
    cases hx : keyB l
    cases hy : keyB m
    rw [hx, hy] at h
    simp only at h
    rw [Array.toList_inj.1 h]
  have h2 := congrArg numsS h1
  unfold keyB at h2
  rw [numsS_strOf _ (keyL_bytes l), numsS_strOf _ (keyL_bytes m)] at h2
  exact keyL_inj (fun a ha => (hl.1 a ha).1) (fun a ha => (hm.1 a ha).1) h2
theorem keyL_len {l : List Lb} (h : IsSet l) : (keyL l).length ≤ 10000 := by
  have := bodyK_len h.short l.length
  rw [List.take_length] at this
  have h16 := h.2.2
  unfold keyL
  simp only [List.length_cons, List.length_append, List.length_nil, List.cons_append]
  have : l.length * 401 ≤ 16 * 401 := Nat.mul_le_mul_right _ h16
  omega
theorem key_lit {l : List Lb} (h : IsSet l) : keyOf Tryz.prog 9 (.string (keyB l)) = some (.string (keyU l)) := by
  have hs : (keyB l).size ≤ maxLen := by
    unfold keyB
    rw [strOf_size]
    have := keyL_len h
    unfold maxLen
    omega
  unfold keyOf mapKey
  rw [Tryz.underlying9]
  simp [hs, keyU]
/-- How a stand is read: as it stands. -/
def RV (v : Value) : Option (DataW Value × List MemPlace) := some (.held v, [])
/-- Block b is the map of these stands. -/
def MapIs (w : World) (b : Nat) (L : List Sd) : Prop :=
  ∃ D : DataW Value, w.ownsMap Tryz.prog 9 RV b L.length D ∧ Maps.size D = L.length ∧ RiseG (fun s : Sd => s.s.ls) L ∧ (∀ s ∈ L, IsSet s.s.ls) ∧
    (∀ k, Maps.has D (.string k) = true → ∃ s ∈ L, keyU s.s.ls = k) ∧ ∀ s ∈ L, Maps.has D (.string (keyU s.s.ls)) = true ∧ ∀ z, D.atKey (.string (keyU s.s.ls)) z = .held (encD s)
theorem MapIs.lt {w : World} {b : Nat} {L : List Sd} (h : MapIs w b L) : b < w.heap.size := by obtain ⟨D, h, _⟩ := h; exact h.lt
theorem MapIs.keep {w w' : World} {b : Nat} {L : List Sd} (h : MapIs w b L) (e : w'.heap[b]? = w.heap[b]?) : MapIs w' b L := by
  obtain ⟨D, ⟨es, clock, hb, r⟩, h2⟩ := h
  exact ⟨D, ⟨es, clock, e.trans hb, r⟩, h2⟩
theorem MapIs.grow {w w' : World} {b : Nat} {L : List Sd} (h : MapIs w b L) (hb : Below w.heap.size w w') : MapIs w' b L := h.keep (hb.block b h.lt)
theorem MapIs.rise {w : World} {b : Nat} {L : List Sd} (h : MapIs w b L) : RiseG (fun s : Sd => s.s.ls) L := by obtain ⟨_, _, _, h, _⟩ := h; exact h
theorem MapIs.sets {w : World} {b : Nat} {L : List Sd} (h : MapIs w b L) : ∀ s ∈ L, IsSet s.s.ls := by obtain ⟨_, _, _, _, h, _⟩ := h; exact h
theorem MapIs.isMap {w : World} {b : Nat} {L : List Sd} (h : MapIs w b L) : ∃ es clock, w.heap[b]? = some (.map es clock) := by
  obtain ⟨D, ⟨es, clock, hb, r⟩, h2⟩ := h
  exact ⟨es, clock, hb⟩
theorem map_made (w : World) : MapIs (w.alloc (.map #[] 0)) w.heap.size [] :=
  ⟨.map [], World.ownsMap_made _ _ _ _, rfl, RiseG.nil, by simp, (fun k h => by cases h), by simp⟩
theorem str_ne {a b : List UInt8} (h : a ≠ b) : (Lit.string a) ≠ (Lit.string b) := fun e => h (by cases e; rfl)
theorem has_iff {w : World} {b : Nat} {L : List Sd} {D : DataW Value} (hr : RiseG (fun s : Sd => s.s.ls) L) (hs : ∀ s ∈ L, IsSet s.s.ls) (h1 : ∀ k, Maps.has D (.string k) = true → ∃ s ∈ L, keyU s.s.ls = k)
    (h2 : ∀ s ∈ L, Maps.has D (.string (keyU s.s.ls)) = true ∧ ∀ z, D.atKey (.string (keyU s.s.ls)) z = .held (encD s)) {ls : List Lb} (hl : IsSet ls) :
    Maps.has D (.string (keyU ls)) = (getG (fun s : Sd => s.s.ls) L ls).isSome := by
  cases hg : getG (fun s : Sd => s.s.ls) L ls with
  | some s =>
    obtain ⟨hm, rfl⟩ := getG_some hg
    exact (h2 s hm).1
  | none =>
    rw [getG_none] at hg
    cases hh : Maps.has D (.string (keyU ls)) with
    | false => rfl
    | true =>
      obtain ⟨s, hm, e⟩ := h1 _ hh
      exact absurd (keyU_inj (hs s hm) hl e) (hg s hm)
/-- A stand is laid at its key. -/
theorem MapIs.update {w : World} {b : Nat} {L : List Sd} (h : MapIs w b L) (hn : L.length < 1000000) (s : Sd) (hs : IsSet s.s.ls) :
    ∃ w', (Instr.mapUpdate 79 (.map (some b)) (.string (keyB s.s.ls)) (encD s)).run Tryz.prog w = .ok () w' ∧ MapIs w' b (putG (fun s : Sd => s.s.ls) s L) ∧ w.mapTurned w' b := by
  obtain ⟨D, ho, hsz, hr, hset, h1, h2⟩ := h
  obtain ⟨w', hrun, ho', ht'⟩ := ho.store lawS Tryz.underlying79 (by unfold maxLen; omega) (key_lit hs) (show RV (encD s) = some (.held (encD s), []) from rfl)
  have hD := ho.isMap
  have hhas := has_iff (w := w) (b := b) hr hset h1 h2 hs
  have hsz' : Maps.size (D.put (.string (keyU s.s.ls)) (.held (encD s))) = (putG (fun s : Sd => s.s.ls) s L).length := by
    rw [size_put (ho.tidy lawS), len_putG hr, hhas, hsz]
  have hset' : ∀ t ∈ putG (fun s : Sd => s.s.ls) s L, IsSet t.s.ls := fun t ht => by
    rcases (mem_putG hr).1 ht with rfl | ⟨hm, _⟩
    · exact hs
    · exact hset t hm
  refine ⟨w', hrun, ⟨_, ?_, hsz', rise_putG hr, hset', fun k hk => ?_, fun t ht => ?_⟩, ht'⟩
  · obtain ⟨es, clock, hb, F, hs2, e2⟩ := ho'
    refine ⟨es, clock, hb, F, ?_, e2⟩
    rw [← hsz', e2]
    show es.size ≤ ((es.toList.map _).foldr DataW.insert []).length
    rw [length_sorted]
    simp
  · by_cases e : k = keyU s.s.ls
    · exact ⟨s, (mem_putG hr).2 (.inl rfl), e.symm⟩
    · rw [has_put_other (str_ne e)] at hk
      obtain ⟨t, hm, e2⟩ := h1 k hk
      refine ⟨t, (mem_putG hr).2 (.inr ⟨hm, fun e3 => e ?_⟩), e2⟩
      rw [← e2, e3]
  · rcases (mem_putG hr).1 ht with rfl | ⟨hm, hne⟩
    · exact ⟨has_put_same hD (show WideAt.IsKeyLit (.string (keyU t.s.ls)) from trivial) _, fun z => atKey_put_same hD (show WideAt.IsKeyLit (.string (keyU t.s.ls)) from trivial) _ _⟩
    · have hk : keyU t.s.ls ≠ keyU s.s.ls := fun e => hne (keyU_inj (hset t hm) hs e)
      refine ⟨by rw [has_put_other (str_ne hk)]; exact (h2 t hm).1, fun z => ?_⟩
      rw [atKey_put_other (str_ne hk)]
      exact (h2 t hm).2 z
theorem RV_eq {v : Value} {x : Value} {ps : List MemPlace} (h : RV v = some (.held x, ps)) : v = x := by
  unfold RV at h
  simp at h
  exact h.1
theorem zero120 (w : World) : (zeroValue 120).run Tryz.prog w = .ok (encD sd0) w := by kernel_rfl
/-- What is looked up at labels. -/
theorem MapIs.look {w : World} {b : Nat} {L : List Sd} (h : MapIs w b L) {ls : List Lb} (hl : IsSet ls) :
    (Instr.lookup 79 (.map (some b)) (.string (keyB ls)) false).run Tryz.prog w = .ok (encD ((getG (fun s : Sd => s.s.ls) L ls).getD sd0)) w := by
  obtain ⟨D, ho, hsz, hr, hset, h1, h2⟩ := h
  obtain ⟨v, ps, hrun, hR⟩ := ho.lookup lawS Tryz.underlying79 (zero120 w) (show RV (encD sd0) = some (.held (encD sd0), []) from rfl) (key_lit hl)
  have hhas := has_iff (w := w) (b := b) hr hset h1 h2 hl
  rw [hrun]
  cases hg : getG (fun s : Sd => s.s.ls) L ls with
  | some s =>
    obtain ⟨hm, rfl⟩ := getG_some hg
    rw [(h2 s hm).2] at hR
    rw [RV_eq hR]; rfl
  | none =>
    rw [hg] at hhas
    rw [atKey_of_not_has hhas] at hR
    rw [RV_eq hR]; rfl
theorem MapIs.look_ok {w : World} {b : Nat} {L : List Sd} (h : MapIs w b L) {ls : List Lb} (hl : IsSet ls) :
    (Instr.lookup 79 (.map (some b)) (.string (keyB ls)) true).run Tryz.prog w = .ok (.tuple #[encD ((getG (fun s : Sd => s.s.ls) L ls).getD sd0), .bool (getG (fun s : Sd => s.s.ls) L ls).isSome]) w := by
  obtain ⟨D, ho, hsz, hr, hset, h1, h2⟩ := h
  obtain ⟨v, ps, hrun, hR⟩ := ho.look_ok lawS Tryz.underlying79 (zero120 w) (show RV (encD sd0) = some (.held (encD sd0), []) from rfl) (key_lit hl)
  have hhas := has_iff (w := w) (b := b) hr hset h1 h2 hl
  rw [hrun, hhas]
  cases hg : getG (fun s : Sd => s.s.ls) L ls with
  | some s =>
    obtain ⟨hm, rfl⟩ := getG_some hg
    rw [(h2 s hm).2] at hR
    rw [RV_eq hR]; rfl
  | none =>
    rw [hg] at hhas
    rw [atKey_of_not_has hhas] at hR
    rw [RV_eq hR]; rfl
theorem MapIs.len {w : World} {b : Nat} {L : List Sd} (h : MapIs w b L) (ty : TypeId) : (Builtin.len_ #[79] ty #[.map (some b)]).run Tryz.prog w = .ok (.int .i64 (L.length : Nat)) w := by
  obtain ⟨D, ho, hsz, hr, hset, h1, h2⟩ := h
  have := ho.len Tryz.underlying79 ty
  rw [hsz] at this
  exact this
theorem turned_below {w w' w'' : World} {base b : Nat} (h : Below base w w') (hs : base ≤ w'.heap.size) (hb : base ≤ b) (ht : w'.mapTurned w'' b) : Below base w w'' :=
  h.grown ht.grown hs (by intro k hk; cases hk; exact hb)
end Go.Proofs.YtiajafljgfpdcaaGreat
