/- A folder's bytes say which folder it is; bytes that came in. -/
import Derived.Test.YtfbeilninpapaaaAr
import Derived.Test.YtfbeilninpapaaaGw
import Derived.ChangeSlices
import Derived.OpenShut
namespace Go.Proofs.Ytfbeilninpapaaa
set_option linter.unusedVariables false
open Go.RowKit Go.ChangeShapes Go.WideShapes Go.ChangeAt Go.Deep
theorem encT_inj {s t : ByteArray} {x y : List Int} (hs : s.size ≤ 24) (ht : t.size ≤ 24) (h : encT s ++ x = encT t ++ y) : s = t ∧ x = y := by
  have h1 := rdT_encT 24 s hs (by omega) x
  have h2 := rdT_encT 24 t ht (by omega) y
  rw [h, h2] at h1
  have e1 : numsS t = numsS s := congrArg Prod.fst h1
  have e2 : t = s := by rw [← strOf_numsS t, e1, strOf_numsS]
  subst e2
  exact ⟨rfl, List.append_cancel_left h⟩
theorem encS_inj {s t : Int} {x y : List Int} (hs : -9223372036854775808 ≤ s ∧ s ≤ 9223372036854775807) (ht : -9223372036854775808 ≤ t ∧ t ≤ 9223372036854775807) (h : encS s ++ x = encS t ++ y) : s = t ∧ x = y := by
  have h1 := rdS_encS s hs.1 hs.2 x
  have h2 := rdS_encS t ht.1 ht.2 y
  rw [h, h2] at h1
  have e1 : t = s := congrArg Prod.fst h1
  subst e1
  exact ⟨rfl, List.append_cancel_left h⟩
theorem enc_inj {s t : Nat} {x y : List Int} (hs : s < 2 ^ 64) (ht : t < 2 ^ 64) (h : enc s ++ x = enc t ++ y) : s = t ∧ x = y := by
  have h1 := rdN_enc s hs x
  have h2 := rdN_enc t ht y
  rw [h, h2] at h1
  have e1 : t = s := congrArg Prod.fst h1
  subst e1
  exact ⟨rfl, List.append_cancel_left h⟩
theorem cat_inj : ∀ (l l' : List Gr) {x y : List Int}, (∀ g ∈ l, GrI g ∧ g.name.size ≤ 24) → (∀ g ∈ l', GrI g ∧ g.name.size ≤ 24) → l.length = l'.length → cat grB l ++ x = cat grB l' ++ y → l = l' ∧ x = y
  | [], [], _, _, _, _, _, h => ⟨rfl, by simpa [cat] using h⟩
  | [], _ :: _, _, _, _, _, e, _ => by simp at e
  | _ :: _, [], _, _, _, _, e, _ => by simp at e
  | a :: r, b :: r', x, y, h1, h2, e, h => by
    obtain ⟨⟨a1, a2⟩, a3⟩ := h1 a (by simp)
    obtain ⟨⟨b1, b2⟩, b3⟩ := h2 b (by simp)
    have h' : encS a.kind ++ (encT a.name ++ (encS a.level ++ (cat grB r ++ x))) = encS b.kind ++ (encT b.name ++ (encS b.level ++ (cat grB r' ++ y))) := by
      simpa [cat, grB] using h
    obtain ⟨e1, q1⟩ := encS_inj a1 b1 h'
    obtain ⟨e2, q2⟩ := encT_inj a3 b3 q1
    obtain ⟨e3, q3⟩ := encS_inj a2 b2 q2
    obtain ⟨e4, q4⟩ := cat_inj r r' (fun g hg => h1 g (by simp [hg])) (fun g hg => h2 g (by simp [hg])) (by simpa using e) q3
    obtain ⟨ak, am, al⟩ := a
    obtain ⟨bk, bm, bl⟩ := b
    simp only at e1 e2 e3
    subst e1 e2 e3 e4
    exact ⟨rfl, q4⟩
theorem foB_inj {m m' : ByteArray} {l l' : List Gr} {z z' : Int} (h1 : Vd m l z) (h2 : Vd m' l' z') (h : foB m l z = foB m' l' z') : m = m' ∧ l = l' ∧ z = z' := by
  obtain ⟨a1, a2, a3⟩ := vd_fits h1
  obtain ⟨b1, b2, b3⟩ := vd_fits h2
  unfold foB at h
  obtain ⟨e1, h⟩ := encT_inj a1 b1 h
  obtain ⟨e2, h⟩ := enc_inj (by omega) (by omega) h
  obtain ⟨e3, h⟩ := cat_inj l l' a3 b3 e2 h
  have h' : encS z ++ [] = encS z' ++ [] := by rw [h]
  obtain ⟨e4, _⟩ := encS_inj h1.2.2 h2.2.2 h'
  exact ⟨e1, e3, e4⟩
theorem foB_len {m : ByteArray} {l : List Gr} {z : Int} (h : Vd m l z) : (foB m l z).length ≤ 1000000 := by
  obtain ⟨h1, h2, h3⟩ := vd_fits h
  have a := encT_len m (by omega)
  have b := enc_len10 l.length (by omega)
  have c := catG_len l h3
  have d := encS_len11 z h.2.2.1 h.2.2.2
  unfold foB
  simp only [List.length_append]
  omega
/-- What Put answers, its values by name. -/
def PuR (w : World) (P : List Int) (E : Int) (e : Ending) (w' : World) : Prop := ∃ a n c, e = .returned (.tuple #[.slice a n c, .int .i64 E]) ∧ Hid (Own w' w.heap.size (.slice a n c) P) ∧ Hid (Below w.heap.size w w')
theorem puR_of {f : FuncId} {args : Array Value} {w : World} {m : ByteArray} {l : List Gr} {z E : Int} {P : List Int} (h : Calls Try.prog f args w (PuQ w m l z .i64)) (hP : (if puE m l z = 0 then foB m l z else []) = P) (hE : puE m l z = E) : Calls Try.prog f args w (PuR w P E) := by
  refine h.mono ?_
  rintro e w' ⟨v, rfl, h1, h2⟩
  rw [hP] at h1
  obtain ⟨a, c, rfl⟩ := h1.shape
  exact ⟨a, _, c, by rw [hE], h1, h2⟩
/-- What Get read. -/
def GtR (bs : List Int) (m : ByteArray) (l : List Gr) (z r : Int) : Prop := (Vd m l z ∧ foB m l z = bs ∧ r = 0) ∨ ((∀ m l z, Vd m l z → foB m l z ≠ bs) ∧ m = ⟨#[]⟩ ∧ l = [] ∧ z = 0 ∧ r = 150)
def GtS (w : World) (bs : List Int) (e : Ending) (w' : World) : Prop := ∃ m a n c l z r, e = .returned (.tuple #[.agg #[.string m, .slice a n c, .int .i64 z], .int .i64 r]) ∧ Hid (GtR bs m l z r) ∧ Hid (Grs w' (.slice a n c) l) ∧ Hid (Below w.heap.size w w')
theorem gtS_of {f : FuncId} {args : Array Value} {w : World} {bs : List Int} (h : Calls Try.prog f args w (GtQ w bs)) : Calls Try.prog f args w (GtS w bs) := by
  refine h.mono ?_
  rintro e w' ⟨h1, ⟨m, v, l, z, h2, h3, rfl, h4⟩ | ⟨h2, rfl⟩⟩
  · obtain ⟨a, c, rfl⟩ := h4.shape
    exact ⟨m, a, _, c, l, z, 0, rfl, .inl ⟨h2, h3, rfl⟩, h4, h1⟩
  · exact ⟨⟨#[]⟩, none, 0, 0, [], 0, 150, rfl, .inr ⟨h2, rfl, rfl, rfl, rfl⟩, sls_nil _, h1⟩
theorem gtR_same {bs : List Int} {m m' : ByteArray} {l l' : List Gr} {z z' r r' : Int} (h1 : GtR bs m l z r) (h2 : GtR bs m' l' z' r') : m = m' ∧ l = l' ∧ z = z' ∧ r = r' := by
  rcases h1 with ⟨a, b, rfl⟩ | ⟨a, rfl, rfl, rfl, rfl⟩
  · rcases h2 with ⟨a', b', rfl⟩ | ⟨a', rfl, rfl, rfl, rfl⟩
    · obtain ⟨e1, e2, e3⟩ := foB_inj a a' (b.trans b'.symm)
      exact ⟨e1, e2, e3, rfl⟩
    · exact absurd b (a' _ _ _ a)
  · rcases h2 with ⟨a', b', rfl⟩ | ⟨a', rfl, rfl, rfl, rfl⟩
    · exact absurd b' (a _ _ _ a')
    · exact ⟨rfl, rfl, rfl, rfl⟩
theorem gtR_len {bs : List Int} {m : ByteArray} {l : List Gr} {z r : Int} (h1 : GtR bs m l z r) : l.length ≤ 1000000000000000 := by
  rcases h1 with ⟨a, b, rfl⟩ | ⟨a, rfl, rfl, rfl, rfl⟩
  · have := (vd_fits a).2.1; omega
  · simp
theorem lits_length {H : Type} (k : IntKind) (zs : List Int) : (lits (H := H) k zs).length = zs.length := by simp [lits]
section
variable {H : Type} {enc : TypeId × Value → H} {W : World} {n : Nat}
theorem bts_of_trod {v : Value} {y : DataW H × List MemPlace} (h : DataW.trod enc Try.prog W 0 (fun _ => true) true n 40 [v] = some y) (hF : Fits y.1 40) : ∃ l, Bts W v l ∧ IsBytes l ∧ l.length ≤ 140737488351232 := by
  rcases open_ints Try.underlying40 Try.underlying5 (by kernel_rfl) h with ⟨hcs, _⟩ | ⟨x, l, c, zs, hcs, _, hl, hm, hz, hy, hcell, hwz⟩
  · simp at hcs
    subst hcs
    exact ⟨[], ⟨none, 0, rfl, ⟨fun _ => rfl, Nat.le_refl _⟩, .inl rfl⟩, (fun c hc => by cases hc), by simp⟩
  · simp at hcs hz
    subst hcs
    have hl' : (zs.take l).length = l := by rw [List.length_take]; omega
    refine ⟨zs.take l, ⟨_, c, by rw [hl'], ⟨(fun e => by cases e), by omega⟩, ?_⟩, ?_, ?_⟩
    · by_cases h0 : l = 0
      · subst h0; exact .inl rfl
      · obtain ⟨b, o, rfl, hc⟩ := ints_at hcell (by omega)
        refine .inr ⟨b, o, rfl, fun t _ ht => ?_⟩
        rw [hl'] at ht
        rw [hc t (by omega)]
        simp [ht]
    · intro c hc
      have := hwz c (List.mem_of_mem_take hc)
      simp only [Lit.wf, Bool.and_eq_true, decide_eq_true_eq] at this
      have h2 : (0:Int) ≤ c ∧ c ≤ 255 := this
      omega
    · have k5 : Try.prog.bytesOf 5 = 1 := by kernel_rfl
      have := hF (((zs.take l).length + (zs.drop l).length) * Try.prog.bytesOf 5) (by rw [hy]; simp [DataW.weights, Try.underlying40, lits_length])
      rw [k5] at this
      have k6 : reachBytes = 140737488351232 := rfl
      omega
end
end Go.Proofs.Ytfbeilninpapaaa
