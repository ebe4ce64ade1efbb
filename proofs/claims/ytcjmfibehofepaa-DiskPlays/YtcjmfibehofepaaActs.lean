/- Lists of acts that came in. -/
import Derived.Test.YtcjmfibehofepaaBytes
import Derived.Deep.SlicePairs
import Derived.Deep.Fields
import Derived.ChangeArms
import Derived.ProofKit
namespace Go.Proofs.Ytcjmfibehofepaa
open Go.RowKit Go.Maps Go.ChangeMaps Go.MapKept Go.ChangeShapes Go.WideShapes Go.ChangeAt Go.Deep

structure Deed where
  kind : Int
  n : Int
  p : List Int
  keep : List Int
  torn : List (Int × Int)
/-- No act. -/
def act0 : Deed := ⟨0, 0, [], [], []⟩
def IsBytes (bs : List Int) : Prop := ∀ c ∈ bs, 0 ≤ c ∧ c < 256
/-- One act in memory, from place o of block b on. -/
def ActAt (w : World) (b o : Nat) (a : Deed) : Prop :=
  ∃ vp vk vt, w.cell? ⟨b, o, none⟩ = some (.int .i64 a.kind) ∧ w.cell? ⟨b, o + 1, none⟩ = some (.int .i64 a.n) ∧ w.cell? ⟨b, o + 2, none⟩ = some vp ∧ w.cell? ⟨b, o + 3, none⟩ = some vk ∧ w.cell? ⟨b, o + 4, none⟩ = some vt ∧
    Bts w vp a.p ∧ Ints w vk a.keep ∧ Torns w vt a.torn
/-- What an act's numbers are. -/
def ActIn (a : Deed) : Prop := In64 a.kind ∧ In64 a.n ∧ IsBytes a.p ∧ (∀ x ∈ a.keep, In64 x) ∧ ∀ t ∈ a.torn, In64 t.1 ∧ In64 t.2
def Acts (w : World) (v : Value) (l : List Deed) : Prop :=
  ∃ a c, v = .slice a l.length c ∧ (∀ x ∈ l, ActIn x) ∧ (l = [] ∨ ∃ b o, a = some ⟨b, o, none⟩ ∧ ∀ t, t < l.length → ActAt w b (o + t * 5) (l.getD t act0))

theorem IsRow.isBytes {w : World} {a : Option Addr} {len cap : Nat} {zs : List Int} (h : IsRow .u8 w a len cap zs) : IsBytes (zs.take len) := by
  intro c hc
  have := bounds_u8 (h.wf c hc)
  omega
theorem in64_of {a : Int} (h : (Lit.int .i64 a).wf = true) : In64 a := by
  simp only [Lit.wf, Bool.and_eq_true, decide_eq_true_eq] at h
  exact h
theorem IsRow.ints {w : World} {a : Option Addr} {len cap : Nat} {zs : List Int} (h : IsRow .i64 w a len cap zs) : Ints w (.slice a len cap) (zs.take len) := by
  have hl := h.len
  refine ⟨a, cap, by rw [hl], ?_⟩
  rcases h.rest with h | ⟨b, o, e, hr, _⟩
  · exact .inl h
  · exact .inr ⟨b, o, e, fun t ht => hr t (Nat.zero_le _) ht⟩

section
variable {H : Type} {enc : TypeId × Value → H} {W : World} {n : Nat}
theorem bytes_of_trod {v : Value} {y : DataW H × List MemPlace} (h : DataW.trod enc Try.prog W 0 (fun _ => true) true n 33 [v] = some y) : ∃ a len cap zs, v = .slice a len cap ∧ IsRow .u8 W a len cap zs := by
  rcases open_ints Try.underlying33 Try.underlying5 (by kernel_rfl) h with ⟨hcs, _⟩ | ⟨x, l, c, zs, hcs, _, hl, hm, hz, _, hcell, hwz⟩
  · simp at hcs
    subst hcs
    exact ⟨none, 0, 0, [], rfl, .inl ⟨rfl, rfl, rfl, rfl⟩⟩
  · simp at hcs
    subst hcs
    exact ⟨_, _, _, zs, rfl, .inr ⟨_, rfl, hl, hm, by simpa using hz, hcell, hwz⟩⟩
theorem ints_of_trod {v : Value} {y : DataW H × List MemPlace} (h : DataW.trod enc Try.prog W 0 (fun _ => true) true n 34 [v] = some y) : ∃ a len cap zs, v = .slice a len cap ∧ IsRow .i64 W a len cap zs := by
  rcases open_ints Try.underlying34 Try.underlying3 (by kernel_rfl) h with ⟨hcs, _⟩ | ⟨x, l, c, zs, hcs, _, hl, hm, hz, _, hcell, hwz⟩
  · simp at hcs
    subst hcs
    exact ⟨none, 0, 0, [], rfl, .inl ⟨rfl, rfl, rfl, rfl⟩⟩
  · simp at hcs
    subst hcs
    exact ⟨_, _, _, zs, rfl, .inr ⟨_, rfl, hl, hm, by simpa using hz, hcell, hwz⟩⟩
theorem int_of_trod {v : Value} {y : DataW H × List MemPlace} (h : DataW.trod enc Try.prog W 0 (fun _ => true) true n 3 [v] = some y) : ∃ a, v = .int .i64 a ∧ In64 a := by
  obtain ⟨a, h1, h2, h3⟩ := DataW.trod_int Try.underlying3 h
  simp at h1
  exact ⟨a, h1, in64_of h3⟩
theorem torns_of_trod {v : Value} {y : DataW H × List MemPlace} (h : DataW.trod enc Try.prog W 0 (fun _ => true) true n 35 [v] = some y) : ∃ ts, Torns W v ts ∧ ∀ t ∈ ts, In64 t.1 ∧ In64 t.2 := by
  rcases open_slice_pairs Try.underlying35 Try.underlying58 (by kernel_rfl) rfl rfl (by kernel_rfl) (by kernel_rfl) h with ⟨hcs, _⟩ | ⟨a, len, cap, m, k, V0, V1, D0, D1, P0, P1, hcs, _, hl, hm, hmm, _, hx⟩
  · simp at hcs
    subst hcs
    exact ⟨[], ⟨none, 0, rfl, .inl rfl⟩, by simp⟩
  · simp at hcs hmm
    subst hcs hmm
    have hv : ∀ i, i < m → ∃ q : Int × Int, V0 i = .int .i64 q.1 ∧ V1 i = .int .i64 q.2 ∧ In64 q.1 ∧ In64 q.2 := fun i hi => by
      obtain ⟨_, _, h1, h2⟩ := hx i hi
      obtain ⟨x, h3, h4⟩ := int_of_trod h1
      obtain ⟨y, h5, h6⟩ := int_of_trod h2
      exact ⟨(x, y), h3, h5, h4, h6⟩
    obtain ⟨q, hq⟩ := choose_lt hv
    refine ⟨(List.range len).map q, ⟨some a, m, by simp, ?_⟩, ?_⟩
    · by_cases h0 : len = 0
      · exact .inl (by simp [h0])
      · obtain ⟨b, o, spot⟩ := a
        have hc := (hx 0 (by omega)).1
        have hspot : spot = none := by simpa [Addr.add] using World.cell?_spot hc
        subst hspot
        refine .inr ⟨b, o, rfl, fun t ht => ?_⟩
        have ht' : t < len := by simpa using ht
        obtain ⟨c1, c2, _⟩ := hx t (by omega)
        obtain ⟨e1, e2, _⟩ := hq t (by omega)
        rw [add_at] at c1 c2
        rw [e1] at c1
        rw [e2] at c2
        have eg : ((List.range len).map q).getD t (0, 0) = q t := by simp [ht']
        rw [eg]
        exact ⟨c1, c2⟩
    · intro t ht
      obtain ⟨i, hi, rfl⟩ := List.mem_map.1 ht
      have := List.mem_range.1 hi
      exact (hq i (by omega)).2.2
theorem cells5 {b o : Nat} {cs : List Value} (h : W.cells? 0 ⟨b, o, none⟩ 5 = some cs) : ∃ v0 v1 v2 v3 v4, cs = [v0, v1, v2, v3, v4] ∧ W.cell? ⟨b, o, none⟩ = some v0 ∧ W.cell? ⟨b, o + 1, none⟩ = some v1 ∧ W.cell? ⟨b, o + 2, none⟩ = some v2 ∧ W.cell? ⟨b, o + 3, none⟩ = some v3 ∧ W.cell? ⟨b, o + 4, none⟩ = some v4 := by
  obtain ⟨_, hlen, hcell⟩ := World.cells?_some h
  match cs, hlen with
  | [v0, v1, v2, v3, v4], _ =>
    have e0 := hcell 0 (by omega)
    have e1 := hcell 1 (by omega)
    have e2 := hcell 2 (by omega)
    have e3 := hcell 3 (by omega)
    have e4 := hcell 4 (by omega)
    rw [add_at] at e0 e1 e2 e3 e4
    exact ⟨v0, v1, v2, v3, v4, rfl, by simpa using e0, by simpa using e1, by simpa using e2, by simpa using e3, by simpa using e4⟩
theorem act_of_trod {b o : Nat} {cs : List Value} {x : DataW H × List MemPlace} (hc : W.cells? 0 ⟨b, o, none⟩ 5 = some cs) (h : DataW.trod enc Try.prog W 0 (fun _ => true) true n 37 cs = some x) : ∃ a, ActAt W b o a ∧ ActIn a := by
  obtain ⟨v0, v1, v2, v3, v4, rfl, c0, c1, c2, c3, c4⟩ := cells5 hc
  obtain ⟨xs, k, _, _, _, hxl, hf⟩ := DataW.trod_struct Try.underlying37 h
  have g0 : DataW.trod enc Try.prog W 0 (fun _ => true) true k 3 (([v0, v1, v2, v3, v4].drop 0).take (Try.prog.cellsOf 3)) = xs[0]? := hf 0 _ rfl
  have g1 : DataW.trod enc Try.prog W 0 (fun _ => true) true k 3 (([v0, v1, v2, v3, v4].drop 1).take (Try.prog.cellsOf 3)) = xs[1]? := hf 1 _ rfl
  have g2 : DataW.trod enc Try.prog W 0 (fun _ => true) true k 33 (([v0, v1, v2, v3, v4].drop 2).take (Try.prog.cellsOf 33)) = xs[2]? := hf 2 _ rfl
  have g3 : DataW.trod enc Try.prog W 0 (fun _ => true) true k 34 (([v0, v1, v2, v3, v4].drop 3).take (Try.prog.cellsOf 34)) = xs[3]? := hf 3 _ rfl
  have g4 : DataW.trod enc Try.prog W 0 (fun _ => true) true k 35 (([v0, v1, v2, v3, v4].drop 4).take (Try.prog.cellsOf 35)) = xs[4]? := hf 4 _ rfl
  have k3 : Try.prog.cellsOf 3 = 1 := by kernel_rfl
  have k33 : Try.prog.cellsOf 33 = 1 := by kernel_rfl
  have k34 : Try.prog.cellsOf 34 = 1 := by kernel_rfl
  have k35 : Try.prog.cellsOf 35 = 1 := by kernel_rfl
  simp only [k3, k33, k34, k35, List.drop_zero, List.drop_succ_cons, List.take_succ_cons, List.take_zero] at g0 g1 g2 g3 g4
  match xs, hxl with
  | [y0, y1, y2, y3, y4], _ =>
    simp at g0 g1 g2 g3 g4
    obtain ⟨a0, rfl, i0⟩ := int_of_trod g0
    obtain ⟨a1, rfl, i1⟩ := int_of_trod g1
    obtain ⟨p2, l2, q2, z2, rfl, r2⟩ := bytes_of_trod g2
    obtain ⟨p3, l3, q3, z3, rfl, r3⟩ := ints_of_trod g3
    obtain ⟨ts, t4, i4⟩ := torns_of_trod g4
    exact ⟨⟨a0, a1, z2.take l2, z3.take l3, ts⟩, ⟨_, _, _, c0, c1, c2, c3, c4, r2.bts, r3.ints, t4⟩, i0, i1, r2.isBytes, fun x hx => in64_of (r3.wf x hx), i4⟩
theorem acts_of_trod {v : Value} {x : DataW H × List MemPlace} (h : DataW.trod enc Try.prog W 0 (fun _ => true) true n 22 [v] = some x) : ∃ l, Acts W v l := by
  rcases open_slice Try.underlying22 h with ⟨hcs, _⟩ | ⟨a, len, cap, m, k, D, Pl, hcs, _, hl, hm, hmm, _, hx⟩
  · simp at hcs
    subst hcs
    exact ⟨[], none, 0, rfl, by simp, .inl rfl⟩
  · simp at hcs hmm
    subst hcs hmm
    have k37 : Try.prog.cellsOf 37 = 5 := by kernel_rfl
    rw [k37] at hx
    by_cases h0 : len = 0
    · subst h0
      exact ⟨[], some a, m, rfl, by simp, .inl rfl⟩
    · obtain ⟨b, o, spot⟩ := a
      obtain ⟨cs0, hc0, _⟩ := hx 0 (by omega)
      obtain ⟨_, hlen0, hcell0⟩ := World.cells?_some hc0
      have hc00 := hcell0 0 (by omega)
      rw [List.getElem?_eq_getElem (by omega)] at hc00
      have hspot : spot = none := by simpa [Addr.add] using World.cell?_spot hc00
      subst hspot
      have hv : ∀ i, i < m → ∃ q : Deed, ActAt W b (o + i * 5) q ∧ ActIn q := fun i hi => by
        obtain ⟨cs, h1, h2⟩ := hx i hi
        rw [add_at] at h1
        exact act_of_trod h1 h2
      have hne : Nonempty Deed := ⟨act0⟩
      obtain ⟨q, hq⟩ : ∃ q : Nat → Deed, ∀ i, i < m → ActAt W b (o + i * 5) (q i) ∧ ActIn (q i) := by
        refine ⟨fun i => if hi : i < m then Classical.choose (hv i hi) else act0, fun i hi => ?_⟩
        simp only [hi, dif_pos]
        exact Classical.choose_spec (hv i hi)
      refine ⟨(List.range len).map q, some ⟨b, o, none⟩, m, by simp, ?_, .inr ⟨b, o, rfl, fun t ht => ?_⟩⟩
      · intro y hy
        obtain ⟨i, hi, rfl⟩ := List.mem_map.1 hy
        have := List.mem_range.1 hi
        exact (hq i (by omega)).2
      · have ht' : t < len := by simpa using ht
        have eg : ((List.range len).map q).getD t act0 = q t := by simp [ht']
        rw [eg]
        exact (hq t (by omega)).1
end
theorem Torns.grow {w w' : World} {v : Value} {ts : List (Int × Int)} (h : Torns w v ts) (hb : Below w.heap.size w w') : Torns w' v ts := by
  obtain ⟨a, c, rfl, h⟩ := h
  refine ⟨a, c, rfl, ?_⟩
  rcases h with h | ⟨b, o, rfl, h⟩
  · exact .inl h
  · refine .inr ⟨b, o, rfl, fun t ht => ?_⟩
    obtain ⟨h1, h2⟩ := h t ht
    exact ⟨(hb.cell (p := ⟨b, o + t * 2, none⟩) (World.block_lt_of_cell? w _ h1)).trans h1, (hb.cell (p := ⟨b, o + t * 2 + 1, none⟩) (World.block_lt_of_cell? w _ h2)).trans h2⟩
theorem ActAt.grow {w w' : World} {b o : Nat} {a : Deed} (h : ActAt w b o a) (hb : Below w.heap.size w w') : ActAt w' b o a := by
  obtain ⟨vp, vk, vt, h0, h1, h2, h3, h4, h5, h6, h7⟩ := h
  have key : ∀ q u, w.cell? ⟨b, q, none⟩ = some u → w'.cell? ⟨b, q, none⟩ = some u := fun q u h => (hb.cell (p := ⟨b, q, none⟩) (World.block_lt_of_cell? w _ h)).trans h
  exact ⟨vp, vk, vt, key _ _ h0, key _ _ h1, key _ _ h2, key _ _ h3, key _ _ h4, h5.grow hb, h6.grow hb, h7.grow hb⟩
end Go.Proofs.Ytcjmfibehofepaa
