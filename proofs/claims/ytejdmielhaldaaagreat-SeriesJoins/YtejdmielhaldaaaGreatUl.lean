/- Sort, Map, Join, Scalar and the document's, by what the lists are. -/
import Derived.Test.YtejdmielhaldaaaGreatUk
namespace Go.Proofs.YtejdmielhaldaaaGreat
set_option linter.unusedVariables false
open Go.RowKit
/-- Few, with few labels. -/
def Few (F : List Series10.Sr) : Prop := FR F ∧ (∀ s ∈ F, s.labels.length ≤ 1000000) ∧ F.length ≤ 1000000
theorem Few.nil : Few [] := ⟨(fun s hs => by cases hs), (fun s hs => by cases hs), by simp⟩
theorem Few.frame {F : List Series10.Sr} (h : Series10.IsFrame F) : Few F := ⟨FR.frame h, fun s hs => by have := (h.1 s hs).2.2; omega, by have := h.2.2.2; omega⟩
theorem Few.sort {F F' : List Series10.Sr} {er : Int} (h : Series10.SortQ F F' er) : Few F' := by
  by_cases h0 : er = 0
  · exact Few.frame (h.frame h0).1
  · rw [h.none h0]; exact Few.nil
theorem Few.map {op : ByteArray} {F F' : List Series10.Sr} {er : Int} (h : MapT op F F' er) : Few F' := by
  rcases h with ⟨p, hp, ⟨_, rfl, _⟩ | ⟨_, rfl, _⟩⟩ | ⟨_, _, rfl⟩
  · obtain ⟨h1, h2, h3⟩ := Few.frame (hp.frame rfl).1
    refine ⟨fun s hs => ?_, fun s hs => ?_, ?_⟩
    · unfold mapF at hs
      obtain ⟨x, hx, rfl⟩ := List.mem_map.1 hs
      exact h1 x hx
    · unfold mapF at hs
      obtain ⟨x, hx, rfl⟩ := List.mem_map.1 hs
      exact h2 x hx
    · unfold mapF; rw [List.length_map]; exact h3
  · exact Few.nil
  · exact Few.nil
theorem Few.join {op : ByteArray} {F G F' : List Series10.Sr} {er : Int} (h : JoinT op F G F' er) : Few F' := by
  rcases h with ⟨p, _, ⟨q, _, ⟨_, rfl, _⟩ | ⟨_, h⟩⟩ | ⟨_, _, rfl⟩⟩ | ⟨_, _, rfl⟩
  · exact Few.nil
  · exact Few.sort h
  · exact Few.nil
  · exact Few.nil
/-- What is told: a list and an error. -/
def Told (w : World) (F : List Series10.Sr) (er : Int) (e : Ending) (w' : World) : Prop := ∃ (a' : Option Addr) (n' c' : Nat), e = .returned (.tuple #[.slice a' n' c', .int .i64 er]) ∧ Hid (IsSer w' a' n' c' F ∧ Below w.heap.size w w')
theorem told_of {w w' : World} {l : List Se} {vo : Value} {er : Int} (ho : OwnR w' w.heap.size vo l) (hk : ∀ x ∈ l, Lbs w' (.slice x.a x.n x.c) x.labs) (hb : Below w.heap.size w w') : Told w (l.map serOf) er (.returned (.tuple #[vo, .int .i64 er])) w' := by
  obtain ⟨a', c', rfl⟩ := ho.shape
  exact ⟨a', _, c', rfl, ⟨l, rfl, ho.sls, hk, rfl⟩, hb⟩
theorem sortG {w : World} {a : Option Addr} {n c : Nat} {F F' : List Series10.Sr} {er : Int} (h : IsSer w a n c F) (hF : FR F) (hl : n ≤ 1000000) (hq : Series10.SortQ F F' er) :
    Calls Tryz.prog 14 #[.slice a n c] w fun e w' => Told w F' er e w' := by
  obtain ⟨l, rfl, h2, h3, rfl⟩ := h
  refine (sort_ser _ l w h2 h3 (FR.of hF) hl).mono ?_
  rintro e w' ⟨hb, h⟩
  rcases h with ⟨l', g, cap, hq', hll, _, rfl, ho, hok⟩ | ⟨er', hne, hq', rfl⟩
  · obtain ⟨h4, rfl⟩ := hq'.one hq
    rw [← h4]
    exact told_of ho (fun x hx => (hok x hx).1) hb
  · obtain ⟨h4, rfl⟩ := hq'.one hq
    rw [← h4]
    exact ⟨_, _, _, rfl, ⟨[], rfl, sls_nil _, (fun x hx => by cases hx), rfl⟩, hb⟩
theorem rsortG {w : World} {a : Option Addr} {n c : Nat} {F F' : List Series10.Sr} {er : Int} (h : IsSer w a n c F) (hF : FR F) (hl : n ≤ 1000000) (hq : Series10.SortQ F F' er) :
    Calls Tryz.prog 16 #[.slice a n c] w fun e w' => Told w F' er e w' := by
  obtain ⟨l, rfl, h2, h3, rfl⟩ := h
  refine (rsort_any _ l w h2 h3 (FR.of hF) hl).mono ?_
  rintro e w' ⟨vo, l', er', rfl, hq', ho, hm, hb⟩
  obtain ⟨h4, rfl⟩ := hq'.one hq
  rw [← h4]
  exact told_of ho (fun x hx => (h3 x (hm x hx)).grow hb) hb
theorem mapG {op : ByteArray} {w : World} {a : Option Addr} {n c : Nat} {F F' : List Series10.Sr} {er : Int} (h : IsSer w a n c F) (hF : FR F) (hl : n ≤ 1000000) (hq : MapT op F F' er) :
    Calls Tryz.prog 17 #[.string op, .slice a n c] w fun e w' => Told w F' er e w' := by
  obtain ⟨l, rfl, h2, h3, rfl⟩ := h
  refine (map_ser op _ l w h2 h3 (FR.of hF) hl).mono ?_
  rintro e w' ⟨hb, h⟩
  rcases h with ⟨l', g, cap, hq', h0, hll, _, rfl, ho, hok⟩ | ⟨⟨out, hq'⟩, hne, rfl⟩ | ⟨er', hne, hq', rfl⟩
  · obtain ⟨h4, rfl⟩ := hq.one (.inl ⟨_, hq', .inl ⟨h0, rfl, rfl⟩⟩)
    have h5 : (l'.map (mapS op)).map serOf = F' := by rw [h4, mapS_map]
    have hlm : l'.length = (l'.map (mapS op)).length := by rw [List.length_map]
    rw [← h5, hlm]
    rw [hlm] at ho
    exact told_of ho (fun x hx => (hok x hx).1) hb
  · obtain ⟨h4, rfl⟩ := hq.one (.inl ⟨_, hq', .inr ⟨by simpa using hne, rfl, rfl⟩⟩)
    rw [h4]
    exact ⟨_, _, _, rfl, ⟨[], rfl, sls_nil _, (fun x hx => by cases hx), rfl⟩, hb⟩
  · obtain ⟨h4, rfl⟩ := hq.one (.inr ⟨by simpa using hne, hq', rfl⟩)
    rw [h4]
    exact ⟨_, _, _, rfl, ⟨[], rfl, sls_nil _, (fun x hx => by cases hx), rfl⟩, hb⟩
theorem rmapG {op : ByteArray} {w : World} {a : Option Addr} {n c : Nat} {F F' : List Series10.Sr} {er : Int} (h : IsSer w a n c F) (hF : FR F) (hl : n ≤ 1000000) (hq : MapT op F F' er) :
    Calls Tryz.prog 18 #[.string op, .slice a n c] w fun e w' => Told w F' er e w' := by
  obtain ⟨l, rfl, h2, h3, rfl⟩ := h
  refine (rmap_any op _ l w h2 h3 (FR.of hF) hl).mono ?_
  rintro e w' ⟨vo, l', er', rfl, hq', ho, hm, hb⟩
  obtain ⟨h4, rfl⟩ := hq'.one hq
  rw [← h4]
  exact told_of ho hm hb
theorem joinG {op : ByteArray} {w : World} {a a2 : Option Addr} {n n2 c c2 : Nat} {F F2 out : List Series10.Sr} {er : Int} (h : IsSer w a n c F) (h' : IsSer w a2 n2 c2 F2) (hF : FR F) (hF2 : FR F2) (hl : n ≤ 1000000) (hl2 : n2 ≤ 1000000) (hj : JoinT op F F2 out er) :
    Calls Tryz.prog 19 #[.string op, .slice a n c, .slice a2 n2 c2] w fun e w' => Told w out er e w' := joinF h h' hF hF2 hl hl2 hj
theorem rjoinG {op : ByteArray} {w : World} {a a2 : Option Addr} {n n2 c c2 : Nat} {F F2 out : List Series10.Sr} {er : Int} (h : IsSer w a n c F) (h' : IsSer w a2 n2 c2 F2) (hF : FR F) (hF2 : FR F2) (hl : n ≤ 1000000) (hl2 : n2 ≤ 1000000) (hj : JoinT op F F2 out er) :
    Calls Tryz.prog 20 #[.string op, .slice a n c, .slice a2 n2 c2] w fun e w' => Told w out er e w' := by
  obtain ⟨l, rfl, h2, h3, rfl⟩ := h
  obtain ⟨m, rfl, h4, h5, rfl⟩ := h'
  refine (rjoin_any op _ _ l m w h2 h4 h3 h5 (FR.of hF) (FR.of hF2) hl hl2).mono ?_
  rintro e w' ⟨vo, o, er', rfl, hj', ho, hok, hb⟩
  obtain ⟨h6, rfl⟩ := hj'.one hj
  rw [← h6]
  exact told_of ho hok hb
/-- Same of a list with itself. -/
theorem sameG {w : World} {a a2 : Option Addr} {n n2 c c2 : Nat} {F : List Series10.Sr} (h : IsSer w a n c F) (h' : IsSer w a2 n2 c2 F) (hF : Few F) :
    Calls Tryz.prog 21 #[.slice a n c, .slice a2 n2 c2] w fun e w' => e = .returned (.bool true) ∧ Below w.heap.size w w' := by
  refine (sameF h h' hF.1 hF.1 hF.2.1 hF.2.1 (by rw [h.len]; exact hF.2.2) (by rw [h'.len]; exact hF.2.2)).mono ?_
  rintro e w' ⟨rfl, hb⟩
  exact ⟨by rw [decide_eq_true rfl], hb⟩
theorem scalarG (v : Vl) (w : World) : Calls Tryz.prog 22 #[.agg #[.int .i64 v.kind, .int .i64 v.n]] w fun e w' => ∃ a' c', e = .returned (.slice a' 1 c') ∧ Hid (IsSer w' a' 1 c' [⟨[], v⟩] ∧ Below w.heap.size w w') := by
  refine (scalar_any v w).mono ?_
  rintro e w' ⟨u, rfl, h1, h2⟩
  obtain ⟨a', c', rfl⟩ := h1.shape
  exact ⟨a', c', rfl, ⟨[scal v], rfl, h1, fun x hx => by rw [List.mem_singleton.1 hx]; exact sls_nil _, rfl⟩, h2⟩
theorem rscalarG (v : Vl) (w : World) : Calls Tryz.prog 23 #[.agg #[.int .i64 v.kind, .int .i64 v.n]] w fun e w' => ∃ a' c', e = .returned (.slice a' 1 c') ∧ Hid (IsSer w' a' 1 c' [⟨[], v⟩] ∧ Below w.heap.size w w') := by
  refine (rscalar_any v w).mono ?_
  rintro e w' ⟨u, rfl, h1, h2⟩
  obtain ⟨a', c', rfl⟩ := h1.shape
  exact ⟨a', c', rfl, ⟨[scal v], rfl, h1, fun x hx => by rw [List.mem_singleton.1 hx]; exact sls_nil _, rfl⟩, h2⟩
theorem Few.scal (v : Vl) : Few [⟨[], v⟩] := ⟨fun s hs => by rw [List.mem_singleton.1 hs]; exact ⟨(fun a ha => by cases ha), by simp⟩, fun s hs => by rw [List.mem_singleton.1 hs]; simp, by simp⟩
end Go.Proofs.YtejdmielhaldaaaGreat
