/- Oc; Ui; Um. -/
import Derived.Test.YtdhlfpgibfaimaaGreatDoorTaTd
/- Join with a scalar. -/
namespace Go.Proofs.YtdhlfpgibfaimaaGreatDoor
set_option linter.unusedVariables false
open Go.RowKit
theorem nil_set : IsSet ([] : List Lb) := ⟨fun a ha => (by cases ha), List.Pairwise.nil, by simp⟩
theorem scal_frame {v : Vl} (hv : IsV v) : Series10.IsFrame [⟨[], v⟩] := ⟨fun a ha => by rw [List.mem_singleton.1 ha]; exact nil_set, fun a ha => by rw [List.mem_singleton.1 ha]; exact hv, List.pairwise_singleton _ _, by simp⟩
theorem fit_r (a : List Lb) : fitB a [] = true ∧ bigger a [] = a := by
  cases a with
  | nil => exact ⟨by simp [fitB, withinB], rfl⟩
  | cons x r => exact ⟨by simp [fitB, withinB], by simp [bigger]⟩
theorem fit_l (b : List Lb) : fitB [] b = true ∧ bigger [] b = b := ⟨by simp [fitB, withinB], by simp [bigger]⟩
def mapL (op : ByteArray) (v : Vl) (F : List Series10.Sr) : List Series10.Sr := F.map fun s => ⟨s.labels, doV op [s.value, v]⟩
def mapR (op : ByteArray) (v : Vl) (F : List Series10.Sr) : List Series10.Sr := F.map fun s => ⟨s.labels, doV op [v, s.value]⟩
theorem join_l (op : ByteArray) (v : Vl) (F : List Series10.Sr) : joinA op F [⟨[], v⟩] = mapL op v F := by
  unfold joinA mapL
  induction F with
  | nil => rfl
  | cons s r ih =>
    rw [List.flatMap_cons, ih, List.map_cons]
    simp [joinX, joinP, (fit_r s.labels).1, (fit_r s.labels).2]
theorem join_r (op : ByteArray) (v : Vl) (F : List Series10.Sr) : joinA op [⟨[], v⟩] F = mapR op v F := by
  unfold joinA mapR joinX
  rw [List.flatMap_cons, List.flatMap_nil, List.append_nil]
  induction F with
  | nil => rfl
  | cons s r ih =>
    rw [List.filterMap_cons, ih]
    simp [joinP, (fit_l s.labels).1, (fit_l s.labels).2]
theorem frame_l {op : ByteArray} {v : Vl} {F : List Series10.Sr} (h0 : doE op [nul, nul] = 0) (hv : IsV v) (h : Series10.IsFrame F) : Series10.IsFrame (mapL op v F) := h.map (fun x => doV op [x, v]) fun x hx => op2_isV h0 x v hx hv
theorem frame_r {op : ByteArray} {v : Vl} {F : List Series10.Sr} (h0 : doE op [nul, nul] = 0) (hv : IsV v) (h : Series10.IsFrame F) : Series10.IsFrame (mapR op v F) := h.map (fun x => doV op [v, x]) fun x hx => op2_isV h0 v x hv hx
/-- Join with a scalar, on either side. -/
theorem scal_ok {op : ByteArray} {v : Vl} {F F' : List Series10.Sr} (hv : IsV v) (hq : Series10.SortQ F F' 0) (h0 : doE op [nul, nul] = 0) : JoinT op F [⟨[], v⟩] (mapL op v F') 0 ∧ JoinT op [⟨[], v⟩] F (mapR op v F') 0 := by
  have hf := (hq.frame rfl).1
  refine ⟨.inl ⟨F', hq, .inl ⟨_, (scal_frame hv).sort, .inr ⟨h0, ?_⟩⟩⟩, .inl ⟨_, (scal_frame hv).sort, .inl ⟨F', hq, .inr ⟨h0, ?_⟩⟩⟩⟩
  · rw [join_l]; exact (frame_l h0 hv hf).sort
  · rw [join_r]; exact (frame_r h0 hv hf).sort
/-- One of a list. -/
theorem IsSer.one {w : World} {b o n c : Nat} {F : List Series10.Sr} (h : IsSer w (some ⟨b, o, none⟩) n c F) (k : Nat) (hk : k < n) : IsSer w (some ⟨b, o + k * 3, none⟩) 1 (c - k) [F.getD k ⟨[], zer⟩] := by
  obtain ⟨l, rfl, h2, h3, rfl⟩ := h
  have hm : l.getD k se0 ∈ l := by rw [List.getD_eq_getElem?_getD, List.getElem?_eq_getElem hk]; exact List.getElem_mem hk
  obtain ⟨b', o', e, hat⟩ := h2.at k hk
  cases e
  obtain ⟨a', c', e, hc, _⟩ := h2
  injection e with e1 e2 e3
  refine ⟨[l.getD k se0], rfl, ⟨_, _, rfl, ⟨(fun e => by cases e), by rw [e3]; simp; omega⟩, .inr ⟨b, o + k * 3, rfl, fun t ht => ?_⟩⟩, fun x hx => by rw [List.mem_singleton.1 hx]; exact h3 _ hm, ?_⟩
  · obtain rfl : t = 0 := by simpa using ht
    rw [show o + k * 3 + 0 * encR.k = o + k * 3 by simp]
    exact hat
  · simp only [List.map_cons, List.map_nil, List.getD_eq_getElem?_getD, List.getElem?_map, List.getElem?_eq_getElem hk]
    rfl
end Go.Proofs.YtdhlfpgibfaimaaGreatDoor
/- What the document's Map and Join come to: the same as the program's. -/
namespace Go.Proofs.YtdhlfpgibfaimaaGreatDoor
set_option linter.unusedVariables false
open Go.RowKit
theorem doE_one_eq (op : ByteArray) {a b : Vl} (ha : IsV a) (hb : IsV b) : doE op [a] = doE op [b] := by
  unfold doE
  rw [chk_one ha, chk_one hb, if_pos rfl, if_pos rfl]
  simp only [ops, one_asc, Option.isSome_map]
theorem doE_two_eq (op : ByteArray) {a b c d : Vl} (ha : IsV a) (hb : IsV b) (hc : IsV c) (hd : IsV d) : doE op [a, b] = doE op [c, d] := by
  unfold doE
  rw [chk_two ha hb, chk_two hc hd, if_pos rfl, if_pos rfl]
  simp only [ops, two_asc, Option.isSome_map]
/-- What Map is. -/
def MapT (op : ByteArray) (A out : List Series10.Sr) (er : Int) : Prop :=
  (∃ p, Series10.SortQ A p 0 ∧ ((doE op [nul] = 0 ∧ out = mapF op p ∧ er = 0) ∨ (doE op [nul] ≠ 0 ∧ out = [] ∧ er = doE op [nul]))) ∨ (er ≠ 0 ∧ Series10.SortQ A [] er ∧ out = [])
theorem MapT.one {op : ByteArray} {A o1 o2 : List Series10.Sr} {e1 e2 : Int} (h : MapT op A o1 e1) (g : MapT op A o2 e2) : o1 = o2 ∧ e1 = e2 := by
  rcases h with ⟨p, hp, ⟨h0, rfl, rfl⟩ | ⟨h0, rfl, rfl⟩⟩ | ⟨h0, hp, rfl⟩ <;>
    rcases g with ⟨q, hq, ⟨g0, rfl, rfl⟩ | ⟨g0, rfl, rfl⟩⟩ | ⟨g0, hq, rfl⟩
  all_goals first
    | (obtain ⟨rfl, _⟩ := hp.one hq; exact ⟨rfl, rfl⟩)
    | exact ⟨rfl, rfl⟩
    | exact absurd g0 h0
    | exact absurd h0 g0
    | exact absurd (hp.one hq).2.symm g0
    | exact absurd (hp.one hq).2 h0
    | exact ⟨rfl, (hp.one hq).2⟩
/-- The longer one, as the document takes it. -/
def longer (a b : List Lb) : List Lb := if a.length < b.length then b else a
end Go.Proofs.YtdhlfpgibfaimaaGreatDoor
/- Sort, Map, Join, Scalar by what the lists are. -/
namespace Go.Proofs.YtdhlfpgibfaimaaGreatDoor
set_option linter.unusedVariables false
open Go.RowKit
/-- Few, with few labels. -/
def Few (F : List Series10.Sr) : Prop := FR F ∧ (∀ s ∈ F, s.labels.length ≤ 1000000) ∧ F.length ≤ 1000000
theorem Few.nil : Few [] := ⟨(fun s hs => by cases hs), (fun s hs => by cases hs), by simp⟩
theorem Few.frame {F : List Series10.Sr} (h : Series10.IsFrame F) : Few F := ⟨FR.frame h, fun s hs => by have := (h.1 s hs).2.2; omega, by have := h.2.2.2; omega⟩
theorem Few.sort {F F' : List Series10.Sr} {er : Int} (h : Series10.SortQ F F' er) : Few F' := by
  by_cases h0 : er = 0
  · exact Few.frame (h.frame h0).1
  · rw [h.none h0]; exact Few.nil
theorem Few.map {op : ByteArray} {F F' : List Series10.Sr} {er : Int} (h : MapT op F F' er) : Few F' := by
  rcases h with ⟨p, hp, ⟨_, rfl, _⟩ | ⟨_, rfl, _⟩⟩ | ⟨_, _, rfl⟩
  · obtain ⟨h1, h2, h3⟩ := Few.frame (hp.frame rfl).1
    refine ⟨fun s hs => ?_, fun s hs => ?_, ?_⟩
    · unfold mapF at hs
      obtain ⟨x, hx, rfl⟩ := List.mem_map.1 hs
      exact h1 x hx
    · unfold mapF at hs
      obtain ⟨x, hx, rfl⟩ := List.mem_map.1 hs
      exact h2 x hx
    · unfold mapF; rw [List.length_map]; exact h3
  · exact Few.nil
  · exact Few.nil
theorem Few.join {op : ByteArray} {F G F' : List Series10.Sr} {er : Int} (h : JoinT op F G F' er) : Few F' := by
  rcases h with ⟨p, _, ⟨q, _, ⟨_, rfl, _⟩ | ⟨_, h⟩⟩ | ⟨_, _, rfl⟩⟩ | ⟨_, _, rfl⟩
  · exact Few.nil
  · exact Few.sort h
  · exact Few.nil
  · exact Few.nil
/-- What is told: a list and an error. -/
def Told (w : World) (F : List Series10.Sr) (er : Int) (e : Ending) (w' : World) : Prop := ∃ (a' : Option Addr) (n' c' : Nat), e = .returned (.tuple #[.slice a' n' c', .int .i64 er]) ∧ Hid (IsSer w' a' n' c' F ∧ Below w.heap.size w w')
theorem told_of {w w' : World} {l : List Se} {vo : Value} {er : Int} (ho : OwnR w' w.heap.size vo l) (hk : ∀ x ∈ l, Lbs w' (.slice x.a x.n x.c) x.labs) (hb : Below w.heap.size w w') : Told w (l.map serOf) er (.returned (.tuple #[vo, .int .i64 er])) w' := by
  obtain ⟨a', c', rfl⟩ := ho.shape
  exact ⟨a', _, c', rfl, ⟨l, rfl, ho.sls, hk, rfl⟩, hb⟩
theorem sortG {w : World} {a : Option Addr} {n c : Nat} {F F' : List Series10.Sr} {er : Int} (h : IsSer w a n c F) (hF : FR F) (hl : n ≤ 1000000) (hq : Series10.SortQ F F' er) :
    Calls Tryz.prog 73 #[.slice a n c] w fun e w' => Told w F' er e w' := by
  obtain ⟨l, rfl, h2, h3, rfl⟩ := h
  refine (sort_ser _ l w h2 h3 (FR.of hF) hl).mono ?_
  rintro e w' ⟨hb, h⟩
  rcases h with ⟨l', g, cap, hq', hll, _, rfl, ho, hok⟩ | ⟨er', hne, hq', rfl⟩
  · obtain ⟨h4, rfl⟩ := hq'.one hq
    rw [← h4]
    exact told_of ho (fun x hx => (hok x hx).1) hb
  · obtain ⟨h4, rfl⟩ := hq'.one hq
    rw [← h4]
    exact ⟨_, _, _, rfl, ⟨[], rfl, sls_nil _, (fun x hx => by cases hx), rfl⟩, hb⟩
theorem mapS_map (op : ByteArray) (p : List Se) : (p.map (mapS op)).map serOf = mapF op (p.map serOf) := by
  unfold mapF
  rw [List.map_map, List.map_map]
  rfl
theorem mapG {op : ByteArray} {w : World} {a : Option Addr} {n c : Nat} {F F' : List Series10.Sr} {er : Int} (h : IsSer w a n c F) (hF : FR F) (hl : n ≤ 1000000) (hq : MapT op F F' er) :
    Calls Tryz.prog 74 #[.string op, .slice a n c] w fun e w' => Told w F' er e w' := by
  obtain ⟨l, rfl, h2, h3, rfl⟩ := h
  refine (map_ser op _ l w h2 h3 (FR.of hF) hl).mono ?_
  rintro e w' ⟨hb, h⟩
  rcases h with ⟨l', g, cap, hq', h0, hll, _, rfl, ho, hok⟩ | ⟨⟨out, hq'⟩, hne, rfl⟩ | ⟨er', hne, hq', rfl⟩
  · obtain ⟨h4, rfl⟩ := hq.one (.inl ⟨_, hq', .inl ⟨h0, rfl, rfl⟩⟩)
    have h5 : (l'.map (mapS op)).map serOf = F' := by rw [h4, mapS_map]
    have hlm : l'.length = (l'.map (mapS op)).length := by rw [List.length_map]
    rw [← h5, hlm]
    rw [hlm] at ho
    exact told_of ho (fun x hx => (hok x hx).1) hb
  · obtain ⟨h4, rfl⟩ := hq.one (.inl ⟨_, hq', .inr ⟨by simpa using hne, rfl, rfl⟩⟩)
    rw [h4]
    exact ⟨_, _, _, rfl, ⟨[], rfl, sls_nil _, (fun x hx => by cases hx), rfl⟩, hb⟩
  · obtain ⟨h4, rfl⟩ := hq.one (.inr ⟨by simpa using hne, hq', rfl⟩)
    rw [h4]
    exact ⟨_, _, _, rfl, ⟨[], rfl, sls_nil _, (fun x hx => by cases hx), rfl⟩, hb⟩
theorem joinG {op : ByteArray} {w : World} {a a2 : Option Addr} {n n2 c c2 : Nat} {F F2 out : List Series10.Sr} {er : Int} (h : IsSer w a n c F) (h' : IsSer w a2 n2 c2 F2) (hF : FR F) (hF2 : FR F2) (hl : n ≤ 1000000) (hl2 : n2 ≤ 1000000) (hj : JoinT op F F2 out er) :
    Calls Tryz.prog 75 #[.string op, .slice a n c, .slice a2 n2 c2] w fun e w' => Told w out er e w' := joinF h h' hF hF2 hl hl2 hj
/-- Same of a list with itself. -/
theorem sameG {w : World} {a a2 : Option Addr} {n n2 c c2 : Nat} {F : List Series10.Sr} (h : IsSer w a n c F) (h' : IsSer w a2 n2 c2 F) (hF : Few F) :
    Calls Tryz.prog 22 #[.slice a n c, .slice a2 n2 c2] w fun e w' => e = .returned (.bool true) ∧ Below w.heap.size w w' := by
  refine (sameF h h' hF.1 hF.1 hF.2.1 hF.2.1 (by rw [h.len]; exact hF.2.2) (by rw [h'.len]; exact hF.2.2)).mono ?_
  rintro e w' ⟨rfl, hb⟩
  exact ⟨by rw [decide_eq_true rfl], hb⟩
theorem scalarG (v : Vl) (w : World) : Calls Tryz.prog 47 #[.agg #[.int .i64 v.kind, .int .i64 v.n]] w fun e w' => ∃ a' c', e = .returned (.slice a' 1 c') ∧ Hid (IsSer w' a' 1 c' [⟨[], v⟩] ∧ Below w.heap.size w w') := by
  refine (scalar_any v w).mono ?_
  rintro e w' ⟨u, rfl, h1, h2⟩
  obtain ⟨a', c', rfl⟩ := h1.shape
  exact ⟨a', c', rfl, ⟨[scal v], rfl, h1, fun x hx => by rw [List.mem_singleton.1 hx]; exact sls_nil _, rfl⟩, h2⟩
theorem rscalarG (v : Vl) (w : World) : Calls Tryz.prog 24 #[.agg #[.int .i64 v.kind, .int .i64 v.n]] w fun e w' => ∃ a' c', e = .returned (.slice a' 1 c') ∧ Hid (IsSer w' a' 1 c' [⟨[], v⟩] ∧ Below w.heap.size w w') := by
  refine (rscalar_any v w).mono ?_
  rintro e w' ⟨u, rfl, h1, h2⟩
  obtain ⟨a', c', rfl⟩ := h1.shape
  exact ⟨a', c', rfl, ⟨[scal v], rfl, h1, fun x hx => by rw [List.mem_singleton.1 hx]; exact sls_nil _, rfl⟩, h2⟩
theorem Few.scal (v : Vl) : Few [⟨[], v⟩] := ⟨fun s hs => by rw [List.mem_singleton.1 hs]; exact ⟨(fun a ha => by cases ha), by simp⟩, fun s hs => by rw [List.mem_singleton.1 hs]; simp, by simp⟩
end Go.Proofs.YtdhlfpgibfaimaaGreatDoor

