/- The document's Parse: the mathematics. -/
import Derived.Test.YtfbiaffdfolbgaaGreatDoorWb
namespace Go.Proofs.YtfbiaffdfolbgaaGreatDoor
set_option linter.unusedVariables false
def bytes (s : ByteArray) : List Int := s.data.toList.map fun c => (c.toNat : Int)
theorem bOf_bytes (s : ByteArray) : bOf (bytes s) = s := by
  apply ByteArray.ext
  apply Array.ext'
  show (u8s (bytes s)).toArray.toList = _
  rw [List.toList_toArray, u8s, bytes, List.map_map]
  refine (List.map_congr_left (g := id) fun c _ => ?_).trans (List.map_id _)
  show UInt8.ofNat ((c.toNat : Int)).toNat = c
  rw [Int.toNat_natCast]; exact UInt8.ofNat_toNat
theorem bytes_byts (s : ByteArray) : Byts (bytes s) := fun c hc => by
  obtain ⟨x, _, rfl⟩ := List.mem_map.1 hc
  have := x.toNat_lt
  omega
theorem bytes_len (s : ByteArray) : (bytes s).length = s.size := by rw [bytes, List.length_map]; exact ba_len s
theorem bytes_txt {u : Vl} {s : ByteArray} (h : txtS u = s) : bytes s = txt u :=
  bOf_inj (bytes_byts s) (txt_byts u) ((bOf_bytes s).trans h.symm)
/-- How often ten times. -/
def ten (left m : Int) : Int := if left < 0 then 1000 * m else if left = 0 then m else if left = 1 then 10 * m else if left = 2 then 100 * m else 1000 * m
def sgd (s : ByteArray) (X : Int) : Int := if (bytes s).head? = some 45 then -X else X
theorem par_num {s : ByteArray} {n : Int} (h1 : -1000000000000000 ≤ n) (h2 : n ≤ 1000000000000000) (h : txtS ⟨1, n⟩ = s) :
    ∃ m left, runs 0 0 (-1) (bytes s) = some (m, left) ∧ n = sgd s (ten left m) ∧ ten left m ≤ 1000000000000000 := by
  have e := bytes_txt h
  obtain ⟨m, left, h3, h4⟩ := runs_txt h1 h2
  have ht : ten left m = (n.natAbs : Int) := by
    rcases h4 with ⟨rfl, h⟩ | ⟨rfl, h⟩ | ⟨rfl, h⟩ | ⟨rfl, h⟩ <;> simp [ten] <;> omega
  refine ⟨m, left, by rw [e]; exact h3, ?_, by omega⟩
  rw [ht, sgd, e]
  by_cases hn : n < 0
  · have e2 : (txt ⟨1, n⟩).head? = some 45 := by simp [txt, hn]
    rw [if_pos e2]; omega
  · obtain ⟨c, r, e1, h5, h6⟩ := txtN_head n.natAbs
    have e2 : ¬ (txt ⟨1, n⟩).head? = some 45 := by simp [txt, hn, e1]; omega
    rw [if_neg e2]; omega
def SpNo (s : ByteArray) : Prop := txtS nul ≠ s ∧ txtS nan ≠ s ∧ txtS pls ≠ s ∧ txtS mns ≠ s
theorem par_long {s : ByteArray} (h : 20 < s.size) : parV s = zer ∧ parE s = 80 := par_no fun v hv e => by
  have := txt_len hv
  rw [← bytes_txt e, bytes_len] at this
  omega
theorem par_gen {s : ByteArray} (hs : SpNo s) (h : ∀ n : Int, -1000000000000000 ≤ n → n ≤ 1000000000000000 → txtS ⟨1, n⟩ ≠ s) : parV s = zer ∧ parE s = 80 := par_no fun v hv e => by
  rcases hv.cases with ⟨n, rfl, h1, h2⟩ | rfl | rfl | rfl | rfl
  · exact h n h1 h2 e
  · exact hs.1 e
  · exact hs.2.1 e
  · exact hs.2.2.1 e
  · exact hs.2.2.2 e
theorem par_none {s : ByteArray} (hs : SpNo s) (h : runs 0 0 (-1) (bytes s) = none) : parV s = zer ∧ parE s = 80 := par_gen hs fun n h1 h2 e => by
  obtain ⟨m, left, h3, _⟩ := par_num h1 h2 e
  rw [h] at h3; cases h3
theorem par_big {s : ByteArray} {m left : Int} (hs : SpNo s) (h : runs 0 0 (-1) (bytes s) = some (m, left)) (hb : 1000000000000000 < ten left m) : parV s = zer ∧ parE s = 80 := par_gen hs fun n h1 h2 e => by
  obtain ⟨m', left', h3, _, h4⟩ := par_num h1 h2 e
  rw [h] at h3; simp at h3; obtain ⟨rfl, rfl⟩ := h3; omega
theorem par_ne {s : ByteArray} {m left : Int} (hs : SpNo s) (h : runs 0 0 (-1) (bytes s) = some (m, left)) (hn : txtS ⟨1, sgd s (ten left m)⟩ ≠ s) : parV s = zer ∧ parE s = 80 := par_gen hs fun n h1 h2 e => by
  obtain ⟨m', left', h3, h4, _⟩ := par_num h1 h2 e
  rw [h] at h3; simp at h3; obtain ⟨rfl, rfl⟩ := h3
  rw [h4] at e; exact hn e
theorem stp_in {i : Nat} {n left c m r : Int} (h : stp i n left c = some (m, r)) (hc : 0 ≤ c ∧ c ≤ 255) (hn : 0 ≤ n ∧ n ≤ 10000000000000009) (hl : -1 ≤ left ∧ left ≤ 3) : (0 ≤ m ∧ m ≤ 10000000000000009) ∧ (-1 ≤ r ∧ r ≤ 3) := by
  unfold stp at h
  split at h
  · simp at h; omega
  · split at h
    · simp at h; omega
    · split at h
      · simp at h; obtain ⟨rfl, rfl⟩ := h
        refine ⟨by omega, ?_⟩
        split <;> omega
      · cases h
/-- One byte more. -/
theorem runs_snoc {l : List Int} {k : Nat} {c n left : Int} (hk : l[k]? = some c) (h : runs 0 0 (-1) (l.take k) = some (n, left)) : runs 0 0 (-1) (l.take (k + 1)) = stp k n left c := by
  obtain ⟨hlt, e⟩ := List.getElem?_eq_some_iff.1 hk
  have e2 : l.take (k + 1) = l.take k ++ [c] := by rw [List.take_add_one, hk]; rfl
  rw [e2, runs_append _ _ _ _ _ _ _ h]
  have e3 : 0 + (l.take k).length = k := by simp; omega
  rw [e3, runs]
  cases stp k n left c with
  | none => rfl
  | some p => rfl
theorem runs_dead {l : List Int} {k : Nat} (h : runs 0 0 (-1) (l.take k) = none) : runs 0 0 (-1) l = none := by
  have key : ∀ (x : List Int) (i : Nat) (n left : Int) (y : List Int), runs i n left x = none → runs i n left (x ++ y) = none := by
    intro x
    induction x with
    | nil => intro i n left y h; cases h
    | cons c l ih =>
      intro i n left y h
      simp only [runs, List.cons_append] at h ⊢
      cases e : stp i n left c with
      | none => rfl
      | some p => rw [e] at h; exact ih _ _ _ _ h
  have := key (l.take k) 0 0 (-1) (l.drop k) h
  rwa [List.take_append_drop] at this
theorem row4 (w : World) (a b c d : Vl) : Vls (w.alloc (.cells #[.int .i64 a.kind, .int .i64 a.n, .int .i64 b.kind, .int .i64 b.n, .int .i64 c.kind, .int .i64 c.n, .int .i64 d.kind, .int .i64 d.n] 25)) (.slice (some ⟨w.heap.size, 0, none⟩) 4 4) [a, b, c, d] := by
  refine ⟨_, _, rfl, .inr ⟨_, _, rfl, fun t ht => ?_⟩⟩
  have h : (w.alloc (.cells #[.int .i64 a.kind, .int .i64 a.n, .int .i64 b.kind, .int .i64 b.n, .int .i64 c.kind, .int .i64 c.n, .int .i64 d.kind, .int .i64 d.n] 25)).heap[w.heap.size]? = some (.cells #[.int .i64 a.kind, .int .i64 a.n, .int .i64 b.kind, .int .i64 b.n, .int .i64 c.kind, .int .i64 c.n, .int .i64 d.kind, .int .i64 d.n] 25) := by
    show (w.heap.push _)[w.heap.size]? = _; simp
  have ht5 : t = 0 ∨ t = 1 ∨ t = 2 ∨ t = 3 := by simp at ht; omega
  unfold VAt World.cell?
  rw [h]
  rcases ht5 with rfl | rfl | rfl | rfl <;> simp
end Go.Proofs.YtfbiaffdfolbgaaGreatDoor
