/- Write, both. -/
import Derived.Test.YtcgjolonapndgaaTwo
namespace Go.Proofs.Ytcgjolonapndgaa
open Go.RowKit Go.Maps Go.ChangeMaps Go.MapKept

theorem write_two (s : St) (n : Int) (x y : List Int) : s.write n [x, y] = s.write n [x ++ y] ∧ s.errWrite n [x, y] = s.errWrite n [x ++ y] := by
  have e : [x, y].flatten = [x ++ y].flatten := by simp
  have t : tot [x, y] = tot [x ++ y] := by simp [tot]
  constructor
  · unfold St.write; rw [e, t]
  · unfold St.errWrite; rw [t]
theorem listsB2 {P : Nat → Prop} {w : World} {u1 u2 : Value} {x y : List Int} (h1 : Bts w u1 x) (h2 : Bts w u2 y) (hP : P w.heap.size) (b1 : x ≠ [] → ∀ k, u1.ownBlock = some k → P k) (b2 : y ≠ [] → ∀ k, u2.ownBlock = some k → P k) : ListsB P (w.alloc (.cells #[u1, u2] 23)) (.slice (some ⟨w.heap.size, 0, none⟩) 2 2) [x, y] := by
  refine ⟨_, 2, rfl, .inr ⟨w.heap.size, 0, rfl, hP, fun t ht => ?_⟩⟩
  have : t = 0 ∨ t = 1 := by simp at ht; omega
  rcases this with rfl | rfl
  · exact ⟨u1, by simp, h1.alloc _, b1⟩
  · exact ⟨u2, by simp, h2.alloc _, b2⟩
section
variable {w wq : World} {p r : Nat} {F G : Nat → Prop} {s t : St}
theorem play_write (h : Two w wq p r F G s t) (hops : s.ops < 17592186044416) (n : Int) (hn : In64 n) (u1 u2 : Value) (x y : List Int) (hu1 : Bts wq u1 x) (hu2 : Bts wq u2 y) (b1 : x ≠ [] → ∀ j, u1.ownBlock = some j → ¬ F j) (b2 : y ≠ [] → ∀ j, u2.ownBlock = some j → ¬ F j)
    (W : World) (hW : Below (wq.alloc (.cells #[u1, u2] 23)).heap.size (wq.alloc (.cells #[u1, u2] 23)) W) :
    Calls Try.prog 33 #[.pointer (some ⟨p, 0, none⟩), .int .i64 n, .slice (some ⟨wq.heap.size, 0, none⟩) 2 2] W fun e w' => e = .returned (.int .i64 (s.errWrite n [x ++ y])) ∧ ∃ F', Two w w' p r F' G (s.write n [x ++ y]) t ∧ (∀ k, F' k → F k ∨ wq.heap.size ≤ k) ∧ Frm F wq w' := by
  have hb0 : Below wq.heap.size wq (wq.alloc (.cells #[u1, u2] 23)) := (Below.refl _ wq).alloc (Nat.le_refl _) _
  have hbW : Below wq.heap.size wq W := hb0.trans (hW.mono (by simp))
  have hlb := listsB2 (P := fun b => ¬ F b) hu1 hu2 (fun hf => by have := (h.held.blocks _ hf).2; omega) b1 b2
  have hlb2 : ListsB (fun b => ¬ F b) W (.slice (some ⟨wq.heap.size, 0, none⟩) 2 2) [x, y] := by
    obtain ⟨a, c, e, h⟩ := hlb
    refine ⟨a, c, e, ?_⟩
    rcases h with h | ⟨b, o, h1, h2, h3⟩
    · exact .inl h
    · refine .inr ⟨b, o, h1, h2, fun t ht => ?_⟩
      obtain ⟨u', g1, g2, g3⟩ := h3 t ht
      exact ⟨u', (hW.cell (p := ⟨b, o + t, none⟩) (World.block_lt_of_cell? _ _ g1)).trans g1, g2.grow hW, g3⟩
  obtain ⟨q1, q2⟩ := write_two s n x y
  have hT := h.grow hbW
  refine (held_write hT.held hops n _ [x, y] hlb2 (by simp) hn.1 hn.2).mono ?_
  rintro e w' ⟨rfl, hg⟩
  rw [q1] at hg
  rw [q2]
  obtain ⟨F', h1, h2, h3⟩ := hT.gone hg
  refine ⟨rfl, F', h1, fun k hk => ?_, (Frm.of_below hbW F).trans h3 (fun _ h => .inl h)⟩
  rcases h2 k hk with h4 | h4
  · exact .inl h4
  · exact .inr (Nat.le_trans hbW.size h4)
theorem two_refWrite (h : Two w wq p r F G s t) (hops : t.ops < 17592186044416) (n : Int) (x : List Int) : Calls Try.prog 34 #[.pointer (some ⟨r, 0, none⟩), .int .i64 n, .string (strOfNums x)] wq fun e w' => e = .returned (.int .i64 (t.errWrite n [x])) ∧ ∃ G', Two w w' p r F G' s (t.write n [x]) ∧ (∀ k, G' k → G k ∨ wq.heap.size ≤ k) ∧ Frm G wq w' := by
  refine (refWrite_any h.ref hops n x).mono ?_
  rintro e w' ⟨rfl, hg⟩
  obtain ⟨G', h1⟩ := h.turned hg
  exact ⟨rfl, G', h1⟩
theorem write_dims (s : St) (n : Int) (ls : List (List Int)) : (s.write n ls).ops ≤ s.ops + 1 ∧ (s.write n ls).sectors = s.sectors ∧ (s.write n ls).size = s.size := by
  obtain ⟨e1, e2, _, _, _, e6⟩ := op_same s
  unfold St.write
  split
  · split
    · split
      · exact ⟨e6, e1, e2⟩
      · exact ⟨e6, e1, e2⟩
    · exact ⟨by omega, rfl, rfl⟩
  · exact ⟨by omega, rfl, rfl⟩
theorem errWrite_in (s : St) (n : Int) (ls : List (List Int)) : 0 ≤ s.errWrite n ls ∧ s.errWrite n ls ≤ 20 := by
  unfold St.errWrite St.errOp
  split <;> (try split) <;> (try split) <;> omega
/-- v[:k], and where it lies. -/
theorem slice_toB {w : World} {v : Value} {bs : List Int} (hb : Bts w v bs) (k : Nat) (hk : k ≤ bs.length) :
    ∃ v2, (∀ W, (Instr.slice 23 v none (some (.int .i64 (k : Int))) none).run Try.prog W = .ok v2 W) ∧ Bts w v2 (bs.take k) ∧ (∀ q, v2.ownBlock = some q → v.ownBlock = some q) := by
  obtain ⟨a, c, rfl, ⟨hn, hc⟩, h1⟩ := hb
  refine ⟨sliced a 0 k c 1, fun W => ?_, ⟨if c = 0 then a else a.map (·.add (0 * 1)), c - 0, by simp only [sliced, List.length_take, Nat.min_eq_left hk, Nat.sub_zero], ⟨fun e => ?_, by simp; omega⟩, ?_⟩, ?_⟩
  · rw [run_slice_h W 23 a bs.length c elem33 .i64 k (by omega) (by omega), size5]; simp [Result.andThen]
  · by_cases h : c = 0
    · omega
    · rw [if_neg h] at e
      simp at e; have := hn e; omega
  · rcases h1 with rfl | ⟨b, o, rfl, hr⟩
    · exact .inl (by simp)
    · by_cases h : k = 0
      · exact .inl (by simp [h])
      · refine .inr ⟨b, o, ?_, fun t _ ht => ?_⟩
        · rw [if_neg (by omega)]; simp [add_at]
        · rw [List.length_take] at ht
          have := hr t (Nat.zero_le _) (by omega)
          rw [this]; simp [show t < k by omega]
  · intro q hq
    unfold sliced at hq
    split at hq
    · cases a with
      | none => simp [Value.ownBlock] at hq
      | some a => simpa [Value.ownBlock] using hq
    · cases a with
      | none => simp [Value.ownBlock] at hq
      | some a =>
        simp [Value.ownBlock, Addr.add] at hq
        simpa [Value.ownBlock] using hq
/-- The bytes of the call's own, as a row that may be written. -/
theorem own_vrow {v : Value} {base : Nat} {a : Option Addr} {c : Nat} {xs : List Int} (h : Own wq base v xs) (hv : v = .slice a xs.length c) (h0 : 0 < xs.length) : ∃ g, a = some ⟨g, 0, none⟩ ∧ base ≤ g ∧ VRow 5 wq g c xs.length (fun i => .int .u8 (xs.getD i 0)) := by
  obtain ⟨_, h2⟩ := h
  rcases h2 with ⟨_, h1⟩ | ⟨g, cap, cur, e, hb, hg, hnc, _, hcs, htake⟩
  · omega
  · rw [hv] at e
    cases e
    refine ⟨g, rfl, hb, cur, hg, hnc, by simpa using hcs, fun i hi => ?_⟩
    have : (cur.toList.take (xs.length * 1))[i]? = (xs.map (Value.int .u8))[i]? := by rw [htake]
    rw [List.getElem?_take, if_pos (by omega)] at this
    rw [← Array.getElem?_toList, this]
    simp [List.getElem?_eq_getElem hi]
end
end Go.Proofs.Ytcgjolonapndgaa
