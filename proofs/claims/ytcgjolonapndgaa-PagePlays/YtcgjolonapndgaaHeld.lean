/- A disk that a call has made and goes on with: its methods' contracts in one form. -/
import Derived.Test.YtcgjolonapndgaaFrms
namespace Go.Proofs.Ytcgjolonapndgaa
open Go.RowKit Go.Maps Go.ChangeMaps Go.MapKept

/-- Lists of bytes that lie in blocks of P. -/
def ListsB (P : Nat → Prop) (w : World) (v : Value) (ls : List (List Int)) : Prop :=
  ∃ a c, v = .slice a ls.length c ∧ (ls = [] ∨ ∃ b o, a = some ⟨b, o, none⟩ ∧ P b ∧ ∀ t, t < ls.length → ∃ u, w.cell? ⟨b, o + t, none⟩ = some u ∧ Bts w u (ls.getD t []) ∧ (ls.getD t [] ≠ [] → ∀ k, u.ownBlock = some k → P k))
theorem Bts.frm' {F : Nat → Prop} {w w' : World} {v : Value} {xs : List Int} (h : Bts w v xs) (hf : Frm F w w') (hv : xs ≠ [] → ∀ k, v.ownBlock = some k → ¬ F k) : Bts w' v xs := by
  by_cases h0 : xs = []
  · subst h0
    obtain ⟨a, c, rfl, hn, h⟩ := h
    exact ⟨a, c, rfl, hn, .inl rfl⟩
  · exact h.frm hf (hv h0)
theorem ListsB.frm {P F : Nat → Prop} {w W : World} {v : Value} {ls : List (List Int)} (h : ListsB P w v ls) (hf : Frm F w W) (hP : ∀ k, P k → ¬ F k) : Lists W v ls := by
  obtain ⟨a, c, rfl, h⟩ := h
  refine ⟨a, c, rfl, ?_⟩
  rcases h with h | ⟨b, o, rfl, hb, h⟩
  · exact .inl h
  · refine .inr ⟨b, o, rfl, fun t ht => ?_⟩
    obtain ⟨u, h1, h2, h3⟩ := h t ht
    exact ⟨u, (World.cell?_of_block (w := w) (hf.block b (World.block_lt_of_cell? w _ h1) (hP b hb))).trans h1, h2.frm' hf (fun h0 k hk => hP k (h3 h0 k hk))⟩
theorem listsB_nil (P : Nat → Prop) (w : World) (a : Option Addr) (c : Nat) : ListsB P w (.slice a 0 c) [] := ⟨a, c, rfl, .inl rfl⟩
theorem listsB1 {P : Nat → Prop} {w : World} {u : Value} {x : List Int} (h : Bts w u x) (hP : P w.heap.size) (hu : x ≠ [] → ∀ k, u.ownBlock = some k → P k) : ListsB P (w.alloc (.cells #[u] 23)) (.slice (some ⟨w.heap.size, 0, none⟩) 1 1) [x] := by
  refine ⟨_, 1, rfl, .inr ⟨w.heap.size, 0, rfl, hP, fun t ht => ?_⟩⟩
  have : t = 0 := by simp at ht; omega
  subst this
  exact ⟨u, by simp, h.alloc _, hu⟩

/-- wr holds the disk p, made since w; its blocks are of F. -/
structure Held (w wr : World) (p : Nat) (F : Nat → Prop) (s : St) : Prop where
  disk : IsD wr p F s
  blocks : ∀ k, F k → w.heap.size ≤ k ∧ k < wr.heap.size
  below : Below w.heap.size w wr

section
variable {w wr W : World} {p : Nat} {F : Nat → Prop} {s : St}
theorem Held.le (h : Held w wr p F s) : w.heap.size ≤ wr.heap.size := h.below.size
theorem Held.grow (h : Held w wr p F s) (hW : Below wr.heap.size wr W) : Held w W p F s :=
  ⟨h.disk.grow hW, fun k hk => ⟨(h.blocks k hk).1, Nat.lt_of_lt_of_le (h.blocks k hk).2 hW.size⟩, h.below.trans (hW.mono h.le)⟩
theorem Held.alloc (h : Held w wr p F s) (o : Obj) : Held w (wr.alloc o) p F s := h.grow ((Below.refl _ wr).alloc (Nat.le_refl _) o)
/-- What a method leaves. -/
def Gone (w W : World) (p : Nat) (F : Nat → Prop) (s' : St) (w' : World) : Prop := ∃ F', Held w w' p F' s' ∧ Frm F W w' ∧ ∀ k, F' k → F k ∨ W.heap.size ≤ k
theorem gone_of (h : Held w W p F s) {s' : St} {w' : World} (ht : Turned W p F s' w') : Gone w W p F s' w' := by
  obtain ⟨F', hd, hf, hF⟩ := ht
  refine ⟨F', ⟨hd, fun k hk => ?_, h.below.trans (hf.below h.le (fun k hk => (h.blocks k hk).1))⟩, hf, fun k hk => (hF k hk).1⟩
  obtain ⟨h1, h2⟩ := hF k hk
  refine ⟨?_, h2⟩
  rcases h1 with h1 | h1
  · exact (h.blocks k h1).1
  · exact Nat.le_trans h.le h1
theorem held_write (h : Held w W p F s) (hops : s.ops < 17592186044416) (n : Int) (v : Value) (ls : List (List Int)) (hl : ListsB (fun b => ¬ F b) W v ls) (hll : ls.length ≤ 1000000) (hn1 : -9223372036854775808 ≤ n) (hn2 : n ≤ 9223372036854775807) :
    Calls Try.prog 33 #[.pointer (some ⟨p, 0, none⟩), .int .i64 n, v] W fun e w' => e = .returned (.int .i64 (s.errWrite n ls)) ∧ Gone w W p F (s.write n ls) w' := by
  refine (write_any h.disk hops n v ls (fun W' hf => hl.frm hf (fun _ hk => hk)) hll hn1 hn2).mono ?_
  rintro e w' ⟨rfl, ht⟩
  exact ⟨rfl, gone_of h ht⟩
theorem held_sync (h : Held w W p F s) (hops : s.ops < 17592186044416) : Calls Try.prog 27 #[.pointer (some ⟨p, 0, none⟩)] W fun e w' => e = .returned (.int .i64 s.errOp) ∧ Gone w W p F s.sync w' := by
  refine (sync_any h.disk hops).mono ?_
  rintro e w' ⟨rfl, ht⟩
  exact ⟨rfl, gone_of h ht⟩
theorem held_crash (h : Held w W p F s) (hops : s.ops < 17592186044416) (keep : List Int) (ts : List (Int × Int)) (vk vt : Value) (hk : Ints W vk keep) (ht : Torns W vt ts) (hkl : keep.length ≤ 140737488355328) (htl : ts.length ≤ 140737488355328)
    (hki : ∀ x ∈ keep, In64 x) (hti : ∀ t ∈ ts, In64 t.1 ∧ In64 t.2) :
    Calls Try.prog 31 #[.pointer (some ⟨p, 0, none⟩), vk, vt] W fun e w' => e = .returned (.tuple #[]) ∧ Gone w W p F (s.crash keep ts) w' := by
  refine (crash_any h.disk hops keep ts vk vt hk ht hkl htl hki hti).mono ?_
  rintro e w' ⟨rfl, ht⟩
  exact ⟨rfl, gone_of h ht⟩
theorem held_arm (h : Held w W p F s) (after : Int) (h1 : -9223372036854775808 ≤ after) (h2 : after ≤ 9223372036854775807) : Calls Try.prog 29 #[.pointer (some ⟨p, 0, none⟩), .int .i64 after] W fun e w' => e = .returned (.tuple #[]) ∧ Held w w' p F (s.arm after) ∧ Frm F W w' := by
  refine (arm_any h.disk after h1 h2).mono ?_
  rintro e w' ⟨rfl, hd, hf, hs⟩
  exact ⟨rfl, ⟨hd, fun k hk => ⟨(h.blocks k hk).1, by rw [hs]; exact (h.blocks k hk).2⟩, h.below.trans (hf.below h.le (fun k hk => (h.blocks k hk).1))⟩, hf⟩
theorem held_new (sectors size : Nat) (h1 : 1 ≤ sectors) (h2 : sectors ≤ 65536) (h3 : 64 ≤ size) (h4 : size ≤ 1024) (hW : Below w.heap.size w W) : Calls Try.prog 19 #[.int .i64 sectors, .int .i64 size] W fun e w' => ∃ p, e = .returned (.tuple #[.pointer (some ⟨p, 0, none⟩), .int .i64 0]) ∧ Held w w' p (fun k => W.heap.size ≤ k ∧ k < w'.heap.size) (St.new sectors size) ∧ Below W.heap.size W w' := by
  refine (new_ok sectors size h1 h2 h3 h4 W).mono ?_
  rintro e w' ⟨p, rfl, hd, hb⟩
  exact ⟨p, rfl, ⟨hd.tight, fun k hk => ⟨Nat.le_trans hW.size hk.1, hk.2⟩, hW.trans (hb.mono hW.size)⟩, hb⟩
end
end Go.Proofs.Ytcgjolonapndgaa
