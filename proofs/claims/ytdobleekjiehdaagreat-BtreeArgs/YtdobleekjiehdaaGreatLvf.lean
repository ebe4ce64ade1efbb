/- What live needs to know of its leaves. -/
import Derived.Test.YtdobleekjiehdaaGreatScn
namespace Go.Proofs.YtdobleekjiehdaaGreat
set_option linter.unusedVariables false
open Go.RowKit Go.Maps Go.Sort Go.Shelf
def kA : ByteArray := ⟨#[97]⟩
def kB : ByteArray := ⟨#[98]⟩
def cA : Cl := ⟨kA, ⟨#[49]⟩, 0, 0⟩
def cB : Cl := ⟨kB, ⟨#[50]⟩, 0, 0⟩
def pg (l : List Cl) : ByteArray := strOfNums (nodeB 1 l)
theorem nodeB_b : nodeB 1 [cB] = [1, 1, 98, 0, 1, 50] := by decide +kernel
theorem nodeB_ab : nodeB 1 [cA, cB] = [1, 1, 97, 0, 1, 49, 1, 98, 0, 1, 50] := by decide +kernel
theorem nodeC_b : nodeC 1 (numsS (pg [cB])) = some [cB] := by
  rw [pg, nodeB_b]
  kernel_rfl
theorem nodeC_ab : nodeC 1 (numsS (pg [cA, cB])) = some [cA, cB] := by
  rw [pg, nodeB_ab]
  kernel_rfl
theorem ris_b : risB [cB] = true := rfl
theorem ris_ab : risB [cA, cB] = true := by
  rw [risB_iff]
  intro j hj
  have : j = 0 := by simp at hj; omega
  subst this
  simp [kLt, cA, cB, kA, kB]
  decide +kernel
theorem leaf_b {ps : List ByteArray} {id : Nat} (h1 : 1 ≤ id) (h2 : id ≤ ps.length) (hp : ps.getD (id - 1) ByteArray.empty = pg [cB]) : Leaf ps 480 id [cB] :=
  ⟨h1, h2, by rw [hp, pg, nodeB_b]; decide, by rw [hp]; exact nodeC_b, by simp, ris_b, by intro c hc; simp at hc; subst hc; decide, by intro c hc; simp at hc; subst hc; exact ⟨rfl, by decide, rfl⟩, by simp⟩
theorem leaf_ab {ps : List ByteArray} {id : Nat} (h1 : 1 ≤ id) (h2 : id ≤ ps.length) (hp : ps.getD (id - 1) ByteArray.empty = pg [cA, cB]) : Leaf ps 480 id [cA, cB] :=
  ⟨h1, h2, by rw [hp, pg, nodeB_ab]; decide, by rw [hp]; exact nodeC_ab, by simp, ris_ab, by intro c hc; simp at hc; rcases hc with rfl | rfl <;> decide, by intro c hc; simp at hc; rcases hc with rfl | rfl <;> exact ⟨rfl, by decide, rfl⟩, by simp⟩
theorem seek_b_a {i : Nat} {fd : Bool} (h : SeekP [cB] kA i fd) : i = 0 ∧ fd = false := by
  obtain ⟨h1, h2, h3, h4⟩ := h
  have e : kCmp kB kA = 1 := by decide +kernel
  have hi : i = 0 := by
    rcases h3 with h3 | h3
    · exact h3
    · have : i = 0 ∨ i = 1 := by simp at h1; omega
      rcases this with rfl | rfl
      · rfl
      · simp [cB, e] at h3
  subst hi
  exact ⟨rfl, by simpa [cB, e] using h2⟩
theorem seek_b_b {i : Nat} {fd : Bool} (h : SeekP [cB] kB i fd) : i = 0 ∧ fd = true := by
  obtain ⟨h1, h2, h3, h4⟩ := h
  have e : kCmp kB kB = 0 := by decide +kernel
  have hi : i = 0 := by
    rcases h3 with h3 | h3
    · exact h3
    · have : i = 0 ∨ i = 1 := by simp at h1; omega
      rcases this with rfl | rfl
      · rfl
      · simp [cB, e] at h3
  subst hi
  exact ⟨rfl, by simpa [cB, e] using h2⟩
theorem seek_ab_a {i : Nat} {fd : Bool} (h : SeekP [cA, cB] kA i fd) : i = 0 ∧ fd = true := by
  obtain ⟨h1, h2, h3, h4⟩ := h
  have e : kCmp kA kA = 0 := by decide +kernel
  have e2 : kCmp kB kA = 1 := by decide +kernel
  have hi : i = 0 := by
    rcases h3 with h3 | h3
    · exact h3
    · have : i = 0 ∨ i = 1 ∨ i = 2 := by simp at h1; omega
      rcases this with rfl | rfl | rfl
      · rfl
      · simp [cA, e] at h3
      · simp [cB, e2] at h3
  subst hi
  exact ⟨rfl, by simpa [cA, e] using h2⟩
section
variable {w : World} {m most size : Nat} {ps : List ByteArray}
theorem isMem_new (most size : Nat) : IsMem (w.alloc (.cells #[.slice none 0 0, .int .i64 most, .int .i64 size] 29)) w.heap.size [] most size := ⟨_, heap_alloc_new w _, World.ownsRow_nil _ _ _ _⟩
theorem finds_empty (h : IsMem w m ps most size) (hs1 : 480 ≤ size) (k v : ByteArray) (hk1 : 1 ≤ k.size) (hk2 : k.size ≤ 64) (hv : v.size ≤ 16384) : Finds w m size 0 0 0 k v 0 (fun _ => false) false 0 0 0 [] := fun W hW => by
  refine (find_empty (h.grow hW) hs1 k v hk1 hk2 hv).mono ?_
  rintro e w' ⟨q, p, mb, vS, rfl, hP⟩
  exact ⟨q, p, mb, vS, none, 0, 0, rfl, hP, cells_nil⟩
theorem finds_leaf (h : IsMem w m ps most size) (hs1 : 480 ≤ size) (hs2 : size ≤ 1000000) (hpl : ps.length ≤ 1000000) (id : Nat) (l : List Cl) (hL : Leaf ps size id l) (k v : ByteArray) (hk1 : 1 ≤ k.size) (hk2 : k.size ≤ 64) (hv : v.size ≤ 16384) (i : Nat) (fd : Bool) (hu : ∀ i' fd', SeekP l k i' fd' → i' = i ∧ fd' = fd) :
    Finds w m size id l.length 1 k v 1 (fun j => if j = (id : Int) then true else false) fd id l.length i l := fun W hW => by
  refine (find_leaf (h.grow hW) hs1 hs2 hpl id l hL k v hk1 hk2 hv).mono ?_
  rintro e w' ⟨q, p, mb, vS, fd', v', i', rfl, hP, ho, hsk⟩
  obtain ⟨rfl, rfl⟩ := hu _ _ hsk
  obtain ⟨a, c, rfl⟩ := ho.shape
  exact ⟨q, p, mb, vS, a, _, c, rfl, hP, ho.cells⟩
set_option maxRecDepth 100000 in
set_option maxHeartbeats 2000000 in
theorem find_bad (h : IsMem w m ps most size) (hs1 : 480 ≤ size) (A K C : Int) (v : ByteArray) :
    Calls Tryz.prog 31 #[.iface 26 (.pointer (some ⟨m, 0, none⟩)), .agg #[.int .i64 A, .int .i64 K, .int .i64 C], .string ⟨#[]⟩, .string v] w fun e w' => e = .returned (.tuple #[.pointer none, .int .i64 50]) ∧ Below w.heap.size w w' := by
  have hB : Below w.heap.size w (w.alloc (.cells #[.int .i64 A, .int .i64 K, .int .i64 C] 31)) := (Below.refl _ w).alloc (Nat.le_refl _) _
  have hso := setOut_ok (h.grow hB) hs1
  go_enter Tryz.func31, Tryz.ntmps31
  go_wp2_with (first | (go_at_call 34; refine hso.mono ?_; rintro e w2 ⟨rfl, hw2, hm2, hb2⟩))
  go_ret2
  exact ⟨rfl, hB.trans (hb2.mono hB.size)⟩
set_option maxRecDepth 100000 in
set_option maxHeartbeats 2000000 in
theorem put_bad (h : IsMem w m ps most size) (hs1 : 480 ≤ size) (A K C : Int) (v : ByteArray) :
    Calls Tryz.prog 26 #[.iface 26 (.pointer (some ⟨m, 0, none⟩)), .agg #[.int .i64 A, .int .i64 K, .int .i64 C], .string ⟨#[]⟩, .string v] w fun e w' => e = .returned (.tuple #[.agg #[.int .i64 0, .int .i64 0, .int .i64 0], .slice none 0 0, .int .i64 50]) ∧ Below w.heap.size w w' := by
  have hB : Below w.heap.size w ((w.alloc (.cells #[.int .i64 A, .int .i64 K, .int .i64 C] 31)).alloc (.cells #[.int .i64 0, .int .i64 0, .int .i64 0] 31)) := ((Below.refl _ w).alloc (Nat.le_refl _) _).alloc (by simp) _
  have hr : ((w.alloc (.cells #[.int .i64 A, .int .i64 K, .int .i64 C] 31)).alloc (.cells #[.int .i64 0, .int .i64 0, .int .i64 0] 31)).heap[w.heap.size + 1]? = some (.cells #[.int .i64 0, .int .i64 0, .int .i64 0] 31 (0, 0)) := by
    have := heap_alloc_new (w.alloc (.cells #[.int .i64 A, .int .i64 K, .int .i64 C] 31)) (.cells #[.int .i64 0, .int .i64 0, .int .i64 0] 31)
    rwa [World.size_alloc] at this
  have hf := find_bad (h.grow hB) hs1 A K C v
  go_enter Tryz.func26, Tryz.ntmps26
  go_wp2_with (first | (go_at_call 31; refine hf.mono ?_; rintro e w2 ⟨rfl, hb2⟩; have hr2 := (hb2.block _ (lt_of_block hr)).trans hr; obtain ⟨z0, z1, z2⟩ := cells3 hr2; have zf0 := frz hr2 0; have zf1 := frz hr2 1; have zf2 := frz hr2 2))
  have h1 := block_setCell (i := 0) (u := .int .i64 0) hr2
  have h2 := block_setCell (i := 1) (u := .int .i64 0) h1
  have hrF : _ = some (Obj.cells #[.int .i64 0, .int .i64 0, .int .i64 0] 31 (0, 0)) := block_setCell (i := 2) (u := .int .i64 0) h2
  obtain ⟨f0, f1, f2⟩ := cells3 hrF
  have hb := hB.trans (hb2.mono hB.size)
  refine bodyPost_ret (v := .tuple #[.agg #[.int .i64 0, .int .i64 0, .int .i64 0], .slice none 0 0, .int .i64 50]) ?_ rfl ⟨rfl, ?_⟩
  · simp [results, asAddr, Result.andThen, go_sem, f0, f1, f2]
  · exact ((hb.setCell (p := ⟨w.heap.size + 1, 0, none⟩) (by show _ ≤ w.heap.size + 1; omega) _).setCell (p := ⟨w.heap.size + 1, 1, none⟩) (by show _ ≤ w.heap.size + 1; omega) _).setCell (p := ⟨w.heap.size + 1, 2, none⟩) (by show _ ≤ w.heap.size + 1; omega) _
end
end Go.Proofs.YtdobleekjiehdaaGreat
