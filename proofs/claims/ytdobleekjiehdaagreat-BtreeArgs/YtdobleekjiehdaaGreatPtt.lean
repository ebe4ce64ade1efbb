/- The contracts of Put, Delete and Get, at trees of one leaf. -/
import Derived.Test.YtdobleekjiehdaaGreatCng
namespace Go.Proofs.YtdobleekjiehdaaGreat
set_option linter.unusedVariables false
open Go.RowKit Go.Maps Go.Sort Go.Shelf
section
variable {w : World} {m most size : Nat} {ps : List ByteArray}
/-- What find tells, at a tree of one leaf, or none. -/
def Finds (w : World) (m size : Nat) (A K C : Int) (k v : ByteArray) (n1 : Nat) (S : Int → Bool) (th : Bool) (id keys i : Nat) (l : List Cl) : Prop :=
  ∀ W, Below w.heap.size w W → Calls Tryz.prog 31 #[.iface 26 (.pointer (some ⟨m, 0, none⟩)), .agg #[.int .i64 A, .int .i64 K, .int .i64 C], .string k, .string v] W fun e w' => ∃ q p mb vS a n c, e = .returned (.tuple #[.pointer (some ⟨q, 0, none⟩), .int .i64 0]) ∧ Pth W w' m size q p mb n1 S vS th id keys (.slice a n c) i ∧ Cells w' (.slice a n c) l
theorem StepAt.grow {W : World} {vS v : Value} {base id lv keys i : Nat} (h : StepAt w vS base id lv keys v i) (hW : Below w.heap.size w W) : StepAt W vS base id lv keys v i := h.keep (fun B _ hB _ => hW.block B hB)
theorem change_fresh (h : IsMem w m ps most size) (hs1 : 480 ≤ size) (hs2 : size ≤ 1000000) (hmo : ps.length < most) (hpl : ps.length ≤ 1000000) (k v : ByteArray) {w1 w2 : World} {q p mb n1 : Nat} {S : Int → Bool} {vS : Value} {th : Bool} {id keys i : Nat} {a : Option Addr} {n c : Nat} {l : List Cl}
    (hP : Pth w1 w2 m size q p mb n1 S vS th id keys (.slice a n c) i) (hcl : Cells w2 (.slice a n c) l) (hn1 : n1 ≤ 1000000) (hi : i ≤ l.length) (hth : th = true → i < l.length ∧ (l.getD i cl0).page = 0) (hll : l.length ≤ 1000000) (xs : List Int) (hp : xs.Pairwise (fun a b => a < b)) (hx : ∀ x, x ∈ xs ↔ S x = true)
    (nl : List Cl) (hnl : l.take i ++ [⟨k, v, 0, 0⟩] ++ l.drop (i + th.toNat) = nl) (hok : ∀ c ∈ nl, c.ok) (hcn : ∀ c ∈ nl, c.count ≤ 2147483647) (hlen : (nodeB 1 nl).length ≤ size) (hl : nl.length ≤ 8000000)
    (hB2 : Below w.heap.size w w2) (hs : w.heap.size ≤ w2.heap.size) {W : World} {b r : Nat} (hW : Below w2.heap.size w2 W) (hb : W.heap[b]? = some (.cells #[.string k, .string v, .int .i64 0, .int .i64 0] 90 (0, 0))) (hr : w2.heap[r]? = some (.cells #[.int .i64 0, .int .i64 0, .int .i64 0] 31 (0, 0))) :
    Calls Tryz.prog 41 #[.pointer (some ⟨q, 0, none⟩), .slice (some ⟨b, 0, none⟩) 1 1] W fun e w' => ∃ a2 c2, e = .returned (.tuple #[.agg #[.int .i64 ((ps.length + 1 : Nat) : Int), .int .i64 (nl.length : Int), .int .i64 1], .slice a2 xs.length c2, .int .i64 0]) ∧ IsMem w' m (ps ++ [strOfNums (nodeB 1 nl)]) most size ∧ Kl m w w' ∧ w'.heap[r]? = some (.cells #[.int .i64 0, .int .i64 0, .int .i64 0] 31 (0, 0)) := by
  have h0 : nl ≠ [] := by rw [← hnl]; simp
  have hBW := hB2.trans (hW.mono hs)
  have hmW := h.grow hBW
  have hqW := hP.path.keep (hW.block _ hP.path.lt)
  have hsW := hP.step.grow hW
  have hwW := hP.walk.keep (hW.block _ hP.walk.lt)
  have hcf : Cells W (.slice (some ⟨b, 0, none⟩) 1 1) [⟨k, v, 0, 0⟩] := by
    refine ⟨some ⟨b, 0, none⟩, 1, rfl, ⟨fun e => (by cases e), by simp⟩, .inr ⟨b, 0, rfl, fun t ht => ?_⟩⟩
    obtain rfl : t = 0 := by simpa using ht
    refine ⟨?_, ?_, ?_, ?_⟩ <;> simp [World.cell?, hb]
  refine (change_of (ps2 := ps ++ [strOfNums (nodeB 1 nl)]) hqW hsW hwW hmW (hP.met.keep (hW.block _ hP.met.lt)) hn1 (hcl.grow hW) hi hth hll _ _ hcf (by simp) xs hp hx ((ps.length + 1 : Nat) : Int) (nl.length : Int) 1 (fun W2 v2 hW2 ho2 => ?_)).mono ?_
  · rw [hnl] at ho2
    obtain ⟨a4, c4, rfl⟩ := ho2.shape
    exact rebuild_ok (hqW.keep (hW2.block _ hqW.lt)) (hsW.grow hW2) (hwW.keep (hW2.block _ hwW.lt)) (hmW.grow hW2) hs1 hs2 hmo hpl _ a4 _ c4 nl ho2 h0 hok hcn hlen hl
  · rintro e w' ⟨a2, c2, rfl, hm', hk'⟩
    exact ⟨a2, c2, rfl, hm', (Kl.of_below hBW).trans hk', hk'.cells hmW ((hW.block _ (lt_of_block hr)).trans hr) (by decide) (by decide)⟩
set_option maxRecDepth 100000 in
set_option maxHeartbeats 4000000 in
theorem put_of (h : IsMem w m ps most size) (hs1 : 480 ≤ size) (hs2 : size ≤ 1000000) (hmo : ps.length < most) (hpl : ps.length ≤ 1000000) (A K C : Int) (k v : ByteArray) (hv : v.size ≤ shortOf size) {n1 : Nat} {S : Int → Bool} {th : Bool} {id keys i : Nat} {l : List Cl}
    (hfi : Finds w m size A K C k v n1 S th id keys i l) (hn1 : n1 ≤ 1000000) (hi : i ≤ l.length) (hth : th = true → i < l.length ∧ (l.getD i cl0).page = 0) (hll : l.length ≤ 1000000) (xs : List Int) (hp : xs.Pairwise (fun a b => a < b)) (hx : ∀ x, x ∈ xs ↔ S x = true)
    (nl : List Cl) (hnl : l.take i ++ [⟨k, v, 0, 0⟩] ++ l.drop (i + th.toNat) = nl) (hok : ∀ c ∈ nl, c.ok) (hcn : ∀ c ∈ nl, c.count ≤ 2147483647) (hlen : (nodeB 1 nl).length ≤ size) (hl : nl.length ≤ 8000000) :
    Calls Tryz.prog 26 #[.iface 26 (.pointer (some ⟨m, 0, none⟩)), .agg #[.int .i64 A, .int .i64 K, .int .i64 C], .string k, .string v] w fun e w' => ∃ a2 c2, e = .returned (.tuple #[.agg #[.int .i64 ((ps.length + 1 : Nat) : Int), .int .i64 (nl.length : Int), .int .i64 1], .slice a2 xs.length c2, .int .i64 0]) ∧ IsMem w' m (ps ++ [strOfNums (nodeB 1 nl)]) most size ∧ Kl m w w' := by
  have h0 : nl ≠ [] := by rw [← hnl]; simp
  obtain ⟨P1, hP1⟩ : ∃ P1, Hid (P1 = ps.length + 1) := ⟨_, rfl⟩
  obtain ⟨L, hL⟩ : ∃ L, Hid (L = nl.length) := ⟨_, rfl⟩
  rw [← hP1.out, ← hL.out]
  have hfi1 := hfi
  unfold Finds at hfi1
  go_enter Tryz.func26, Tryz.ntmps26
  have hB : Below w.heap.size w ((w.alloc (.cells #[.int .i64 A, .int .i64 K, .int .i64 C] 31)).alloc (.cells #[.int .i64 0, .int .i64 0, .int .i64 0] 31)) := ((Below.refl _ w).alloc (Nat.le_refl _) _).alloc (by simp) _
  have hr : ((w.alloc (.cells #[.int .i64 A, .int .i64 K, .int .i64 C] 31)).alloc (.cells #[.int .i64 0, .int .i64 0, .int .i64 0] 31)).heap[w.heap.size + 1]? = some (.cells #[.int .i64 0, .int .i64 0, .int .i64 0] 31 (0, 0)) := by
    have := heap_alloc_new (w.alloc (.cells #[.int .i64 A, .int .i64 K, .int .i64 C] 31)) (.cells #[.int .i64 0, .int .i64 0, .int .i64 0] 31)
    rwa [World.size_alloc] at this
  have hf1 := hfi1 _ hB
  clear hfi hfi1
  go_wp2_with (first
    | (go_at_call 31; refine hf1.mono ?_; rintro e w2 ⟨q, p, mb, vS, a, n, c, rfl, hP, hcl⟩; have hB2 := hB.trans (hP.below.mono hB.size); have hr2 := (hP.below.block _ (lt_of_block hr)).trans hr; have q0 := hP.path.cells.1.1; have hlv := layValue_short hP.walk hs1 hs2 k v hv)
    | (go_at_call 40; refine hlv.mono ?_; rintro e w3 ⟨rfl, hb3⟩; have hc41 := change_fresh h hs1 hs2 hmo hpl k v hP hcl hn1 hi hth hll xs hp hx nl hnl hok hcn hlen hl hB2 (Nat.le_trans hB.size hP.below.size) (W := (w3.alloc (.cells #[.string k, .string v, .int .i64 0, .int .i64 0] 90)).alloc (.cells #[.string k, .string v, .int .i64 0, .int .i64 0] 90)) (b := w3.heap.size + 1) (hb3.trans (Below.alloc ((Below.refl _ w3).alloc (Nat.le_refl _) _) (by simp) _ |>.mono hb3.size)) (by have := heap_alloc_new (w3.alloc (.cells #[.string k, .string v, .int .i64 0, .int .i64 0] 90)) (.cells #[.string k, .string v, .int .i64 0, .int .i64 0] 90); rwa [World.size_alloc] at this) hr2; rw [← hP1.out, ← hL.out] at hc41)
    | (go_at_call 41; refine hc41.mono ?_; rintro e w6 ⟨a6, c6, rfl, hm6, hk6, hr6⟩; obtain ⟨z0, z1, z2⟩ := cells3 hr6; have zf0 := frz hr6 0; have zf1 := frz hr6 1; have zf2 := frz hr6 2))
  have h1 := block_setCell (i := 0) (u := .int .i64 (P1 : Int)) hr6
  have h2 := block_setCell (i := 1) (u := .int .i64 (L : Int)) h1
  have hrF : _ = some (Obj.cells #[.int .i64 (P1 : Int), .int .i64 (L : Int), .int .i64 1] 31 (0, 0)) := block_setCell (i := 2) (u := .int .i64 1) h2
  obtain ⟨f0, f1, f2⟩ := cells3 hrF
  have f3 := ((hm6.set (i := 0) (u := .int .i64 (P1 : Int)) hr6 (by decide) (by decide)).set (i := 1) (u := .int .i64 (L : Int)) h1 (by decide) (by decide)).set (i := 2) (u := .int .i64 1) h2 (by decide) (by decide)
  have f4 := ((hk6.set (i := 0) (u := .int .i64 (P1 : Int)) (b := w.heap.size + 1) (by omega)).set (i := 1) (u := .int .i64 (L : Int)) (b := w.heap.size + 1) (by omega)).set (i := 2) (u := .int .i64 1) (b := w.heap.size + 1) (by omega)
  refine bodyPost_ret (v := .tuple #[.agg #[.int .i64 (P1 : Int), .int .i64 (L : Int), .int .i64 1], .slice a6 xs.length c6, .int .i64 0]) ?_ rfl ⟨a6, c6, rfl, ?_, ?_⟩
  · simp [results, asAddr, Result.andThen, go_sem, f0, f1, f2]
  · exact f3
  · exact f4
/-- What a tree without the key is. -/
def Out (ps ps2 : List ByteArray) (most size : Nat) (nl : List Cl) (A K C : Int) : Prop :=
  (nl = [] ∧ A = 0 ∧ K = 0 ∧ C = 0 ∧ ps2 = ps) ∨ ((nl ≠ [] ∧ A = ((ps.length + 1 : Nat) : Int) ∧ K = (nl.length : Int) ∧ C = 1 ∧ ps2 = ps ++ [strOfNums (nodeB 1 nl)]) ∧ ps.length < most ∧ (∀ c ∈ nl, c.ok) ∧ (∀ c ∈ nl, c.count ≤ 2147483647) ∧ (nodeB 1 nl).length ≤ size ∧ nl.length ≤ 8000000)
theorem cells_nil : Cells w (.slice none 0 0) [] := ⟨none, 0, rfl, ⟨fun _ => rfl, by simp⟩, .inl rfl⟩
theorem change_none (h : IsMem w m ps most size) (hs1 : 480 ≤ size) (hs2 : size ≤ 1000000) (hpl : ps.length ≤ 1000000) {w1 w2 : World} {q p mb n1 : Nat} {S : Int → Bool} {vS : Value} {id keys i : Nat} {a : Option Addr} {n c : Nat} {l : List Cl}
    (hP : Pth w1 w2 m size q p mb n1 S vS true id keys (.slice a n c) i) (hcl : Cells w2 (.slice a n c) l) (hn1 : n1 ≤ 1000000) (hi : i < l.length) (hpg : (l.getD i cl0).page = 0) (hll : l.length ≤ 1000000) (xs : List Int) (hp : xs.Pairwise (fun a b => a < b)) (hx : ∀ x, x ∈ xs ↔ S x = true)
    (nl : List Cl) (hnl : l.take i ++ l.drop (i + 1) = nl) {ps2 : List ByteArray} {A K C : Int} (ho : Out ps ps2 most size nl A K C)
    (hB2 : Below w.heap.size w w2) (hs : w.heap.size ≤ w2.heap.size) {r : Nat} (hr : w2.heap[r]? = some (.cells #[.int .i64 0, .int .i64 0, .int .i64 0] 31 (0, 0))) :
    Calls Tryz.prog 41 #[.pointer (some ⟨q, 0, none⟩), .slice none 0 0] w2 fun e w' => ∃ a2 c2, e = .returned (.tuple #[.agg #[.int .i64 A, .int .i64 K, .int .i64 C], .slice a2 xs.length c2, .int .i64 0]) ∧ IsMem w' m ps2 most size ∧ Kl m w w' ∧ w'.heap[r]? = some (.cells #[.int .i64 0, .int .i64 0, .int .i64 0] 31 (0, 0)) := by
  have hmW := h.grow hB2
  refine (change_of (ps2 := ps2) hP.path hP.step hP.walk hmW hP.met hn1 hcl (by omega) (fun _ => ⟨hi, hpg⟩) hll _ _ cells_nil (by simp) xs hp hx A K C (fun W2 v2 hW2 ho2 => ?_)).mono ?_
  · rw [List.append_nil] at ho2
    change OwnC W2 w2.heap.size v2 (l.take i ++ l.drop (i + 1)) at ho2
    rw [hnl] at ho2
    obtain ⟨a4, c4, rfl⟩ := ho2.shape
    have hqW := hP.path
    rcases ho with ⟨h0, rfl, rfl, rfl, rfl⟩ | ⟨⟨h0, rfl, rfl, rfl, rfl⟩, hmo, hok, hcn, hlen, hl⟩
    · subst h0
      refine (rebuild_empty (hqW.keep (hW2.block _ hqW.lt)) (hP.step.grow hW2) a4 c4).mono ?_
      rintro e w' ⟨rfl, hb⟩
      exact ⟨rfl, (hmW.grow hW2).grow hb, Kl.of_below hb⟩
    · exact rebuild_ok (hqW.keep (hW2.block _ hqW.lt)) (hP.step.grow hW2) (hP.walk.keep (hW2.block _ hP.walk.lt)) (hmW.grow hW2) hs1 hs2 hmo hpl _ a4 _ c4 nl ho2 h0 hok hcn hlen hl
  · rintro e w' ⟨a2, c2, rfl, hm', hk'⟩
    exact ⟨a2, c2, rfl, hm', (Kl.of_below hB2).trans hk', hk'.cells hmW hr (by decide) (by decide)⟩
set_option maxRecDepth 100000 in
set_option maxHeartbeats 4000000 in
theorem delete_of (h : IsMem w m ps most size) (hs1 : 480 ≤ size) (hs2 : size ≤ 1000000) (hpl : ps.length ≤ 1000000) (A K C : Int) (k : ByteArray) {n1 : Nat} {S : Int → Bool} {id keys i : Nat} {l : List Cl}
    (hfi : Finds w m size A K C k ⟨#[]⟩ n1 S true id keys i l) (hn1 : n1 ≤ 1000000) (hi : i < l.length) (hpg : (l.getD i cl0).page = 0) (hll : l.length ≤ 1000000) (xs : List Int) (hp : xs.Pairwise (fun a b => a < b)) (hx : ∀ x, x ∈ xs ↔ S x = true)
    (nl : List Cl) (hnl : l.take i ++ l.drop (i + 1) = nl) {ps2 : List ByteArray} {A2 K2 C2 : Int} (ho : Out ps ps2 most size nl A2 K2 C2) :
    Calls Tryz.prog 27 #[.iface 26 (.pointer (some ⟨m, 0, none⟩)), .agg #[.int .i64 A, .int .i64 K, .int .i64 C], .string k] w fun e w' => ∃ a2 c2, e = .returned (.tuple #[.agg #[.int .i64 A2, .int .i64 K2, .int .i64 C2], .slice a2 xs.length c2, .int .i64 0]) ∧ IsMem w' m ps2 most size ∧ Kl m w w' := by
  have hfi1 := hfi
  unfold Finds at hfi1
  go_enter Tryz.func27, Tryz.ntmps27
  have hB : Below w.heap.size w ((w.alloc (.cells #[.int .i64 A, .int .i64 K, .int .i64 C] 31)).alloc (.cells #[.int .i64 0, .int .i64 0, .int .i64 0] 31)) := ((Below.refl _ w).alloc (Nat.le_refl _) _).alloc (by simp) _
  have hr : ((w.alloc (.cells #[.int .i64 A, .int .i64 K, .int .i64 C] 31)).alloc (.cells #[.int .i64 0, .int .i64 0, .int .i64 0] 31)).heap[w.heap.size + 1]? = some (.cells #[.int .i64 0, .int .i64 0, .int .i64 0] 31 (0, 0)) := by
    have := heap_alloc_new (w.alloc (.cells #[.int .i64 A, .int .i64 K, .int .i64 C] 31)) (.cells #[.int .i64 0, .int .i64 0, .int .i64 0] 31)
    rwa [World.size_alloc] at this
  have hf1 := hfi1 _ hB
  clear hfi hfi1
  go_wp2_with (first
    | (go_at_call 31; refine hf1.mono ?_; rintro e w2 ⟨q, p, mb, vS, a, n, c, rfl, hP, hcl⟩; have hB2 := hB.trans (hP.below.mono hB.size); have hr2 := (hP.below.block _ (lt_of_block hr)).trans hr; have q2 := hP.path.cells.1.2.2; have hc41 := change_none h hs1 hs2 hpl hP hcl hn1 hi hpg hll xs hp hx nl hnl ho hB2 (Nat.le_trans hB.size hP.below.size) hr2)
    | (go_at_call 41; refine hc41.mono ?_; rintro e w6 ⟨a6, c6, rfl, hm6, hk6, hr6⟩; obtain ⟨z0, z1, z2⟩ := cells3 hr6; have zf0 := frz hr6 0; have zf1 := frz hr6 1; have zf2 := frz hr6 2))
  have h1 := block_setCell (i := 0) (u := .int .i64 A2) hr6
  have h2 := block_setCell (i := 1) (u := .int .i64 K2) h1
  have hrF : _ = some (Obj.cells #[.int .i64 A2, .int .i64 K2, .int .i64 C2] 31 (0, 0)) := block_setCell (i := 2) (u := .int .i64 C2) h2
  obtain ⟨f0, f1, f2⟩ := cells3 hrF
  have f3 := ((hm6.set (i := 0) (u := .int .i64 A2) hr6 (by decide) (by decide)).set (i := 1) (u := .int .i64 K2) h1 (by decide) (by decide)).set (i := 2) (u := .int .i64 C2) h2 (by decide) (by decide)
  have f4 := ((hk6.set (i := 0) (u := .int .i64 A2) (b := w.heap.size + 1) (by omega)).set (i := 1) (u := .int .i64 K2) (b := w.heap.size + 1) (by omega)).set (i := 2) (u := .int .i64 C2) (b := w.heap.size + 1) (by omega)
  refine bodyPost_ret (v := .tuple #[.agg #[.int .i64 A2, .int .i64 K2, .int .i64 C2], .slice a6 xs.length c6, .int .i64 0]) ?_ rfl ⟨a6, c6, rfl, ?_, ?_⟩
  · simp [results, asAddr, Result.andThen, go_sem, f0, f1, f2]
  · exact f3
  · exact f4
set_option maxRecDepth 100000 in
set_option maxHeartbeats 4000000 in
theorem get_of (A K C : Int) (k : ByteArray) {n1 : Nat} {S : Int → Bool} {id keys i : Nat} {l : List Cl}
    (hfi : Finds w m size A K C k ⟨#[]⟩ n1 S true id keys i l) (hi : i < l.length) (hpg : (l.getD i cl0).page = 0) :
    Calls Tryz.prog 16 #[.iface 26 (.pointer (some ⟨m, 0, none⟩)), .agg #[.int .i64 A, .int .i64 K, .int .i64 C], .string k] w fun e w' => e = .returned (.tuple #[.string (l.getD i cl0).val, .bool true, .int .i64 0]) ∧ Below w.heap.size w w' := by
  obtain ⟨vv, hvv⟩ : ∃ vv, Hid (vv = (l.getD i cl0).val) := ⟨_, rfl⟩
  rw [← hvv.out]
  have hfi1 := hfi
  unfold Finds at hfi1
  have hB : Below w.heap.size w (w.alloc (.cells #[.int .i64 A, .int .i64 K, .int .i64 C] 31)) := (Below.refl _ w).alloc (Nat.le_refl _) _
  have hf1 := hfi1 _ hB
  clear hfi hfi1
  go_enter Tryz.func16, Tryz.ntmps16
  go_wp2_with (first
    | (go_at_call 31; refine hf1.mono ?_; rintro e w2 ⟨q, p, mb, vS, a, n, c, rfl, hP, hcl⟩; have hB2 := hB.trans (hP.below.mono hB.size); have q2 := hP.path.cells.1.2.2; have hv32 := pvalue_ok hP.path hP.step hcl hi hpg; rw [← hvv.out] at hv32)
    | (go_at_call 32; refine hv32.mono ?_; rintro e w3 ⟨rfl, hb3⟩))
  go_ret3
  exact ⟨rfl, hB2.trans (hb3.mono (Nat.le_trans hB.size hP.below.size))⟩
end
end Go.Proofs.YtdobleekjiehdaaGreat
