/- The contract of readCell. -/
import Derived.Test.YtdobleekjiehdaaGreatNod
import Derived.Laws.ResultCell
import Derived.Deep.CutBlock
import Derived.Deep.DeepCutAuto
namespace Go.Proofs.YtdobleekjiehdaaGreat
set_option linter.unusedVariables false
open Go.RowKit
/-- What a strip stands at. -/
structure At where
  pl : Nat
  err : Int
def At.text (s : At) (most : Nat) (bs : List Int) : List Int × At := (nextV [] s.err (rdT most (bs.drop s.pl)), ⟨nextP s.pl s.err (rdT most (bs.drop s.pl)), nextE s.err (rdT most (bs.drop s.pl))⟩)
def At.num (s : At) (bs : List Int) : Nat × At := (nextV 0 s.err (rdN true 0 0 (bs.drop s.pl)), ⟨nextP s.pl s.err (rdN true 0 0 (bs.drop s.pl)), nextE s.err (rdN true 0 0 (bs.drop s.pl))⟩)
/-- What readCell reads: the cell, and where the strip is then. -/
def At.cell (s : At) (bs : List Int) : Cl × At :=
  if ((s.text 64 bs).2.num bs).1 = 0 then
    (⟨strOfNums (s.text 64 bs).1, strOfNums (((s.text 64 bs).2.num bs).2.text 16384 bs).1, 0, 0⟩, (((s.text 64 bs).2.num bs).2.text 16384 bs).2)
  else (⟨strOfNums (s.text 64 bs).1, ByteArray.empty, ((s.text 64 bs).2.num bs).1, (((s.text 64 bs).2.num bs).2.num bs).1⟩, (((s.text 64 bs).2.num bs).2.num bs).2)
/-- Is it one? -/
def At.good (s : At) (bs : List Int) : Bool := decide ((s.cell bs).2.err = 0 ∧ (s.cell bs).1.key.toList.isEmpty = false ∧ (s.cell bs).1.page ≤ 9223372036854775807 ∧ (s.cell bs).1.count ≤ 2147483647)
/-- The strip, as the walk wants it. -/
def St (w : World) (lo g : Nat) (bs : List Int) (s : At) : Prop := IsStrip w lo g bs s.pl s.err
section
variable {w W : World} {lo g : Nat} {bs : List Int} {s : At}
theorem St.text_any (hs : St w lo g bs s) (most : Nat) (hm : most ≤ 100000) (hby : IsBytes bs) (hlen : bs.length ≤ 1000000000) :
    Calls Tryz.prog 105 #[.pointer (some ⟨g, 0, none⟩), .int .i64 most] w fun e w' => e = .returned (.string (strOfNums (s.text most bs).1)) ∧ St w' lo g bs (s.text most bs).2 ∧ w.grownBy w' (some g) :=
  stripText_any lo g bs s.pl s.err most w (by omega) (by omega) hs hby hlen
theorem St.num_any (hs : St w lo g bs s) (hby : IsBytes bs) (hlen : bs.length ≤ 1000000000) :
    Calls Tryz.prog 81 #[.pointer (some ⟨g, 0, none⟩)] w fun e w' => e = .returned (.int .u64 ((s.num bs).1 : Nat)) ∧ St w' lo g bs (s.num bs).2 ∧ w.grownBy w' (some g) :=
  stripNumber_any lo g bs s.pl s.err w hs hby hlen
theorem St.lt (hs : St w lo g bs s) : g < w.heap.size := IsStrip.lt hs
theorem St.grow (hs : St w lo g bs s) (hb : Below w.heap.size w W) : St W lo g bs s := (strip_stay hs hb).1
theorem St.set (hs : St w lo g bs s) {r i : Nat} {u : Value} (hr : g < r) : St (w.setCell ⟨r, i, none⟩ u) lo g bs s := strip_other (row := r) hs (grownBy_set (Below.refl _ w) r i u) (.inr hr)
theorem grown_new {r i : Nat} {u : Value} (hg : w.grownBy W (some g)) (hr : w.heap.size ≤ r) : w.grownBy (W.setCell ⟨r, i, none⟩ u) (some g) :=
  ⟨hg.os, hg.tape, hg.output, by simpa using hg.size, fun k hk hne => (Below.heap_setCell _ _ _ _ (by show k ≠ r; omega)).trans (hg.block k hk hne)⟩
theorem grown_alloc {o : Obj} (hg : w.grownBy W (some g)) : w.grownBy (W.alloc o) (some g) :=
  ⟨hg.os, hg.tape, hg.output, by simp; exact Nat.le_succ_of_le hg.size, fun k hk hne => (((Below.refl _ W).alloc (Nat.le_refl _) o).block k (Nat.lt_of_lt_of_le hk hg.size)).trans (hg.block k hk hne)⟩
theorem grown_trans {W' : World} (hg : w.grownBy W (some g)) (hk : W.grownBy W' (some g)) : w.grownBy W' (some g) :=
  ⟨hk.os.trans hg.os, hk.tape.trans hg.tape, hk.output.trans hg.output, Nat.le_trans hg.size hk.size, fun k hl hne => (hk.block k (Nat.lt_of_lt_of_le hl hg.size) hne).trans (hg.block k hl hne)⟩
/-- A cell's box. -/
def Bc (w : World) (b : Nat) (c : Array Value) : Prop := w.heap[b]? = some (.cells c 90 (0, 0))
theorem Bc.keep {b : Nat} {c : Array Value} (h : Bc w b c) (hg : w.grownBy W (some g)) (hb : g ≠ b) : Bc W b c := (hg.block b (lt_of_block h) (by simp; omega)).trans h
theorem Bc.alloc {b : Nat} {c : Array Value} (h : Bc w b c) (o : Obj) : Bc (w.alloc o) b c := (((Below.refl _ w).alloc (Nat.le_refl _) o).block b (lt_of_block h)).trans h
theorem Bc.set {b : Nat} {c : Array Value} (h : Bc w b c) (i : Nat) (u : Value) : Bc (w.setCell ⟨b, i, none⟩ u) b (c.setIfInBounds i u) := block_setCell h
theorem Bc.other {b r i : Nat} {c : Array Value} {u : Value} (h : Bc w b c) (hr : b ≠ r) : Bc (w.setCell ⟨r, i, none⟩ u) b c := (Below.heap_setCell _ _ _ _ hr).trans h
theorem Bc.at {b : Nat} {a0 a1 a2 a3 : Value} (h : Bc w b #[a0, a1, a2, a3]) : (w.cell? ⟨b, 0, none⟩ = some a0 ∧ w.cell? ⟨b, 1, none⟩ = some a1 ∧ w.cell? ⟨b, 2, none⟩ = some a2 ∧ w.cell? ⟨b, 3, none⟩ = some a3) ∧ ∀ i, w.frozen? ⟨b, i, none⟩ = false := by
  refine ⟨cells4 h, fun i => ?_⟩
  unfold Bc at h
  simp [World.frozen?, h]
set_option maxRecDepth 100000 in
set_option maxHeartbeats 4000000 in
theorem readCell_A1 (hs : St w lo g bs s) (hby : IsBytes bs) (hlen : bs.length ≤ 1000000000) (T : List Int) (s1 : At) (hT : s.text 64 bs = (T, s1)) (P : Nat) (s2 : At) (hP : s1.num bs = (P, s2)) (hp : P = 0) (V : List Int) (s3 : At) (hV : s2.text 16384 bs = (V, s3)) (he : s3.err ≠ 0) :
    Calls Tryz.prog 83 #[.pointer (some ⟨g, 0, none⟩)] w fun e w' => e = .returned (.tuple #[.agg #[.string ⟨#[]⟩, .string ⟨#[]⟩, .int .i64 0, .int .i64 0], .bool false]) ∧ St w' lo g bs s3 ∧ w.grownBy w' (some g) := by
  obtain ⟨K, hK⟩ : ∃ K, strOfNums T = K := ⟨_, rfl⟩
  have hgl := hs.lt
  have hr0 : Bc (w.alloc (.cells #[.string ⟨#[]⟩, .string ⟨#[]⟩, .int .i64 0, .int .i64 0] 90)) w.heap.size #[.string ⟨#[]⟩, .string ⟨#[]⟩, .int .i64 0, .int .i64 0] := heap_alloc_new w _
  have hg0 : w.grownBy (w.alloc (.cells #[.string ⟨#[]⟩, .string ⟨#[]⟩, .int .i64 0, .int .i64 0] 90)) (some g) := grown_alloc ⟨rfl, rfl, rfl, Nat.le_refl _, fun _ _ _ => rfl⟩
  have hT1 := (hs.grow ((Below.refl _ w).alloc (Nat.le_refl _) (.cells #[.string ⟨#[]⟩, .string ⟨#[]⟩, .int .i64 0, .int .i64 0] 90))).text_any 64 (by omega) hby hlen
  rw [hT] at hT1
  simp only [hK] at hT1
  have hN : ∀ W, St W lo g bs s1 → Calls Tryz.prog 81 #[.pointer (some ⟨g, 0, none⟩)] W fun e w' => e = .returned (.int .u64 (P : Nat)) ∧ St w' lo g bs s2 ∧ W.grownBy w' (some g) := fun W hW => by
    have := hW.num_any hby hlen
    rw [hP] at this
    exact this
  replace hN : Hid _ := hN
  go_enter Tryz.func83, Tryz.ntmps83
  go_upto_region 2 with (first | (go_at_call 105; refine hT1.mono ?_; rintro e w1 ⟨rfl, hs1, hg1⟩))
  have hgw : w.heap.size < w1.heap.size := by have := hg1.size; simp at this; omega
  have hr1 := (hr0.keep hg1 (by omega)).alloc (.cells #[.string K, .string ⟨#[]⟩, .int .i64 0, .int .i64 0] 90)
  have hc1 : Bc (w1.alloc (.cells #[.string K, .string ⟨#[]⟩, .int .i64 0, .int .i64 0] 90)) w1.heap.size #[.string K, .string ⟨#[]⟩, .int .i64 0, .int .i64 0] := heap_alloc_new w1 _
  have hg2 := grown_alloc (o := .cells #[.string K, .string ⟨#[]⟩, .int .i64 0, .int .i64 0] 90) (grown_trans hg0 hg1)
  have hs2 := hs1.grow ((Below.refl _ w1).alloc (Nat.le_refl _) (.cells #[.string K, .string ⟨#[]⟩, .int .i64 0, .int .i64 0] 90))
  generalize w1.alloc (.cells #[.string K, .string ⟨#[]⟩, .int .i64 0, .int .i64 0] 90) = W2 at *
  generalize w1.heap.size = cb at *
  clear hT1 hr0 hg0 hs1 hg1
  go_upto_region 3 with (first | (go_at_call 81; refine Calls.mono (hN.out _ hs2) ?_; rintro e w3 ⟨rfl, hs3, hg3⟩))
  have hr3 := hr1.keep hg3 (by omega)
  have hc3 := hc1.keep hg3 (by omega)
  have hg3' := grown_trans hg2 hg3
  clear hN hs2 hr1 hc1 hg2 hg3
  obtain ⟨X, hX⟩ : ∃ X, strOfNums V = X := ⟨_, rfl⟩
  have hpb : ((P : Int) == 0) = true := by simp [hp]
  have hT2 := hs3.text_any 16384 (by omega) hby hlen
  rw [hV] at hT2
  simp only [hX] at hT2
  obtain ⟨⟨a0, a1, a2, a3⟩, af⟩ := hc3.at
  go_upto_region 6 with (first | (go_at_call 105; refine hT2.mono ?_; rintro e w4 ⟨rfl, hs4, hg4⟩; obtain ⟨⟨b0, b1, b2, b3⟩, bf⟩ := (hc3.keep hg4 (by omega)).at; have bf1 := bf 1))
  have hs5 : St (w4.setCell ⟨cb, 1, none⟩ (.string X)) lo g bs s3 := hs4.set (by omega)
  have hr5 : Bc (w4.setCell ⟨cb, 1, none⟩ (.string X)) w.heap.size _ := (hr3.keep hg4 (by omega)).other (by omega)
  have hc5 : Bc (w4.setCell ⟨cb, 1, none⟩ (.string X)) cb #[.string K, .string X, .int .i64 0, .int .i64 0] := (hc3.keep hg4 (by omega)).set 1 (.string X)
  have hg5 : w.grownBy (w4.setCell ⟨cb, 1, none⟩ (.string X)) (some g) := grown_new (grown_trans hg3' hg4) (by omega)
  clear hT2 hs3 hr3 hc3 hg3' hs4 hg4 a0 a1 a2 a3 af b0 b1 b2 b3 bf bf1
  generalize w4.setCell ⟨cb, 1, none⟩ (.string X) = W5 at *
  have hbad := bad_any lo g bs s3.pl s3.err W5 hs5
  go_upto_region 7 with (first | (go_at_call 106; refine hbad.mono ?_; rintro e w6 ⟨rfl, m6, rfl⟩))
  have hs6 : St (W5.drewN m6) lo g bs s3 := hs5.grow (below_draw W5 m6)
  have hr6 : Bc (W5.drewN m6) w.heap.size _ := hr5
  have hc6 : Bc (W5.drewN m6) cb _ := hc5
  have hg6 : w.grownBy (W5.drewN m6) (some g) := ⟨hg5.os, hg5.tape, hg5.output, hg5.size, hg5.block⟩
  clear hbad hs5 hr5 hc5 hg5
  generalize W5.drewN m6 = W6 at *
  obtain ⟨⟨a0, a1, a2, a3⟩, af⟩ := hc6.at
  obtain ⟨⟨r0, r1, r2, r3⟩, rf⟩ := hr6.at
  have rf0 := rf 0
  have rf1 := rf 1
  have rf2 := rf 2
  have rf3 := rf 3
  have af2 := af 2
  have af3 := af 3
  clear rf af
  have e1 : (s3.err != 0) = true := by simpa using he
  go_wp2_with fail
  have hrF : Bc _ w.heap.size #[.string ⟨#[]⟩, .string ⟨#[]⟩, .int .i64 0, .int .i64 0] := ((((hr6.set 0 (.string ⟨#[]⟩)).set 1 (.string ⟨#[]⟩)).set 2 (.int .i64 0)).set 3 (.int .i64 0))
  obtain ⟨⟨f0, f1, f2, f3⟩, _⟩ := hrF.at
  refine bodyPost_ret (v := .tuple #[.agg #[.string ⟨#[]⟩, .string ⟨#[]⟩, .int .i64 0, .int .i64 0], .bool false]) ?_ rfl ⟨by first | rfl | (rw [hK, hX]; done) | (rw [hK]; done), ?_, ?_⟩
  · rw [results_cell_tmp rfl]; simp [asAddr, Result.andThen, go_sem, f0, f1, f2, f3]
  · exact St.set (St.set (St.set (St.set (hs6) (by omega)) (by omega)) (by omega)) (by omega)
  · exact grown_new (grown_new (grown_new (grown_new (hg6) (by omega)) (by omega)) (by omega)) (by omega)
set_option maxRecDepth 100000 in
set_option maxHeartbeats 4000000 in
theorem readCell_A2 (hs : St w lo g bs s) (hby : IsBytes bs) (hlen : bs.length ≤ 1000000000) (T : List Int) (s1 : At) (hT : s.text 64 bs = (T, s1)) (P : Nat) (s2 : At) (hP : s1.num bs = (P, s2)) (hp : P = 0) (V : List Int) (s3 : At) (hV : s2.text 16384 bs = (V, s3)) (he : s3.err = 0) (hk : (strOfNums T).toList.isEmpty = true) :
    Calls Tryz.prog 83 #[.pointer (some ⟨g, 0, none⟩)] w fun e w' => e = .returned (.tuple #[.agg #[.string ⟨#[]⟩, .string ⟨#[]⟩, .int .i64 0, .int .i64 0], .bool false]) ∧ St w' lo g bs s3 ∧ w.grownBy w' (some g) := by
  obtain ⟨K, hK⟩ : ∃ K, strOfNums T = K := ⟨_, rfl⟩
  have hgl := hs.lt
  have hr0 : Bc (w.alloc (.cells #[.string ⟨#[]⟩, .string ⟨#[]⟩, .int .i64 0, .int .i64 0] 90)) w.heap.size #[.string ⟨#[]⟩, .string ⟨#[]⟩, .int .i64 0, .int .i64 0] := heap_alloc_new w _
  have hg0 : w.grownBy (w.alloc (.cells #[.string ⟨#[]⟩, .string ⟨#[]⟩, .int .i64 0, .int .i64 0] 90)) (some g) := grown_alloc ⟨rfl, rfl, rfl, Nat.le_refl _, fun _ _ _ => rfl⟩
  have hT1 := (hs.grow ((Below.refl _ w).alloc (Nat.le_refl _) (.cells #[.string ⟨#[]⟩, .string ⟨#[]⟩, .int .i64 0, .int .i64 0] 90))).text_any 64 (by omega) hby hlen
  rw [hT] at hT1
  simp only [hK] at hT1
  have hN : ∀ W, St W lo g bs s1 → Calls Tryz.prog 81 #[.pointer (some ⟨g, 0, none⟩)] W fun e w' => e = .returned (.int .u64 (P : Nat)) ∧ St w' lo g bs s2 ∧ W.grownBy w' (some g) := fun W hW => by
    have := hW.num_any hby hlen
    rw [hP] at this
    exact this
  replace hN : Hid _ := hN
  go_enter Tryz.func83, Tryz.ntmps83
  go_upto_region 2 with (first | (go_at_call 105; refine hT1.mono ?_; rintro e w1 ⟨rfl, hs1, hg1⟩))
  have hgw : w.heap.size < w1.heap.size := by have := hg1.size; simp at this; omega
  have hr1 := (hr0.keep hg1 (by omega)).alloc (.cells #[.string K, .string ⟨#[]⟩, .int .i64 0, .int .i64 0] 90)
  have hc1 : Bc (w1.alloc (.cells #[.string K, .string ⟨#[]⟩, .int .i64 0, .int .i64 0] 90)) w1.heap.size #[.string K, .string ⟨#[]⟩, .int .i64 0, .int .i64 0] := heap_alloc_new w1 _
  have hg2 := grown_alloc (o := .cells #[.string K, .string ⟨#[]⟩, .int .i64 0, .int .i64 0] 90) (grown_trans hg0 hg1)
  have hs2 := hs1.grow ((Below.refl _ w1).alloc (Nat.le_refl _) (.cells #[.string K, .string ⟨#[]⟩, .int .i64 0, .int .i64 0] 90))
  generalize w1.alloc (.cells #[.string K, .string ⟨#[]⟩, .int .i64 0, .int .i64 0] 90) = W2 at *
  generalize w1.heap.size = cb at *
  clear hT1 hr0 hg0 hs1 hg1
  go_upto_region 3 with (first | (go_at_call 81; refine Calls.mono (hN.out _ hs2) ?_; rintro e w3 ⟨rfl, hs3, hg3⟩))
  have hr3 := hr1.keep hg3 (by omega)
  have hc3 := hc1.keep hg3 (by omega)
  have hg3' := grown_trans hg2 hg3
  clear hN hs2 hr1 hc1 hg2 hg3
  obtain ⟨X, hX⟩ : ∃ X, strOfNums V = X := ⟨_, rfl⟩
  have hpb : ((P : Int) == 0) = true := by simp [hp]
  have hT2 := hs3.text_any 16384 (by omega) hby hlen
  rw [hV] at hT2
  simp only [hX] at hT2
  obtain ⟨⟨a0, a1, a2, a3⟩, af⟩ := hc3.at
  go_upto_region 6 with (first | (go_at_call 105; refine hT2.mono ?_; rintro e w4 ⟨rfl, hs4, hg4⟩; obtain ⟨⟨b0, b1, b2, b3⟩, bf⟩ := (hc3.keep hg4 (by omega)).at; have bf1 := bf 1))
  have hs5 : St (w4.setCell ⟨cb, 1, none⟩ (.string X)) lo g bs s3 := hs4.set (by omega)
  have hr5 : Bc (w4.setCell ⟨cb, 1, none⟩ (.string X)) w.heap.size _ := (hr3.keep hg4 (by omega)).other (by omega)
  have hc5 : Bc (w4.setCell ⟨cb, 1, none⟩ (.string X)) cb #[.string K, .string X, .int .i64 0, .int .i64 0] := (hc3.keep hg4 (by omega)).set 1 (.string X)
  have hg5 : w.grownBy (w4.setCell ⟨cb, 1, none⟩ (.string X)) (some g) := grown_new (grown_trans hg3' hg4) (by omega)
  clear hT2 hs3 hr3 hc3 hg3' hs4 hg4 a0 a1 a2 a3 af b0 b1 b2 b3 bf bf1
  generalize w4.setCell ⟨cb, 1, none⟩ (.string X) = W5 at *
  have hbad := bad_any lo g bs s3.pl s3.err W5 hs5
  go_upto_region 7 with (first | (go_at_call 106; refine hbad.mono ?_; rintro e w6 ⟨rfl, m6, rfl⟩))
  have hs6 : St (W5.drewN m6) lo g bs s3 := hs5.grow (below_draw W5 m6)
  have hr6 : Bc (W5.drewN m6) w.heap.size _ := hr5
  have hc6 : Bc (W5.drewN m6) cb _ := hc5
  have hg6 : w.grownBy (W5.drewN m6) (some g) := ⟨hg5.os, hg5.tape, hg5.output, hg5.size, hg5.block⟩
  clear hbad hs5 hr5 hc5 hg5
  generalize W5.drewN m6 = W6 at *
  obtain ⟨⟨a0, a1, a2, a3⟩, af⟩ := hc6.at
  obtain ⟨⟨r0, r1, r2, r3⟩, rf⟩ := hr6.at
  have rf0 := rf 0
  have rf1 := rf 1
  have rf2 := rf 2
  have rf3 := rf 3
  have af2 := af 2
  have af3 := af 3
  clear rf af
  have e1 : (s3.err != 0) = false := by simpa using he
  rw [hK] at hk
  go_wp2_with fail
  have hrF : Bc _ w.heap.size #[.string ⟨#[]⟩, .string ⟨#[]⟩, .int .i64 0, .int .i64 0] := ((((hr6.set 0 (.string ⟨#[]⟩)).set 1 (.string ⟨#[]⟩)).set 2 (.int .i64 0)).set 3 (.int .i64 0))
  obtain ⟨⟨f0, f1, f2, f3⟩, _⟩ := hrF.at
  refine bodyPost_ret (v := .tuple #[.agg #[.string ⟨#[]⟩, .string ⟨#[]⟩, .int .i64 0, .int .i64 0], .bool false]) ?_ rfl ⟨by first | rfl | (rw [hK, hX]; done) | (rw [hK]; done), ?_, ?_⟩
  · rw [results_cell_tmp rfl]; simp [asAddr, Result.andThen, go_sem, f0, f1, f2, f3]
  · exact St.set (St.set (St.set (St.set (hs6) (by omega)) (by omega)) (by omega)) (by omega)
  · exact grown_new (grown_new (grown_new (grown_new (hg6) (by omega)) (by omega)) (by omega)) (by omega)
set_option maxRecDepth 100000 in
set_option maxHeartbeats 4000000 in
theorem readCell_A3 (hs : St w lo g bs s) (hby : IsBytes bs) (hlen : bs.length ≤ 1000000000) (T : List Int) (s1 : At) (hT : s.text 64 bs = (T, s1)) (P : Nat) (s2 : At) (hP : s1.num bs = (P, s2)) (hp : P = 0) (V : List Int) (s3 : At) (hV : s2.text 16384 bs = (V, s3)) (he : s3.err = 0) (hk : (strOfNums T).toList.isEmpty = false) :
    Calls Tryz.prog 83 #[.pointer (some ⟨g, 0, none⟩)] w fun e w' => e = .returned (.tuple #[.agg #[.string (strOfNums T), .string (strOfNums V), .int .i64 0, .int .i64 0], .bool true]) ∧ St w' lo g bs s3 ∧ w.grownBy w' (some g) := by
  obtain ⟨K, hK⟩ : ∃ K, strOfNums T = K := ⟨_, rfl⟩
  have hgl := hs.lt
  have hr0 : Bc (w.alloc (.cells #[.string ⟨#[]⟩, .string ⟨#[]⟩, .int .i64 0, .int .i64 0] 90)) w.heap.size #[.string ⟨#[]⟩, .string ⟨#[]⟩, .int .i64 0, .int .i64 0] := heap_alloc_new w _
  have hg0 : w.grownBy (w.alloc (.cells #[.string ⟨#[]⟩, .string ⟨#[]⟩, .int .i64 0, .int .i64 0] 90)) (some g) := grown_alloc ⟨rfl, rfl, rfl, Nat.le_refl _, fun _ _ _ => rfl⟩
  have hT1 := (hs.grow ((Below.refl _ w).alloc (Nat.le_refl _) (.cells #[.string ⟨#[]⟩, .string ⟨#[]⟩, .int .i64 0, .int .i64 0] 90))).text_any 64 (by omega) hby hlen
  rw [hT] at hT1
  simp only [hK] at hT1
  have hN : ∀ W, St W lo g bs s1 → Calls Tryz.prog 81 #[.pointer (some ⟨g, 0, none⟩)] W fun e w' => e = .returned (.int .u64 (P : Nat)) ∧ St w' lo g bs s2 ∧ W.grownBy w' (some g) := fun W hW => by
    have := hW.num_any hby hlen
    rw [hP] at this
    exact this
  replace hN : Hid _ := hN
  go_enter Tryz.func83, Tryz.ntmps83
  go_upto_region 2 with (first | (go_at_call 105; refine hT1.mono ?_; rintro e w1 ⟨rfl, hs1, hg1⟩))
  have hgw : w.heap.size < w1.heap.size := by have := hg1.size; simp at this; omega
  have hr1 := (hr0.keep hg1 (by omega)).alloc (.cells #[.string K, .string ⟨#[]⟩, .int .i64 0, .int .i64 0] 90)
  have hc1 : Bc (w1.alloc (.cells #[.string K, .string ⟨#[]⟩, .int .i64 0, .int .i64 0] 90)) w1.heap.size #[.string K, .string ⟨#[]⟩, .int .i64 0, .int .i64 0] := heap_alloc_new w1 _
  have hg2 := grown_alloc (o := .cells #[.string K, .string ⟨#[]⟩, .int .i64 0, .int .i64 0] 90) (grown_trans hg0 hg1)
  have hs2 := hs1.grow ((Below.refl _ w1).alloc (Nat.le_refl _) (.cells #[.string K, .string ⟨#[]⟩, .int .i64 0, .int .i64 0] 90))
  generalize w1.alloc (.cells #[.string K, .string ⟨#[]⟩, .int .i64 0, .int .i64 0] 90) = W2 at *
  generalize w1.heap.size = cb at *
  clear hT1 hr0 hg0 hs1 hg1
  go_upto_region 3 with (first | (go_at_call 81; refine Calls.mono (hN.out _ hs2) ?_; rintro e w3 ⟨rfl, hs3, hg3⟩))
  have hr3 := hr1.keep hg3 (by omega)
  have hc3 := hc1.keep hg3 (by omega)
  have hg3' := grown_trans hg2 hg3
  clear hN hs2 hr1 hc1 hg2 hg3
  obtain ⟨X, hX⟩ : ∃ X, strOfNums V = X := ⟨_, rfl⟩
  have hpb : ((P : Int) == 0) = true := by simp [hp]
  have hT2 := hs3.text_any 16384 (by omega) hby hlen
  rw [hV] at hT2
  simp only [hX] at hT2
  obtain ⟨⟨a0, a1, a2, a3⟩, af⟩ := hc3.at
  go_upto_region 6 with (first | (go_at_call 105; refine hT2.mono ?_; rintro e w4 ⟨rfl, hs4, hg4⟩; obtain ⟨⟨b0, b1, b2, b3⟩, bf⟩ := (hc3.keep hg4 (by omega)).at; have bf1 := bf 1))
  have hs5 : St (w4.setCell ⟨cb, 1, none⟩ (.string X)) lo g bs s3 := hs4.set (by omega)
  have hr5 : Bc (w4.setCell ⟨cb, 1, none⟩ (.string X)) w.heap.size _ := (hr3.keep hg4 (by omega)).other (by omega)
  have hc5 : Bc (w4.setCell ⟨cb, 1, none⟩ (.string X)) cb #[.string K, .string X, .int .i64 0, .int .i64 0] := (hc3.keep hg4 (by omega)).set 1 (.string X)
  have hg5 : w.grownBy (w4.setCell ⟨cb, 1, none⟩ (.string X)) (some g) := grown_new (grown_trans hg3' hg4) (by omega)
  clear hT2 hs3 hr3 hc3 hg3' hs4 hg4 a0 a1 a2 a3 af b0 b1 b2 b3 bf bf1
  generalize w4.setCell ⟨cb, 1, none⟩ (.string X) = W5 at *
  have hbad := bad_any lo g bs s3.pl s3.err W5 hs5
  go_upto_region 7 with (first | (go_at_call 106; refine hbad.mono ?_; rintro e w6 ⟨rfl, m6, rfl⟩))
  have hs6 : St (W5.drewN m6) lo g bs s3 := hs5.grow (below_draw W5 m6)
  have hr6 : Bc (W5.drewN m6) w.heap.size _ := hr5
  have hc6 : Bc (W5.drewN m6) cb _ := hc5
  have hg6 : w.grownBy (W5.drewN m6) (some g) := ⟨hg5.os, hg5.tape, hg5.output, hg5.size, hg5.block⟩
  clear hbad hs5 hr5 hc5 hg5
  generalize W5.drewN m6 = W6 at *
  obtain ⟨⟨a0, a1, a2, a3⟩, af⟩ := hc6.at
  obtain ⟨⟨r0, r1, r2, r3⟩, rf⟩ := hr6.at
  have rf0 := rf 0
  have rf1 := rf 1
  have rf2 := rf 2
  have rf3 := rf 3
  have af2 := af 2
  have af3 := af 3
  clear rf af
  have e1 : (s3.err != 0) = false := by simpa using he
  rw [hK] at hk
  have hk1 : ¬ K.toList = [] := fun e => by rw [e] at hk; simp at hk
  go_wp2_with fail
  have hrF : Bc _ w.heap.size #[.string K, .string X, .int .i64 0, .int .i64 0] := ((((((hr6.other (r := cb) (i := 2) (u := .int .i64 0) (by omega)).other (r := cb) (i := 3) (u := .int .i64 0) (by omega)).set 0 (.string K)).set 1 (.string X)).set 2 (.int .i64 0)).set 3 (.int .i64 0))
  obtain ⟨⟨f0, f1, f2, f3⟩, _⟩ := hrF.at
  refine bodyPost_ret (v := .tuple #[.agg #[.string K, .string X, .int .i64 0, .int .i64 0], .bool true]) ?_ rfl ⟨by first | rfl | (rw [hK, hX]; done) | (rw [hK]; done), ?_, ?_⟩
  · rw [results_cell_tmp rfl]; simp [asAddr, Result.andThen, go_sem, f0, f1, f2, f3]
  · exact St.set (St.set (St.set (St.set (St.set (St.set (hs6) (by omega)) (by omega)) (by omega)) (by omega)) (by omega)) (by omega)
  · exact grown_new (grown_new (grown_new (grown_new (grown_new (grown_new (hg6) (by omega)) (by omega)) (by omega)) (by omega)) (by omega)) (by omega)
set_option maxRecDepth 100000 in
set_option maxHeartbeats 4000000 in
theorem readCell_B1 (hs : St w lo g bs s) (hby : IsBytes bs) (hlen : bs.length ≤ 1000000000) (T : List Int) (s1 : At) (hT : s.text 64 bs = (T, s1)) (P : Nat) (s2 : At) (hP : s1.num bs = (P, s2)) (hp : P ≠ 0) (Cn : Nat) (s3 : At) (hC : s2.num bs = (Cn, s3)) (he : s3.err ≠ 0) :
    Calls Tryz.prog 83 #[.pointer (some ⟨g, 0, none⟩)] w fun e w' => e = .returned (.tuple #[.agg #[.string ⟨#[]⟩, .string ⟨#[]⟩, .int .i64 0, .int .i64 0], .bool false]) ∧ St w' lo g bs s3 ∧ w.grownBy w' (some g) := by
  obtain ⟨K, hK⟩ : ∃ K, strOfNums T = K := ⟨_, rfl⟩
  have hgl := hs.lt
  have hr0 : Bc (w.alloc (.cells #[.string ⟨#[]⟩, .string ⟨#[]⟩, .int .i64 0, .int .i64 0] 90)) w.heap.size #[.string ⟨#[]⟩, .string ⟨#[]⟩, .int .i64 0, .int .i64 0] := heap_alloc_new w _
  have hg0 : w.grownBy (w.alloc (.cells #[.string ⟨#[]⟩, .string ⟨#[]⟩, .int .i64 0, .int .i64 0] 90)) (some g) := grown_alloc ⟨rfl, rfl, rfl, Nat.le_refl _, fun _ _ _ => rfl⟩
  have hT1 := (hs.grow ((Below.refl _ w).alloc (Nat.le_refl _) (.cells #[.string ⟨#[]⟩, .string ⟨#[]⟩, .int .i64 0, .int .i64 0] 90))).text_any 64 (by omega) hby hlen
  rw [hT] at hT1
  simp only [hK] at hT1
  have hN : ∀ W, St W lo g bs s1 → Calls Tryz.prog 81 #[.pointer (some ⟨g, 0, none⟩)] W fun e w' => e = .returned (.int .u64 (P : Nat)) ∧ St w' lo g bs s2 ∧ W.grownBy w' (some g) := fun W hW => by
    have := hW.num_any hby hlen
    rw [hP] at this
    exact this
  replace hN : Hid _ := hN
  go_enter Tryz.func83, Tryz.ntmps83
  go_upto_region 2 with (first | (go_at_call 105; refine hT1.mono ?_; rintro e w1 ⟨rfl, hs1, hg1⟩))
  have hgw : w.heap.size < w1.heap.size := by have := hg1.size; simp at this; omega
  have hr1 := (hr0.keep hg1 (by omega)).alloc (.cells #[.string K, .string ⟨#[]⟩, .int .i64 0, .int .i64 0] 90)
  have hc1 : Bc (w1.alloc (.cells #[.string K, .string ⟨#[]⟩, .int .i64 0, .int .i64 0] 90)) w1.heap.size #[.string K, .string ⟨#[]⟩, .int .i64 0, .int .i64 0] := heap_alloc_new w1 _
  have hg2 := grown_alloc (o := .cells #[.string K, .string ⟨#[]⟩, .int .i64 0, .int .i64 0] 90) (grown_trans hg0 hg1)
  have hs2 := hs1.grow ((Below.refl _ w1).alloc (Nat.le_refl _) (.cells #[.string K, .string ⟨#[]⟩, .int .i64 0, .int .i64 0] 90))
  generalize w1.alloc (.cells #[.string K, .string ⟨#[]⟩, .int .i64 0, .int .i64 0] 90) = W2 at *
  generalize w1.heap.size = cb at *
  clear hT1 hr0 hg0 hs1 hg1
  go_upto_region 3 with (first | (go_at_call 81; refine Calls.mono (hN.out _ hs2) ?_; rintro e w3 ⟨rfl, hs3, hg3⟩))
  have hr3 := hr1.keep hg3 (by omega)
  have hc3 := hc1.keep hg3 (by omega)
  have hg3' := grown_trans hg2 hg3
  clear hN hs2 hr1 hc1 hg2 hg3
  have hpb : ((P : Int) == 0) = false := by simp; omega
  have hT2 := hs3.num_any hby hlen
  rw [hC] at hT2
  go_upto_region 6 with (first | (go_at_call 81; refine hT2.mono ?_; rintro e w4 ⟨rfl, hs5, hg4⟩))
  have hr5 : Bc w4 w.heap.size _ := hr3.keep hg4 (by omega)
  have hc5 : Bc w4 cb #[.string K, .string ⟨#[]⟩, .int .i64 0, .int .i64 0] := hc3.keep hg4 (by omega)
  have hg5 : w.grownBy w4 (some g) := grown_trans hg3' hg4
  clear hT2 hs3 hr3 hc3 hg3' hg4
  generalize w4 = W5 at *
  have hbad := bad_any lo g bs s3.pl s3.err W5 hs5
  go_upto_region 7 with (first | (go_at_call 106; refine hbad.mono ?_; rintro e w6 ⟨rfl, m6, rfl⟩))
  have hs6 : St (W5.drewN m6) lo g bs s3 := hs5.grow (below_draw W5 m6)
  have hr6 : Bc (W5.drewN m6) w.heap.size _ := hr5
  have hc6 : Bc (W5.drewN m6) cb _ := hc5
  have hg6 : w.grownBy (W5.drewN m6) (some g) := ⟨hg5.os, hg5.tape, hg5.output, hg5.size, hg5.block⟩
  clear hbad hs5 hr5 hc5 hg5
  generalize W5.drewN m6 = W6 at *
  obtain ⟨⟨a0, a1, a2, a3⟩, af⟩ := hc6.at
  obtain ⟨⟨r0, r1, r2, r3⟩, rf⟩ := hr6.at
  have rf0 := rf 0
  have rf1 := rf 1
  have rf2 := rf 2
  have rf3 := rf 3
  have af2 := af 2
  have af3 := af 3
  clear rf af
  have e1 : (s3.err != 0) = true := by simpa using he
  go_wp2_with fail
  have hrF : Bc _ w.heap.size #[.string ⟨#[]⟩, .string ⟨#[]⟩, .int .i64 0, .int .i64 0] := ((((hr6.set 0 (.string ⟨#[]⟩)).set 1 (.string ⟨#[]⟩)).set 2 (.int .i64 0)).set 3 (.int .i64 0))
  obtain ⟨⟨f0, f1, f2, f3⟩, _⟩ := hrF.at
  refine bodyPost_ret (v := .tuple #[.agg #[.string ⟨#[]⟩, .string ⟨#[]⟩, .int .i64 0, .int .i64 0], .bool false]) ?_ rfl ⟨by first | rfl | (rw [hK, hX]; done) | (rw [hK]; done), ?_, ?_⟩
  · rw [results_cell_tmp rfl]; simp [asAddr, Result.andThen, go_sem, f0, f1, f2, f3]
  · exact St.set (St.set (St.set (St.set (hs6) (by omega)) (by omega)) (by omega)) (by omega)
  · exact grown_new (grown_new (grown_new (grown_new (hg6) (by omega)) (by omega)) (by omega)) (by omega)
set_option maxRecDepth 100000 in
set_option maxHeartbeats 4000000 in
theorem readCell_B2 (hs : St w lo g bs s) (hby : IsBytes bs) (hlen : bs.length ≤ 1000000000) (T : List Int) (s1 : At) (hT : s.text 64 bs = (T, s1)) (P : Nat) (s2 : At) (hP : s1.num bs = (P, s2)) (hp : P ≠ 0) (Cn : Nat) (s3 : At) (hC : s2.num bs = (Cn, s3)) (he : s3.err = 0) (hk : (strOfNums T).toList.isEmpty = true) :
    Calls Tryz.prog 83 #[.pointer (some ⟨g, 0, none⟩)] w fun e w' => e = .returned (.tuple #[.agg #[.string ⟨#[]⟩, .string ⟨#[]⟩, .int .i64 0, .int .i64 0], .bool false]) ∧ St w' lo g bs s3 ∧ w.grownBy w' (some g) := by
  obtain ⟨K, hK⟩ : ∃ K, strOfNums T = K := ⟨_, rfl⟩
  have hgl := hs.lt
  have hr0 : Bc (w.alloc (.cells #[.string ⟨#[]⟩, .string ⟨#[]⟩, .int .i64 0, .int .i64 0] 90)) w.heap.size #[.string ⟨#[]⟩, .string ⟨#[]⟩, .int .i64 0, .int .i64 0] := heap_alloc_new w _
  have hg0 : w.grownBy (w.alloc (.cells #[.string ⟨#[]⟩, .string ⟨#[]⟩, .int .i64 0, .int .i64 0] 90)) (some g) := grown_alloc ⟨rfl, rfl, rfl, Nat.le_refl _, fun _ _ _ => rfl⟩
  have hT1 := (hs.grow ((Below.refl _ w).alloc (Nat.le_refl _) (.cells #[.string ⟨#[]⟩, .string ⟨#[]⟩, .int .i64 0, .int .i64 0] 90))).text_any 64 (by omega) hby hlen
  rw [hT] at hT1
  simp only [hK] at hT1
  have hN : ∀ W, St W lo g bs s1 → Calls Tryz.prog 81 #[.pointer (some ⟨g, 0, none⟩)] W fun e w' => e = .returned (.int .u64 (P : Nat)) ∧ St w' lo g bs s2 ∧ W.grownBy w' (some g) := fun W hW => by
    have := hW.num_any hby hlen
    rw [hP] at this
    exact this
  replace hN : Hid _ := hN
  go_enter Tryz.func83, Tryz.ntmps83
  go_upto_region 2 with (first | (go_at_call 105; refine hT1.mono ?_; rintro e w1 ⟨rfl, hs1, hg1⟩))
  have hgw : w.heap.size < w1.heap.size := by have := hg1.size; simp at this; omega
  have hr1 := (hr0.keep hg1 (by omega)).alloc (.cells #[.string K, .string ⟨#[]⟩, .int .i64 0, .int .i64 0] 90)
  have hc1 : Bc (w1.alloc (.cells #[.string K, .string ⟨#[]⟩, .int .i64 0, .int .i64 0] 90)) w1.heap.size #[.string K, .string ⟨#[]⟩, .int .i64 0, .int .i64 0] := heap_alloc_new w1 _
  have hg2 := grown_alloc (o := .cells #[.string K, .string ⟨#[]⟩, .int .i64 0, .int .i64 0] 90) (grown_trans hg0 hg1)
  have hs2 := hs1.grow ((Below.refl _ w1).alloc (Nat.le_refl _) (.cells #[.string K, .string ⟨#[]⟩, .int .i64 0, .int .i64 0] 90))
  generalize w1.alloc (.cells #[.string K, .string ⟨#[]⟩, .int .i64 0, .int .i64 0] 90) = W2 at *
  generalize w1.heap.size = cb at *
  clear hT1 hr0 hg0 hs1 hg1
  go_upto_region 3 with (first | (go_at_call 81; refine Calls.mono (hN.out _ hs2) ?_; rintro e w3 ⟨rfl, hs3, hg3⟩))
  have hr3 := hr1.keep hg3 (by omega)
  have hc3 := hc1.keep hg3 (by omega)
  have hg3' := grown_trans hg2 hg3
  clear hN hs2 hr1 hc1 hg2 hg3
  have hpb : ((P : Int) == 0) = false := by simp; omega
  have hT2 := hs3.num_any hby hlen
  rw [hC] at hT2
  go_upto_region 6 with (first | (go_at_call 81; refine hT2.mono ?_; rintro e w4 ⟨rfl, hs5, hg4⟩))
  have hr5 : Bc w4 w.heap.size _ := hr3.keep hg4 (by omega)
  have hc5 : Bc w4 cb #[.string K, .string ⟨#[]⟩, .int .i64 0, .int .i64 0] := hc3.keep hg4 (by omega)
  have hg5 : w.grownBy w4 (some g) := grown_trans hg3' hg4
  clear hT2 hs3 hr3 hc3 hg3' hg4
  generalize w4 = W5 at *
  have hbad := bad_any lo g bs s3.pl s3.err W5 hs5
  go_upto_region 7 with (first | (go_at_call 106; refine hbad.mono ?_; rintro e w6 ⟨rfl, m6, rfl⟩))
  have hs6 : St (W5.drewN m6) lo g bs s3 := hs5.grow (below_draw W5 m6)
  have hr6 : Bc (W5.drewN m6) w.heap.size _ := hr5
  have hc6 : Bc (W5.drewN m6) cb _ := hc5
  have hg6 : w.grownBy (W5.drewN m6) (some g) := ⟨hg5.os, hg5.tape, hg5.output, hg5.size, hg5.block⟩
  clear hbad hs5 hr5 hc5 hg5
  generalize W5.drewN m6 = W6 at *
  obtain ⟨⟨a0, a1, a2, a3⟩, af⟩ := hc6.at
  obtain ⟨⟨r0, r1, r2, r3⟩, rf⟩ := hr6.at
  have rf0 := rf 0
  have rf1 := rf 1
  have rf2 := rf 2
  have rf3 := rf 3
  have af2 := af 2
  have af3 := af 3
  clear rf af
  have e1 : (s3.err != 0) = false := by simpa using he
  rw [hK] at hk
  go_wp2_with fail
  have hrF : Bc _ w.heap.size #[.string ⟨#[]⟩, .string ⟨#[]⟩, .int .i64 0, .int .i64 0] := ((((hr6.set 0 (.string ⟨#[]⟩)).set 1 (.string ⟨#[]⟩)).set 2 (.int .i64 0)).set 3 (.int .i64 0))
  obtain ⟨⟨f0, f1, f2, f3⟩, _⟩ := hrF.at
  refine bodyPost_ret (v := .tuple #[.agg #[.string ⟨#[]⟩, .string ⟨#[]⟩, .int .i64 0, .int .i64 0], .bool false]) ?_ rfl ⟨by first | rfl | (rw [hK, hX]; done) | (rw [hK]; done), ?_, ?_⟩
  · rw [results_cell_tmp rfl]; simp [asAddr, Result.andThen, go_sem, f0, f1, f2, f3]
  · exact St.set (St.set (St.set (St.set (hs6) (by omega)) (by omega)) (by omega)) (by omega)
  · exact grown_new (grown_new (grown_new (grown_new (hg6) (by omega)) (by omega)) (by omega)) (by omega)
set_option maxRecDepth 100000 in
set_option maxHeartbeats 4000000 in
theorem readCell_B3 (hs : St w lo g bs s) (hby : IsBytes bs) (hlen : bs.length ≤ 1000000000) (T : List Int) (s1 : At) (hT : s.text 64 bs = (T, s1)) (P : Nat) (s2 : At) (hP : s1.num bs = (P, s2)) (hp : P ≠ 0) (Cn : Nat) (s3 : At) (hC : s2.num bs = (Cn, s3)) (he : s3.err = 0) (hk : (strOfNums T).toList.isEmpty = false) (hm : 9223372036854775807 < P) :
    Calls Tryz.prog 83 #[.pointer (some ⟨g, 0, none⟩)] w fun e w' => e = .returned (.tuple #[.agg #[.string ⟨#[]⟩, .string ⟨#[]⟩, .int .i64 0, .int .i64 0], .bool false]) ∧ St w' lo g bs s3 ∧ w.grownBy w' (some g) := by
  obtain ⟨K, hK⟩ : ∃ K, strOfNums T = K := ⟨_, rfl⟩
  have hgl := hs.lt
  have hr0 : Bc (w.alloc (.cells #[.string ⟨#[]⟩, .string ⟨#[]⟩, .int .i64 0, .int .i64 0] 90)) w.heap.size #[.string ⟨#[]⟩, .string ⟨#[]⟩, .int .i64 0, .int .i64 0] := heap_alloc_new w _
  have hg0 : w.grownBy (w.alloc (.cells #[.string ⟨#[]⟩, .string ⟨#[]⟩, .int .i64 0, .int .i64 0] 90)) (some g) := grown_alloc ⟨rfl, rfl, rfl, Nat.le_refl _, fun _ _ _ => rfl⟩
  have hT1 := (hs.grow ((Below.refl _ w).alloc (Nat.le_refl _) (.cells #[.string ⟨#[]⟩, .string ⟨#[]⟩, .int .i64 0, .int .i64 0] 90))).text_any 64 (by omega) hby hlen
  rw [hT] at hT1
  simp only [hK] at hT1
  have hN : ∀ W, St W lo g bs s1 → Calls Tryz.prog 81 #[.pointer (some ⟨g, 0, none⟩)] W fun e w' => e = .returned (.int .u64 (P : Nat)) ∧ St w' lo g bs s2 ∧ W.grownBy w' (some g) := fun W hW => by
    have := hW.num_any hby hlen
    rw [hP] at this
    exact this
  replace hN : Hid _ := hN
  go_enter Tryz.func83, Tryz.ntmps83
  go_upto_region 2 with (first | (go_at_call 105; refine hT1.mono ?_; rintro e w1 ⟨rfl, hs1, hg1⟩))
  have hgw : w.heap.size < w1.heap.size := by have := hg1.size; simp at this; omega
  have hr1 := (hr0.keep hg1 (by omega)).alloc (.cells #[.string K, .string ⟨#[]⟩, .int .i64 0, .int .i64 0] 90)
  have hc1 : Bc (w1.alloc (.cells #[.string K, .string ⟨#[]⟩, .int .i64 0, .int .i64 0] 90)) w1.heap.size #[.string K, .string ⟨#[]⟩, .int .i64 0, .int .i64 0] := heap_alloc_new w1 _
  have hg2 := grown_alloc (o := .cells #[.string K, .string ⟨#[]⟩, .int .i64 0, .int .i64 0] 90) (grown_trans hg0 hg1)
  have hs2 := hs1.grow ((Below.refl _ w1).alloc (Nat.le_refl _) (.cells #[.string K, .string ⟨#[]⟩, .int .i64 0, .int .i64 0] 90))
  generalize w1.alloc (.cells #[.string K, .string ⟨#[]⟩, .int .i64 0, .int .i64 0] 90) = W2 at *
  generalize w1.heap.size = cb at *
  clear hT1 hr0 hg0 hs1 hg1
  go_upto_region 3 with (first | (go_at_call 81; refine Calls.mono (hN.out _ hs2) ?_; rintro e w3 ⟨rfl, hs3, hg3⟩))
  have hr3 := hr1.keep hg3 (by omega)
  have hc3 := hc1.keep hg3 (by omega)
  have hg3' := grown_trans hg2 hg3
  clear hN hs2 hr1 hc1 hg2 hg3
  have hpb : ((P : Int) == 0) = false := by simp; omega
  have hT2 := hs3.num_any hby hlen
  rw [hC] at hT2
  go_upto_region 6 with (first | (go_at_call 81; refine hT2.mono ?_; rintro e w4 ⟨rfl, hs5, hg4⟩))
  have hr5 : Bc w4 w.heap.size _ := hr3.keep hg4 (by omega)
  have hc5 : Bc w4 cb #[.string K, .string ⟨#[]⟩, .int .i64 0, .int .i64 0] := hc3.keep hg4 (by omega)
  have hg5 : w.grownBy w4 (some g) := grown_trans hg3' hg4
  clear hT2 hs3 hr3 hc3 hg3' hg4
  generalize w4 = W5 at *
  have hbad := bad_any lo g bs s3.pl s3.err W5 hs5
  go_upto_region 7 with (first | (go_at_call 106; refine hbad.mono ?_; rintro e w6 ⟨rfl, m6, rfl⟩))
  have hs6 : St (W5.drewN m6) lo g bs s3 := hs5.grow (below_draw W5 m6)
  have hr6 : Bc (W5.drewN m6) w.heap.size _ := hr5
  have hc6 : Bc (W5.drewN m6) cb _ := hc5
  have hg6 : w.grownBy (W5.drewN m6) (some g) := ⟨hg5.os, hg5.tape, hg5.output, hg5.size, hg5.block⟩
  clear hbad hs5 hr5 hc5 hg5
  generalize W5.drewN m6 = W6 at *
  obtain ⟨⟨a0, a1, a2, a3⟩, af⟩ := hc6.at
  obtain ⟨⟨r0, r1, r2, r3⟩, rf⟩ := hr6.at
  have rf0 := rf 0
  have rf1 := rf 1
  have rf2 := rf 2
  have rf3 := rf 3
  have af2 := af 2
  have af3 := af 3
  clear rf af
  have e1 : (s3.err != 0) = false := by simpa using he
  rw [hK] at hk
  have hk1 : ¬ K.toList = [] := fun e => by rw [e] at hk; simp at hk
  have d3 : decide ((9223372036854775807 : Int) < (P : Int)) = true := by simp; omega
  go_wp2_with fail
  have hrF : Bc _ w.heap.size #[.string ⟨#[]⟩, .string ⟨#[]⟩, .int .i64 0, .int .i64 0] := ((((hr6.set 0 (.string ⟨#[]⟩)).set 1 (.string ⟨#[]⟩)).set 2 (.int .i64 0)).set 3 (.int .i64 0))
  obtain ⟨⟨f0, f1, f2, f3⟩, _⟩ := hrF.at
  refine bodyPost_ret (v := .tuple #[.agg #[.string ⟨#[]⟩, .string ⟨#[]⟩, .int .i64 0, .int .i64 0], .bool false]) ?_ rfl ⟨by first | rfl | (rw [hK, hX]; done) | (rw [hK]; done), ?_, ?_⟩
  · rw [results_cell_tmp rfl]; simp [asAddr, Result.andThen, go_sem, f0, f1, f2, f3]
  · exact St.set (St.set (St.set (St.set (hs6) (by omega)) (by omega)) (by omega)) (by omega)
  · exact grown_new (grown_new (grown_new (grown_new (hg6) (by omega)) (by omega)) (by omega)) (by omega)
set_option maxRecDepth 100000 in
set_option maxHeartbeats 4000000 in
theorem readCell_B4 (hs : St w lo g bs s) (hby : IsBytes bs) (hlen : bs.length ≤ 1000000000) (T : List Int) (s1 : At) (hT : s.text 64 bs = (T, s1)) (P : Nat) (s2 : At) (hP : s1.num bs = (P, s2)) (hp : P ≠ 0) (Cn : Nat) (s3 : At) (hC : s2.num bs = (Cn, s3)) (he : s3.err = 0) (hk : (strOfNums T).toList.isEmpty = false) (hm : P ≤ 9223372036854775807) (hcn : 2147483647 < Cn) :
    Calls Tryz.prog 83 #[.pointer (some ⟨g, 0, none⟩)] w fun e w' => e = .returned (.tuple #[.agg #[.string ⟨#[]⟩, .string ⟨#[]⟩, .int .i64 0, .int .i64 0], .bool false]) ∧ St w' lo g bs s3 ∧ w.grownBy w' (some g) := by
  obtain ⟨K, hK⟩ : ∃ K, strOfNums T = K := ⟨_, rfl⟩
  have hgl := hs.lt
  have hr0 : Bc (w.alloc (.cells #[.string ⟨#[]⟩, .string ⟨#[]⟩, .int .i64 0, .int .i64 0] 90)) w.heap.size #[.string ⟨#[]⟩, .string ⟨#[]⟩, .int .i64 0, .int .i64 0] := heap_alloc_new w _
  have hg0 : w.grownBy (w.alloc (.cells #[.string ⟨#[]⟩, .string ⟨#[]⟩, .int .i64 0, .int .i64 0] 90)) (some g) := grown_alloc ⟨rfl, rfl, rfl, Nat.le_refl _, fun _ _ _ => rfl⟩
  have hT1 := (hs.grow ((Below.refl _ w).alloc (Nat.le_refl _) (.cells #[.string ⟨#[]⟩, .string ⟨#[]⟩, .int .i64 0, .int .i64 0] 90))).text_any 64 (by omega) hby hlen
  rw [hT] at hT1
  simp only [hK] at hT1
  have hN : ∀ W, St W lo g bs s1 → Calls Tryz.prog 81 #[.pointer (some ⟨g, 0, none⟩)] W fun e w' => e = .returned (.int .u64 (P : Nat)) ∧ St w' lo g bs s2 ∧ W.grownBy w' (some g) := fun W hW => by
    have := hW.num_any hby hlen
    rw [hP] at this
    exact this
  replace hN : Hid _ := hN
  go_enter Tryz.func83, Tryz.ntmps83
  go_upto_region 2 with (first | (go_at_call 105; refine hT1.mono ?_; rintro e w1 ⟨rfl, hs1, hg1⟩))
  have hgw : w.heap.size < w1.heap.size := by have := hg1.size; simp at this; omega
  have hr1 := (hr0.keep hg1 (by omega)).alloc (.cells #[.string K, .string ⟨#[]⟩, .int .i64 0, .int .i64 0] 90)
  have hc1 : Bc (w1.alloc (.cells #[.string K, .string ⟨#[]⟩, .int .i64 0, .int .i64 0] 90)) w1.heap.size #[.string K, .string ⟨#[]⟩, .int .i64 0, .int .i64 0] := heap_alloc_new w1 _
  have hg2 := grown_alloc (o := .cells #[.string K, .string ⟨#[]⟩, .int .i64 0, .int .i64 0] 90) (grown_trans hg0 hg1)
  have hs2 := hs1.grow ((Below.refl _ w1).alloc (Nat.le_refl _) (.cells #[.string K, .string ⟨#[]⟩, .int .i64 0, .int .i64 0] 90))
  generalize w1.alloc (.cells #[.string K, .string ⟨#[]⟩, .int .i64 0, .int .i64 0] 90) = W2 at *
  generalize w1.heap.size = cb at *
  clear hT1 hr0 hg0 hs1 hg1
  go_upto_region 3 with (first | (go_at_call 81; refine Calls.mono (hN.out _ hs2) ?_; rintro e w3 ⟨rfl, hs3, hg3⟩))
  have hr3 := hr1.keep hg3 (by omega)
  have hc3 := hc1.keep hg3 (by omega)
  have hg3' := grown_trans hg2 hg3
  clear hN hs2 hr1 hc1 hg2 hg3
  have hpb : ((P : Int) == 0) = false := by simp; omega
  have hT2 := hs3.num_any hby hlen
  rw [hC] at hT2
  go_upto_region 6 with (first | (go_at_call 81; refine hT2.mono ?_; rintro e w4 ⟨rfl, hs5, hg4⟩))
  have hr5 : Bc w4 w.heap.size _ := hr3.keep hg4 (by omega)
  have hc5 : Bc w4 cb #[.string K, .string ⟨#[]⟩, .int .i64 0, .int .i64 0] := hc3.keep hg4 (by omega)
  have hg5 : w.grownBy w4 (some g) := grown_trans hg3' hg4
  clear hT2 hs3 hr3 hc3 hg3' hg4
  generalize w4 = W5 at *
  have hbad := bad_any lo g bs s3.pl s3.err W5 hs5
  go_upto_region 7 with (first | (go_at_call 106; refine hbad.mono ?_; rintro e w6 ⟨rfl, m6, rfl⟩))
  have hs6 : St (W5.drewN m6) lo g bs s3 := hs5.grow (below_draw W5 m6)
  have hr6 : Bc (W5.drewN m6) w.heap.size _ := hr5
  have hc6 : Bc (W5.drewN m6) cb _ := hc5
  have hg6 : w.grownBy (W5.drewN m6) (some g) := ⟨hg5.os, hg5.tape, hg5.output, hg5.size, hg5.block⟩
  clear hbad hs5 hr5 hc5 hg5
  generalize W5.drewN m6 = W6 at *
  obtain ⟨⟨a0, a1, a2, a3⟩, af⟩ := hc6.at
  obtain ⟨⟨r0, r1, r2, r3⟩, rf⟩ := hr6.at
  have rf0 := rf 0
  have rf1 := rf 1
  have rf2 := rf 2
  have rf3 := rf 3
  have af2 := af 2
  have af3 := af 3
  clear rf af
  have e1 : (s3.err != 0) = false := by simpa using he
  rw [hK] at hk
  have hk1 : ¬ K.toList = [] := fun e => by rw [e] at hk; simp at hk
  have d3 : decide ((9223372036854775807 : Int) < (P : Int)) = false := by simp; omega
  have d4 : decide ((2147483647 : Int) < (Cn : Int)) = true := by simp; omega
  go_wp2_with fail
  have hrF : Bc _ w.heap.size #[.string ⟨#[]⟩, .string ⟨#[]⟩, .int .i64 0, .int .i64 0] := ((((hr6.set 0 (.string ⟨#[]⟩)).set 1 (.string ⟨#[]⟩)).set 2 (.int .i64 0)).set 3 (.int .i64 0))
  obtain ⟨⟨f0, f1, f2, f3⟩, _⟩ := hrF.at
  refine bodyPost_ret (v := .tuple #[.agg #[.string ⟨#[]⟩, .string ⟨#[]⟩, .int .i64 0, .int .i64 0], .bool false]) ?_ rfl ⟨by first | rfl | (rw [hK, hX]; done) | (rw [hK]; done), ?_, ?_⟩
  · rw [results_cell_tmp rfl]; simp [asAddr, Result.andThen, go_sem, f0, f1, f2, f3]
  · exact St.set (St.set (St.set (St.set (hs6) (by omega)) (by omega)) (by omega)) (by omega)
  · exact grown_new (grown_new (grown_new (grown_new (hg6) (by omega)) (by omega)) (by omega)) (by omega)
set_option maxRecDepth 100000 in
set_option maxHeartbeats 4000000 in
theorem readCell_B5 (hs : St w lo g bs s) (hby : IsBytes bs) (hlen : bs.length ≤ 1000000000) (T : List Int) (s1 : At) (hT : s.text 64 bs = (T, s1)) (P : Nat) (s2 : At) (hP : s1.num bs = (P, s2)) (hp : P ≠ 0) (Cn : Nat) (s3 : At) (hC : s2.num bs = (Cn, s3)) (he : s3.err = 0) (hk : (strOfNums T).toList.isEmpty = false) (hm : P ≤ 9223372036854775807) (hcn : Cn ≤ 2147483647) :
    Calls Tryz.prog 83 #[.pointer (some ⟨g, 0, none⟩)] w fun e w' => e = .returned (.tuple #[.agg #[.string (strOfNums T), .string ⟨#[]⟩, .int .i64 (P : Int), .int .i64 (Cn : Int)], .bool true]) ∧ St w' lo g bs s3 ∧ w.grownBy w' (some g) := by
  obtain ⟨K, hK⟩ : ∃ K, strOfNums T = K := ⟨_, rfl⟩
  have hgl := hs.lt
  have hr0 : Bc (w.alloc (.cells #[.string ⟨#[]⟩, .string ⟨#[]⟩, .int .i64 0, .int .i64 0] 90)) w.heap.size #[.string ⟨#[]⟩, .string ⟨#[]⟩, .int .i64 0, .int .i64 0] := heap_alloc_new w _
  have hg0 : w.grownBy (w.alloc (.cells #[.string ⟨#[]⟩, .string ⟨#[]⟩, .int .i64 0, .int .i64 0] 90)) (some g) := grown_alloc ⟨rfl, rfl, rfl, Nat.le_refl _, fun _ _ _ => rfl⟩
  have hT1 := (hs.grow ((Below.refl _ w).alloc (Nat.le_refl _) (.cells #[.string ⟨#[]⟩, .string ⟨#[]⟩, .int .i64 0, .int .i64 0] 90))).text_any 64 (by omega) hby hlen
  rw [hT] at hT1
  simp only [hK] at hT1
  have hN : ∀ W, St W lo g bs s1 → Calls Tryz.prog 81 #[.pointer (some ⟨g, 0, none⟩)] W fun e w' => e = .returned (.int .u64 (P : Nat)) ∧ St w' lo g bs s2 ∧ W.grownBy w' (some g) := fun W hW => by
    have := hW.num_any hby hlen
    rw [hP] at this
    exact this
  replace hN : Hid _ := hN
  go_enter Tryz.func83, Tryz.ntmps83
  go_upto_region 2 with (first | (go_at_call 105; refine hT1.mono ?_; rintro e w1 ⟨rfl, hs1, hg1⟩))
  have hgw : w.heap.size < w1.heap.size := by have := hg1.size; simp at this; omega
  have hr1 := (hr0.keep hg1 (by omega)).alloc (.cells #[.string K, .string ⟨#[]⟩, .int .i64 0, .int .i64 0] 90)
  have hc1 : Bc (w1.alloc (.cells #[.string K, .string ⟨#[]⟩, .int .i64 0, .int .i64 0] 90)) w1.heap.size #[.string K, .string ⟨#[]⟩, .int .i64 0, .int .i64 0] := heap_alloc_new w1 _
  have hg2 := grown_alloc (o := .cells #[.string K, .string ⟨#[]⟩, .int .i64 0, .int .i64 0] 90) (grown_trans hg0 hg1)
  have hs2 := hs1.grow ((Below.refl _ w1).alloc (Nat.le_refl _) (.cells #[.string K, .string ⟨#[]⟩, .int .i64 0, .int .i64 0] 90))
  generalize w1.alloc (.cells #[.string K, .string ⟨#[]⟩, .int .i64 0, .int .i64 0] 90) = W2 at *
  generalize w1.heap.size = cb at *
  clear hT1 hr0 hg0 hs1 hg1
  go_upto_region 3 with (first | (go_at_call 81; refine Calls.mono (hN.out _ hs2) ?_; rintro e w3 ⟨rfl, hs3, hg3⟩))
  have hr3 := hr1.keep hg3 (by omega)
  have hc3 := hc1.keep hg3 (by omega)
  have hg3' := grown_trans hg2 hg3
  clear hN hs2 hr1 hc1 hg2 hg3
  have hpb : ((P : Int) == 0) = false := by simp; omega
  have hT2 := hs3.num_any hby hlen
  rw [hC] at hT2
  go_upto_region 6 with (first | (go_at_call 81; refine hT2.mono ?_; rintro e w4 ⟨rfl, hs5, hg4⟩))
  have hr5 : Bc w4 w.heap.size _ := hr3.keep hg4 (by omega)
  have hc5 : Bc w4 cb #[.string K, .string ⟨#[]⟩, .int .i64 0, .int .i64 0] := hc3.keep hg4 (by omega)
  have hg5 : w.grownBy w4 (some g) := grown_trans hg3' hg4
  clear hT2 hs3 hr3 hc3 hg3' hg4
  generalize w4 = W5 at *
  have hbad := bad_any lo g bs s3.pl s3.err W5 hs5
  go_upto_region 7 with (first | (go_at_call 106; refine hbad.mono ?_; rintro e w6 ⟨rfl, m6, rfl⟩))
  have hs6 : St (W5.drewN m6) lo g bs s3 := hs5.grow (below_draw W5 m6)
  have hr6 : Bc (W5.drewN m6) w.heap.size _ := hr5
  have hc6 : Bc (W5.drewN m6) cb _ := hc5
  have hg6 : w.grownBy (W5.drewN m6) (some g) := ⟨hg5.os, hg5.tape, hg5.output, hg5.size, hg5.block⟩
  clear hbad hs5 hr5 hc5 hg5
  generalize W5.drewN m6 = W6 at *
  obtain ⟨⟨a0, a1, a2, a3⟩, af⟩ := hc6.at
  obtain ⟨⟨r0, r1, r2, r3⟩, rf⟩ := hr6.at
  have rf0 := rf 0
  have rf1 := rf 1
  have rf2 := rf 2
  have rf3 := rf 3
  have af2 := af 2
  have af3 := af 3
  clear rf af
  have e1 : (s3.err != 0) = false := by simpa using he
  rw [hK] at hk
  have hk1 : ¬ K.toList = [] := fun e => by rw [e] at hk; simp at hk
  have d3 : decide ((9223372036854775807 : Int) < (P : Int)) = false := by simp; omega
  have d4 : decide ((2147483647 : Int) < (Cn : Int)) = false := by simp; omega
  have hpw : IntKind.i64.wrap (P : Int) = (P : Int) := Go.IntWalk.i64_in _ (by omega)
  have hcw : IntKind.i64.wrap (Cn : Int) = (Cn : Int) := Go.IntWalk.i64_in _ (by omega)
  go_wp2_with fail
  have hrF : Bc _ w.heap.size #[.string K, .string ⟨#[]⟩, .int .i64 (P : Int), .int .i64 (Cn : Int)] := ((((((hr6.other (r := cb) (i := 2) (u := .int .i64 (P : Int)) (by omega)).other (r := cb) (i := 3) (u := .int .i64 (Cn : Int)) (by omega)).set 0 (.string K)).set 1 (.string ⟨#[]⟩)).set 2 (.int .i64 (P : Int))).set 3 (.int .i64 (Cn : Int)))
  obtain ⟨⟨f0, f1, f2, f3⟩, _⟩ := hrF.at
  refine bodyPost_ret (v := .tuple #[.agg #[.string K, .string ⟨#[]⟩, .int .i64 (P : Int), .int .i64 (Cn : Int)], .bool true]) ?_ rfl ⟨by first | rfl | (rw [hK, hX]; done) | (rw [hK]; done), ?_, ?_⟩
  · rw [results_cell_tmp rfl]; simp [asAddr, Result.andThen, go_sem, f0, f1, f2, f3]
  · exact St.set (St.set (St.set (St.set (St.set (St.set (hs6) (by omega)) (by omega)) (by omega)) (by omega)) (by omega)) (by omega)
  · exact grown_new (grown_new (grown_new (grown_new (grown_new (grown_new (hg6) (by omega)) (by omega)) (by omega)) (by omega)) (by omega)) (by omega)
/-- readCell, whatever the bytes are. -/
theorem readCell_any (hs : St w lo g bs s) (hby : IsBytes bs) (hlen : bs.length ≤ 1000000000) :
    Calls Tryz.prog 83 #[.pointer (some ⟨g, 0, none⟩)] w fun e w' => e = .returned (.tuple #[(if s.good bs then (s.cell bs).1 else cl0).agg, .bool (s.good bs)]) ∧ St w' lo g bs (s.cell bs).2 ∧ w.grownBy w' (some g) := by
  have hz : cl0.agg = .agg #[.string ⟨#[]⟩, .string ⟨#[]⟩, .int .i64 0, .int .i64 0] := rfl
  obtain ⟨T, s1, hT⟩ : ∃ T s1, s.text 64 bs = (T, s1) := ⟨_, _, rfl⟩
  obtain ⟨P, s2, hP⟩ : ∃ P s2, s1.num bs = (P, s2) := ⟨_, _, rfl⟩
  by_cases hp : P = 0
  · obtain ⟨V, s3, hV⟩ : ∃ V s3, s2.text 16384 bs = (V, s3) := ⟨_, _, rfl⟩
    have hc : s.cell bs = (⟨strOfNums T, strOfNums V, 0, 0⟩, s3) := by
      unfold At.cell
      rw [hT]
      simp only [hP, hV, hp, if_true]
    have hg : s.good bs = decide (s3.err = 0 ∧ (strOfNums T).toList.isEmpty = false) := by
      unfold At.good
      rw [hc]
      simp
    rw [hc]
    by_cases he : s3.err = 0
    · cases hk : (strOfNums T).toList.isEmpty with
      | true =>
        have : s.good bs = false := by rw [hg]; simp [hk]
        rw [this, if_neg (by simp), hz]
        exact readCell_A2 hs hby hlen T s1 hT P s2 hP hp V s3 hV he hk
      | false =>
        have : s.good bs = true := by rw [hg]; simp [hk, he]
        rw [this, if_pos rfl]
        exact readCell_A3 hs hby hlen T s1 hT P s2 hP hp V s3 hV he hk
    · have : s.good bs = false := by rw [hg]; simp [he]
      rw [this, if_neg (by simp), hz]
      exact readCell_A1 hs hby hlen T s1 hT P s2 hP hp V s3 hV he
  · obtain ⟨Cn, s3, hC⟩ : ∃ Cn s3, s2.num bs = (Cn, s3) := ⟨_, _, rfl⟩
    have hc : s.cell bs = (⟨strOfNums T, ByteArray.empty, P, Cn⟩, s3) := by
      unfold At.cell
      rw [hT]
      simp only [hP, hC]
      rw [if_neg hp]
    have hg : s.good bs = decide (s3.err = 0 ∧ (strOfNums T).toList.isEmpty = false ∧ P ≤ 9223372036854775807 ∧ Cn ≤ 2147483647) := by
      unfold At.good
      rw [hc]
    rw [hc]
    by_cases he : s3.err = 0
    · cases hk : (strOfNums T).toList.isEmpty with
      | true =>
        have : s.good bs = false := by rw [hg]; simp [hk]
        rw [this, if_neg (by simp), hz]
        exact readCell_B2 hs hby hlen T s1 hT P s2 hP hp Cn s3 hC he hk
      | false =>
        by_cases hm : P ≤ 9223372036854775807
        · by_cases hn : Cn ≤ 2147483647
          · have : s.good bs = true := by rw [hg]; simp [hk, he, hm, hn]
            rw [this, if_pos rfl]
            exact readCell_B5 hs hby hlen T s1 hT P s2 hP hp Cn s3 hC he hk hm hn
          · have : s.good bs = false := by rw [hg]; simp [hn]
            rw [this, if_neg (by simp), hz]
            exact readCell_B4 hs hby hlen T s1 hT P s2 hP hp Cn s3 hC he hk hm (by omega)
        · have : s.good bs = false := by rw [hg]; simp [hm]
          rw [this, if_neg (by simp), hz]
          exact readCell_B3 hs hby hlen T s1 hT P s2 hP hp Cn s3 hC he hk (by omega)
    · have : s.good bs = false := by rw [hg]; simp [he]
      rw [this, if_neg (by simp), hz]
      exact readCell_B1 hs hby hlen T s1 hT P s2 hP hp Cn s3 hC he
end
end Go.Proofs.YtdobleekjiehdaaGreat
