/- Zf; Zg; Zh; Zi. -/
import Derived.Test.YtaffplmfnincfaaGreatDoorZaZl
/- DagChecks: the document's parser: and. -/
namespace Go.Proofs.YtaffplmfnincfaaGreatDoor
set_option linter.unusedVariables false
open Go.RowKit
set_option maxRecDepth 100000 in
set_option maxHeartbeats 8000000 in
/-- Parser.and. -/
theorem and63 {s : ByteArray} {d : Nat} (hs : s.size ≤ 1024) (hd : d ≤ 100) (hJ : JD 116 d s (Job.op 2 d)) : JD 69 d s (Job.op 1 d) := by
  intro W p i e t hp hi
  have hb := bW0 W zE
  have hpl := hp.lt
  have hj1 := hJ _ p i e t (hp.grow hb) hi
  have hJ2 : Hid (∀ W2 j2 e2 t2, RpT W2 p s j2 e2 t2 → j2 ≤ s.size → Calls Tryz.prog 116 #[.pointer (some ⟨p, 0, none⟩), .int .i64 (d : Int)] W2 fun r w' => JdQ (Job.op 2 d) s p j2 e2 W2 r w') := fun W2 j2 e2 t2 h1 h2 => hJ W2 p j2 e2 t2 h1 h2
  have htk : Hid (∀ W2 j2 e2 t2, RpT W2 p s j2 e2 t2 → j2 ≤ s.size → p < W2.heap.size → Calls Tryz.prog 70 #[.pointer (some ⟨p, 0, none⟩), .slice (some ⟨W2.heap.size, 0, none⟩) 1 1] (W2.alloc (.cells #[.string ⟨#[38,38]⟩] 9)) fun r w' => TkQ [⟨#[38,38]⟩] s p j2 e2 t2 (W2.alloc (.cells #[.string ⟨#[38,38]⟩] 9)) r w') := fun W2 j2 e2 t2 h1 h2 h3 => take64 _ p s j2 e2 t2 (h1.grow (bW0 _ _)) h2 (by omega) W2.heap.size 1 [⟨#[38,38]⟩] rfl (strL_new W2 [⟨#[38,38]⟩] (by decide)) (by omega) (by omega) (by decide)
  have hcl := fun (nm : ByteArray) (b : Nat) W2 => rcall_any nm (some ⟨b, 0, none⟩) 2 2 W2
  clear hJ
  go_enter Tryz.func69, Tryz.ntmps69
  go_wp2_with (first | (go_at_call 116; refine hj1.mono ?_; clear hj1; rintro r w1 ⟨k, n, x, y, a, m, c, rfl, j, e1, t1, X, hr⟩; apply Hid.out))
  have hL : Hid (Lq s p i w1.heap.size e W (w1.alloc (.cells #[.int .i64 k, .string n, .int .i64 x, .int .i64 y, .slice a m c] 62)) j e1 t1 k n x y a m c X) := Lq.start hp hr.out
  clear hb hp
  have hw : Hid (LqR s 1 d i j e e1 X) := LqR.start (by decide) hr.out.we
  unfold Hid
  clear hr
  go_wp2
  generalize hW1 : w1.alloc (.cells #[.int .i64 k, .string n, .int .i64 x, .int .i64 y, .slice a m c] 62) = W1 at *
  generalize hBX : w1.heap.size = BX at *
  clear hW1 hBX
  go_loopw [] (fun wr => ∃ (j : Nat) (e1 t1 k : Int) (n : ByteArray) (x y : Int) (a : Option Addr) (m c : Nat) (X : Ex), Hid (Lq s p i BX e W wr j e1 t1 k n x y a m c X) ∧ Hid (LqR s 1 d i j e e1 X)) (fun wr => s.size - plcOf wr p)
  case atStart => exact ⟨_, _, _, _, _, _, _, _, _, _, _, hL, hw⟩
  case round =>
    clear hL hw
    obtain ⟨J, E1, T1, K, NN, X1, Y1, A1, M1, C1, XX, hL, hw⟩ := hrel
    have hme := hL.out.rp.plc
    have htj := htk.out wr J E1 T1 hL.out.rp hL.out.le hL.out.rp.lt
    go_wp2_with (first | (go_at_call 70; refine htj.mono ?_; clear htj; rintro r w2 ⟨v, j2, rfl, hjj, hj2, hp2, hf2, hv⟩; apply Hid.out))
    have hL2 : Hid (Lq s p i BX e W w2 j2 E1 T1 K NN X1 Y1 A1 M1 C1 XX) := hL.out.take (b2 := 0) (bW0 wr (.cells #[.string ⟨#[38,38]⟩] 9)) hp2.out hf2.out hjj hj2
    obtain ⟨g0, g1, g2, g3, g4⟩ := hL2.out.b.cells
    unfold Hid
    clear hL
    rcases hv with ⟨rfl, hv⟩ | ⟨k1, k2, k3⟩
    · obtain ⟨z0, z1, z2, z3, z4⟩ := hL2.out.z.cells
      obtain ⟨f0, f1, f2, f3, f4⟩ := hL2.out.z.frozen
      have hdn := hL2.out.done (hw.out.done (fun q => tk_no (L := [⟨#[38,38]⟩]) (by decide) (by decide +kernel) (hv.out.2 q)) hv.out.1)
      go_wp2
      exact ret27 Tryz.results69 rfl hdn.1 ⟨_, _, _, _, _, _, _, rfl, _, _, _, _, hdn.2⟩
    · have hL3 : Hid (Lq s p i BX e W w2.drew j2 E1 T1 K NN X1 Y1 A1 M1 C1 XX) := hL2.out.drew
      have hj3 := hJ2.out w2.drew j2 E1 T1 hL3.out.rp hj2
      have hst : Hid (∀ w3 w5 k5 n5 x5 y5 a5 m5 c5 j5 e5 t5 X5, JdR (Job.op 2 d) s p j2 E1 w2.drew w3 (.agg #[.int .i64 k5, .string n5, .int .i64 x5, .int .i64 y5, .slice a5 m5 c5]) j5 e5 t5 X5 → Below (w3.heap.size + 1) (w3.alloc (.cells #[.int .i64 K, .string NN, .int .i64 X1, .int .i64 Y1, .slice A1 M1 C1, .int .i64 k5, .string n5, .int .i64 x5, .int .i64 y5, .slice a5 m5 c5] 62)) w5 →
        Bx w5 BX 62 (.int .i64 K) (.string NN) (.int .i64 X1) (.int .i64 Y1) (.slice A1 M1 C1) ∧ Lq s p i BX e W (set5 w5 BX (.int .i64 3) (.string ⟨#[38, 38]⟩) (.int .i64 0) (.int .i64 0) (.slice (some ⟨w3.heap.size, 0, none⟩) 2 2)) j5 e5 t5 3 ⟨#[38, 38]⟩ 0 0 (some ⟨w3.heap.size, 0, none⟩) 2 2 (exC ⟨#[38, 38]⟩ [XX, X5])) := fun w3 w5 k5 n5 x5 y5 a5 m5 c5 j5 e5 t5 X5 h1 h2 => hL3.out.step h1 h2
      have hbb : Hid (∀ w3, Fp p w2.drew w3 → Bx w3 BX 62 (.int .i64 K) (.string NN) (.int .i64 X1) (.int .i64 Y1) (.slice A1 M1 C1)) := fun w3 h => hL3.out.b.fp h (by have := hL2.out.bx; have := hL2.out.pl; omega)
      have hlt := k3.out.1.2
      have hvv : v = ⟨#[38, 38]⟩ := List.mem_singleton.1 k3.out.2.1
      have hww : Hid (∀ j5 e5 X5, JobR s (Job.op 2 d) j2 j5 E1 e5 X5 → LqR s 1 d i j5 e e5 (exC ⟨#[38, 38]⟩ [XX, X5])) := fun j5 e5 X5 g => hw.out.step (by decide) k3.out.1.1 (by decide) (by rw [k3.out.2.2.1, hvv]) (by rw [k3.out.2.2.2.1, hvv]) (by decide +kernel) g
      clear hvv
      clear hw
      go_wp2
      go_region_with (first
        | (go_at_call 116; refine hj3.mono ?_; clear hj3; rintro r w3 ⟨k5, n5, x5, y5, a5, m5, c5, rfl, j5, e5, t5, X5, h5⟩; clear g0 g1 g2 g3 g4; obtain ⟨g0, g1, g2, g3, g4⟩ := (hbb.out w3 h5.out.fp).cells)
        | (go_at_call 71; refine (hcl _ _ _).mono ?_; rintro r w5 ⟨rfl, hb5⟩; obtain ⟨hx5, hL5⟩ := hst.out _ w5 _ _ _ _ _ _ _ _ _ _ _ h5.out (by simpa using hb5); clear g0 g1 g2 g3 g4; obtain ⟨g0, g1, g2, g3, g4⟩ := hx5.cells; obtain ⟨f0, f1, f2, f3, f4⟩ := hx5.frozen))
      all_goals go_wp2
      all_goals (refine ⟨⟨_, _, _, _, _, _, _, _, _, _, _, hL5, hww.out _ _ _ h5.out.we⟩, ?_⟩; have hm5 := hL5.rp.plc; have hg5 := h5.out.ge; have hl5 := h5.out.le; unfold set5 at hm5; rw [hme, hm5]; omega)
end Go.Proofs.YtaffplmfnincfaaGreatDoor
/- DagChecks: the document's parser: sum, prod. -/
namespace Go.Proofs.YtaffplmfnincfaaGreatDoor
set_option linter.unusedVariables false
open Go.RowKit
set_option maxRecDepth 100000 in
set_option maxHeartbeats 8000000 in
/-- Parser.sum. -/
theorem sum140 {s : ByteArray} {d : Nat} (hs : s.size ≤ 1024) (hd : d ≤ 100) (hJ : JD 159 d s (Job.op 4 d)) : JD 140 d s (Job.op 3 d) := by
  intro W p i e t hp hi
  have hb := bW0 W zE
  have hpl := hp.lt
  have hj1 := hJ _ p i e t (hp.grow hb) hi
  have hJ2 : Hid (∀ W2 j2 e2 t2, RpT W2 p s j2 e2 t2 → j2 ≤ s.size → Calls Tryz.prog 159 #[.pointer (some ⟨p, 0, none⟩), .int .i64 (d : Int)] W2 fun r w' => JdQ (Job.op 4 d) s p j2 e2 W2 r w') := fun W2 j2 e2 t2 h1 h2 => hJ W2 p j2 e2 t2 h1 h2
  have htk : Hid (∀ W2 j2 e2 t2, RpT W2 p s j2 e2 t2 → j2 ≤ s.size → p < W2.heap.size → Calls Tryz.prog 70 #[.pointer (some ⟨p, 0, none⟩), .slice (some ⟨W2.heap.size, 0, none⟩) 2 2] (W2.alloc (.cells #[.string ⟨#[43]⟩, .string ⟨#[45]⟩] 9)) fun r w' => TkQ [⟨#[43]⟩, ⟨#[45]⟩] s p j2 e2 t2 (W2.alloc (.cells #[.string ⟨#[43]⟩, .string ⟨#[45]⟩] 9)) r w') := fun W2 j2 e2 t2 h1 h2 h3 => take64 _ p s j2 e2 t2 (h1.grow (bW0 _ _)) h2 (by omega) W2.heap.size 2 [⟨#[43]⟩, ⟨#[45]⟩] rfl (strL_new W2 [⟨#[43]⟩, ⟨#[45]⟩] (by decide)) (by omega) (by omega) (by decide)
  have hcl := fun (nm : ByteArray) (b : Nat) W2 => rcall_any nm (some ⟨b, 0, none⟩) 2 2 W2
  clear hJ
  go_enter Tryz.func140, Tryz.ntmps140
  go_wp2_with (first | (go_at_call 159; refine hj1.mono ?_; clear hj1; rintro r w1 ⟨k, n, x, y, a, m, c, rfl, j, e1, t1, X, hr⟩; apply Hid.out))
  have hL : Hid (Lq s p i w1.heap.size e W (w1.alloc (.cells #[.int .i64 k, .string n, .int .i64 x, .int .i64 y, .slice a m c] 62)) j e1 t1 k n x y a m c X) := Lq.start hp hr.out
  clear hb hp
  have hw : Hid (LqR s 3 d i j e e1 X) := LqR.start (by decide) hr.out.we
  unfold Hid
  clear hr
  go_wp2
  generalize hW1 : w1.alloc (.cells #[.int .i64 k, .string n, .int .i64 x, .int .i64 y, .slice a m c] 62) = W1 at *
  generalize hBX : w1.heap.size = BX at *
  clear hW1 hBX
  go_loopw [] (fun wr => ∃ (j : Nat) (e1 t1 k : Int) (n : ByteArray) (x y : Int) (a : Option Addr) (m c : Nat) (X : Ex), Hid (Lq s p i BX e W wr j e1 t1 k n x y a m c X) ∧ Hid (LqR s 3 d i j e e1 X)) (fun wr => s.size - plcOf wr p)
  case atStart => exact ⟨_, _, _, _, _, _, _, _, _, _, _, hL, hw⟩
  case round =>
    clear hL hw
    obtain ⟨J, E1, T1, K, NN, X1, Y1, A1, M1, C1, XX, hL, hw⟩ := hrel
    have hme := hL.out.rp.plc
    have htj := htk.out wr J E1 T1 hL.out.rp hL.out.le hL.out.rp.lt
    go_wp2_with (first | (go_at_call 70; refine htj.mono ?_; clear htj; rintro r w2 ⟨v, j2, rfl, hjj, hj2, hp2, hf2, hv⟩; apply Hid.out))
    have hL2 : Hid (Lq s p i BX e W w2 j2 E1 T1 K NN X1 Y1 A1 M1 C1 XX) := hL.out.take (b2 := 0) (bW0 wr (.cells #[.string ⟨#[43]⟩, .string ⟨#[45]⟩] 9)) hp2.out hf2.out hjj hj2
    obtain ⟨g0, g1, g2, g3, g4⟩ := hL2.out.b.cells
    unfold Hid
    clear hL
    rcases hv with ⟨rfl, hv⟩ | ⟨k1, k2, k3⟩
    · obtain ⟨z0, z1, z2, z3, z4⟩ := hL2.out.z.cells
      obtain ⟨f0, f1, f2, f3, f4⟩ := hL2.out.z.frozen
      have hdn := hL2.out.done (hw.out.done (fun q => tk_no (L := [⟨#[43]⟩, ⟨#[45]⟩]) (by decide) (by decide +kernel) (hv.out.2 q)) hv.out.1)
      go_wp2
      exact ret27 Tryz.results140 rfl hdn.1 ⟨_, _, _, _, _, _, _, rfl, _, _, _, _, hdn.2⟩
    · have hL3 : Hid (Lq s p i BX e W w2.drew j2 E1 T1 K NN X1 Y1 A1 M1 C1 XX) := hL2.out.drew
      have hj3 := hJ2.out w2.drew j2 E1 T1 hL3.out.rp hj2
      have hst : Hid (∀ w3 w5 k5 n5 x5 y5 a5 m5 c5 j5 e5 t5 X5, JdR (Job.op 4 d) s p j2 E1 w2.drew w3 (.agg #[.int .i64 k5, .string n5, .int .i64 x5, .int .i64 y5, .slice a5 m5 c5]) j5 e5 t5 X5 → Below (w3.heap.size + 1) (w3.alloc (.cells #[.int .i64 K, .string NN, .int .i64 X1, .int .i64 Y1, .slice A1 M1 C1, .int .i64 k5, .string n5, .int .i64 x5, .int .i64 y5, .slice a5 m5 c5] 62)) w5 →
        Bx w5 BX 62 (.int .i64 K) (.string NN) (.int .i64 X1) (.int .i64 Y1) (.slice A1 M1 C1) ∧ Lq s p i BX e W (set5 w5 BX (.int .i64 3) (.string v) (.int .i64 0) (.int .i64 0) (.slice (some ⟨w3.heap.size, 0, none⟩) 2 2)) j5 e5 t5 3 v 0 0 (some ⟨w3.heap.size, 0, none⟩) 2 2 (exC v [XX, X5])) := fun w3 w5 k5 n5 x5 y5 a5 m5 c5 j5 e5 t5 X5 h1 h2 => hL3.out.step h1 h2
      have hbb : Hid (∀ w3, Fp p w2.drew w3 → Bx w3 BX 62 (.int .i64 K) (.string NN) (.int .i64 X1) (.int .i64 Y1) (.slice A1 M1 C1)) := fun w3 h => hL3.out.b.fp h (by have := hL2.out.bx; have := hL2.out.pl; omega)
      have hlt := k3.out.1.2
      have hww : Hid (∀ j5 e5 X5, JobR s (Job.op 4 d) j2 j5 E1 e5 X5 → LqR s 3 d i j5 e e5 (exC v [XX, X5])) := fun j5 e5 X5 g => hw.out.step (by decide) k3.out.1.1 k3.out.2.2.2.2 k3.out.2.2.1 k3.out.2.2.2.1 ((show ∀ u ∈ [⟨#[43]⟩, ⟨#[45]⟩], levOf u = ((3 : Nat) : Int) by decide +kernel) v k3.out.2.1) g
      clear hw
      go_wp2
      go_region_with (first
        | (go_at_call 159; refine hj3.mono ?_; clear hj3; rintro r w3 ⟨k5, n5, x5, y5, a5, m5, c5, rfl, j5, e5, t5, X5, h5⟩; clear g0 g1 g2 g3 g4; obtain ⟨g0, g1, g2, g3, g4⟩ := (hbb.out w3 h5.out.fp).cells)
        | (go_at_call 71; refine (hcl _ _ _).mono ?_; rintro r w5 ⟨rfl, hb5⟩; obtain ⟨hx5, hL5⟩ := hst.out _ w5 _ _ _ _ _ _ _ _ _ _ _ h5.out (by simpa using hb5); clear g0 g1 g2 g3 g4; obtain ⟨g0, g1, g2, g3, g4⟩ := hx5.cells; obtain ⟨f0, f1, f2, f3, f4⟩ := hx5.frozen))
      all_goals go_wp2
      all_goals (refine ⟨⟨_, _, _, _, _, _, _, _, _, _, _, hL5, hww.out _ _ _ h5.out.we⟩, ?_⟩; have hm5 := hL5.rp.plc; have hg5 := h5.out.ge; have hl5 := h5.out.le; unfold set5 at hm5; rw [hme, hm5]; omega)
set_option maxRecDepth 100000 in
set_option maxHeartbeats 8000000 in
/-- Parser.prod. -/
theorem prod170 {s : ByteArray} {d : Nat} (hs : s.size ≤ 1024) (hd : d ≤ 100) (hJ : JD 185 d s (Job.op 5 d)) : JD 159 d s (Job.op 4 d) := by
  intro W p i e t hp hi
  have hb := bW0 W zE
  have hpl := hp.lt
  have hj1 := hJ _ p i e t (hp.grow hb) hi
  have hJ2 : Hid (∀ W2 j2 e2 t2, RpT W2 p s j2 e2 t2 → j2 ≤ s.size → Calls Tryz.prog 185 #[.pointer (some ⟨p, 0, none⟩), .int .i64 (d : Int)] W2 fun r w' => JdQ (Job.op 5 d) s p j2 e2 W2 r w') := fun W2 j2 e2 t2 h1 h2 => hJ W2 p j2 e2 t2 h1 h2
  have htk : Hid (∀ W2 j2 e2 t2, RpT W2 p s j2 e2 t2 → j2 ≤ s.size → p < W2.heap.size → Calls Tryz.prog 70 #[.pointer (some ⟨p, 0, none⟩), .slice (some ⟨W2.heap.size, 0, none⟩) 2 2] (W2.alloc (.cells #[.string ⟨#[42]⟩, .string ⟨#[47]⟩] 9)) fun r w' => TkQ [⟨#[42]⟩, ⟨#[47]⟩] s p j2 e2 t2 (W2.alloc (.cells #[.string ⟨#[42]⟩, .string ⟨#[47]⟩] 9)) r w') := fun W2 j2 e2 t2 h1 h2 h3 => take64 _ p s j2 e2 t2 (h1.grow (bW0 _ _)) h2 (by omega) W2.heap.size 2 [⟨#[42]⟩, ⟨#[47]⟩] rfl (strL_new W2 [⟨#[42]⟩, ⟨#[47]⟩] (by decide)) (by omega) (by omega) (by decide)
  have hcl := fun (nm : ByteArray) (b : Nat) W2 => rcall_any nm (some ⟨b, 0, none⟩) 2 2 W2
  clear hJ
  go_enter Tryz.func159, Tryz.ntmps159
  go_wp2_with (first | (go_at_call 185; refine hj1.mono ?_; clear hj1; rintro r w1 ⟨k, n, x, y, a, m, c, rfl, j, e1, t1, X, hr⟩; apply Hid.out))
  have hL : Hid (Lq s p i w1.heap.size e W (w1.alloc (.cells #[.int .i64 k, .string n, .int .i64 x, .int .i64 y, .slice a m c] 62)) j e1 t1 k n x y a m c X) := Lq.start hp hr.out
  clear hb hp
  have hw : Hid (LqR s 4 d i j e e1 X) := LqR.start (by decide) hr.out.we
  unfold Hid
  clear hr
  go_wp2
  generalize hW1 : w1.alloc (.cells #[.int .i64 k, .string n, .int .i64 x, .int .i64 y, .slice a m c] 62) = W1 at *
  generalize hBX : w1.heap.size = BX at *
  clear hW1 hBX
  go_loopw [] (fun wr => ∃ (j : Nat) (e1 t1 k : Int) (n : ByteArray) (x y : Int) (a : Option Addr) (m c : Nat) (X : Ex), Hid (Lq s p i BX e W wr j e1 t1 k n x y a m c X) ∧ Hid (LqR s 4 d i j e e1 X)) (fun wr => s.size - plcOf wr p)
  case atStart => exact ⟨_, _, _, _, _, _, _, _, _, _, _, hL, hw⟩
  case round =>
    clear hL hw
    obtain ⟨J, E1, T1, K, NN, X1, Y1, A1, M1, C1, XX, hL, hw⟩ := hrel
    have hme := hL.out.rp.plc
    have htj := htk.out wr J E1 T1 hL.out.rp hL.out.le hL.out.rp.lt
    go_wp2_with (first | (go_at_call 70; refine htj.mono ?_; clear htj; rintro r w2 ⟨v, j2, rfl, hjj, hj2, hp2, hf2, hv⟩; apply Hid.out))
    have hL2 : Hid (Lq s p i BX e W w2 j2 E1 T1 K NN X1 Y1 A1 M1 C1 XX) := hL.out.take (b2 := 0) (bW0 wr (.cells #[.string ⟨#[42]⟩, .string ⟨#[47]⟩] 9)) hp2.out hf2.out hjj hj2
    obtain ⟨g0, g1, g2, g3, g4⟩ := hL2.out.b.cells
    unfold Hid
    clear hL
    rcases hv with ⟨rfl, hv⟩ | ⟨k1, k2, k3⟩
    · obtain ⟨z0, z1, z2, z3, z4⟩ := hL2.out.z.cells
      obtain ⟨f0, f1, f2, f3, f4⟩ := hL2.out.z.frozen
      have hdn := hL2.out.done (hw.out.done (fun q => tk_no (L := [⟨#[42]⟩, ⟨#[47]⟩]) (by decide) (by decide +kernel) (hv.out.2 q)) hv.out.1)
      go_wp2
      exact ret27 Tryz.results159 rfl hdn.1 ⟨_, _, _, _, _, _, _, rfl, _, _, _, _, hdn.2⟩
    · have hL3 : Hid (Lq s p i BX e W w2.drew j2 E1 T1 K NN X1 Y1 A1 M1 C1 XX) := hL2.out.drew
      have hj3 := hJ2.out w2.drew j2 E1 T1 hL3.out.rp hj2
      have hst : Hid (∀ w3 w5 k5 n5 x5 y5 a5 m5 c5 j5 e5 t5 X5, JdR (Job.op 5 d) s p j2 E1 w2.drew w3 (.agg #[.int .i64 k5, .string n5, .int .i64 x5, .int .i64 y5, .slice a5 m5 c5]) j5 e5 t5 X5 → Below (w3.heap.size + 1) (w3.alloc (.cells #[.int .i64 K, .string NN, .int .i64 X1, .int .i64 Y1, .slice A1 M1 C1, .int .i64 k5, .string n5, .int .i64 x5, .int .i64 y5, .slice a5 m5 c5] 62)) w5 →
        Bx w5 BX 62 (.int .i64 K) (.string NN) (.int .i64 X1) (.int .i64 Y1) (.slice A1 M1 C1) ∧ Lq s p i BX e W (set5 w5 BX (.int .i64 3) (.string v) (.int .i64 0) (.int .i64 0) (.slice (some ⟨w3.heap.size, 0, none⟩) 2 2)) j5 e5 t5 3 v 0 0 (some ⟨w3.heap.size, 0, none⟩) 2 2 (exC v [XX, X5])) := fun w3 w5 k5 n5 x5 y5 a5 m5 c5 j5 e5 t5 X5 h1 h2 => hL3.out.step h1 h2
      have hbb : Hid (∀ w3, Fp p w2.drew w3 → Bx w3 BX 62 (.int .i64 K) (.string NN) (.int .i64 X1) (.int .i64 Y1) (.slice A1 M1 C1)) := fun w3 h => hL3.out.b.fp h (by have := hL2.out.bx; have := hL2.out.pl; omega)
      have hlt := k3.out.1.2
      have hww : Hid (∀ j5 e5 X5, JobR s (Job.op 5 d) j2 j5 E1 e5 X5 → LqR s 4 d i j5 e e5 (exC v [XX, X5])) := fun j5 e5 X5 g => hw.out.step (by decide) k3.out.1.1 k3.out.2.2.2.2 k3.out.2.2.1 k3.out.2.2.2.1 ((show ∀ u ∈ [⟨#[42]⟩, ⟨#[47]⟩], levOf u = ((4 : Nat) : Int) by decide +kernel) v k3.out.2.1) g
      clear hw
      go_wp2
      go_region_with (first
        | (go_at_call 185; refine hj3.mono ?_; clear hj3; rintro r w3 ⟨k5, n5, x5, y5, a5, m5, c5, rfl, j5, e5, t5, X5, h5⟩; clear g0 g1 g2 g3 g4; obtain ⟨g0, g1, g2, g3, g4⟩ := (hbb.out w3 h5.out.fp).cells)
        | (go_at_call 71; refine (hcl _ _ _).mono ?_; rintro r w5 ⟨rfl, hb5⟩; obtain ⟨hx5, hL5⟩ := hst.out _ w5 _ _ _ _ _ _ _ _ _ _ _ h5.out (by simpa using hb5); clear g0 g1 g2 g3 g4; obtain ⟨g0, g1, g2, g3, g4⟩ := hx5.cells; obtain ⟨f0, f1, f2, f3, f4⟩ := hx5.frozen))
      all_goals go_wp2
      all_goals (refine ⟨⟨_, _, _, _, _, _, _, _, _, _, _, hL5, hww.out _ _ _ h5.out.we⟩, ?_⟩; have hm5 := hL5.rp.plc; have hg5 := h5.out.ge; have hl5 := h5.out.le; unfold set5 at hm5; rw [hme, hm5]; omega)
end Go.Proofs.YtaffplmfnincfaaGreatDoor
/- DagChecks: the document's parser: expr. -/
namespace Go.Proofs.YtaffplmfnincfaaGreatDoor
set_option linter.unusedVariables false
open Go.RowKit
set_option maxRecDepth 100000 in
set_option maxHeartbeats 8000000 in
/-- Parser.expr. -/
theorem expr29 {s : ByteArray} {d : Nat} (hs : s.size ≤ 1024) (hd : d ≤ 100) (hJ : JD 69 d s (Job.op 1 d)) : JD 50 d s (Job.op 0 d) := by
  intro W p i e t hp hi
  have hb := bW0 W zE
  have hpl := hp.lt
  have hbl := blanks_any _ p s i e t (hp.grow hb) hi (by omega)
  have hfl : Hid (∀ W2 j2, RpT W2 p s j2 e t → Calls Tryz.prog 52 #[.pointer (some ⟨p, 0, none⟩), .int .i64 111, .int .i64 (j2 : Int)] W2 fun r w' => r = .returned (.tuple #[]) ∧ Hid (Fp p W2 w' ∧ ∃ e' t', RpT w' p s j2 e' t' ∧ (e ≠ 0 → e' = e) ∧ (e = 0 → e' = 111))) := fun W2 j2 g => fail_any W2 p s j2 e t 111 j2 g
  have hJ2 : Hid (∀ W2 j2 e2 t2, RpT W2 p s j2 e2 t2 → j2 ≤ s.size → Calls Tryz.prog 69 #[.pointer (some ⟨p, 0, none⟩), .int .i64 (d : Int)] W2 fun r w' => JdQ (Job.op 1 d) s p j2 e2 W2 r w') := fun W2 j2 e2 t2 h1 h2 => hJ W2 p j2 e2 t2 h1 h2
  have htk : Hid (∀ W2 j2 e2 t2, RpT W2 p s j2 e2 t2 → j2 ≤ s.size → p < W2.heap.size → Calls Tryz.prog 70 #[.pointer (some ⟨p, 0, none⟩), .slice (some ⟨W2.heap.size, 0, none⟩) 1 1] (W2.alloc (.cells #[.string ⟨#[124,124]⟩] 9)) fun r w' => TkQ [⟨#[124,124]⟩] s p j2 e2 t2 (W2.alloc (.cells #[.string ⟨#[124,124]⟩] 9)) r w') := fun W2 j2 e2 t2 h1 h2 h3 => take64 _ p s j2 e2 t2 (h1.grow (bW0 _ _)) h2 (by omega) W2.heap.size 1 [⟨#[124,124]⟩] rfl (strL_new W2 [⟨#[124,124]⟩] (by decide)) (by omega) (by omega) (by decide)
  have hcl := fun (nm : ByteArray) (b : Nat) W2 => rcall_any nm (some ⟨b, 0, none⟩) 2 2 W2
  clear hJ hb hp
  by_cases h32 : 32 < d
  · have h32i : (32 : Int) < (d : Int) := by omega
    go_enter Tryz.func50, Tryz.ntmps50
    go_wp2_with (first
      | (go_at_call 51; refine hbl.mono ?_; clear hbl; rintro r wb ⟨rfl, i1, hi1, hi2, hpb, hfb, his⟩; obtain ⟨c0, c1, c2, c3⟩ := hpb.out.cells; have hfj := hfl.out wb i1 hpb.out)
      | (go_at_call 52; refine hfj.mono ?_; clear hfj hfl; rintro r wa ⟨rfl, hA⟩; obtain ⟨hfa0, ea, ta, hpa, ha1, ha2⟩ := hA.out; have hfa := hfb.out.trans hfa0; have hj1 := hJ2.out wa i1 ea ta hpa hi2; have hea : e ≠ 0 → ea ≠ 0 := (fun q => by rw [ha1 q]; exact q); have hea0 : Hid (e = 0 → ea ≠ 0) := (fun q => by rw [ha2 q]; decide); clear c0 c1 c2 c3)
      | (go_at_call 69; refine hj1.mono ?_; clear hj1; rintro r w1 ⟨k, n, x, y, a, m, c, rfl, j, e1, t1, X, hr⟩; apply Hid.out))
    have hia := hi1
    clear hi1 ha1 ha2 hpa hfa0 hA hpb
    have hL : Hid (Lq s p i w1.heap.size e W (w1.alloc (.cells #[.int .i64 k, .string n, .int .i64 x, .int .i64 y, .slice a m c] 62)) j e1 t1 k n x y a m c X) := Lq.start2 hpl hfa hia hea hr.out
    have hw : Hid (LqR s 0 d i j e e1 X) := LqR.deep h32 (fun q => hr.out.er (hea0.out q))
    clear hea0
    unfold Hid
    clear hr
    go_wp2
    generalize hW1 : w1.alloc (.cells #[.int .i64 k, .string n, .int .i64 x, .int .i64 y, .slice a m c] 62) = W1 at *
    generalize hBX : w1.heap.size = BX at *
    clear hW1 hBX
    go_loopw [] (fun wr => ∃ (j : Nat) (e1 t1 k : Int) (n : ByteArray) (x y : Int) (a : Option Addr) (m c : Nat) (X : Ex), Hid (Lq s p i BX e W wr j e1 t1 k n x y a m c X) ∧ Hid (LqR s 0 d i j e e1 X)) (fun wr => s.size - plcOf wr p)
    case atStart => exact ⟨_, _, _, _, _, _, _, _, _, _, _, hL, hw⟩
    case round =>
      clear hL hw
      obtain ⟨J, E1, T1, K, NN, X1, Y1, A1, M1, C1, XX, hL, hw⟩ := hrel
      have hme := hL.out.rp.plc
      have htj := htk.out wr J E1 T1 hL.out.rp hL.out.le hL.out.rp.lt
      go_wp2_with (first | (go_at_call 70; refine htj.mono ?_; clear htj; rintro r w2 ⟨v, j2, rfl, hjj, hj2, hp2, hf2, hv⟩; apply Hid.out))
      have hL2 : Hid (Lq s p i BX e W w2 j2 E1 T1 K NN X1 Y1 A1 M1 C1 XX) := hL.out.take (b2 := 0) (bW0 wr (.cells #[.string ⟨#[124,124]⟩] 9)) hp2.out hf2.out hjj hj2
      obtain ⟨g0, g1, g2, g3, g4⟩ := hL2.out.b.cells
      unfold Hid
      clear hL
      rcases hv with ⟨rfl, hv⟩ | ⟨k1, k2, k3⟩
      · obtain ⟨z0, z1, z2, z3, z4⟩ := hL2.out.z.cells
        obtain ⟨f0, f1, f2, f3, f4⟩ := hL2.out.z.frozen
        have hdn := hL2.out.done (hw.out.done (fun q => tk_no (L := [⟨#[124,124]⟩]) (by decide) (by decide +kernel) (hv.out.2 q)) hv.out.1)
        go_wp2
        exact ret27 Tryz.results50 rfl hdn.1 ⟨_, _, _, _, _, _, _, rfl, _, _, _, _, hdn.2⟩
      · have hL3 : Hid (Lq s p i BX e W w2.drew j2 E1 T1 K NN X1 Y1 A1 M1 C1 XX) := hL2.out.drew
        have hj3 := hJ2.out w2.drew j2 E1 T1 hL3.out.rp hj2
        have hst : Hid (∀ w3 w5 k5 n5 x5 y5 a5 m5 c5 j5 e5 t5 X5, JdR (Job.op 1 d) s p j2 E1 w2.drew w3 (.agg #[.int .i64 k5, .string n5, .int .i64 x5, .int .i64 y5, .slice a5 m5 c5]) j5 e5 t5 X5 → Below (w3.heap.size + 1) (w3.alloc (.cells #[.int .i64 K, .string NN, .int .i64 X1, .int .i64 Y1, .slice A1 M1 C1, .int .i64 k5, .string n5, .int .i64 x5, .int .i64 y5, .slice a5 m5 c5] 62)) w5 →
          Bx w5 BX 62 (.int .i64 K) (.string NN) (.int .i64 X1) (.int .i64 Y1) (.slice A1 M1 C1) ∧ Lq s p i BX e W (set5 w5 BX (.int .i64 3) (.string ⟨#[124, 124]⟩) (.int .i64 0) (.int .i64 0) (.slice (some ⟨w3.heap.size, 0, none⟩) 2 2)) j5 e5 t5 3 ⟨#[124, 124]⟩ 0 0 (some ⟨w3.heap.size, 0, none⟩) 2 2 (exC ⟨#[124, 124]⟩ [XX, X5])) := fun w3 w5 k5 n5 x5 y5 a5 m5 c5 j5 e5 t5 X5 h1 h2 => hL3.out.step h1 h2
        have hbb : Hid (∀ w3, Fp p w2.drew w3 → Bx w3 BX 62 (.int .i64 K) (.string NN) (.int .i64 X1) (.int .i64 Y1) (.slice A1 M1 C1)) := fun w3 h => hL3.out.b.fp h (by have := hL2.out.bx; have := hL2.out.pl; omega)
        have hlt := k3.out.1.2
        have hvv : v = ⟨#[124, 124]⟩ := List.mem_singleton.1 k3.out.2.1
        have hww : Hid (∀ j5 e5 X5, JobR s (Job.op 1 d) j2 j5 E1 e5 X5 → LqR s 0 d i j5 e e5 (exC ⟨#[124, 124]⟩ [XX, X5])) := fun j5 e5 X5 g => hw.out.step (by decide) k3.out.1.1 (by decide) (by rw [k3.out.2.2.1, hvv]) (by rw [k3.out.2.2.2.1, hvv]) (by decide +kernel) g
        clear hvv
        clear hw
        go_wp2
        go_region_with (first
          | (go_at_call 69; refine hj3.mono ?_; clear hj3; rintro r w3 ⟨k5, n5, x5, y5, a5, m5, c5, rfl, j5, e5, t5, X5, h5⟩; clear g0 g1 g2 g3 g4; obtain ⟨g0, g1, g2, g3, g4⟩ := (hbb.out w3 h5.out.fp).cells)
          | (go_at_call 71; refine (hcl _ _ _).mono ?_; rintro r w5 ⟨rfl, hb5⟩; obtain ⟨hx5, hL5⟩ := hst.out _ w5 _ _ _ _ _ _ _ _ _ _ _ h5.out (by simpa using hb5); clear g0 g1 g2 g3 g4; obtain ⟨g0, g1, g2, g3, g4⟩ := hx5.cells; obtain ⟨f0, f1, f2, f3, f4⟩ := hx5.frozen))
        all_goals go_wp2
        all_goals (refine ⟨⟨_, _, _, _, _, _, _, _, _, _, _, hL5, hww.out _ _ _ h5.out.we⟩, ?_⟩; have hm5 := hL5.rp.plc; have hg5 := h5.out.ge; have hl5 := h5.out.le; unfold set5 at hm5; rw [hme, hm5]; omega)
  · have h32i : ¬ (32 : Int) < (d : Int) := by omega
    go_enter Tryz.func50, Tryz.ntmps50
    go_wp2_with (first
      | (go_at_call 51; refine hbl.mono ?_; clear hbl; rintro r wb ⟨rfl, i1, hi1, hi2, hpb, hfb, his⟩; have hfa := hfb.out; have hj1 := hJ2.out wb i1 e t hpb.out hi2; have hea : e ≠ 0 → e ≠ 0 := (fun q => q))
      | (go_at_call 69; refine hj1.mono ?_; clear hj1; rintro r w1 ⟨k, n, x, y, a, m, c, rfl, j, e1, t1, X, hr⟩; apply Hid.out))
    have hia := hi1
    clear hi1 hpb hfl
    have hL : Hid (Lq s p i w1.heap.size e W (w1.alloc (.cells #[.int .i64 k, .string n, .int .i64 x, .int .i64 y, .slice a m c] 62)) j e1 t1 k n x y a m c X) := Lq.start2 hpl hfa hia hea hr.out
    have hw : Hid (LqR s 0 d i j e e1 X) := LqR.start2 (by rw [his.out, skip_idem]) (by decide) hr.out.we
    unfold Hid
    clear hr
    go_wp2
    generalize hW1 : w1.alloc (.cells #[.int .i64 k, .string n, .int .i64 x, .int .i64 y, .slice a m c] 62) = W1 at *
    generalize hBX : w1.heap.size = BX at *
    clear hW1 hBX
    go_loopw [] (fun wr => ∃ (j : Nat) (e1 t1 k : Int) (n : ByteArray) (x y : Int) (a : Option Addr) (m c : Nat) (X : Ex), Hid (Lq s p i BX e W wr j e1 t1 k n x y a m c X) ∧ Hid (LqR s 0 d i j e e1 X)) (fun wr => s.size - plcOf wr p)
    case atStart => exact ⟨_, _, _, _, _, _, _, _, _, _, _, hL, hw⟩
    case round =>
      clear hL hw
      obtain ⟨J, E1, T1, K, NN, X1, Y1, A1, M1, C1, XX, hL, hw⟩ := hrel
      have hme := hL.out.rp.plc
      have htj := htk.out wr J E1 T1 hL.out.rp hL.out.le hL.out.rp.lt
      go_wp2_with (first | (go_at_call 70; refine htj.mono ?_; clear htj; rintro r w2 ⟨v, j2, rfl, hjj, hj2, hp2, hf2, hv⟩; apply Hid.out))
      have hL2 : Hid (Lq s p i BX e W w2 j2 E1 T1 K NN X1 Y1 A1 M1 C1 XX) := hL.out.take (b2 := 0) (bW0 wr (.cells #[.string ⟨#[124,124]⟩] 9)) hp2.out hf2.out hjj hj2
      obtain ⟨g0, g1, g2, g3, g4⟩ := hL2.out.b.cells
      unfold Hid
      clear hL
      rcases hv with ⟨rfl, hv⟩ | ⟨k1, k2, k3⟩
      · obtain ⟨z0, z1, z2, z3, z4⟩ := hL2.out.z.cells
        obtain ⟨f0, f1, f2, f3, f4⟩ := hL2.out.z.frozen
        have hdn := hL2.out.done (hw.out.done (fun q => tk_no (L := [⟨#[124,124]⟩]) (by decide) (by decide +kernel) (hv.out.2 q)) hv.out.1)
        go_wp2
        exact ret27 Tryz.results50 rfl hdn.1 ⟨_, _, _, _, _, _, _, rfl, _, _, _, _, hdn.2⟩
      · have hL3 : Hid (Lq s p i BX e W w2.drew j2 E1 T1 K NN X1 Y1 A1 M1 C1 XX) := hL2.out.drew
        have hj3 := hJ2.out w2.drew j2 E1 T1 hL3.out.rp hj2
        have hst : Hid (∀ w3 w5 k5 n5 x5 y5 a5 m5 c5 j5 e5 t5 X5, JdR (Job.op 1 d) s p j2 E1 w2.drew w3 (.agg #[.int .i64 k5, .string n5, .int .i64 x5, .int .i64 y5, .slice a5 m5 c5]) j5 e5 t5 X5 → Below (w3.heap.size + 1) (w3.alloc (.cells #[.int .i64 K, .string NN, .int .i64 X1, .int .i64 Y1, .slice A1 M1 C1, .int .i64 k5, .string n5, .int .i64 x5, .int .i64 y5, .slice a5 m5 c5] 62)) w5 →
          Bx w5 BX 62 (.int .i64 K) (.string NN) (.int .i64 X1) (.int .i64 Y1) (.slice A1 M1 C1) ∧ Lq s p i BX e W (set5 w5 BX (.int .i64 3) (.string ⟨#[124, 124]⟩) (.int .i64 0) (.int .i64 0) (.slice (some ⟨w3.heap.size, 0, none⟩) 2 2)) j5 e5 t5 3 ⟨#[124, 124]⟩ 0 0 (some ⟨w3.heap.size, 0, none⟩) 2 2 (exC ⟨#[124, 124]⟩ [XX, X5])) := fun w3 w5 k5 n5 x5 y5 a5 m5 c5 j5 e5 t5 X5 h1 h2 => hL3.out.step h1 h2
        have hbb : Hid (∀ w3, Fp p w2.drew w3 → Bx w3 BX 62 (.int .i64 K) (.string NN) (.int .i64 X1) (.int .i64 Y1) (.slice A1 M1 C1)) := fun w3 h => hL3.out.b.fp h (by have := hL2.out.bx; have := hL2.out.pl; omega)
        have hlt := k3.out.1.2
        have hvv : v = ⟨#[124, 124]⟩ := List.mem_singleton.1 k3.out.2.1
        have hww : Hid (∀ j5 e5 X5, JobR s (Job.op 1 d) j2 j5 E1 e5 X5 → LqR s 0 d i j5 e e5 (exC ⟨#[124, 124]⟩ [XX, X5])) := fun j5 e5 X5 g => hw.out.step (by decide) k3.out.1.1 (by decide) (by rw [k3.out.2.2.1, hvv]) (by rw [k3.out.2.2.2.1, hvv]) (by decide +kernel) g
        clear hvv
        clear hw
        go_wp2
        go_region_with (first
          | (go_at_call 69; refine hj3.mono ?_; clear hj3; rintro r w3 ⟨k5, n5, x5, y5, a5, m5, c5, rfl, j5, e5, t5, X5, h5⟩; clear g0 g1 g2 g3 g4; obtain ⟨g0, g1, g2, g3, g4⟩ := (hbb.out w3 h5.out.fp).cells)
          | (go_at_call 71; refine (hcl _ _ _).mono ?_; rintro r w5 ⟨rfl, hb5⟩; obtain ⟨hx5, hL5⟩ := hst.out _ w5 _ _ _ _ _ _ _ _ _ _ _ h5.out (by simpa using hb5); clear g0 g1 g2 g3 g4; obtain ⟨g0, g1, g2, g3, g4⟩ := hx5.cells; obtain ⟨f0, f1, f2, f3, f4⟩ := hx5.frozen))
        all_goals go_wp2
        all_goals (refine ⟨⟨_, _, _, _, _, _, _, _, _, _, _, hL5, hww.out _ _ _ h5.out.we⟩, ?_⟩; have hm5 := hL5.rp.plc; have hg5 := h5.out.ge; have hl5 := h5.out.le; unfold set5 at hm5; rw [hme, hm5]; omega)
end Go.Proofs.YtaffplmfnincfaaGreatDoor
/- DagChecks: the document's parser: rel. -/
namespace Go.Proofs.YtaffplmfnincfaaGreatDoor
set_option linter.unusedVariables false
open Go.RowKit
set_option maxRecDepth 100000 in
set_option maxHeartbeats 8000000 in
/-- Parser.rel. -/
theorem rel92 {s : ByteArray} {d : Nat} (hs : s.size ≤ 1024) (hd : d ≤ 100) (hJ : JD 140 d s (Job.op 3 d)) : JD 116 d s (Job.op 2 d) := by
  intro W p i e t hp hi
  have hb := bW0 W zE
  have hpl := hp.lt
  have hj1 := hJ _ p i e t (hp.grow hb) hi
  have hJ2 : Hid (∀ W2 j2 e2 t2, RpT W2 p s j2 e2 t2 → j2 ≤ s.size → Calls Tryz.prog 140 #[.pointer (some ⟨p, 0, none⟩), .int .i64 (d : Int)] W2 fun r w' => JdQ (Job.op 3 d) s p j2 e2 W2 r w') := fun W2 j2 e2 t2 h1 h2 => hJ W2 p j2 e2 t2 h1 h2
  have htk : Hid (∀ W2 o j2 e2 t2, RpT (World.alloc W2 o) p s j2 e2 t2 → j2 ≤ s.size → p < W2.heap.size → Calls Tryz.prog 70 #[.pointer (some ⟨p, 0, none⟩), .slice (some ⟨W2.heap.size + 1, 0, none⟩) 6 6] ((W2.alloc o).alloc (.cells #[.string ⟨#[61,61]⟩, .string ⟨#[33,61]⟩, .string ⟨#[60,61]⟩, .string ⟨#[62,61]⟩, .string ⟨#[60]⟩, .string ⟨#[62]⟩] 9)) fun r w' => TkQ [⟨#[61,61]⟩, ⟨#[33,61]⟩, ⟨#[60,61]⟩, ⟨#[62,61]⟩, ⟨#[60]⟩, ⟨#[62]⟩] s p j2 e2 t2 ((W2.alloc o).alloc (.cells #[.string ⟨#[61,61]⟩, .string ⟨#[33,61]⟩, .string ⟨#[60,61]⟩, .string ⟨#[62,61]⟩, .string ⟨#[60]⟩, .string ⟨#[62]⟩] 9)) r w') := fun W2 o j2 e2 t2 h1 h2 h3 => take64 _ p s j2 e2 t2 (h1.grow (bW0 _ _)) h2 (by omega) (W2.heap.size + 1) 6 [⟨#[61,61]⟩, ⟨#[33,61]⟩, ⟨#[60,61]⟩, ⟨#[62,61]⟩, ⟨#[60]⟩, ⟨#[62]⟩] rfl (by have := strL_new (W2.alloc o) [⟨#[61,61]⟩, ⟨#[33,61]⟩, ⟨#[60,61]⟩, ⟨#[62,61]⟩, ⟨#[60]⟩, ⟨#[62]⟩] (by decide); rw [World.size_alloc] at this; exact this) (by omega) (by omega) (by decide)
  have hcl := fun (nm : ByteArray) (b : Nat) W2 => rcall_any nm (some ⟨b, 0, none⟩) 2 2 W2
  clear hJ
  go_enter Tryz.func116, Tryz.ntmps116
  go_wp2_with (first | (go_at_call 140; refine hj1.mono ?_; clear hj1; rintro r w1 ⟨K, NN, X1, Y1, A1, M1, C1, rfl, J, E1, T1, XX, hr⟩; apply Hid.out))
  have hL : Hid (Lq s p i w1.heap.size e W (w1.alloc (.cells #[.int .i64 K, .string NN, .int .i64 X1, .int .i64 Y1, .slice A1 M1 C1] 62)) J E1 T1 K NN X1 Y1 A1 M1 C1 XX) := Lq.start hp hr.out
  have hw : Hid (LqR s 2 d i J e E1 XX) := LqR.start (by decide) hr.out.we
  have hs1 : (W.alloc zE).heap.size = W.heap.size + 1 := by simp
  have hp1 : p < w1.heap.size := by have := hr.out.fp.size; omega
  have htj := htk.out w1 _ J E1 T1 hL.out.rp hL.out.le hp1
  clear hs1
  unfold Hid
  clear hb hp hr
  go_wp2_with (first | (go_at_call 70; refine htj.mono ?_; clear htj; rintro r w2 ⟨v, j2, rfl, hjj, hj2, hp2, hf2, hv⟩; apply Hid.out))
  have hL2 : Hid (Lq s p i w1.heap.size e W w2 j2 E1 T1 K NN X1 Y1 A1 M1 C1 XX) := hL.out.take (b2 := 0) (bW0 _ (.cells #[.string ⟨#[61,61]⟩, .string ⟨#[33,61]⟩, .string ⟨#[60,61]⟩, .string ⟨#[62,61]⟩, .string ⟨#[60]⟩, .string ⟨#[62]⟩] 9)) hp2.out hf2.out hjj hj2
  obtain ⟨g0, g1, g2, g3, g4⟩ := hL2.out.b.cells
  unfold Hid
  clear hL
  rcases hv with ⟨rfl, hv⟩ | ⟨k1, k2, k3⟩
  · obtain ⟨z0, z1, z2, z3, z4⟩ := hL2.out.z.cells
    obtain ⟨f0, f1, f2, f3, f4⟩ := hL2.out.z.frozen
    have hdn := hL2.out.done (hw.out.done (fun q => tk_no (L := [⟨#[61,61]⟩, ⟨#[33,61]⟩, ⟨#[60,61]⟩, ⟨#[62,61]⟩, ⟨#[60]⟩, ⟨#[62]⟩]) (by decide) (by decide +kernel) (hv.out.2 q)) hv.out.1)
    go_wp2
    exact ret27 Tryz.results116 rfl hdn.1 ⟨_, _, _, _, _, _, _, rfl, _, _, _, _, hdn.2⟩
  · have hL3 : Hid (Lq s p i w1.heap.size e W w2.drew j2 E1 T1 K NN X1 Y1 A1 M1 C1 XX) := hL2.out.drew
    have hj3 := hJ2.out w2.drew j2 E1 T1 hL3.out.rp hj2
    have hst : Hid (∀ w3 w5 k5 n5 x5 y5 a5 m5 c5 j5 e5 t5 X5, JdR (Job.op 3 d) s p j2 E1 w2.drew w3 (.agg #[.int .i64 k5, .string n5, .int .i64 x5, .int .i64 y5, .slice a5 m5 c5]) j5 e5 t5 X5 → Below (w3.heap.size + 1) (w3.alloc (.cells #[.int .i64 K, .string NN, .int .i64 X1, .int .i64 Y1, .slice A1 M1 C1, .int .i64 k5, .string n5, .int .i64 x5, .int .i64 y5, .slice a5 m5 c5] 62)) w5 →
      Bx w5 w1.heap.size 62 (.int .i64 K) (.string NN) (.int .i64 X1) (.int .i64 Y1) (.slice A1 M1 C1) ∧ Lq s p i w1.heap.size e W (set5 w5 w1.heap.size (.int .i64 3) (.string v) (.int .i64 0) (.int .i64 0) (.slice (some ⟨w3.heap.size, 0, none⟩) 2 2)) j5 e5 t5 3 v 0 0 (some ⟨w3.heap.size, 0, none⟩) 2 2 (exC v [XX, X5])) := fun w3 w5 k5 n5 x5 y5 a5 m5 c5 j5 e5 t5 X5 h1 h2 => hL3.out.step h1 h2
    have hbb : Hid (∀ w3, Fp p w2.drew w3 → Bx w3 w1.heap.size 62 (.int .i64 K) (.string NN) (.int .i64 X1) (.int .i64 Y1) (.slice A1 M1 C1)) := fun w3 h => hL3.out.b.fp h (by have := hL2.out.bx; have := hL2.out.pl; omega)
    have hlt := k3.out.1.2
    have hww : Hid (∀ j5 e5 X5, JobR s (Job.op 3 d) j2 j5 E1 e5 X5 → JobR s (Job.op 2 d) i j5 e e5 (exC v [XX, X5])) := fun j5 e5 X5 g => hw.out.rel k3.out.1.1 k3.out.2.2.2.2 k3.out.2.2.1 k3.out.2.2.2.1 ((show ∀ u ∈ [⟨#[61,61]⟩, ⟨#[33,61]⟩, ⟨#[60,61]⟩, ⟨#[62,61]⟩, ⟨#[60]⟩, ⟨#[62]⟩], levOf u = ((2 : Nat) : Int) by decide +kernel) v k3.out.2.1) g
    clear hw
    go_wp2
    go_region_with (first
      | (go_at_call 140; refine hj3.mono ?_; clear hj3; rintro r w3 ⟨k5, n5, x5, y5, a5, m5, c5, rfl, j5, e5, t5, X5, h5⟩; clear g0 g1 g2 g3 g4; obtain ⟨g0, g1, g2, g3, g4⟩ := (hbb.out w3 h5.out.fp).cells)
      | (go_at_call 71; refine (hcl _ _ _).mono ?_; rintro r w5 ⟨rfl, hb5⟩; obtain ⟨hx5, hL5⟩ := hst.out _ w5 _ _ _ _ _ _ _ _ _ _ _ h5.out (by simpa using hb5); clear g0 g1 g2 g3 g4; obtain ⟨g0, g1, g2, g3, g4⟩ := hx5.cells; obtain ⟨f0, f1, f2, f3, f4⟩ := hx5.frozen))
    all_goals (have hdn := hL5.done (hww.out _ _ _ h5.out.we); obtain ⟨z0, z1, z2, z3, z4⟩ := hL5.z.cells; obtain ⟨f0, f1, f2, f3, f4⟩ := hL5.z.frozen; obtain ⟨g0, g1, g2, g3, g4⟩ := hL5.b.cells; unfold set5 at z0 z1 z2 z3 z4 f0 f1 f2 f3 f4 g0 g1 g2 g3 g4)
    all_goals go_wp2
    all_goals exact ret27 Tryz.results116 rfl hdn.1 ⟨_, _, _, _, _, _, _, rfl, _, _, _, _, hdn.2⟩
end Go.Proofs.YtaffplmfnincfaaGreatDoor
