/- Jobs are compared; Same 15 of one list with itself. -/
import Derived.Test.YtnbhnnjgnojgbaaDd
namespace Go.Proofs.Ytnbhnnjgnojgbaa
set_option linter.unusedVariables false
open Go.RowKit
theorem eqF_step {d : Nat} {xs ys : Array Value} {f : Field} {fs : List Field} {w : World} {a b : Value} {r : Bool} {s : Bool} (hn : f.name ≠ "_") (ha : (part f.type xs f.offset).run Try.prog w = .ok a w) (hb : (part f.type ys f.offset).run Try.prog w = .ok b w) (hr : (Op.equalIn d f.type a b).run Try.prog w = .ok r w) (hs : (Op.eqFields d xs ys fs).run Try.prog w = .ok s w) : (Op.eqFields d xs ys (f :: fs)).run Try.prog w = .ok (r && s) w := by
  rw [Op.eqFields, if_pos hn]
  simp only [Sem.run_bind, ha, hb, hr, Result.andThen_ok]
  cases r
  · simp
  · simp [hs]
theorem eqF_nil {d : Nat} {xs ys : Array Value} {w : World} : (Op.eqFields d xs ys []).run Try.prog w = .ok true w := by simp [Op.eqFields]
theorem eqJ27 (x y : Jb) (w : World) : (Op.equalIn 10000 27 (.agg #[.string x.fo, .string x.gr, .int .i64 x.id, .int .i64 x.iv, .int .i64 x.off, .bool x.pa, .int .i64 x.la]) (.agg #[.string y.fo, .string y.gr, .int .i64 y.id, .int .i64 y.iv, .int .i64 y.off, .bool y.pa, .int .i64 y.la])).run Try.prog w = .ok ((x.fo.toList == y.fo.toList) && ((x.gr.toList == y.gr.toList) && ((x.id == y.id) && ((x.iv == y.iv) && ((x.off == y.off) && ((x.pa == y.pa) && ((x.la == y.la) && true))))))) w := by
  rw [run_equalIn_agg w 9999 27 _ _ (by kernel_rfl) (by kernel_rfl)]
  have hf : (Try.prog.fieldsOf 27).toList = [⟨"Folder", 9, 0, false, "", "", 0⟩, ⟨"Group", 9, 1, false, "", "", 16⟩, ⟨"Id", 2, 2, false, "", "", 32⟩, ⟨"Interval", 2, 3, false, "", "", 40⟩, ⟨"Offset", 2, 4, false, "", "", 48⟩, ⟨"Paused", 4, 5, false, "", "", 56⟩, ⟨"Last", 2, 6, false, "", "", 64⟩] := by kernel_rfl
  rw [hf]
  exact eqF_step (by decide) (by kernel_rfl) (by kernel_rfl) (run_equalIn_string w 9998 9 x.fo y.fo Try.underlying9) <|
    eqF_step (by decide) (by kernel_rfl) (by kernel_rfl) (run_equalIn_string w 9998 9 x.gr y.gr Try.underlying9) <|
    eqF_step (by decide) (by kernel_rfl) (by kernel_rfl) (run_equalIn_int w 9998 2 .i64 .i64 x.id y.id Try.underlying2) <|
    eqF_step (by decide) (by kernel_rfl) (by kernel_rfl) (run_equalIn_int w 9998 2 .i64 .i64 x.iv y.iv Try.underlying2) <|
    eqF_step (by decide) (by kernel_rfl) (by kernel_rfl) (run_equalIn_int w 9998 2 .i64 .i64 x.off y.off Try.underlying2) <|
    eqF_step (by decide) (by kernel_rfl) (by kernel_rfl) (run_equalIn_bool' w 9998 4 x.pa y.pa Try.underlying4) <|
    eqF_step (by decide) (by kernel_rfl) (by kernel_rfl) (run_equalIn_int w 9998 2 .i64 .i64 x.la y.la Try.underlying2) eqF_nil
theorem neqJ (x : Jb) (w : World) : (binOp .neq 27 (.agg #[.string x.fo, .string x.gr, .int .i64 x.id, .int .i64 x.iv, .int .i64 x.off, .bool x.pa, .int .i64 x.la]) (.agg #[.string x.fo, .string x.gr, .int .i64 x.id, .int .i64 x.iv, .int .i64 x.off, .bool x.pa, .int .i64 x.la])).run Try.prog w = .ok (.bool false) w := by
  rw [run_neq_struct, eqJ27 x x w]
  simp
set_option maxRecDepth 100000 in
set_option maxHeartbeats 2000000 in
theorem same15 (u v : Value) (L : List Jb) (w : World) (hu : Jbs w u L) (hv : Jbs w v L) (hl : L.length ≤ 1000000) : Calls Try.prog 15 #[u, v] w fun e w' => e = .returned (.bool true) ∧ Below w.heap.size w w' := by
  obtain ⟨ua, uc, rfl⟩ := hu.shape
  obtain ⟨va, vc, rfl⟩ := hv.shape
  have e0 : ((L.length : Int) != (L.length : Int)) = false := by simp
  go_enter Try.func15, Try.ntmps15
  go_wp2
  clear e0
  go_loopw [5] (fun iv wr => ∃ i : Nat, i ≤ L.length ∧ iv = .int .i64 i ∧ Hid (Below w.heap.size w wr)) (fun iv _ => L.length - (intOf iv).toNat)
  case atStart => exact ⟨0, Nat.zero_le _, rfl, Below.refl _ _⟩
  case round =>
    obtain ⟨i, hi, rfl, hB⟩ := hrel
    by_cases hlt : i < L.length
    · have hki : (i : Int) < (L.length : Int) := by omega
      obtain ⟨b, o, rfl, hat⟩ := jb_at (Sls.grow hu hB.out) i hlt
      obtain ⟨b2, o2, rfl, hat2⟩ := jb_at (Sls.grow hv hB.out) i hlt
      obtain ⟨y0, y1, y2, y3, y4, y5, y6⟩ := at_jb hat
      obtain ⟨z0, z1, z2, z3, z4, z5, z6⟩ := at_jb hat2
      clear hat hat2
      generalize L.getD i jb0 = x at *
      have hne := neqJ x
      have c0 : ∀ zz : Bel wr, zz.W.cell? ⟨b, o + i * 7, none⟩ = some (.string x.fo) := fun zz => zz.cell y0
      have e0 : ∀ zz : Bel wr, zz.W.cell? ⟨b2, o2 + i * 7, none⟩ = some (.string x.fo) := fun zz => zz.cell z0
      have c1 : ∀ zz : Bel wr, zz.W.cell? ⟨b, o + i * 7 + 1, none⟩ = some (.string x.gr) := fun zz => zz.cell y1
      have e1 : ∀ zz : Bel wr, zz.W.cell? ⟨b2, o2 + i * 7 + 1, none⟩ = some (.string x.gr) := fun zz => zz.cell z1
      have c2 : ∀ zz : Bel wr, zz.W.cell? ⟨b, o + i * 7 + 2, none⟩ = some (.int .i64 x.id) := fun zz => zz.cell y2
      have e2 : ∀ zz : Bel wr, zz.W.cell? ⟨b2, o2 + i * 7 + 2, none⟩ = some (.int .i64 x.id) := fun zz => zz.cell z2
      have c3 : ∀ zz : Bel wr, zz.W.cell? ⟨b, o + i * 7 + 3, none⟩ = some (.int .i64 x.iv) := fun zz => zz.cell y3
      have e3 : ∀ zz : Bel wr, zz.W.cell? ⟨b2, o2 + i * 7 + 3, none⟩ = some (.int .i64 x.iv) := fun zz => zz.cell z3
      have c4 : ∀ zz : Bel wr, zz.W.cell? ⟨b, o + i * 7 + 4, none⟩ = some (.int .i64 x.off) := fun zz => zz.cell y4
      have e4 : ∀ zz : Bel wr, zz.W.cell? ⟨b2, o2 + i * 7 + 4, none⟩ = some (.int .i64 x.off) := fun zz => zz.cell z4
      have c5 : ∀ zz : Bel wr, zz.W.cell? ⟨b, o + i * 7 + 5, none⟩ = some (.bool x.pa) := fun zz => zz.cell y5
      have e5 : ∀ zz : Bel wr, zz.W.cell? ⟨b2, o2 + i * 7 + 5, none⟩ = some (.bool x.pa) := fun zz => zz.cell z5
      have c6 : ∀ zz : Bel wr, zz.W.cell? ⟨b, o + i * 7 + 6, none⟩ = some (.int .i64 x.la) := fun zz => zz.cell y6
      have e6 : ∀ zz : Bel wr, zz.W.cell? ⟨b2, o2 + i * 7 + 6, none⟩ = some (.int .i64 x.la) := fun zz => zz.cell z6
      go_upto_region 6 with fail
      refine wp_region_bel (by kernel_rfl) (by kernel_rfl) ?_
      repeat (go_big_quiet_step (fail))
      refine wpQuiet_nil ?_
      rintro wq ⟨⟨wz, hq⟩, rfl⟩
      have hBq : Hid (Below w.heap.size w wq) := hB.out.trans (hq.mono hB.out.size)
      clear c0 c1 c2 c3 c4 c5 c6 e0 e1 e2 e3 e4 e5 e6 hq
      go_wp2
      refine ⟨⟨i + 1, by omega, by go_num, hBq.out⟩, by simp [intOf]; omega⟩
    · obtain rfl : i = L.length := by omega
      have hki : ¬ (L.length : Int) < (L.length : Int) := by omega
      go_wp2
      go_ret
      exact ⟨rfl, hB.out⟩
end Go.Proofs.Ytnbhnnjgnojgbaa
