/- BEq; BSm; BSg. -/
import Derived.Test.YtiajafljgfpdcaaGreatBGlBGg
import Derived.Laws.StructEq
/- Instances, values are compared. -/
namespace Go.Proofs.YtiajafljgfpdcaaGreat
set_option linter.unusedVariables false
open Go.RowKit
theorem eqF_step {d : Nat} {xs ys : Array Value} {f : Field} {fs : List Field} {w : World} {a b : Value} {r : Bool} {s : Bool} (hn : f.name ≠ "_") (ha : (part f.type xs f.offset).run Tryz.prog w = .ok a w) (hb : (part f.type ys f.offset).run Tryz.prog w = .ok b w) (hr : (Op.equalIn d f.type a b).run Tryz.prog w = .ok r w) (hs : (Op.eqFields d xs ys fs).run Tryz.prog w = .ok s w) : (Op.eqFields d xs ys (f :: fs)).run Tryz.prog w = .ok (r && s) w := by
  rw [Op.eqFields, if_pos hn]
  simp only [Sem.run_bind, ha, hb, hr, Result.andThen_ok]
  cases r
  · simp
  · simp [hs]
theorem eqF_nil {d : Nat} {xs ys : Array Value} {w : World} : (Op.eqFields d xs ys []).run Tryz.prog w = .ok true w := by simp [Op.eqFields]
theorem eqV57 (a b c d : Int) (n : Nat) (w : World) : (Op.equalIn (n + 1 + 1) 57 (.agg #[.int .i64 a, .int .i64 b]) (.agg #[.int .i64 c, .int .i64 d])).run Tryz.prog w = .ok ((a == c) && ((b == d) && true)) w := by
  rw [run_equalIn_agg w (n + 1) 57 _ _ (by kernel_rfl) (by kernel_rfl)]
  have hf : (Tryz.prog.fieldsOf 57).toList = [⟨"Kind", 3, 0, false, "", "", 0⟩, ⟨"N", 2, 1, false, "", "", 8⟩] := by kernel_rfl
  rw [hf]
  exact eqF_step (by decide) (by kernel_rfl) (by kernel_rfl) (run_equalIn_int w n 3 .i64 .i64 a c Tryz.underlying3) (eqF_step (by decide) (by kernel_rfl) (by kernel_rfl) (run_equalIn_int w n 2 .i64 .i64 b d Tryz.underlying2) eqF_nil)
/-- Two values are the same. -/
def eqVB (a b c d : Int) : Bool := (a == c) && ((b == d) && true)
theorem neq57 (a b c d : Int) (w : World) : (binOp .neq 57 (.agg #[.int .i64 a, .int .i64 b]) (.agg #[.int .i64 c, .int .i64 d])).run Tryz.prog w = .ok (.bool (!eqVB a b c d)) w := by
  rw [run_neq_struct, eqV57 a b c d 9998 w]
  rfl
theorem eqVB_iff {a b c d : Int} : eqVB a b c d = true ↔ a = c ∧ b = d := by unfold eqVB; simp
/-- Two instances are the same. -/
def eqIB (x y : S.Inst) : Bool := (x.st == y.st) && ((x.since == y.since) && ((x.fr == y.fr) && ((x.quiet == y.quiet) && ((x.seen == y.seen) && (((x.vk == y.vk) && ((x.vn == y.vn) && true)) && true)))))
theorem eqIB_iff {x y : S.Inst} : eqIB x y = true ↔ x = y := by
  obtain ⟨a, b, c, d, e, f, g⟩ := x
  obtain ⟨a', b', c', d', e', f', g'⟩ := y
  unfold eqIB
  simp
theorem neq65 (x y : S.Inst) (w : World) : (binOp .neq 65 (.agg #[.int .i64 x.st, .int .i64 x.since, .int .i64 x.fr, .int .i64 x.quiet, .int .i64 x.seen, .int .i64 x.vk, .int .i64 x.vn]) (.agg #[.int .i64 y.st, .int .i64 y.since, .int .i64 y.fr, .int .i64 y.quiet, .int .i64 y.seen, .int .i64 y.vk, .int .i64 y.vn])).run Tryz.prog w = .ok (.bool (!eqIB x y)) w := by
  rw [run_neq_struct, run_equalIn_agg w 9999 65 _ _ (by kernel_rfl) (by kernel_rfl)]
  have hf : (Tryz.prog.fieldsOf 65).toList = [⟨"State", 3, 0, false, "", "", 0⟩, ⟨"Since", 2, 1, false, "", "", 8⟩, ⟨"From", 2, 2, false, "", "", 16⟩, ⟨"Quiet", 2, 3, false, "", "", 24⟩, ⟨"Seen", 2, 4, false, "", "", 32⟩, ⟨"Value", 57, 5, false, "", "", 40⟩] := by kernel_rfl
  rw [hf]
  have h : (Op.eqFields 9999 #[.int .i64 x.st, .int .i64 x.since, .int .i64 x.fr, .int .i64 x.quiet, .int .i64 x.seen, .int .i64 x.vk, .int .i64 x.vn] #[.int .i64 y.st, .int .i64 y.since, .int .i64 y.fr, .int .i64 y.quiet, .int .i64 y.seen, .int .i64 y.vk, .int .i64 y.vn] [⟨"State", 3, 0, false, "", "", 0⟩, ⟨"Since", 2, 1, false, "", "", 8⟩, ⟨"From", 2, 2, false, "", "", 16⟩, ⟨"Quiet", 2, 3, false, "", "", 24⟩, ⟨"Seen", 2, 4, false, "", "", 32⟩, ⟨"Value", 57, 5, false, "", "", 40⟩]).run Tryz.prog w = .ok (eqIB x y) w := eqF_step (by decide) (by kernel_rfl) (by kernel_rfl) (run_equalIn_int w 9998 3 .i64 .i64 x.st y.st Tryz.underlying3) <|
    eqF_step (by decide) (by kernel_rfl) (by kernel_rfl) (run_equalIn_int w 9998 2 .i64 .i64 x.since y.since Tryz.underlying2) <|
    eqF_step (by decide) (by kernel_rfl) (by kernel_rfl) (run_equalIn_int w 9998 2 .i64 .i64 x.fr y.fr Tryz.underlying2) <|
    eqF_step (by decide) (by kernel_rfl) (by kernel_rfl) (run_equalIn_int w 9998 2 .i64 .i64 x.quiet y.quiet Tryz.underlying2) <|
    eqF_step (by decide) (by kernel_rfl) (by kernel_rfl) (run_equalIn_int w 9998 2 .i64 .i64 x.seen y.seen Tryz.underlying2) <|
    eqF_step (by decide) (by kernel_rfl) (by kernel_rfl) (eqV57 x.vk x.vn y.vk y.vn 9997 w) eqF_nil
  rw [h]
  rfl
end Go.Proofs.YtiajafljgfpdcaaGreat
/- The document's Same, Changes. -/
namespace Go.Proofs.YtiajafljgfpdcaaGreat
set_option linter.unusedVariables false
open Go.RowKit
theorem enF_inj {a b : En} (h : enF a = enF b) : a.ls = b.ls ∧ a.x = b.x := by exact ⟨congrArg Prod.fst h, congrArg Prod.snd h⟩
theorem map_take_eq {α β : Type} {f : α → β} {l m : List α} (h : l.map f = m.map f) (k : Nat) (d : α) (hk : k < l.length) : f (l.getD k d) = f (m.getD k d) := by
  have hl : l.length = m.length := by simpa using congrArg List.length h
  have hm : k < m.length := by omega
  have h3 : (l.map f).getD k (f d) = (m.map f).getD k (f d) := by rw [h]
  simpa [hk, hm] using h3
theorem take_succ_eq {α β : Type} {f : α → β} {l m : List α} {k : Nat} (d : α) (hk : k < l.length) (hm : k < m.length) (h : (l.take k).map f = (m.take k).map f) (he : f (l.getD k d) = f (m.getD k d)) : (l.take (k + 1)).map f = (m.take (k + 1)).map f := by
  rw [take_getD l d k hk, take_getD m d k hm, List.map_append, List.map_append, h]
  simp only [List.map_cons, List.map_nil, he]
def SameE (l m : List En) (w : World) (e : Ending) (w' : World) : Prop := ∃ b, e = .returned (.bool b) ∧ (b = true ↔ l.map enF = m.map enF) ∧ Below w.heap.size w w'
set_option maxRecDepth 100000 in
set_option maxHeartbeats 4000000 in
theorem same14 (u v : Value) (l m : List En) (w : World) (hu : Ens w u l) (hv : Ens w v m) (hl : l.length ≤ 1000000) (hm : m.length ≤ 1000000) (hll : ∀ e ∈ l, e.ls.length ≤ 100000) (hml : ∀ e ∈ m, e.ls.length ≤ 100000) :
    Calls Tryz.prog 14 #[u, v] w (SameE l m w) := by
  obtain ⟨a, c, rfl⟩ := hu.1.shape
  obtain ⟨a2, c2, rfl⟩ := hv.1.shape
  by_cases hlm : l.length = m.length
  · have hne : ((l.length : Int) != (m.length : Int)) = false := by simp [hlm]
    replace hlm : Hid (l.length = m.length) := hlm
    go_enter Tryz.func14, Tryz.ntmps14
    go_wp2
    go_loopw [5] (fun i wr => ∃ k : Nat, k ≤ l.length ∧ i = .int .i64 k ∧ Hid ((l.take k).map enF = (m.take k).map enF) ∧ Hid (Below w.heap.size w wr)) (fun i _ => l.length - (intOf i).toNat)
    case atStart => exact ⟨0, Nat.zero_le _, rfl, (show _ = _ by simp), Below.refl _ _⟩
    case round =>
      obtain ⟨k, hk, rfl, hG, hB⟩ := hrel
      by_cases hlt : k < l.length
      · have hki : (k : Int) < (l.length : Int) := by omega
        have hltm : k < m.length := by rw [← hlm.out]; exact hlt
        have hkm : (k : Int) < (m.length : Int) := by omega
        obtain ⟨b1, o1, rfl, hat1⟩ := en_at (Sls.grow hu.1 hB.out) k hlt
        obtain ⟨b2, o2, rfl, hat2⟩ := en_at (Sls.grow hv.1 hB.out) k hltm
        obtain ⟨x0, x1, x2, x3, x4, x5, x6, x7⟩ := at_en hat1
        obtain ⟨y0, y1, y2, y3, y4, y5, y6, y7⟩ := at_en hat2
        have hm1 := getD_mem l en0 k hlt
        have hm2 := getD_mem m en0 k hltm
        have hs := fun W (hW : Below wr.heap.size wr W) => same_any (l.getD k en0).sv.v (m.getD k en0).sv.v _ _ W (Sls.grow (Sls.grow (hu.2 _ hm1) hB.out) hW) (Sls.grow (Sls.grow (hv.2 _ hm2) hB.out) hW) (by have := hll _ hm1; omega) (by have := hml _ hm2; omega)
        have hstep : Hid (enF (l.getD k en0) = enF (m.getD k en0) → (l.take (k + 1)).map enF = (m.take (k + 1)).map enF) := fun h => take_succ_eq en0 hlt hltm hG.out h
        have hno : Hid (enF (l.getD k en0) ≠ enF (m.getD k en0) → l.map enF ≠ m.map enF) := fun h h2 => h (map_take_eq h2 k en0 hlt)
        clear hat1 hat2 hm1 hm2
        generalize l.getD k en0 = e at *
        generalize m.getD k en0 = f at *
        obtain ⟨⟨ea, en, ec⟩, els, ⟨st, since, fr, quiet, seen, vk, vn⟩⟩ := e
        obtain ⟨⟨fa, fn, fc⟩, fls, ⟨st', since', fr', quiet', seen', vk', vn'⟩⟩ := f
        unfold Sv.v at hs
        simp only at *
        have hs2 : ∀ q : Bel wr, Calls Tryz.prog 45 #[.slice ea en ec, .slice fa fn fc] q.W fun e' w' => SameQ els fls q.W e' w' := fun q => hs _ q.h
        clear hs
        go_upto_region 6 with fail
        have X0 : ∀ q : Bel wr, q.W.cell? ⟨b1, o1 + k * 8, none⟩ = some (.slice ea en ec) := fun q => q.cell x0
        have X1 : ∀ q : Bel wr, q.W.cell? ⟨b1, o1 + k * 8 + 1, none⟩ = some (.int .i64 st) := fun q => q.cell x1
        have X2 : ∀ q : Bel wr, q.W.cell? ⟨b1, o1 + k * 8 + 2, none⟩ = some (.int .i64 since) := fun q => q.cell x2
        have X3 : ∀ q : Bel wr, q.W.cell? ⟨b1, o1 + k * 8 + 3, none⟩ = some (.int .i64 fr) := fun q => q.cell x3
        have X4 : ∀ q : Bel wr, q.W.cell? ⟨b1, o1 + k * 8 + 4, none⟩ = some (.int .i64 quiet) := fun q => q.cell x4
        have X5 : ∀ q : Bel wr, q.W.cell? ⟨b1, o1 + k * 8 + 5, none⟩ = some (.int .i64 seen) := fun q => q.cell x5
        have X6 : ∀ q : Bel wr, q.W.cell? ⟨b1, o1 + k * 8 + 6, none⟩ = some (.int .i64 vk) := fun q => q.cell x6
        have X7 : ∀ q : Bel wr, q.W.cell? ⟨b1, o1 + k * 8 + 7, none⟩ = some (.int .i64 vn) := fun q => q.cell x7
        have Y0 : ∀ q : Bel wr, q.W.cell? ⟨b2, o2 + k * 8, none⟩ = some (.slice fa fn fc) := fun q => q.cell y0
        have Y1 : ∀ q : Bel wr, q.W.cell? ⟨b2, o2 + k * 8 + 1, none⟩ = some (.int .i64 st') := fun q => q.cell y1
        have Y2 : ∀ q : Bel wr, q.W.cell? ⟨b2, o2 + k * 8 + 2, none⟩ = some (.int .i64 since') := fun q => q.cell y2
        have Y3 : ∀ q : Bel wr, q.W.cell? ⟨b2, o2 + k * 8 + 3, none⟩ = some (.int .i64 fr') := fun q => q.cell y3
        have Y4 : ∀ q : Bel wr, q.W.cell? ⟨b2, o2 + k * 8 + 4, none⟩ = some (.int .i64 quiet') := fun q => q.cell y4
        have Y5 : ∀ q : Bel wr, q.W.cell? ⟨b2, o2 + k * 8 + 5, none⟩ = some (.int .i64 seen') := fun q => q.cell y5
        have Y6 : ∀ q : Bel wr, q.W.cell? ⟨b2, o2 + k * 8 + 6, none⟩ = some (.int .i64 vk') := fun q => q.cell y6
        have Y7 : ∀ q : Bel wr, q.W.cell? ⟨b2, o2 + k * 8 + 7, none⟩ = some (.int .i64 vn') := fun q => q.cell y7
        clear x0 x1 x2 x3 x4 x5 x6 x7 y0 y1 y2 y3 y4 y5 y6 y7
        by_cases hls : els = fls
        · subst hls
          have hs3 : ∀ q : Bel wr, Calls Tryz.prog 45 #[.slice ea en ec, .slice fa fn fc] q.W fun e' w' => e' = .returned (.bool true) ∧ Below q.W.heap.size q.W w' := fun q => (hs2 q).mono (by rintro e w' ⟨B, rfl, hB, hb⟩; exact ⟨by rw [hB.2 rfl], hb⟩)
          clear hs2
          have hn65 : ∀ W, (binOp .neq 65 (.agg #[.int .i64 st, .int .i64 since, .int .i64 fr, .int .i64 quiet, .int .i64 seen, .int .i64 vk, .int .i64 vn]) (.agg #[.int .i64 st', .int .i64 since', .int .i64 fr', .int .i64 quiet', .int .i64 seen', .int .i64 vk', .int .i64 vn'])).run Tryz.prog W = .ok (.bool (!eqIB ⟨st, since, fr, quiet, seen, vk, vn⟩ ⟨st', since', fr', quiet', seen', vk', vn'⟩)) W := fun W => neq65 ⟨st, since, fr, quiet, seen, vk, vn⟩ ⟨st', since', fr', quiet', seen', vk', vn'⟩ W
          cases hq : eqIB ⟨st, since, fr, quiet, seen, vk, vn⟩ ⟨st', since', fr', quiet', seen', vk', vn'⟩ with
          | true =>
            rw [hq] at hn65
            have hG2 := hstep.out (by unfold enF; rw [eqIB_iff.1 hq])
            replace hG2 : Hid _ := hG2
            clear hstep hno hq
            refine wp_region_bel (by kernel_rfl) (by kernel_rfl) ?_
            repeat (go_big_quiet_step (first | (go_at_call 45; exact Calls.bel (hs3 _))))
            refine wpQuiet_nil ?_
            rintro w8 ⟨⟨_, h8⟩, rfl⟩
            have hB8 : Hid (Below w.heap.size w w8) := hB.out.trans (Below.mono h8 hB.out.size)
            go_wp2
            refine ⟨⟨k + 1, by omega, by go_num, hG2.out, hB8.out⟩, ?_⟩
            simp [intOf]; omega
          | false =>
            rw [hq] at hn65
            have hR := hno.out (fun h => by have := eqIB_iff.2 (enF_inj h).2; rw [hq] at this; cases this)
            replace hR : Hid _ := hR
            clear hstep hno hq
            refine wp_region_bel (by kernel_rfl) (by kernel_rfl) ?_
            repeat (go_big_quiet_step (first | (go_at_call 45; exact Calls.bel (hs3 _))))
            refine wpQuiet_nil ?_
            rintro w8 ⟨⟨_, h8⟩, rfl⟩
            go_wp2
            go_ret
            exact ⟨false, rfl, ⟨(fun h => by cases h), fun h => absurd h hR.out⟩, hB.out.trans (h8.mono hB.out.size)⟩
        · have hR := hno.out (fun h => hls (enF_inj h).1)
          have hs3 : ∀ q : Bel wr, Calls Tryz.prog 45 #[.slice ea en ec, .slice fa fn fc] q.W fun e' w' => e' = .returned (.bool false) ∧ Below q.W.heap.size q.W w' := fun q => (hs2 q).mono (by rintro e w' ⟨B, rfl, hB, hb⟩; exact ⟨by rw [show B = false from (by cases B with | false => rfl | true => exact absurd (hB.1 rfl) hls)], hb⟩)
          replace hR : Hid _ := hR
          clear hs2 hno hstep hls
          refine wp_region_bel (by kernel_rfl) (by kernel_rfl) ?_
          repeat (go_big_quiet_step (first | (go_at_call 45; exact Calls.bel (hs3 _))))
          refine wpQuiet_nil ?_
          rintro w8 ⟨⟨_, h8⟩, rfl⟩
          go_wp2
          go_ret
          exact ⟨false, rfl, ⟨(fun h => by cases h), fun h => absurd h hR.out⟩, hB.out.trans (h8.mono hB.out.size)⟩
      · obtain rfl : k = l.length := by omega
        have hki : ¬ (l.length : Int) < (l.length : Int) := by omega
        have hE : Hid (l.map enF = m.map enF) := by
          have := hG.out
          rwa [List.take_length, List.take_of_length_le (by rw [hlm.out]; exact Nat.le_refl _)] at this
        go_wp2
        go_ret
        exact ⟨true, rfl, ⟨fun _ => hE.out, fun _ => rfl⟩, hB.out⟩
  · have hne : ((l.length : Int) != (m.length : Int)) = true := by simp; omega
    go_enter Tryz.func14, Tryz.ntmps14
    go_wp2
    go_ret
    exact ⟨false, rfl, ⟨(fun h => by cases h), fun h => absurd (by simpa using congrArg List.length h) hlm⟩, Below.refl _ _⟩
end Go.Proofs.YtiajafljgfpdcaaGreat
/- The document's Changes. -/
namespace Go.Proofs.YtiajafljgfpdcaaGreat
set_option linter.unusedVariables false
open Go.RowKit
def cnF (c : Cn) : Cg := c.c
def SameG (l m : List Cn) (w : World) (e : Ending) (w' : World) : Prop := ∃ b, e = .returned (.bool b) ∧ (b = true ↔ l.map cnF = m.map cnF) ∧ Below w.heap.size w w'
set_option maxRecDepth 100000 in
set_option maxHeartbeats 4000000 in
theorem same15 (u v : Value) (l m : List Cn) (w : World) (hu : Cns w u l) (hv : Cns w v m) (hl : l.length ≤ 1000000) (hm : m.length ≤ 1000000) (hll : ∀ e ∈ l, e.c.ls.length ≤ 100000) (hml : ∀ e ∈ m, e.c.ls.length ≤ 100000) :
    Calls Tryz.prog 15 #[u, v] w (SameG l m w) := by
  obtain ⟨a, c, rfl⟩ := hu.1.shape
  obtain ⟨a2, c2, rfl⟩ := hv.1.shape
  by_cases hlm : l.length = m.length
  · have hne : ((l.length : Int) != (m.length : Int)) = false := by simp [hlm]
    replace hlm : Hid (l.length = m.length) := hlm
    go_enter Tryz.func15, Tryz.ntmps15
    go_wp2
    go_loopw [5] (fun i wr => ∃ k : Nat, k ≤ l.length ∧ i = .int .i64 k ∧ Hid ((l.take k).map cnF = (m.take k).map cnF) ∧ Hid (Below w.heap.size w wr)) (fun i _ => l.length - (intOf i).toNat)
    case atStart => exact ⟨0, Nat.zero_le _, rfl, (show _ = _ by simp), Below.refl _ _⟩
    case round =>
      obtain ⟨k, hk, rfl, hG, hB⟩ := hrel
      by_cases hlt : k < l.length
      · have hki : (k : Int) < (l.length : Int) := by omega
        have hltm : k < m.length := by rw [← hlm.out]; exact hlt
        have hkm : (k : Int) < (m.length : Int) := by omega
        obtain ⟨b1, o1, rfl, hat1⟩ := cn_at (Sls.grow hu.1 hB.out) k hlt
        obtain ⟨b2, o2, rfl, hat2⟩ := cn_at (Sls.grow hv.1 hB.out) k hltm
        obtain ⟨x0, x1, x2, x3, x4⟩ := at_cn hat1
        obtain ⟨y0, y1, y2, y3, y4⟩ := at_cn hat2
        have hm1 := getD_mem l cn0 k hlt
        have hm2 := getD_mem m cn0 k hltm
        have hs := fun W (hW : Below wr.heap.size wr W) => same_any (l.getD k cn0).sv.v (m.getD k cn0).sv.v _ _ W (Sls.grow (Sls.grow (hu.2 _ hm1) hB.out) hW) (Sls.grow (Sls.grow (hv.2 _ hm2) hB.out) hW) (by have := hll _ hm1; omega) (by have := hml _ hm2; omega)
        have hstep : Hid (cnF (l.getD k cn0) = cnF (m.getD k cn0) → (l.take (k + 1)).map cnF = (m.take (k + 1)).map cnF) := fun h => take_succ_eq cn0 hlt hltm hG.out h
        have hno : Hid (cnF (l.getD k cn0) ≠ cnF (m.getD k cn0) → l.map cnF ≠ m.map cnF) := fun h h2 => h (map_take_eq h2 k cn0 hlt)
        clear hat1 hat2 hm1 hm2
        generalize l.getD k cn0 = e at *
        generalize m.getD k cn0 = f at *
        obtain ⟨⟨ea, en, ec⟩, ⟨els, fr, to, vk, vn⟩⟩ := e
        obtain ⟨⟨fa, fn, fc⟩, ⟨fls, fr', to', vk', vn'⟩⟩ := f
        unfold Sv.v at hs
        unfold cnF at hstep hno
        simp only at *
        have hs2 : ∀ q : Bel wr, Calls Tryz.prog 45 #[.slice ea en ec, .slice fa fn fc] q.W fun e' w' => SameQ els fls q.W e' w' := fun q => hs _ q.h
        clear hs
        go_upto_region 6 with fail
        have X0 : ∀ q : Bel wr, q.W.cell? ⟨b1, o1 + k * 5, none⟩ = some (.slice ea en ec) := fun q => q.cell x0
        have X1 : ∀ q : Bel wr, q.W.cell? ⟨b1, o1 + k * 5 + 1, none⟩ = some (.int .i64 fr) := fun q => q.cell x1
        have X2 : ∀ q : Bel wr, q.W.cell? ⟨b1, o1 + k * 5 + 2, none⟩ = some (.int .i64 to) := fun q => q.cell x2
        have X3 : ∀ q : Bel wr, q.W.cell? ⟨b1, o1 + k * 5 + 3, none⟩ = some (.int .i64 vk) := fun q => q.cell x3
        have X4 : ∀ q : Bel wr, q.W.cell? ⟨b1, o1 + k * 5 + 4, none⟩ = some (.int .i64 vn) := fun q => q.cell x4
        have Y0 : ∀ q : Bel wr, q.W.cell? ⟨b2, o2 + k * 5, none⟩ = some (.slice fa fn fc) := fun q => q.cell y0
        have Y1 : ∀ q : Bel wr, q.W.cell? ⟨b2, o2 + k * 5 + 1, none⟩ = some (.int .i64 fr') := fun q => q.cell y1
        have Y2 : ∀ q : Bel wr, q.W.cell? ⟨b2, o2 + k * 5 + 2, none⟩ = some (.int .i64 to') := fun q => q.cell y2
        have Y3 : ∀ q : Bel wr, q.W.cell? ⟨b2, o2 + k * 5 + 3, none⟩ = some (.int .i64 vk') := fun q => q.cell y3
        have Y4 : ∀ q : Bel wr, q.W.cell? ⟨b2, o2 + k * 5 + 4, none⟩ = some (.int .i64 vn') := fun q => q.cell y4
        clear x0 x1 x2 x3 x4 y0 y1 y2 y3 y4
        by_cases hls : els = fls
        · subst hls
          have hs3 : ∀ q : Bel wr, Calls Tryz.prog 45 #[.slice ea en ec, .slice fa fn fc] q.W fun e' w' => e' = .returned (.bool true) ∧ Below q.W.heap.size q.W w' := fun q => (hs2 q).mono (by rintro e w' ⟨B, rfl, hB, hb⟩; exact ⟨by rw [hB.2 rfl], hb⟩)
          clear hs2
          by_cases h1 : fr = fr'
          · subst h1
            by_cases h2 : to = to'
            · subst h2
              have hn57 : ∀ W, (binOp .neq 57 (.agg #[.int .i64 vk, .int .i64 vn]) (.agg #[.int .i64 vk', .int .i64 vn'])).run Tryz.prog W = .ok (.bool (!eqVB vk vn vk' vn')) W := fun W => neq57 vk vn vk' vn' W
              cases hq : eqVB vk vn vk' vn' with
              | true =>
                rw [hq] at hn57
                obtain ⟨q1, q2⟩ := eqVB_iff.1 hq
                have hG2 := hstep.out (by rw [q1, q2])
                replace hG2 : Hid _ := hG2
                clear hstep hno hq q1 q2
                refine wp_region_bel (by kernel_rfl) (by kernel_rfl) ?_
                repeat (go_big_quiet_step (first | (go_at_call 45; exact Calls.bel (hs3 _))))
                refine wpQuiet_nil ?_
                rintro w8 ⟨⟨_, h8⟩, rfl⟩
                have hB8 : Hid (Below w.heap.size w w8) := hB.out.trans (Below.mono h8 hB.out.size)
                go_wp2
                refine ⟨⟨k + 1, by omega, by go_num, hG2.out, hB8.out⟩, ?_⟩
                simp [intOf]; omega
              | false =>
                rw [hq] at hn57
                have hR := hno.out (fun h => by have := eqVB_iff.2 ⟨congrArg Cg.vk h, congrArg Cg.vn h⟩; simp only at this; rw [hq] at this; cases this)
                replace hR : Hid _ := hR
                clear hstep hno hq
                refine wp_region_bel (by kernel_rfl) (by kernel_rfl) ?_
                repeat (go_big_quiet_step (first | (go_at_call 45; exact Calls.bel (hs3 _))))
                refine wpQuiet_nil ?_
                rintro w8 ⟨⟨_, h8⟩, rfl⟩
                go_wp2
                go_ret
                exact ⟨false, rfl, ⟨(fun h => by cases h), fun h => absurd h hR.out⟩, hB.out.trans (h8.mono hB.out.size)⟩
            · have hne2 : (to != to') = true := by simp [h2]
              have hR := hno.out (fun h => h2 (congrArg Cg.to h))
              replace hR : Hid _ := hR
              clear hstep hno h2
              refine wp_region_bel (by kernel_rfl) (by kernel_rfl) ?_
              repeat (go_big_quiet_step (first | (go_at_call 45; exact Calls.bel (hs3 _))))
              refine wpQuiet_nil ?_
              rintro w8 ⟨⟨_, h8⟩, rfl⟩
              go_wp2
              go_ret
              exact ⟨false, rfl, ⟨(fun h => by cases h), fun h => absurd h hR.out⟩, hB.out.trans (h8.mono hB.out.size)⟩
          · have hne1 : (fr != fr') = true := by simp [h1]
            have hR := hno.out (fun h => h1 (congrArg Cg.fr h))
            replace hR : Hid _ := hR
            clear hstep hno h1
            refine wp_region_bel (by kernel_rfl) (by kernel_rfl) ?_
            repeat (go_big_quiet_step (first | (go_at_call 45; exact Calls.bel (hs3 _))))
            refine wpQuiet_nil ?_
            rintro w8 ⟨⟨_, h8⟩, rfl⟩
            go_wp2
            go_ret
            exact ⟨false, rfl, ⟨(fun h => by cases h), fun h => absurd h hR.out⟩, hB.out.trans (h8.mono hB.out.size)⟩
        · have hs3 : ∀ q : Bel wr, Calls Tryz.prog 45 #[.slice ea en ec, .slice fa fn fc] q.W fun e' w' => e' = .returned (.bool false) ∧ Below q.W.heap.size q.W w' := fun q => (hs2 q).mono (by rintro e w' ⟨B, rfl, hB, hb⟩; exact ⟨by rw [show B = false from (by cases B with | false => rfl | true => exact absurd (hB.1 rfl) hls)], hb⟩)
          clear hs2
          have hR := hno.out (fun h => hls (congrArg Cg.ls h))
          replace hR : Hid _ := hR
          clear hstep hno hls
          refine wp_region_bel (by kernel_rfl) (by kernel_rfl) ?_
          repeat (go_big_quiet_step (first | (go_at_call 45; exact Calls.bel (hs3 _))))
          refine wpQuiet_nil ?_
          rintro w8 ⟨⟨_, h8⟩, rfl⟩
          go_wp2
          go_ret
          exact ⟨false, rfl, ⟨(fun h => by cases h), fun h => absurd h hR.out⟩, hB.out.trans (h8.mono hB.out.size)⟩
      · obtain rfl : k = l.length := by omega
        have hki : ¬ (l.length : Int) < (l.length : Int) := by omega
        have hE : Hid (l.map cnF = m.map cnF) := by
          have := hG.out
          rwa [List.take_length, List.take_of_length_le (by rw [hlm.out]; exact Nat.le_refl _)] at this
        go_wp2
        go_ret
        exact ⟨true, rfl, ⟨fun _ => hE.out, fun _ => rfl⟩, hB.out⟩
  · have hne : ((l.length : Int) != (m.length : Int)) = true := by simp; omega
    go_enter Tryz.func15, Tryz.ntmps15
    go_wp2
    go_ret
    exact ⟨false, rfl, ⟨(fun h => by cases h), fun h => absurd (by simpa using congrArg List.length h) hlm⟩, Below.refl _ _⟩
end Go.Proofs.YtiajafljgfpdcaaGreat
