/- Values: the contract of Parse. -/
import Derived.Test.YtfbiaffdfolbgaaGreatDoorVu
namespace Go.Proofs.YtfbiaffdfolbgaaGreatDoor
set_option linter.unusedVariables false
open Go.RowKit
theorem beq_str (a b : ByteArray) : (a.toList == b.toList) = decide (a = b) := by
  rw [Bool.eq_iff_iff, decide_eq_true_iff, beq_iff_eq, ByteArray.toList_eq, ByteArray.toList_eq]
  constructor
  · intro h
    apply ByteArray.ext
    exact Array.toList_inj.1 h
  · rintro rfl; rfl
open Classical in
/-- The value whose text it is. -/
noncomputable def parV (s : ByteArray) : Vl := if h : ∃ v, IsV v ∧ txtS v = s then h.choose else zer
open Classical in
noncomputable def parE (s : ByteArray) : Int := if ∃ v, IsV v ∧ txtS v = s then 0 else 80
theorem par_yes {s : ByteArray} {v : Vl} (hv : IsV v) (h : txtS v = s) : parV s = v ∧ parE s = 0 := by
  have he : ∃ v, IsV v ∧ txtS v = s := ⟨v, hv, h⟩
  refine ⟨?_, if_pos he⟩
  rw [parV, dif_pos he]
  have := he.choose_spec
  exact txtS_inj this.1 hv (this.2.trans h.symm)
theorem par_no {s : ByteArray} (h : ∀ v, IsV v → txtS v ≠ s) : parV s = zer ∧ parE s = 80 := by
  have he : ¬ ∃ v, IsV v ∧ txtS v = s := fun ⟨v, h1, h2⟩ => h v h1 h2
  exact ⟨by rw [parV, dif_neg he], if_neg he⟩
/-- What Parse looks at. -/
def parL (s : ByteArray) : List Vl := [nul, nan, pls, mns, num (thou s.data.toList)]
theorem parL_isV (s : ByteArray) : ∀ v ∈ parL s, IsV v := by
  intro v hv
  simp only [parL, List.mem_cons, List.not_mem_nil, or_false] at hv
  rcases hv with rfl | rfl | rfl | rfl | rfl
  · exact nul_isV
  · exact nan_isV
  · exact pls_isV
  · exact mns_isV
  · exact num_isV _
theorem parL_all (s : ByteArray) (v : Vl) (hv : IsV v) (h : txtS v = s) : v ∈ parL s := by
  rcases hv.cases with ⟨n, rfl, h1, h2⟩ | rfl | rfl | rfl | rfl
  · have e : s.data.toList = u8s (txt ⟨1, n⟩) := by rw [← h]; simp [txtS, bOf]
    simp [parL, e, thou_txt h1 h2, num_in h1 h2]
  all_goals simp [parL]
/-- Five values in a row. -/
theorem row5 (w : World) (a b c d e : Vl) : Vls (w.alloc (.cells #[.int .i64 a.kind, .int .i64 a.n, .int .i64 b.kind, .int .i64 b.n, .int .i64 c.kind, .int .i64 c.n, .int .i64 d.kind, .int .i64 d.n, .int .i64 e.kind, .int .i64 e.n] 25)) (.slice (some ⟨w.heap.size, 0, none⟩) 5 5) [a, b, c, d, e] := by
  refine ⟨_, _, rfl, .inr ⟨_, _, rfl, fun t ht => ?_⟩⟩
  have h : (w.alloc (.cells #[.int .i64 a.kind, .int .i64 a.n, .int .i64 b.kind, .int .i64 b.n, .int .i64 c.kind, .int .i64 c.n, .int .i64 d.kind, .int .i64 d.n, .int .i64 e.kind, .int .i64 e.n] 25)).heap[w.heap.size]? = some (.cells #[.int .i64 a.kind, .int .i64 a.n, .int .i64 b.kind, .int .i64 b.n, .int .i64 c.kind, .int .i64 c.n, .int .i64 d.kind, .int .i64 d.n, .int .i64 e.kind, .int .i64 e.n] 25) := by
    show (w.heap.push _)[w.heap.size]? = _; simp
  have ht5 : t = 0 ∨ t = 1 ∨ t = 2 ∨ t = 3 ∨ t = 4 := by simp at ht; omega
  unfold VAt World.cell?
  rw [h]
  rcases ht5 with rfl | rfl | rfl | rfl | rfl <;> simp
set_option maxRecDepth 100000 in
set_option maxHeartbeats 2000000 in
theorem parse_any (s : ByteArray) (w : World) (hG : G w) (hs : s.size ≤ 1000000) : Calls Tryz.prog 30 #[.string s] w fun e w' => e = .returned (.tuple #[vlV (parV s), .int .i64 (parE s)]) ∧ Below w.heap.size w w' := by
  have hr := vlNew w zer
  have hB : Below (w.alloc (vlO zer)).heap.size (w.alloc (vlO zer)) (w.alloc (vlO zer)) := Below.refl _ _
  have hth : ∀ W, Below (w.alloc (vlO zer)).heap.size (w.alloc (vlO zer)) W → Calls Tryz.prog 41 #[.string s] W fun e w' => e = .returned (.int .i64 (thou s.data.toList)) ∧ Below W.heap.size W w' := fun W h => thousandths_any s W (hG.grow ((bW0 w _).trans (h.mono (bW0 w _).size))) hs
  have hpr : Hid (∀ W, Below (w.alloc (vlO zer)).heap.size (w.alloc (vlO zer)) W → ∀ v ∈ parL s, Calls Tryz.prog 32 #[.agg #[.int .i64 v.kind, .int .i64 v.n]] W fun e w' => e = .returned (.string (txtS v)) ∧ Below W.heap.size W w') := fun W h v hv => by
    have := print_any v W (hG.grow ((bW0 w _).trans (h.mono (bW0 w _).size)))
    rw [prS, if_pos (parL_isV s v hv)] at this
    exact this
  obtain ⟨l, hl⟩ : ∃ l, Hid (l = parL s) := ⟨_, rfl⟩
  have hall : Hid (∀ v, IsV v → txtS v = s → v ∈ l) := fun v h1 h2 => by rw [hl.out]; exact parL_all s v h1 h2
  have hisv : Hid (∀ v ∈ l, IsV v) := fun v hv => parL_isV s v (by rw [← hl.out]; exact hv)
  rw [← hl.out] at hpr
  have hlen : Hid (l.length = 5) := by rw [hl.out]; rfl
  have hn := fun W => num_any (thou s.data.toList) W
  have h22 := fun W => null_b W
  have h24 := fun W => nan_b W
  have h26 := fun W => plus_b W
  have h28 := fun W => minus_b W
  have hrow : Hid (∀ W : World, Vls (W.alloc (.cells #[.int .i64 nul.kind, .int .i64 nul.n, .int .i64 nan.kind, .int .i64 nan.n, .int .i64 pls.kind, .int .i64 pls.n, .int .i64 mns.kind, .int .i64 mns.n, .int .i64 (num (thou s.data.toList)).kind, .int .i64 (num (thou s.data.toList)).n] 25)) (.slice (some ⟨W.heap.size, 0, none⟩) 5 5) l) := fun W => by
    rw [hl.out]; exact row5 W nul nan pls mns (num (thou s.data.toList))
  generalize num (thou s.data.toList) = u5 at *
  generalize thou s.data.toList = T5 at *
  clear hG hl
  obtain ⟨R, hR⟩ : ∃ R, Hid (R = parV s) := ⟨_, rfl⟩
  obtain ⟨E, hE⟩ : ∃ E, Hid (E = parE s) := ⟨_, rfl⟩
  rw [← hR.out, ← hE.out]
  unfold vlV at h22 h24 h26 h28 hn
  go_enter Tryz.func30, Tryz.ntmps30
  go_wp2_with (first | (go_at_call 22; with_reducible refine (h22 _).mono ?_; rintro e w2 ⟨rfl, hb2⟩; replace hB := hB.trans (hb2.mono hB.size)) | (go_at_call 24; with_reducible refine (h24 _).mono ?_; rintro e w2 ⟨rfl, hb2⟩; replace hB := hB.trans (hb2.mono hB.size)) | (go_at_call 26; with_reducible refine (h26 _).mono ?_; rintro e w2 ⟨rfl, hb2⟩; replace hB := hB.trans (hb2.mono hB.size)) | (go_at_call 28; with_reducible refine (h28 _).mono ?_; rintro e w2 ⟨rfl, hb2⟩; replace hB := hB.trans (hb2.mono hB.size)) | (go_at_call 41; with_reducible refine (hth _ hB).mono ?_; rintro e w2 ⟨rfl, hb2⟩; replace hB := hB.trans (hb2.mono hB.size)) | (go_at_call 18; with_reducible refine (hn _).mono ?_; rintro e w2 ⟨rfl, hb2⟩; replace hB := hB.trans (hb2.mono hB.size)))
  have hV := hrow.out w2
  have hB1 := hB.alloc hB.size (.cells #[.int .i64 nul.kind, .int .i64 nul.n, .int .i64 nan.kind, .int .i64 nan.n, .int .i64 pls.kind, .int .i64 pls.n, .int .i64 mns.kind, .int .i64 mns.n, .int .i64 u5.kind, .int .i64 u5.n] 25)
  clear hrow hb2 hB hth hn h22 h24 h26 h28
  generalize w2.alloc (.cells #[.int .i64 nul.kind, .int .i64 nul.n, .int .i64 nan.kind, .int .i64 nan.n, .int .i64 pls.kind, .int .i64 pls.n, .int .i64 mns.kind, .int .i64 mns.n, .int .i64 u5.kind, .int .i64 u5.n] 25) = W1 at hV hB1 ⊢
  generalize w2.heap.size = nb at hV ⊢
  have hgl : Hid (∀ W, Below W1.heap.size W1 W → Vls W (.slice (some ⟨nb, 0, none⟩) 5 5) l) := fun W h => hV.grow h
  clear hV
  go_loopw [15] (fun i wr => ∃ k : Nat, k ≤ 5 ∧ i = .int .i64 k ∧ Hid (∀ u ∈ l.take k, txtS u ≠ s) ∧ Below W1.heap.size W1 wr) (fun i _ => 5 - (intOf i).toNat)
  case atStart => exact ⟨0, Nat.zero_le _, rfl, (fun u hu => by simp at hu), Below.refl _ _⟩
  case round =>
    obtain ⟨k, hk, rfl, hrk, hb⟩ := hrel
    have hz := hb.size
    have hBw := hB1.trans (hb.mono hB1.size)
    have hvr := (hr.grow hBw)
    have hltr := hvr.lt
    by_cases hlt : k < 5
    · have hki : (k : Int) < 5 := by omega
      have hltl : k < l.length := by rw [hlen.out]; exact hlt
      obtain ⟨a', c', e, hcs⟩ := hgl.out wr hb
      have ea : some (⟨nb, 0, none⟩ : Addr) = a' := by
        have := e; simp at this; exact this.1
      subst ea
      rcases hcs with hcs | ⟨b, o, hbo, hcs⟩
      · rw [hcs] at hltl; simp at hltl
      obtain ⟨rfl, rfl⟩ : nb = b ∧ 0 = o := by simpa using hbo
      obtain ⟨x0, x1⟩ := hcs k hltl
      rw [Nat.zero_add] at x0 x1
      clear hcs e hbo
      have hmem : Hid (l.getD k zer ∈ l) := getD_mem l k hltl
      have htk : Hid (l.take (k + 1) = l.take k ++ [l.getD k zer]) := take_getD l k hltl
      generalize l.getD k zer = u at *
      have hp := hpr.out (wr.alloc (.cells #[.int .i64 u.kind, .int .i64 u.n] 25)) (hBw.alloc hBw.size _) u hmem.out
      have hiu : Hid (IsV u) := hisv.out u hmem.out
      obtain ⟨TU, hTU⟩ : ∃ T, Hid (T = txtS u) := ⟨_, rfl⟩
      rw [← hTU.out] at hp
      have hbe := beq_str TU s
      have hr2 : ∀ o, VlAt (wr.alloc o) w.heap.size zer := fun o => hvr.alloc o
      clear hgl hpr
      by_cases heq : TU = s
      · have hb2 : (TU.toList == s.toList) = true := by rw [hbe]; simpa using heq
        obtain ⟨y1, y2⟩ := par_yes hiu.out (hTU.out.symm.trans heq)
        have hRu : Hid (R = u) := hR.out.trans y1
        have hE0 : Hid (E = 0) := hE.out.trans y2
        clear hbe heq y1 y2
        go_wp2_with (go_at_call 32; refine hp.mono ?_; rintro e w3 ⟨rfl, hb3⟩; have hr3 := (hr2 _).grow hb3; obtain ⟨r0, r1⟩ := hr3.cells; obtain ⟨rf0, rf1⟩ := hr3.frozen; have hub := (vlNew wr u).grow hb3; obtain ⟨v0, v1⟩ := hub.cells)
        refine ret_cell2 (v := u) Tryz.results30 rfl (vlSet hr3) rfl ⟨by rw [hRu.out, hE0.out]; rfl, ?_⟩
        have hw3 : Below (w.alloc (vlO zer)).heap.size (w.alloc (vlO zer)) w3 := (hBw.alloc hBw.size _).trans (hb3.mono (hBw.alloc hBw.size _).size)
        exact belTwo _ _ ((bW0 w _).trans (hw3.mono (bW0 w _).size)) (Nat.le_refl _)
      · have hb2 : (TU.toList == s.toList) = false := by rw [hbe]; simpa using heq
        have hnew : Hid (∀ y ∈ l.take (k + 1), txtS y ≠ s) := by
          rw [htk.out]
          intro y hy
          rcases List.mem_append.1 hy with h | h
          · exact hrk.out y h
          · rw [List.mem_singleton.1 h, ← hTU.out]; exact heq
        clear hbe heq
        go_wp2_with (go_at_call 32; refine hp.mono ?_; rintro e w3 ⟨rfl, hb3⟩; have hub := (vlNew wr u).grow hb3; obtain ⟨v0, v1⟩ := hub.cells)
        have hb4 : Below W1.heap.size W1 w3 := (hb.alloc (by omega) _).trans (hb3.mono (by simp; omega))
        go_roundw
        case rel => exact ⟨k + 1, by omega, by go_num, hnew, hb4⟩
        case measure => simp [intOf]; omega
    · obtain rfl : k = 5 := by omega
      have hno : ∀ v, IsV v → txtS v ≠ s := fun v h1 h2 => by
        have h3 := hrk.out v (by rw [List.take_of_length_le (by rw [hlen.out]; omega)]; exact hall.out v h1 h2)
        exact h3 h2
      obtain ⟨y1, y2⟩ := par_no hno
      have hRu : Hid (R = zer) := hR.out.trans y1
      have hE0 : Hid (E = 80) := hE.out.trans y2
      obtain ⟨r0, r1⟩ := hvr.cells
      obtain ⟨rf0, rf1⟩ := hvr.frozen
      clear hgl hpr y1 y2 hno
      go_wp2
      refine ret_cell2 (v := zer) Tryz.results30 rfl (vlSet hvr) rfl ⟨by rw [hRu.out, hE0.out]; rfl, ?_⟩
      exact belTwo _ _ ((bW0 w _).trans (hBw.mono (bW0 w _).size)) (Nat.le_refl _)
end Go.Proofs.YtfbiaffdfolbgaaGreatDoor
