/- readFolder, Equal, Get. -/
import Derived.Test.YtfbeilninpapaaaGu
import Derived.Laws.ResultCell
namespace Go.Proofs.Ytfbeilninpapaaa
set_option linter.unusedVariables false
open Go.RowKit
/-- What readFolder leaves. -/
def FoQ (w : World) (bs : List Int) (g pl : Nat) (err : Int) (s : ByteArray) (v : Value) (F : List Gr) (z : Int) (w' : World) : Prop :=
  s.size ≤ 24 ∧ OwnG w' w.heap.size v F ∧ F.length ≤ 16 ∧ (∀ q ∈ F, GrI q ∧ q.name.size ≤ 24) ∧ (-9223372036854775808 ≤ z ∧ z ≤ 9223372036854775807) ∧ w.grownBy w' (some g) ∧ (∀ m l z0, err = 0 → bs.drop pl = foB m l z0 → m.size ≤ 24 → GrS l → (-9223372036854775808 ≤ z0 ∧ z0 ≤ 9223372036854775807) → s = m ∧ F = l ∧ z = z0)
set_option maxRecDepth 100000 in
set_option maxHeartbeats 4000000 in
theorem readFolder_w (lo g : Nat) (bs : List Int) (pl : Nat) (err : Int) (w : World) (hs : IsStrip w lo g bs pl err) (hby : IsBytes bs) (hlen : bs.length ≤ 1000000000) :
    Calls Try.prog 35 #[.pointer (some ⟨g, 0, none⟩)] w fun e w' => ∃ s v F z, e = .returned (.agg #[.string s, v, .int .i64 z]) ∧ FoQ w bs g pl err s v F z w' := by
  have hgb : g < w.heap.size := hs.lt
  obtain ⟨w1, hw1⟩ : ∃ w1, w1 = w.alloc (.cells #[.string ⟨#[]⟩, .slice none 0 0, .int .i64 0] 39) := ⟨_, rfl⟩
  have hs1 : IsStrip w1 lo g bs pl err := by rw [hw1]; exact (strip_stay hs ((Below.refl _ _).alloc (Nat.le_refl _) _)).1
  have hg1 : Hid (w.grownBy w1 (some g)) := by rw [hw1]; exact g_alloc _ _ _
  have hz1 : w1.heap.size = w.heap.size + 1 := by rw [hw1]; simp
  have hH1 : Hid (w1.heap[w.heap.size]? = some (.cells #[.string ⟨#[]⟩, .slice none 0 0, .int .i64 0] 39 (0, 0))) := by rw [hw1]; exact heap_new _ _
  have hHk : Hid (∀ W W' : World, W.heap[w.heap.size]? = some (.cells #[.string ⟨#[]⟩, .slice none 0 0, .int .i64 0] 39 (0, 0)) → W.grownBy W' (some g) → W'.heap[w.heap.size]? = some (.cells #[.string ⟨#[]⟩, .slice none 0 0, .int .i64 0] 39 (0, 0))) := fun W W' h hg => (hg.block _ (lt_of_block h) (by simp; omega)).trans h
  have hT := sText_w lo g bs pl err w1 hs1 hby hlen
  replace hby : Hid (IsBytes bs) := hby
  clear hs hs1
  go_enter Try.func35, Try.ntmps35
  go_upto_region 1 with fail
  rw [← hw1]
  replace hw1 : Hid _ := hw1
  go_wp2_with (first
    | (go_at_call 50; refine hT.mono ?_; rintro e w2 ⟨s2, p2, r2, rfl, hin2, hst2, hgr2, hc2⟩; have hG2 := readGrants_w lo g bs p2 r2 w2 hst2 hby.out hlen; have hH2 := hHk.out _ _ hH1.out hgr2; replace hH2 : Hid (w2.heap[w.heap.size]? = some (.cells #[.string ⟨#[]⟩, .slice none 0 0, .int .i64 0] 39 (0, 0))) := hH2; replace hin2 : Hid (s2.size ≤ 24) := hin2; replace hst2 : Hid _ := hst2; replace hgr2 : Hid (w1.grownBy w2 (some g)) := hgr2; replace hc2 : Hid (TxtC bs pl err s2 p2 r2) := hc2)
    | (go_at_call 51; refine hG2.mono ?_; rintro e w3 ⟨v3, rfl, hq3⟩; obtain ⟨F, p3, r3, ho3, hF1, hF2, hst3, hgr3, hc3⟩ := hq3; obtain ⟨a3, c3, hv3⟩ := ho3.shape; obtain ⟨n3, hn3⟩ : ∃ n3, n3 = F.length := ⟨_, rfl⟩; rw [← hn3] at hv3; subst hv3; replace hn3 : Hid _ := hn3; have hI3 := sInt_w lo g bs p3 r3 w3 hst3 hby.out hlen; have hH3 := hHk.out _ _ hH2.out hgr3; replace hH3 : Hid (w3.heap[w.heap.size]? = some (.cells #[.string ⟨#[]⟩, .slice none 0 0, .int .i64 0] 39 (0, 0))) := hH3; replace ho3 : Hid (OwnG w3 w2.heap.size (.slice a3 n3 c3) F) := ho3; replace hF1 : Hid (F.length ≤ 16) := hF1; replace hF2 : Hid (∀ q ∈ F, GrI q ∧ q.name.size ≤ 24) := hF2; replace hst3 : Hid _ := hst3; replace hgr3 : Hid (w2.grownBy w3 (some g)) := hgr3; replace hc3 : Hid _ := hc3)
    | (go_at_call 52; refine hI3.mono ?_; rintro e w4 ⟨z4, p4, r4, rfl, hin4, hst4, hgr4, hc4⟩; have hH4 := hHk.out _ _ hH3.out hgr4; have k0 := (show w4.cell? ⟨w.heap.size, 0, none⟩ = some (.string ⟨#[]⟩) ∧ w4.cell? ⟨w.heap.size, 1, none⟩ = some (.slice none 0 0) ∧ w4.cell? ⟨w.heap.size, 2, none⟩ = some (.int .i64 0) by simp [World.cell?, hH4]); have kf := (show w4.frozen? ⟨w.heap.size, 0, none⟩ = false ∧ w4.frozen? ⟨w.heap.size, 1, none⟩ = false ∧ w4.frozen? ⟨w.heap.size, 2, none⟩ = false by simp [World.frozen?, hH4]); have k00 := k0.1; have k01 := k0.2.1; have k02 := k0.2.2; have kf0 := kf.1; have kf1 := kf.2.1; have kf2 := kf.2.2; clear k0 kf; replace hH4 : Hid (w4.heap[w.heap.size]? = some (.cells #[.string ⟨#[]⟩, .slice none 0 0, .int .i64 0] 39 (0, 0))) := hH4; replace hin4 : Hid (-9223372036854775808 ≤ z4 ∧ z4 ≤ 9223372036854775807) := hin4; replace hst4 : Hid _ := hst4; replace hgr4 : Hid (w3.grownBy w4 (some g)) := hgr4; replace hc4 : Hid (IntC bs p3 r3 z4 p4 r4) := hc4))
  have hW1 := block_setCell (i := 0) (u := .string s2) hH4.out
  have hW2 := block_setCell (i := 1) (u := .slice a3 n3 c3) hW1
  have hW3 := block_setCell (i := 2) (u := .int .i64 z4) hW2
  generalize hW5 : ((w4.setCell ⟨w.heap.size, 0, none⟩ (.string s2)).setCell ⟨w.heap.size, 1, none⟩ (.slice a3 n3 c3)).setCell ⟨w.heap.size, 2, none⟩ (.int .i64 z4) = W5 at *
  have hg5 : w4.grownBy W5 (some w.heap.size) := by
    rw [← hW5]
    exact grown_trans (grown_trans (grownBy_set (Below.refl _ _) _ _ _) (grownBy_set (Below.refl _ _) _ _ _)) (grownBy_set (Below.refl _ _) _ _ _)
  have k0 : W5.cell? ⟨w.heap.size, 0, none⟩ = some (.string s2) := by simp [World.cell?, hW3]
  have k1 : W5.cell? ⟨w.heap.size, 1, none⟩ = some (.slice a3 n3 c3) := by simp [World.cell?, hW3]
  have k2 : W5.cell? ⟨w.heap.size, 2, none⟩ = some (.int .i64 z4) := by simp [World.cell?, hW3]
  have hgw : w.grownBy w4 (some g) := gtr' (gtr' (gtr' hg1.out hgr2.out) hgr3.out) hgr4.out
  have hsz2 : w.heap.size + 1 ≤ w2.heap.size := by have := hgr2.out.size; omega
  refine bodyPost_ret (v := .agg #[.string s2, .slice a3 n3 c3, .int .i64 z4]) ?_ rfl ?_
  · simp [results, go_sem, k0, k1, k2]
  · refine ⟨s2, .slice a3 n3 c3, F, z4, rfl, hin2.out, ?_, hF1.out, hF2.out, hin4.out, ?_, ?_⟩
    · exact (OwnS.kept2 (OwnS.kept2 ho3.out hgr4.out (by omega)) hg5 (by omega)).wide (by omega)
    · exact gtr hgw hg5 (fun k hk => by cases hk; exact Nat.le_refl _)
    · intro m l z0 he hd hm hl hz
      have hd' : bs.drop pl = encT m ++ (enc l.length ++ (cat grB l ++ encS z0)) := hd
      obtain ⟨q1, q2, q3⟩ := hc2.out m _ he hd' hm
      obtain ⟨q4, q5, q6⟩ := hc3.out l (encS z0) ⟨q2, q3, hl⟩
      obtain ⟨q7, q8, q9⟩ := hc4.out z0 [] q5 (by rw [q6]; simp) hz
      exact ⟨q1, q4, q7⟩
end Go.Proofs.Ytfbeilninpapaaa
