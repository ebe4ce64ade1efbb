/- The contracts of within and all, at a tree of one leaf, of all keys; of Scan. -/
import Derived.Test.YtdobleekjiehdaaGreatPrs
namespace Go.Proofs.YtdobleekjiehdaaGreat
set_option linter.unusedVariables false
open Go.RowKit Go.Maps Go.Sort Go.Shelf
def prsOf (l : List Cl) : List (ByteArray × ByteArray) := l.map fun c => (c.key, c.val)
theorem prs_nil (w : World) (base : Nat) : Prs w base (.slice none 0 0) [] := World.ownsRow_nil _ _ _ _
theorem Prs.grow {w W : World} {base : Nat} {v : Value} {l : List (ByteArray × ByteArray)} (h : Prs w base v l) (hb : Below w.heap.size w W) : Prs W base v l := World.ownsRow.kept (row := none) h ⟨hb.os, hb.tape, hb.output, hb.size, fun k hk _ => hb.block k hk⟩ (by cases v.ownBlock <;> simp)
section
variable {w : World} {m most size : Nat} {ps : List ByteArray}
set_option maxRecDepth 100000 in
set_option maxHeartbeats 4000000 in
theorem within_ok {p wb pb base id keys : Nat} (l : List Cl) (hll : l.length ≤ 8000000) (hpg : ∀ c ∈ l, c.page = 0) (hwb : w.heap[wb]? = some (.cells #[.pointer (some ⟨p, 0, none⟩)] 76 (0, 0))) (hpb : w.heap[pb]? = some (.cells #[.slice none 0 0] 32 (0, 0))) (hb : base ≤ pb)
    (hnd : ∀ W, Below w.heap.size w W → Calls Tryz.prog 58 #[.pointer (some ⟨p, 0, none⟩), .agg #[.int .i64 id, .int .i64 1, .int .i64 keys, .string ⟨#[]⟩, .string ⟨#[]⟩]] W fun e w' => ∃ v, e = .returned (.tuple #[v, .int .i64 0]) ∧ OwnC w' W.heap.size v l ∧ Below base W w' ∧ ∀ (k : Nat) (c : Array Value) (t : TypeId), W.heap[k]? = some (.cells c t (0, 0)) → w'.heap[k]? = some (.cells c t (0, 0))) :
    Calls Tryz.prog 45 #[.pointer (some ⟨p, 0, none⟩), .agg #[.int .i64 id, .int .i64 1, .int .i64 keys, .string ⟨#[]⟩, .string ⟨#[]⟩], .agg #[.string ⟨#[]⟩, .string ⟨#[]⟩], .func (.func 36) #[] #[.pointer (some ⟨wb, 0, none⟩), .pointer (some ⟨pb, 0, none⟩)]] w fun e w' => ∃ vP', e = .returned (.int .i64 0) ∧ w'.heap[pb]? = some (.cells #[vP'] 32 (0, 0)) ∧ Prs w' base vP' (prsOf l) ∧ Below base w w' := by
  have hbw : base ≤ w.heap.size := Nat.le_trans hb (Nat.le_of_lt (lt_of_block hpb))
  have hB : Below w.heap.size w ((w.alloc (.cells #[.int .i64 id, .int .i64 1, .int .i64 keys, .string ⟨#[]⟩, .string ⟨#[]⟩] 99)).alloc (.cells #[.string ⟨#[]⟩, .string ⟨#[]⟩] 88)) := ((Below.refl _ w).alloc (Nat.le_refl _) _).alloc (by simp) _
  have hn1 := hnd _ hB
  have hx : ((w.alloc (.cells #[.int .i64 id, .int .i64 1, .int .i64 keys, .string ⟨#[]⟩, .string ⟨#[]⟩] 99)).alloc (.cells #[.string ⟨#[]⟩, .string ⟨#[]⟩] 88)).heap[w.heap.size]? = some (.cells #[.int .i64 id, .int .i64 1, .int .i64 keys, .string ⟨#[]⟩, .string ⟨#[]⟩] 99 (0, 0)) := (((Below.refl _ _).alloc (Nat.le_refl _) _).block _ (by simp)).trans (heap_alloc_new w _)
  have hr : ((w.alloc (.cells #[.int .i64 id, .int .i64 1, .int .i64 keys, .string ⟨#[]⟩, .string ⟨#[]⟩] 99)).alloc (.cells #[.string ⟨#[]⟩, .string ⟨#[]⟩] 88)).heap[w.heap.size + 1]? = some (.cells #[.string ⟨#[]⟩, .string ⟨#[]⟩] 88 (0, 0)) := by
    have := heap_alloc_new (w.alloc (.cells #[.int .i64 id, .int .i64 1, .int .i64 keys, .string ⟨#[]⟩, .string ⟨#[]⟩] 99)) (.cells #[.string ⟨#[]⟩, .string ⟨#[]⟩] 88)
    rwa [World.size_alloc] at this
  have hw1 := (hB.block _ (lt_of_block hwb)).trans hwb
  have hp1 := (hB.block _ (lt_of_block hpb)).trans hpb
  clear hnd
  go_enter Tryz.func45, Tryz.ntmps45
  go_upto_region 2 with (first | (go_at_call 58; refine hn1.mono ?_; rintro e w2 ⟨v2, rfl, ho2, hb2, hk2⟩))
  generalize (w.alloc (.cells #[.int .i64 id, .int .i64 1, .int .i64 keys, .string ⟨#[]⟩, .string ⟨#[]⟩] 99)).alloc (.cells #[.string ⟨#[]⟩, .string ⟨#[]⟩] 88) = W1 at *
  obtain ⟨N, hN⟩ : ∃ N, Hid (N = l.length) := ⟨_, rfl⟩
  obtain ⟨a2, c2, e2⟩ := ho2.shape
  rw [← hN.out] at e2
  subst e2
  have hBW2 : Below base w w2 := (hB.mono hbw).trans hb2
  have hW1s : w.heap.size + 1 < W1.heap.size := lt_of_block hr
  have hx2 := hk2 _ _ _ hx
  have hr2 := hk2 _ _ _ hr
  have hw2 := hk2 _ _ _ hw1
  have hp2 := hk2 _ _ _ hp1
  have hpr2 := prs_nil w2 base
  have hne1 : w.heap.size ≠ pb := by have := lt_of_block hpb; omega
  have hne2 : w.heap.size + 1 ≠ pb := by have := lt_of_block hpb; omega
  have hne3 : wb ≠ pb := fun e => by rw [e, hpb] at hwb; cases hwb
  have hpl := lt_of_block hpb
  clear hk2 hn1
  go_wp2_with fail
  go_loopw [10, 21] (fun er i wr => ∃ (k : Nat) (vQ : Value), k ≤ N ∧ i = .int .i64 k ∧ er = .int .i64 0 ∧ wr.heap[w.heap.size]? = some (.cells #[.int .i64 id, .int .i64 1, .int .i64 keys, .string ⟨#[]⟩, .string ⟨#[]⟩] 99 (0, 0)) ∧ wr.heap[w.heap.size + 1]? = some (.cells #[.string ⟨#[]⟩, .string ⟨#[]⟩] 88 (0, 0)) ∧ wr.heap[wb]? = some (.cells #[.pointer (some ⟨p, 0, none⟩)] 76 (0, 0)) ∧ wr.heap[pb]? = some (.cells #[vQ] 32 (0, 0)) ∧ Prs wr base vQ (prsOf (l.take k)) ∧ OwnC wr W1.heap.size (.slice a2 N c2) l ∧ Below base w wr) (fun _ i _ => N - (intOf i).toNat)
  case atStart => exact ⟨0, _, Nat.zero_le _, rfl, rfl, hx2, hr2, hw2, hp2, hpr2, ho2, hBW2⟩
  case round =>
    clear hx2 hr2 hw2 hp2 hpr2 ho2 hBW2 hb2
    obtain ⟨k, vQ, hk, rfl, rfl, hx2, hr2, hw2, hp2, hpr2, ho2, hBW2⟩ := hrel
    by_cases hlt : k < N
    · have hki : (k : Int) < (N : Int) := by omega
      obtain ⟨_, _, e2, _, hcs⟩ := ho2.cells
      have e2' := e2
      rw [← hN.out] at e2'
      cases e2'
      clear e2
      rcases hcs with h1 | ⟨b, o, rfl, hcs⟩
      · rw [h1] at hN; have := hN.out; simp at this; omega
      have hkl : k < l.length := by rw [← hN.out]; exact hlt
      obtain ⟨x0, x1, x2, x3⟩ := hcs k hkl
      have hpgk : (l.getD k cl0).page = 0 := hpg _ (by rw [List.getD_eq_getElem?_getD, List.getElem?_eq_getElem hkl]; exact List.getElem_mem hkl)
      have htk : prsOf (l.take (k + 1)) = prsOf (l.take k) ++ [((l.getD k cl0).key, (l.getD k cl0).val)] := by
        unfold prsOf
        rw [List.take_succ_eq_append_getElem hkl, List.map_append]
        simp [hkl]
      have htl : (prsOf (l.take k)).length ≤ 100000000 := by unfold prsOf; simp; omega
      replace hpgk : Hid _ := hpgk
      replace htk : Hid _ := htk
      generalize l.getD k cl0 = cc at *
      clear hcs
      have hA : Below wr.heap.size wr (wr.alloc (.cells #[.string cc.key, .string cc.val, .int .i64 cc.page, .int .i64 cc.count] 90)) := (Below.refl _ wr).alloc (Nat.le_refl _) _
      have hcb := heap_alloc_new wr (.cells #[.string cc.key, .string cc.val, .int .i64 cc.page, .int .i64 cc.count] 90)
      have hr3 := (hA.block _ (lt_of_block hr2)).trans hr2
      have r0 : (wr.alloc (.cells #[.string cc.key, .string cc.val, .int .i64 cc.page, .int .i64 cc.count] 90)).cell? ⟨w.heap.size + 1, 0, none⟩ = some (.string ⟨#[]⟩) ∧ (wr.alloc (.cells #[.string cc.key, .string cc.val, .int .i64 cc.page, .int .i64 cc.count] 90)).cell? ⟨w.heap.size + 1, 1, none⟩ = some (.string ⟨#[]⟩) := by constructor <;> simp [World.cell?, hr3]
      obtain ⟨r0, r1⟩ := r0
      have hah := isAhead_none (w := wr.alloc (.cells #[.string cc.key, .string cc.val, .int .i64 cc.page, .int .i64 cc.count] 90)) ⟨#[]⟩ cc.key
      go_wp2_with (first
        | (go_at_call 59; refine hah.mono ?_; rintro e w3 ⟨rfl, hb3⟩; have hB3 := hA.trans (hb3.mono hA.size); have hr4 := (hB3.block _ (lt_of_block hr2)).trans hr2; have s0 : w3.cell? ⟨w.heap.size + 1, 0, none⟩ = some (.string ⟨#[]⟩) := (by simp [World.cell?, hr4]); have s1 : w3.cell? ⟨w.heap.size + 1, 1, none⟩ = some (.string ⟨#[]⟩) := (by simp [World.cell?, hr4]); have hx3 := (hB3.block _ (lt_of_block hx2)).trans hx2; have s2 : w3.cell? ⟨w.heap.size, 1, none⟩ = some (.int .i64 1) := (by simp [World.cell?, hx3]); have hc3 := (hb3.block _ (lt_of_block hcb)).trans hcb; have s3 : w3.cell? ⟨wr.heap.size, 0, none⟩ = some (.string cc.key) := (by simp [World.cell?, hc3]); have hha := has_all (w := w3) cc.key)
        | (go_at_call 60; refine hha.mono ?_; rintro e w4 ⟨rfl, hb4⟩; have hB4 := hB3.trans (hb4.mono hB3.size); have hc4 := (hb4.block _ (lt_of_block hc3)).trans hc3; obtain ⟨t0, t1, t2, t3⟩ := cells4 hc4; have hvi := visit_ok (w := w4) cc hpgk.out ((hB4.block _ (lt_of_block hw2)).trans hw2) ((hB4.block _ (lt_of_block hp2)).trans hp2) (hpr2.grow hB4) htl hb)
        | (go_at_call 36; refine hvi.mono ?_; rintro e w5 ⟨vR, rfl, hp5, hpr5, hk5, hb5⟩))
      have hk : Kq pb wr w5 := (Kq.of_below hB4).trans hk5
      have hbr : base ≤ wr.heap.size := by have := lt_of_block hp2; omega
      refine ⟨⟨k + 1, vR, by omega, by go_num, rfl, hk.cells hx2 hne1 (by decide), hk.cells hr2 hne2 (by decide), hk.cells hw2 hne3 (by decide), hp5, by rw [htk.out]; exact hpr5, ?_, hBW2.trans ((hB4.mono hbr).trans hb5)⟩, by simp [intOf]; omega⟩
      refine ⟨ho2.1, ?_⟩
      rcases ho2.2 with h2 | ⟨g, cap, cur, e, hg, hgg, rest⟩
      · exact .inl h2
      · exact .inr ⟨g, cap, cur, e, hg, hk.cells hgg (fun e => by rw [e, hp2] at hgg; cases hgg) (by decide), rest⟩
    · obtain rfl : k = N := by omega
      have hkd : decide ((k : Int) < (k : Int)) = false := by simp
      go_wp2_with fail
      go_ret
      rw [List.take_of_length_le (by rw [hN.out]; omega)] at hpr2
      exact ⟨vQ, rfl, hp2, hpr2, hBW2⟩
set_option maxRecDepth 100000 in
set_option maxHeartbeats 4000000 in
theorem all_ok {p wb pb base id keys : Nat} (l : List Cl) (h1 : 1 ≤ id) (h2 : 1 ≤ keys) (hpb : w.heap[pb]? = some (.cells #[.slice none 0 0] 32 (0, 0))) (hb : base ≤ pb)
    (hwi : ∀ W, Below w.heap.size w W → Calls Tryz.prog 45 #[.pointer (some ⟨p, 0, none⟩), .agg #[.int .i64 id, .int .i64 1, .int .i64 keys, .string ⟨#[]⟩, .string ⟨#[]⟩], .agg #[.string ⟨#[]⟩, .string ⟨#[]⟩], .func (.func 36) #[] #[.pointer (some ⟨wb, 0, none⟩), .pointer (some ⟨pb, 0, none⟩)]] W fun e w' => ∃ vP', e = .returned (.int .i64 0) ∧ w'.heap[pb]? = some (.cells #[vP'] 32 (0, 0)) ∧ Prs w' base vP' (prsOf l) ∧ Below base W w') :
    Calls Tryz.prog 35 #[.pointer (some ⟨p, 0, none⟩), .agg #[.int .i64 id, .int .i64 keys, .int .i64 1], .agg #[.string ⟨#[]⟩, .string ⟨#[]⟩], .func (.func 36) #[] #[.pointer (some ⟨wb, 0, none⟩), .pointer (some ⟨pb, 0, none⟩)]] w fun e w' => ∃ vP', e = .returned (.int .i64 0) ∧ w'.heap[pb]? = some (.cells #[vP'] 32 (0, 0)) ∧ Prs w' base vP' (prsOf l) ∧ Below base w w' := by
  have hbw : base ≤ w.heap.size := Nat.le_trans hb (Nat.le_of_lt (lt_of_block hpb))
  have hB : Below w.heap.size w ((w.alloc (.cells #[.int .i64 id, .int .i64 keys, .int .i64 1] 31)).alloc (.cells #[.string ⟨#[]⟩, .string ⟨#[]⟩] 88)) := ((Below.refl _ w).alloc (Nat.le_refl _) _).alloc (by simp) _
  have hr : ((w.alloc (.cells #[.int .i64 id, .int .i64 keys, .int .i64 1] 31)).alloc (.cells #[.string ⟨#[]⟩, .string ⟨#[]⟩] 88)).heap[w.heap.size + 1]? = some (.cells #[.string ⟨#[]⟩, .string ⟨#[]⟩] 88 (0, 0)) := by
    have := heap_alloc_new (w.alloc (.cells #[.int .i64 id, .int .i64 keys, .int .i64 1] 31)) (.cells #[.string ⟨#[]⟩, .string ⟨#[]⟩] 88)
    rwa [World.size_alloc] at this
  have htr := trunk_ok (w := (w.alloc (.cells #[.int .i64 id, .int .i64 keys, .int .i64 1] 31)).alloc (.cells #[.string ⟨#[]⟩, .string ⟨#[]⟩] 88)) id keys h1 h2
  go_enter Tryz.func35, Tryz.ntmps35
  go_upto_region 4 with (first | (go_at_call 44; refine htr.mono ?_; rintro e w2 ⟨rfl, hb2⟩))
  have hB2 := hB.trans (hb2.mono hB.size)
  have hA3 : Below w.heap.size w (w2.alloc (.cells #[.int .i64 id, .int .i64 1, .int .i64 keys, .string ⟨#[]⟩, .string ⟨#[]⟩] 99)) := hB2.alloc hB2.size _
  have hr3 := ((hb2.trans (((Below.refl _ w2).alloc (Nat.le_refl _) (.cells #[.int .i64 id, .int .i64 1, .int .i64 keys, .string ⟨#[]⟩, .string ⟨#[]⟩] 99)).mono hb2.size)).block _ (lt_of_block hr)).trans hr
  have hx3 := heap_alloc_new w2 (.cells #[.int .i64 id, .int .i64 1, .int .i64 keys, .string ⟨#[]⟩, .string ⟨#[]⟩] 99)
  have hw3 := hwi _ hA3
  generalize w2.alloc (.cells #[.int .i64 id, .int .i64 1, .int .i64 keys, .string ⟨#[]⟩, .string ⟨#[]⟩] 99) = W3 at *
  generalize w2.heap.size = bb at *
  obtain ⟨x0, x1, x2, x3, x4⟩ := cells5 hx3
  have r0 : W3.cell? ⟨w.heap.size + 1, 0, none⟩ = some (.string ⟨#[]⟩) ∧ W3.cell? ⟨w.heap.size + 1, 1, none⟩ = some (.string ⟨#[]⟩) := by constructor <;> simp [World.cell?, hr3]
  obtain ⟨r0, r1⟩ := r0
  clear hwi
  go_wp2_with (first | (go_at_call 45; refine hw3.mono ?_; rintro e w4 ⟨vR, rfl, hp4, hpr4, hb4⟩))
  go_ret
  exact ⟨vR, rfl, hp4, hpr4, (hA3.mono hbw).trans hb4⟩
end
end Go.Proofs.YtdobleekjiehdaaGreat
