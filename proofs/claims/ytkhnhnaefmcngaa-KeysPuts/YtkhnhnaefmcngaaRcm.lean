/- The contract of the document's Compare. -/
import Derived.Test.YtkhnhnaefmcngaaCmp
namespace Go.Proofs.Ytkhnhnaefmcngaa
set_option linter.unusedVariables false
open Go.RowKit
/-- A part that Put takes is a number or a text. -/
theorem OkP.form {p : Pt} (h : OkP p) : (∃ z, p = ⟨1, z, ⟨#[]⟩⟩ ∧ I64 z) ∨ ∃ t, p = ⟨2, 0, t⟩ := by
  obtain ⟨k, z, t⟩ := p
  rcases h with ⟨h1, h2, h3⟩ | ⟨h1, h2, _⟩
  · have ht : t = ⟨#[]⟩ := numsS_inj (List.length_eq_zero_iff.1 (by rw [numsS_length]; exact h2))
    simp only at h1
    subst h1 ht
    exact .inl ⟨z, rfl, h3⟩
  · simp only at h1 h2
    subst h1 h2
    exact .inr ⟨t, rfl⟩
def ptB (p : Pt) : Obj := .cells #[.int .i64 p.kind, .int .i64 p.num, .string p.text] 39
theorem two_new (W : World) (a b : Obj) : ((W.alloc a).alloc b).heap[W.heap.size]? = some a ∧ ((W.alloc a).alloc b).heap[W.heap.size + 1]? = some b := by
  refine ⟨(heap_old _ _ (by simp)).trans (heap_new _ _), ?_⟩
  have := heap_new (W.alloc a) b
  rwa [World.size_alloc] at this
set_option maxRecDepth 100000 in
set_option maxHeartbeats 4000000 in
theorem rcompare_any (v u : Value) (l m : List Pt) (w : World) (hv : Pts w v l) (hu : Pts w u m) (hl : l.length ≤ 1000000000) (hm : m.length ≤ 1000000000) (hol : Oks l) (hom : Oks m) :
    Calls Try.prog 20 #[v, u] w fun e w' => e = .returned (.int .i64 (cmpK l m)) ∧ Below w.heap.size w w' := by
  have hgl : Hid (∀ W, Below w.heap.size w W → Pts W v l) := fun W h => hv.grow h
  have hgm : Hid (∀ W, Below w.heap.size w W → Pts W u m) := fun W h => hu.grow h
  obtain ⟨a, c, hva⟩ := hv.shape
  obtain ⟨a2, c2, hua⟩ := hu.shape
  subst hva hua
  obtain ⟨n, hn⟩ : ∃ n, Hid (n = l.length) := ⟨_, rfl⟩
  obtain ⟨n2, hn2⟩ : ∃ n, Hid (n = m.length) := ⟨_, rfl⟩
  rw [← hn.out] at hl hgl ⊢
  rw [← hn2.out] at hm hgm ⊢
  obtain ⟨R, hR⟩ : ∃ R, Hid (R = cmpK l m) := ⟨_, rfl⟩
  rw [← hR.out]
  replace hol : Hid _ := hol
  replace hom : Hid _ := hom
  clear hv hu
  go_enter Try.func20, Try.ntmps20
  go_wp2
  go_loopw [5] (fun i wr => ∃ k : Nat, k ≤ n ∧ k ≤ n2 ∧ i = .int .i64 k ∧ Hid (R = cmpK (l.drop k) (m.drop k)) ∧ Below w.heap.size w wr) (fun i _ => n - (intOf i).toNat)
  case atStart => exact ⟨0, Nat.zero_le _, Nat.zero_le _, rfl, hR, Below.refl _ _⟩
  case round =>
    obtain ⟨k, hk, hk2, rfl, hrk, hb⟩ := hrel
    have hz := hb.size
    by_cases hlt : k < n
    · have hki : (k : Int) < (n : Int) := by omega
      have hltl : k < l.length := by rw [← hn.out]; exact hlt
      by_cases hlt2 : k < n2
      · have hki2 : (k : Int) < (n2 : Int) := by omega
        have hltm : k < m.length := by rw [← hn2.out]; exact hlt2
        obtain ⟨a', c', e, _, hcs⟩ := hgl.out wr hb
        have ea : a = a' ∧ n = l.length ∧ c = c' := by simpa using e
        obtain ⟨rfl, -, rfl⟩ := ea
        rcases hcs with hcs | ⟨b, o, rfl, hcs⟩
        · rw [hcs] at hltl; simp at hltl
        obtain ⟨x0, x1, x2⟩ := hcs k hltl
        clear hcs e
        obtain ⟨a', c', e, _, hcs⟩ := hgm.out wr hb
        have ea : a2 = a' ∧ n2 = m.length ∧ c2 = c' := by simpa using e
        obtain ⟨rfl, -, rfl⟩ := ea
        rcases hcs with hcs | ⟨b2, o2, rfl, hcs⟩
        · rw [hcs] at hltm; simp at hltm
        obtain ⟨y0, y1, y2⟩ := hcs k hltm
        clear hcs e
        have hst := hrk.out
        rw [drop_getD l k hltl, drop_getD m k hltm, cmpK] at hst
        replace hst : Hid _ := hst
        have hp := hol.out _ (getD_mem l pt0 k hltl)
        have hq := hom.out _ (getD_mem m pt0 k hltm)
        generalize l.getD k pt0 = p at *
        generalize m.getD k pt0 = q at *
        replace hp : Hid (OkP p) := hp
        replace hq : Hid (OkP q) := hq
        have hne1 := World.new_ne wr _ x0
        have hne2 := World.new_ne wr _ y0
        simp only [] at hne1 hne2
        clear hgl hgm
        go_wp2
        go_cut [6, 7] (fun x6 x7 wc => ∃ g h, x6 = .pointer (some ⟨g, 0, none⟩) ∧ x7 = .pointer (some ⟨h, 0, none⟩) ∧ Hid (wc.heap[g]? = some (ptB p)) ∧ Hid (wc.heap[h]? = some (ptB q)) ∧ Below w.heap.size w wc)
        case first =>
          go_region_held3 (fun W => W.cell? ⟨b, o + k * 3, none⟩ = some (.int .i64 p.kind) ∧ W.cell? ⟨b, o + k * 3 + 1, none⟩ = some (.int .i64 p.num) ∧ W.cell? ⟨b, o + k * 3 + 2, none⟩ = some (.string p.text) ∧ W.cell? ⟨b2, o2 + k * 3, none⟩ = some (.int .i64 q.kind) ∧ W.cell? ⟨b2, o2 + k * 3 + 1, none⟩ = some (.int .i64 q.num) ∧ W.cell? ⟨b2, o2 + k * 3 + 2, none⟩ = some (.string q.text)) (go_keep) (fail)
          all_goals
            go_wp2_with fail
            go_meet
            case rel =>
              first
              | exact ⟨wr.heap.size, wr.heap.size + 1, rfl, rfl, (two_new wr _ _).1, (two_new wr _ _).2, ((hb.alloc (by omega) _).alloc (by simp; omega) _).drew⟩
              | exact ⟨wr.heap.size + 1, wr.heap.size, rfl, rfl, (two_new wr _ _).2, (two_new wr _ _).1, ((hb.alloc (by omega) _).alloc (by simp; omega) _).drew⟩
        case rest =>
          obtain ⟨g, h, rfl, rfl, hbg, hbh, hbc⟩ := hcut
          obtain ⟨g0, g1, g2⟩ := cells3 hbg.out
          obtain ⟨h0, h1, h2⟩ := cells3 hbh.out
          clear x0 x1 x2 y0 y1 y2 hne1 hne2 hbg hbh
          have hnext : Hid (cmpP p q = 0 → R = cmpK (l.drop (k + 1)) (m.drop (k + 1))) := by
            intro h
            have := hst.out
            rw [if_pos h] at this
            exact this
          have hdone : Hid (cmpP p q ≠ 0 → R = cmpP p q) := by
            intro h
            have := hst.out
            rw [if_neg h] at this
            exact this
          clear hst
          rcases OkP.form hp.out with ⟨x, rfl, _⟩ | ⟨s, rfl⟩
          · rcases OkP.form hq.out with ⟨y, rfl, _⟩ | ⟨t, rfl⟩
            · have hcp : Hid (cmpP ⟨1, x, ⟨#[]⟩⟩ ⟨1, y, ⟨#[]⟩⟩ = cmpI x y) := by show cmpP _ _ = _; unfold cmpP; rw [if_pos rfl, if_pos rfl]
              simp only [] at g0 g1 g2 h0 h1 h2
              rcases Int.lt_trichotomy x y with hxy | hxy | hxy
              · have hr : Hid (R = -1) := by
                  have e : cmpI x y = -1 := by unfold cmpI; rw [if_pos hxy]
                  have := hdone.out (by rw [hcp.out, e]; omega)
                  rw [hcp.out, e] at this
                  exact this
                have hd : decide (x < y) = true := by simpa using hxy
                clear hnext hdone hcp hp hq
                go_wp2
                go_ret
                exact ⟨by rw [hr.out]; rfl, hbc⟩
              · subst hxy
                have hn2 : Hid (R = cmpK (l.drop (k + 1)) (m.drop (k + 1))) := hnext.out (by rw [hcp.out]; unfold cmpI; rw [if_neg (by omega), if_neg (by omega)])
                have hd : decide (x < x) = false := by simp
                clear hnext hdone hcp hp hq
                go_wp2
                refine ⟨⟨k + 1, by omega, by omega, by go_num, hn2, hbc⟩, ?_⟩
                simp [intOf]; omega
              · have hr : Hid (R = 1) := by
                  have e : cmpI x y = 1 := by unfold cmpI; rw [if_neg (by omega), if_pos hxy]
                  have := hdone.out (by rw [hcp.out, e]; omega)
                  rw [hcp.out, e] at this
                  exact this
                have hd : decide (x < y) = false := by simp; omega
                have hd2 : decide (y < x) = true := by simpa using hxy
                clear hnext hdone hcp hp hq
                go_wp2
                go_ret
                exact ⟨by rw [hr.out]; rfl, hbc⟩
            · have hcp : Hid (cmpP ⟨1, x, ⟨#[]⟩⟩ ⟨2, 0, t⟩ = -1) := by show cmpP _ _ = _; unfold cmpP; rw [if_neg (by simp)]; rfl
              have hr : Hid (R = -1) := (hdone.out (by rw [hcp.out]; omega)).trans hcp.out
              simp only [] at g0 g1 g2 h0 h1 h2
              clear hnext hdone hcp hp hq
              go_wp2
              go_ret
              exact ⟨by rw [hr.out]; rfl, hbc⟩
          · rcases OkP.form hq.out with ⟨y, rfl, _⟩ | ⟨t, rfl⟩
            · have hcp : Hid (cmpP ⟨2, 0, s⟩ ⟨1, y, ⟨#[]⟩⟩ = 1) := by show cmpP _ _ = _; unfold cmpP; rw [if_neg (by simp)]; rfl
              have hr : Hid (R = 1) := (hdone.out (by rw [hcp.out]; omega)).trans hcp.out
              simp only [] at g0 g1 g2 h0 h1 h2
              clear hnext hdone hcp hp hq
              go_wp2
              go_ret
              exact ⟨by rw [hr.out]; rfl, hbc⟩
            · have hcp : Hid (cmpP ⟨2, 0, s⟩ ⟨2, 0, t⟩ = cmpL (numsS s) (numsS t)) := by show cmpP _ _ = _; unfold cmpP; rw [if_pos rfl, if_neg (by simp)]
              simp only [] at g0 g1 g2 h0 h1 h2
              have l1 := less_cmp s t
              have l2 := less_cmp t s
              rw [cmpL_neg (numsS s) (numsS t)] at l2
              rcases cmpL_in (numsS s) (numsS t) with hxy | hxy | hxy
              · have hr : Hid (R = -1) := by
                  have := hdone.out (by rw [hcp.out, hxy]; omega)
                  rw [hcp.out, hxy] at this
                  exact this
                rw [hxy] at l1 l2
                replace l1 : Op.bytesLess s.toList t.toList = true := l1.trans (by decide)
                clear hnext hdone hcp hp hq l2 hxy
                go_wp2
                go_ret
                exact ⟨by rw [hr.out]; rfl, hbc⟩
              · have hn2 : Hid (R = cmpK (l.drop (k + 1)) (m.drop (k + 1))) := hnext.out (by rw [hcp.out, hxy])
                obtain rfl : s = t := numsS_inj (cmpL_eq hxy)
                rw [hxy] at l1 l2
                replace l1 : Op.bytesLess s.toList s.toList = false := l1.trans (by decide)
                clear hnext hdone hcp hp hq l2 hxy
                go_wp2
                refine ⟨⟨k + 1, by omega, by omega, by go_num, hn2, hbc⟩, ?_⟩
                simp [intOf]; omega
              · have hr : Hid (R = 1) := by
                  have := hdone.out (by rw [hcp.out, hxy]; omega)
                  rw [hcp.out, hxy] at this
                  exact this
                have l3 : (s.toList == t.toList) = false := by
                  cases e : (s.toList == t.toList) with
                  | false => rfl
                  | true => rw [toList_eq e, cmpL_self] at hxy; omega
                rw [hxy] at l1 l2
                replace l1 : Op.bytesLess s.toList t.toList = false := l1.trans (by decide)
                replace l2 : Op.bytesLess t.toList s.toList = true := l2.trans (by decide)
                clear hnext hdone hcp hp hq hxy
                go_wp2
                go_ret
                exact ⟨by rw [hr.out]; rfl, hbc⟩
      · have hki2 : ¬ (k : Int) < (n2 : Int) := by omega
        have hd2 : decide ((k : Int) < (n2 : Int)) = false := by simpa using hki2
        have hm0 : m.drop k = [] := List.drop_eq_nil_of_le (by rw [← hn2.out]; omega)
        have hst2 : Hid (R = 1) := by
          have := hrk.out
          rw [drop_getD l k hltl, hm0, cmpK] at this
          exact this
        have hn3 : ¬ (n : Int) < (n2 : Int) := by omega
        have hn4 : (n2 : Int) < (n : Int) := by omega
        clear hgl hgm hm0
        go_wp2
        go_ret
        exact ⟨by rw [hst2.out]; rfl, hb⟩
    · obtain rfl : k = n := by omega
      have hki : ¬ (k : Int) < (k : Int) := by omega
      have hd1 : decide ((k : Int) < (k : Int)) = false := by simp
      clear hgl hgm
      have hl0 : l.drop k = [] := List.drop_eq_nil_of_le (by rw [← hn.out]; omega)
      by_cases hlt2 : k < n2
      · have hki2 : (k : Int) < (n2 : Int) := by omega
        have hst2 : Hid (R = -1) := by
          have := hrk.out
          rw [hl0, drop_getD m k (by rw [← hn2.out]; exact hlt2), cmpK] at this
          exact this
        clear hl0
        go_wp2
        go_ret
        exact ⟨by rw [hst2.out]; rfl, hb⟩
      · have hki2 : ¬ (k : Int) < (n2 : Int) := by omega
        have hki3 : ¬ (n2 : Int) < (k : Int) := by omega
        have hst2 : Hid (R = 0) := by
          have := hrk.out
          have hm0 : m.drop k = [] := List.drop_eq_nil_of_le (by rw [← hn2.out]; omega)
          rw [hl0, hm0, cmpK] at this
          exact this
        clear hl0
        go_wp2
        go_ret
        exact ⟨by rw [hst2.out]; rfl, hb⟩
end Go.Proofs.Ytkhnhnaefmcngaa
