/- The document's Best. -/
import Derived.Test.YtcgjolonapndgabDoorRMGet
import Derived.Test.YtcgjolonapndgabDoorRCnt
namespace Go.Proofs.YtcgjolonapndgabDoor
set_option linter.unusedVariables false
open Go.RowKit Go.Maps Go.ChangeMaps Go.MapKept
theorem pick_first (bs : List Int) (T : Nat) : pickM Mt.zero (stM bs T) = stM bs T := by
  unfold pickM
  split
  · rfl
  · rename_i h
    have h0 : (stM bs T).q = 0 := by have : Mt.zero.q = 0 := rfl; omega
    obtain ⟨a, b, c⟩ := stM_zero bs T h0
    generalize stM bs T = m at *
    cases m
    simp only at h0 a b c
    subst h0 a b c
    rfl
/-- The best of so many sectors. -/
def St.bst (s : St) (per : Int) : Nat → Mt
  | 0 => Mt.zero
  | n + 1 => pickM (s.bst per n) (stM (s.now ((n : Int) * per)) n)
theorem bst_two (s : St) (per : Int) : s.bst per 2 = pickM (stM (s.now 0) 0) (stM (s.now per) 1) := by
  show pickM (pickM Mt.zero (stM (s.now (((0 : Nat) : Int) * per)) 0)) (stM (s.now (((1 : Nat) : Int) * per)) 1) = _
  rw [pick_first]
  simp
theorem stM_get (bs : List Int) (T : Nat) : (getE bs = 40 ∧ stM bs T = Mt.zero) ∨ (getE bs = 0 ∧ (getM bs).q % 2 ≠ T ∧ stM bs T = Mt.zero) ∨ (getE bs = 0 ∧ (getM bs).q % 2 = T ∧ stM bs T = getM bs) := by
  unfold getE getM stM
  cases h : isMeta bs with
  | false =>
    left
    rw [if_neg (by simp), if_neg (by simp)]
    exact ⟨rfl, rfl⟩
  | true =>
    right
    rw [if_pos rfl, if_pos rfl]
    by_cases e : seqOf bs % 2 = T
    · right
      rw [if_pos ⟨rfl, e⟩]
      exact ⟨rfl, e, rfl⟩
    · left
      rw [if_neg (fun hh => e hh.2)]
      exact ⟨rfl, e, rfl⟩
theorem get_lt (bs : List Int) (h : IsBytes bs) : (getM bs).q < 2 ^ 64 := by
  unfold getM
  split
  · exact seqOf_lt bs h
  · decide
section
variable {W : World} {ρ : Nat} {G : Nat → Prop} {s : St}
set_option maxRecDepth 100000 in
set_option maxHeartbeats 4000000 in
theorem rmbest_any (h : IsR W ρ G s) (hby : ∀ n, IsBytes (s.now n)) (hln : ∀ n, (s.now n).length ≤ 1000000) (per : Int) :
    Calls Tryd.prog 29 #[.pointer (some ⟨ρ, 0, none⟩), .int .i64 per] W fun e w' => e = .returned (.tuple #[(s.best per).val, .int .i64 (s.errB per)]) ∧ Below W.heap.size W w' := by
  have hB1 : Below W.heap.size W (W.alloc (.cells #[.int .u64 0, .int .i64 0, .int .i64 0, .int .i64 0] 24)) := (Below.refl _ _).alloc (Nat.le_refl _) _
  have hr1 : MetaAt (W.alloc (.cells #[.int .u64 0, .int .i64 0, .int .i64 0, .int .i64 0] 24)) W.heap.size 0 0 0 0 := heap_alloc_new W _
  have hc := fun X (hX : Below W.heap.size W X) => rcount_any (h.grow hX) per
  by_cases c1 : cnt s per < 2
  · have hE : Hid ((s.best per).val = Mt.zero.val ∧ s.errB per = 2) := by
      show _ ∧ _
      unfold St.best St.errB
      rw [if_pos (.inl c1), if_pos c1]
      exact ⟨rfl, rfl⟩
    rw [hE.out.1, hE.out.2]
    simp only [Mt.val, Mt.zero]
    obtain ⟨r0, r1, r2, r3⟩ := hr1.cells
    obtain ⟨f0, f1, f2, f3⟩ := hr1.frozen
    go_enter Tryd.func29, Tryd.ntmps29
    go_wp2_with (first | (go_at_call 42; refine (hc _ hB1).mono ?_; rintro e w' ⟨rfl, hw'⟩; subst w'))
    exact bodyPost_ret (v := .tuple #[.agg #[.int .u64 0, .int .i64 0, .int .i64 0, .int .i64 0], .int .i64 2]) (by simp [results, Tryd.results29, go_sem]) rfl ⟨rfl, by first | exact hB1 | exact belFour _ _ _ _ hB1 (Nat.le_refl _)⟩
  have d1 : decide (cnt s per < 2) = false := by simpa using c1
  have hper := cnt_per c1
  have hread := fun X (hX : Below W.heap.size W X) n => refRead_any (h.grow hX) n
  cases hd : s.dead with
  | true =>
    have hE : Hid ((s.best per).val = Mt.zero.val ∧ s.errB per = 20) := by
      show _ ∧ _
      unfold St.best St.errB
      rw [if_pos (.inr hd), if_neg c1, if_pos hd]
      exact ⟨rfl, rfl⟩
    rw [hE.out.1, hE.out.2]
    simp only [Mt.val, Mt.zero]
    have he : s.errRead 0 = 20 := by unfold St.errRead; rw [if_pos (by omega), hd]; rfl
    have ht : s.textAt 0 = ⟨#[]⟩ := by unfold St.textAt; rw [if_neg (by rw [he]; decide)]
    have hB2 := hB1.alloc hB1.size (.cells #[.int .u64 0, .int .i64 0, .int .i64 0, .int .i64 0] 24)
    have hr2 : MetaAt ((W.alloc (.cells #[.int .u64 0, .int .i64 0, .int .i64 0, .int .i64 0] 24)).alloc (.cells #[.int .u64 0, .int .i64 0, .int .i64 0, .int .i64 0] 24)) W.heap.size 0 0 0 0 := hr1.keep ((heap_alloc _ _).2 _ hr1.lt)
    have hrd := hread _ hB2 0
    rw [he, ht] at hrd
    obtain ⟨r0, r1, r2, r3⟩ := hr2.cells
    obtain ⟨f0, f1, f2, f3⟩ := hr2.frozen
    clear hread
    go_enter Tryd.func29, Tryd.ntmps29
    go_wp2_with (first | (go_at_call 42; refine (hc _ hB1).mono ?_; rintro e w' ⟨rfl, hw'⟩; subst w'))
    go_loopw [7] (fun i wr => i = .int .i64 0 ∧ wr = (W.alloc (.cells #[.int .u64 0, .int .i64 0, .int .i64 0, .int .i64 0] 24)).alloc (.cells #[.int .u64 0, .int .i64 0, .int .i64 0, .int .i64 0] 24)) (fun _ _ => 0)
    case atStart => exact ⟨rfl, rfl⟩
    case round =>
      obtain ⟨rfl, rfl⟩ := hrel
      go_wp2_with (first | (go_at_call 52; refine hrd.mono ?_; rintro e w' ⟨rfl, hw'⟩; subst w'))
      exact bodyPost_ret (v := .tuple #[.agg #[.int .u64 0, .int .i64 0, .int .i64 0, .int .i64 0], .int .i64 20]) (by simp [results, Tryd.results29, go_sem, r0, r1, r2, r3]) rfl ⟨rfl, by first | exact hB2 | exact belFour _ _ _ _ hB2 (Nat.le_refl _)⟩
  | false =>
    have hE : Hid (s.best per = s.bst per 2 ∧ s.errB per = if (s.bst per 2).q = 0 then 40 else 0) := by
      show _ ∧ _
      have hb : s.best per = s.bst per 2 := by rw [bst_two]; unfold St.best; rw [if_neg (by simp [c1, hd])]
      refine ⟨hb, ?_⟩
      unfold St.errB
      rw [if_neg c1, hd, hb]
      rfl
    have hB2 := hB1.alloc hB1.size (.cells #[.int .u64 0, .int .i64 0, .int .i64 0, .int .i64 0] 24)
    have hr2 : MetaAt ((W.alloc (.cells #[.int .u64 0, .int .i64 0, .int .i64 0, .int .i64 0] 24)).alloc (.cells #[.int .u64 0, .int .i64 0, .int .i64 0, .int .i64 0] 24)) W.heap.size 0 0 0 0 := hr1.keep ((heap_alloc _ _).2 _ hr1.lt)
    have hb2 : MetaAt ((W.alloc (.cells #[.int .u64 0, .int .i64 0, .int .i64 0, .int .i64 0] 24)).alloc (.cells #[.int .u64 0, .int .i64 0, .int .i64 0, .int .i64 0] 24)) (W.heap.size + 1) 0 0 0 0 := by
      have := heap_alloc_new (W.alloc (.cells #[.int .u64 0, .int .i64 0, .int .i64 0, .int .i64 0] 24)) (.cells #[.int .u64 0, .int .i64 0, .int .i64 0, .int .i64 0] 24)
      rw [World.size_alloc] at this
      exact this
    go_enter Tryd.func29, Tryd.ntmps29
    go_wp2_with (first | (go_at_call 42; refine (hc _ hB1).mono ?_; rintro e w' ⟨rfl, hw'⟩; subst w'))
    go_loopw [7] (fun i wr => ∃ n : Nat, n ≤ 2 ∧ i = .int .i64 n ∧ MetaAt wr W.heap.size 0 0 0 0 ∧ MetaAt wr (W.heap.size + 1) (s.bst per n).q (s.bst per n).r (s.bst per n).k (s.bst per n).d ∧ Below W.heap.size W wr) (fun i _ => 2 - (intOf i).toNat)
    case atStart => exact ⟨0, by omega, rfl, hr2, hb2, hB2⟩
    case round =>
      obtain ⟨n, hn, rfl, hr, hb, hB⟩ := hrel
      clear hB1 hB2 hr1 hr2 hb2 hc
      by_cases hlt : n < 2
      · have hn2 : (n : Int) < 2 := by omega
        have hnp : 0 ≤ (n : Int) * per ∧ (n : Int) * per < s.sectors ∧ (n : Int) * per ≤ 8192 := by
          have : n = 0 ∨ n = 1 := by omega
          rcases this with rfl | rfl <;> simp <;> omega
        have hw1 : IntKind.i64.wrap ((n : Int) * per) = (n : Int) * per := by rw [IntKind.wrap_i64]; omega
        have he : s.errRead ((n : Int) * per) = 0 := by unfold St.errRead; rw [if_pos ⟨hnp.1, hnp.2.1⟩, hd]; rfl
        have ht : s.textAt ((n : Int) * per) = strOfNums (s.now ((n : Int) * per)) := by unfold St.textAt; rw [if_pos he]
        have hrd := hread _ hB ((n : Int) * per)
        rw [he, ht] at hrd
        have hgg := fun X => rmget_any (s.now ((n : Int) * per)) X (hby _) (hln _)
        have hql := get_lt (s.now ((n : Int) * per)) (hby _)
        have hst := stM_get (s.now ((n : Int) * per)) n
        have hnx : Hid (s.bst per (n + 1) = pickM (s.bst per n) (stM (s.now ((n : Int) * per)) n)) := rfl
        generalize s.bst per n = bm at *
        generalize stM (s.now ((n : Int) * per)) n = sx at *
        generalize getM (s.now ((n : Int) * per)) = gm at *
        generalize getE (s.now ((n : Int) * per)) = ge at *
        generalize strOfNums (s.now ((n : Int) * per)) = TX at *
        obtain ⟨v0, v1, v2, v3⟩ := hb.cells
        obtain ⟨p0, p1, p2, p3⟩ := hb.frozen
        have hlt1 := hb.lt
        obtain ⟨P, hP⟩ : ∃ P, P = gm.q % 2 := ⟨_, rfl⟩
        have hPt : (gm.q : Int).tmod 2 = (P : Int) := by rw [Int.tmod_eq_emod_of_nonneg (by omega)]; omega
        have hPl : P ≤ 1 := by omega
        have hw2 : IntKind.i64.wrap (P : Int) = P := by rw [IntKind.wrap_i64]; omega
        rw [← hP] at hst
        clear hP
        rcases hst with ⟨rfl, hz⟩ | ⟨rfl, hodd, hz⟩ | ⟨rfl, hev, hz⟩
        · have hnb : Hid (pickM bm sx = bm) := by show _ = _; rw [hz]; unfold pickM; rw [if_neg (by show ¬ bm.q < 0; omega)]
          go_wp2_with (first
            | (go_at_call 52; refine hrd.mono ?_; rintro e w' ⟨rfl, hw'⟩; subst w')
            | (go_at_call 11; refine (hgg _).mono ?_; rintro e w3 ⟨rfl, hb3⟩; have hB3 := hB.trans (hb3.mono hB.size); have hr3 := hr.keep (hb3.block _ hr.lt); have hm3 := hb.keep (hb3.block _ hb.lt)))
          go_roundw
          case rel => exact ⟨n + 1, by omega, by go_num, hr3.keep ((heap_alloc w3 _).2 _ hr3.lt), (by rw [hnx.out, hnb.out]; exact hm3.keep ((heap_alloc w3 _).2 _ hm3.lt)), hB3.alloc hB3.size _⟩
          case measure => simp [intOf]; omega
        · have hnb : Hid (pickM bm sx = bm) := by show _ = _; rw [hz]; unfold pickM; rw [if_neg (by show ¬ bm.q < 0; omega)]
          have hpar : ((P : Int) == (n : Int)) = false := by simp; omega
          go_wp2_with (first
            | (go_at_call 52; refine hrd.mono ?_; rintro e w' ⟨rfl, hw'⟩; subst w')
            | (go_at_call 11; refine (hgg _).mono ?_; rintro e w3 ⟨rfl, hb3⟩; have hB3 := hB.trans (hb3.mono hB.size); have hr3 := hr.keep (hb3.block _ hr.lt); have hm3 := hb.keep (hb3.block _ hb.lt)))
          go_roundw
          case rel => exact ⟨n + 1, by omega, by go_num, hr3.keep ((heap_alloc w3 _).2 _ hr3.lt), (by rw [hnx.out, hnb.out]; exact hm3.keep ((heap_alloc w3 _).2 _ hm3.lt)), hB3.alloc hB3.size _⟩
          case measure => simp [intOf]; omega
        · have hpar : ((P : Int) == (n : Int)) = true := by simp; omega
          clear hev
          by_cases hgt : bm.q < gm.q
          · have hnb : Hid (pickM bm sx = gm) := by show _ = _; rw [hz]; unfold pickM; rw [if_pos hgt]
            have hgi : (bm.q : Int) < (gm.q : Int) := by omega
            go_wp2_with (first
              | (go_at_call 52; refine hrd.mono ?_; rintro e w' ⟨rfl, hw'⟩; subst w')
              | (go_at_call 11; refine (hgg _).mono ?_; rintro e w3 ⟨rfl, hb3⟩; have hB3 := hB.trans (hb3.mono hB.size); have hr3 := hr.keep (hb3.block _ hr.lt); have hm3 := hb.keep (hb3.block _ hb.lt); obtain ⟨x0, x1, x2, x3⟩ := hm3.cells; obtain ⟨y0, y1, y2, y3⟩ := hm3.frozen; have hlt3 := hm3.lt))
            go_roundw
            case rel => exact ⟨n + 1, by omega, by go_num, setA hr3 (by omega), (by rw [hnx.out, hnb.out]; exact setB hm3), belA hB3 (by omega)⟩
            case measure => simp [intOf]; omega
          · have hnb : Hid (pickM bm sx = bm) := by show _ = _; rw [hz]; unfold pickM; rw [if_neg hgt]
            have hgi : decide ((bm.q : Int) < (gm.q : Int)) = false := by simp; omega
            go_wp2_with (first
              | (go_at_call 52; refine hrd.mono ?_; rintro e w' ⟨rfl, hw'⟩; subst w')
              | (go_at_call 11; refine (hgg _).mono ?_; rintro e w3 ⟨rfl, hb3⟩; have hB3 := hB.trans (hb3.mono hB.size); have hr3 := hr.keep (hb3.block _ hr.lt); have hm3 := hb.keep (hb3.block _ hb.lt); obtain ⟨x0, x1, x2, x3⟩ := hm3.cells; have hlt3 := hm3.lt))
            go_roundw
            case rel => exact ⟨n + 1, by omega, by go_num, hr3.keep ((heap_alloc w3 _).2 _ hr3.lt), (by rw [hnx.out, hnb.out]; exact hm3.keep ((heap_alloc w3 _).2 _ hm3.lt)), hB3.alloc hB3.size _⟩
            case measure => simp [intOf]; omega
      · obtain rfl : n = 2 := by omega
        obtain ⟨bq, hbq⟩ : ∃ x, x = (s.bst per 2).q := ⟨_, rfl⟩
        obtain ⟨br, hbr⟩ : ∃ x, x = (s.bst per 2).r := ⟨_, rfl⟩
        obtain ⟨bk, hbk⟩ : ∃ x, x = (s.bst per 2).k := ⟨_, rfl⟩
        obtain ⟨bd, hbd⟩ : ∃ x, x = (s.bst per 2).d := ⟨_, rfl⟩
        rw [← hbq, ← hbr, ← hbk, ← hbd] at hb
        replace hbq : Hid _ := hbq
        replace hbr : Hid _ := hbr
        replace hbk : Hid _ := hbk
        replace hbd : Hid _ := hbd
        obtain ⟨v0, v1, v2, v3⟩ := hb.cells
        obtain ⟨r0, r1, r2, r3⟩ := hr.cells
        obtain ⟨f0, f1, f2, f3⟩ := hr.frozen
        clear hread
        by_cases hz : bq = 0
        · have hzi : ((bq : Int) == 0) = true := by simp [hz]
          replace hz : Hid _ := hz
          go_wp2_with fail
          refine bodyPost_ret (v := .tuple #[.agg #[.int .u64 bq, .int .i64 br, .int .i64 bk, .int .i64 bd], .int .i64 40]) (by simp [results, Tryd.results29, go_sem, r0, r1, r2, r3]) rfl ⟨?_, belFour _ _ _ _ hB (Nat.le_refl _)⟩
          rw [hE.out.1, hE.out.2, if_pos (by rw [← hbq.out]; exact hz.out), hbq.out, hbr.out, hbk.out, hbd.out]
          rfl
        · have hzi : ((bq : Int) == 0) = false := by simp [hz]
          replace hz : Hid _ := hz
          go_wp2_with fail
          refine bodyPost_ret (v := .tuple #[.agg #[.int .u64 bq, .int .i64 br, .int .i64 bk, .int .i64 bd], .int .i64 0]) (by simp [results, Tryd.results29, go_sem, r0, r1, r2, r3]) rfl ⟨?_, belFour _ _ _ _ hB (Nat.le_refl _)⟩
          rw [hE.out.1, hE.out.2, if_neg (by rw [← hbq.out]; exact hz.out), hbq.out, hbr.out, hbk.out, hbd.out]
          rfl
end
end Go.Proofs.YtcgjolonapndgabDoor
