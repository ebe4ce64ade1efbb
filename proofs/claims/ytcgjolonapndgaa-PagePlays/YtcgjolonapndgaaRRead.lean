/- The contract of the document's Read. -/
import Derived.Test.YtcgjolonapndgaaRCnt
namespace Go.Proofs.Ytcgjolonapndgaa
open Go.RowKit Go.Maps Go.ChangeMaps Go.MapKept
section
variable {w : World} {r : Nat} {G : Nat → Prop} {s : St}
set_option maxRecDepth 100000 in
set_option maxHeartbeats 4000000 in
theorem rread_any (h : IsR w r G s) (per id : Int) (hby : ∀ n, IsBytes (s.now n)) :
    Calls Try.prog 26 #[.pointer (some ⟨r, 0, none⟩), .int .i64 per, .int .i64 id] w fun e w' => ∃ v, e = .returned (.tuple #[.agg #[.int .u8 (prK s per id), .int .u32 (prI s per id), v], .int .i64 (prE s per id)]) ∧ Bts w' v (prL s per id) ∧ Below w.heap.size w w' := by
  have hB0 := (Below.refl w.heap.size w).alloc (Nat.le_refl _) (.cells #[.int .u8 0, .int .u32 0, .slice none 0 0] 25)
  have hA := h.grow hB0
  have hcnt := rcount_any hA per
  have hcn0 : 0 ≤ cnt s per := by
    unfold cnt
    split
    · omega
    · rename_i hh
      have : 0 ≤ (s.sectors : Int) / per := Int.ediv_nonneg (by omega) (by omega)
      omega
  have hnow : ∀ n, (s.now n).length = s.size := by
    obtain ⟨gn, cn, gs, cs, gu, cu, h⟩ := h
    exact h.nowLen
  by_cases c1 : id < 0
  · have hE : prE s per id = 2 := by unfold prE; rw [if_pos (.inl c1)]
    unfold prK prI prL
    rw [hE]
    simp only [show ¬ ((2 : Int) = 0) by omega, if_false]
    go_enter Try.func26, Try.ntmps26
    go_wp2_with fail
    exact bodyPost_ret (v := .tuple #[.agg #[.int .u8 0, .int .u32 0, .slice none 0 0], .int .i64 2]) (by simp [results, Try.results26, go_sem]) rfl ⟨_, rfl, bts_nil _, hB0⟩
  have d1 : decide (id < 0) = false := by simpa using c1
  by_cases c2 : cnt s per ≤ id
  · have hE : prE s per id = 2 := by unfold prE; rw [if_pos (.inr c2)]
    have d2 : decide (cnt s per ≤ id) = true := by simpa using c2
    unfold prK prI prL
    rw [hE]
    simp only [show ¬ ((2 : Int) = 0) by omega, if_false]
    generalize cnt s per = C at *
    go_enter Try.func26, Try.ntmps26
    go_wp2_with (first | (go_at_call 22; refine hcnt.mono ?_; rintro e w' ⟨rfl, hw'⟩; subst w'))
    exact bodyPost_ret (v := .tuple #[.agg #[.int .u8 0, .int .u32 0, .slice none 0 0], .int .i64 2]) (by simp [results, Try.results26, go_sem]) rfl ⟨_, rfl, bts_nil _, hB0⟩
  have d2 : decide (cnt s per ≤ id) = false := by simpa using c2
  obtain ⟨u1, u2, u3, u4, u5, u6⟩ := cnt_pos (s := s) (per := per) (id := id) (by omega) (by omega)
  obtain ⟨P, rfl⟩ : ∃ P : Nat, per = P := ⟨per.toNat, by omega⟩
  obtain ⟨I, rfl⟩ : ∃ I : Nat, id = I := ⟨id.toNat, by omega⟩
  have hdiv : I < s.sectors / P := by
    have : ((s.sectors / P : Nat) : Int) = (s.sectors : Int) / (P : Int) := Int.natCast_ediv _ _
    omega
  have hfit : I * P + P ≤ s.sectors := by
    have h1 : (I + 1) * P ≤ s.sectors := Nat.mul_le_of_le_div _ _ _ hdiv
    rwa [Nat.succ_mul] at h1
  have hroom : P * s.size ≤ 8192 := by
    have : ((P * s.size : Nat) : Int) = (P : Int) * (s.size : Int) := Int.natCast_mul _ _
    omega
  obtain ⟨f, hf⟩ : ∃ f, f = I * P := ⟨_, rfl⟩
  have hcm : (I : Int) * (P : Int) = (f : Int) := by rw [hf, Int.natCast_mul]
  have hsec : s.sectors ≤ 65536 := by obtain ⟨gn, cn, gs, cs, gu, cu, h⟩ := h; exact h.sec2
  rw [← hf] at hfit
  have hpl : place s P I = secs s f P := by unfold place; rw [hcm, Int.toNat_natCast]
  have hmul : IntKind.i64.wrap ((I : Int) * (P : Int)) = (f : Int) := by rw [hcm]; exact Go.IntWalk.i64_in _ (by omega)
  clear hf
  have hE0 : prE s P I = if s.dead = true then 20 else if there s P I = true then 0 else 30 := by unfold prE; rw [if_neg (by omega)]
  generalize cnt s P = C at *
  have hrd : ∀ n, _ := fun n => refRead_any hA n
  by_cases hdd : s.dead = true
  · have her : s.errRead f = 20 := by unfold St.errRead; rw [if_pos (by omega), hdd]; rfl
    have hrs := hrd (f : Int)
    rw [her] at hrs
    generalize s.textAt f = T at hrs
    have hE : prE s P I = 20 := by rw [hE0, if_pos hdd]
    unfold prK prI prL
    rw [hE]
    simp only [show ¬ ((20 : Int) = 0) by omega, if_false]
    have hP : (0 : Int) < (P : Int) := by omega
    go_enter Try.func26, Try.ntmps26
    go_wp2_with (first | (go_at_call 22; refine hcnt.mono ?_; rintro e w' ⟨rfl, hw'⟩; subst w'))
    go_loopw [9] (fun i wr => i = .int .i64 0 ∧ wr = w.alloc (.cells #[.int .u8 0, .int .u32 0, .slice none 0 0] 25)) (fun _ _ => 0)
    case atStart => exact ⟨rfl, rfl⟩
    case round =>
      obtain ⟨rfl, rfl⟩ := hrel
      go_wp2_with (first | (go_at_call 46; refine hrs.mono ?_; rintro e w6 ⟨rfl, hw6⟩; subst w6))
      exact bodyPost_ret (v := .tuple #[.agg #[.int .u8 0, .int .u32 0, .slice none 0 0], .int .i64 20]) (by simp [results, Try.results26, go_sem]) rfl ⟨_, rfl, bts_nil _, hB0⟩
  · have hd0 : s.dead = false := by simpa using hdd
    have hTh : there s P I = (isPage (secs s f P) && decide ((idOf (secs s f P) : Int) = (I : Int))) := by unfold there; rw [hpl]
    have hbb : IsBytes (secs s f P) := by
      generalize P = k
      induction k with
      | zero => intro c hc; cases hc
      | succ k ih => exact isBytes_append ih (hby _)
    rw [if_neg hdd] at hE0
    have hlen : (secs s f P).length ≤ 1000000 := by have := secs_len s f P hnow; omega
    have hlen1 : (secs s f P).length = P * s.size := secs_len s f P hnow
    have hstep : ∀ k : Nat, k < P → s.errRead ((f : Int) + (k : Int)) = 0 ∧ strOfNums (secs s f k) ++ s.textAt ((f : Int) + (k : Int)) = strOfNums (secs s f (k + 1)) := by
      intro k hk
      have e0 : s.errRead ((f : Int) + (k : Int)) = 0 := by unfold St.errRead; rw [if_pos (by omega), hd0]; rfl
      refine ⟨e0, ?_⟩
      rw [secs, strs_append]
      unfold St.textAt
      rw [if_pos e0]
    have hS0 : strOfNums (secs s f 0) = ⟨#[]⟩ := rfl
    have hrm : (64 : Int) ≤ ((P * s.size : Nat) : Int) := by rw [Int.natCast_mul]; omega
    have hvals : prE s P I = 0 → prK s P I = kindOf (secs s f P) ∧ prI s P I = idOf (secs s f P) ∧ prL s P I = loadOf (secs s f P) := by
      intro he
      unfold prK prI prL
      rw [if_pos he, if_pos he, if_pos he, hpl]
      exact ⟨rfl, rfl, rfl⟩
    have hvals0 : prE s P I = 30 → prK s P I = 0 ∧ prI s P I = 0 ∧ prL s P I = [] := by
      intro he
      unfold prK prI prL
      rw [he]
      exact ⟨rfl, rfl, rfl⟩
    replace hroom : Hid _ := hroom
    replace hfit : Hid _ := hfit
    go_enter Try.func26, Try.ntmps26
    go_wp2_with (first | (go_at_call 22; refine hcnt.mono ?_; rintro e w' ⟨rfl, hw'⟩; subst w'))
    go_loopw [8, 9] (fun b i wr => ∃ k : Nat, k ≤ P ∧ b = .string (strOfNums (secs s f k)) ∧ i = .int .i64 k ∧ wr = w.alloc (.cells #[.int .u8 0, .int .u32 0, .slice none 0 0] 25)) (fun _ i _ => P - (intOf i).toNat)
    case atStart => exact ⟨0, Nat.zero_le _, by rw [hS0], rfl, rfl⟩
    case round =>
      obtain ⟨k, hk, rfl, rfl, rfl⟩ := hrel
      by_cases hlt : k < P
      · have hki : (k : Int) < (P : Int) := by omega
        have hfo := hfit.out
        have hrs := hrd ((f : Int) + (k : Int))
        obtain ⟨e0, e1⟩ := hstep k hlt
        rw [e0] at hrs
        have hST : (strOfNums (secs s f k)).size + (s.textAt ((f : Int) + (k : Int))).size ≤ 1000000 := by
          have h3 : (strOfNums (secs s f (k + 1))).size = (k + 1) * s.size := by rw [str_size]; exact secs_len s f (k + 1) hnow
          rw [← e1, ByteArray.size_append] at h3
          have h5 : (k + 1) * s.size ≤ P * s.size := Nat.mul_le_mul_right _ hlt
          have := hroom.out
          omega
        generalize s.textAt ((f : Int) + (k : Int)) = T at *
        generalize hS : strOfNums (secs s f k) = S at *
        replace e1 : Hid _ := e1
        replace hS : Hid _ := hS
        clear hTh hE0 hpl hbb hlen hlen1 hstep hcnt hvals hvals0
        go_wp2_with (first | (go_at_call 46; refine hrs.mono ?_; rintro e w6 ⟨rfl, hw6⟩; subst w6))
        go_roundw
        case rel => exact ⟨k + 1, by omega, by rw [← e1.out], by go_num, trivial⟩
        case measure => simp [intOf]; omega
      · obtain rfl : k = P := by omega
        clear hstep hS0 hrd hcnt
        have hr1 : PageAt (w.alloc (.cells #[.int .u8 0, .int .u32 0, .slice none 0 0] 25)) w.heap.size 0 0 (.slice none 0 0) := heap_alloc_new w _
        by_cases hp : isPage (secs s f k) = true
        · have hgy := rget_at (secs s f k) (w.alloc (.cells #[.int .u8 0, .int .u32 0, .slice none 0 0] 25)) hbb hp
          have hit : idOf (secs s f k) < 2 ^ 32 := by
            have h4 : (((secs s f k).drop 1).take 4).length = 4 := by simp; omega
            have := ofBe_lt (((secs s f k).drop 1).take 4) ((hbb.drop 1).take 4)
            rw [h4] at this
            exact this
          rw [hp, Bool.true_and] at hTh
          by_cases hid : idOf (secs s f k) = I
          · have hE : prE s k I = 0 := by rw [hE0, hTh, hid]; simp
            obtain ⟨hK, hJ, hL⟩ := hvals hE
            clear hE0 hTh hpl hp hbb hvals hvals0
            generalize kindOf (secs s f k) = K at *
            generalize idOf (secs s f k) = J at *
            generalize loadOf (secs s f k) = Ld at *
            generalize strOfNums (secs s f k) = S at *
            subst hid
            replace hE : Hid _ := hE
            replace hK : Hid _ := hK
            replace hJ : Hid _ := hJ
            replace hL : Hid _ := hL
            go_wp2_with (first
              | (go_at_call 13; refine hgy.mono ?_; rintro e w3 ⟨lv, rfl, hol, hob, hb3⟩; obtain ⟨al, cl, hlv⟩ := hol.split; subst hlv; have hr3 := hr1.keep (hb3.block _ hr1.lt); have hr4 := hr3.alloc (.cells #[.int .u8 K, .int .u32 J, .slice al Ld.length cl] 25); obtain ⟨r0, r1, r2⟩ := hr4.cells; obtain ⟨q0, q1, q2⟩ := hr4.frozen))
            have hB3 := hB0.trans (hb3.mono hB0.size)
            have hB4 := hB3.alloc hB3.size (.cells #[.int .u8 K, .int .u32 J, .slice al Ld.length cl] 25)
            have hol4 := hol.alloc (.cells #[.int .u8 K, .int .u32 J, .slice al Ld.length cl] 25)
            have hbn : ∀ k, (Value.slice al Ld.length cl).ownBlock = some k → k ≠ w.heap.size := by
              intro k hk
              have h7 := hob k hk
              simp at h7
              omega
            refine bodyPost_ret (v := .tuple #[.agg #[.int .u8 K, .int .u32 J, .slice al Ld.length cl], .int .i64 0]) (by simp [results, Try.results26, go_sem, r0, r1, r2]) rfl ⟨_, by rw [hE.out, hK.out, hJ.out], by rw [hL.out]; exact hol4.keep (fun k hk => setThree _ _ _ (hbn k hk)), ((hB4.setCell (Nat.le_refl _) _).setCell (Nat.le_refl _) _).setCell (Nat.le_refl _) _⟩
          · have hE : prE s k I = 30 := by rw [hE0, hTh]; simp; omega
            obtain ⟨hK, hJ, hL⟩ := hvals0 hE
            have hne : ((idOf (secs s f k) : Int) == (I : Int)) = false := by simp; omega
            have hne2 : ((idOf (secs s f k) : Int) != (I : Int)) = true := by simp; omega
            clear hE0 hTh hpl hp hbb hvals hvals0
            generalize kindOf (secs s f k) = K at *
            generalize idOf (secs s f k) = J at *
            generalize loadOf (secs s f k) = Ld at *
            generalize strOfNums (secs s f k) = S at *
            replace hE : Hid _ := hE
            replace hK : Hid _ := hK
            replace hJ : Hid _ := hJ
            replace hL : Hid _ := hL
            go_wp2_with (first
              | (go_at_call 13; refine hgy.mono ?_; rintro e w3 ⟨lv, rfl, hol, hob, hb3⟩; obtain ⟨al, cl, hlv⟩ := hol.split; subst hlv; have hr3 := hr1.keep (hb3.block _ hr1.lt); have hr4 := hr3.alloc (.cells #[.int .u8 K, .int .u32 J, .slice al Ld.length cl] 25); obtain ⟨r0, r1, r2⟩ := hr4.cells; obtain ⟨q0, q1, q2⟩ := hr4.frozen))
            have hB3 := hB0.trans (hb3.mono hB0.size)
            have hB4 := hB3.alloc hB3.size (.cells #[.int .u8 K, .int .u32 J, .slice al Ld.length cl] 25)
            exact bodyPost_ret (v := .tuple #[.agg #[.int .u8 0, .int .u32 0, .slice none 0 0], .int .i64 30]) (by simp [results, Try.results26, go_sem, r0, r1, r2]) rfl ⟨_, by rw [hE.out, hK.out, hJ.out]; rfl, by rw [hL.out]; exact bts_nil _, ((hB4.setCell (Nat.le_refl _) _).setCell (Nat.le_refl _) _).setCell (Nat.le_refl _) _⟩
        · have hp0 : isPage (secs s f k) = false := by simpa using hp
          have hgn := rget_no (secs s f k) (w.alloc (.cells #[.int .u8 0, .int .u32 0, .slice none 0 0] 25)) hbb hlen hp0
          have hE : prE s k I = 30 := by rw [hE0, hTh, hp0]; simp
          obtain ⟨hK, hJ, hL⟩ := hvals0 hE
          clear hE0 hTh hpl hp hp0 hbb hvals hvals0
          generalize strOfNums (secs s f k) = S at *
          replace hE : Hid _ := hE
          replace hK : Hid _ := hK
          replace hJ : Hid _ := hJ
          replace hL : Hid _ := hL
          go_wp2_with (first
            | (go_at_call 13; refine hgn.mono ?_; rintro e w3 ⟨rfl, hb3⟩; have hr3 := hr1.keep (hb3.block _ hr1.lt); have hr4 := hr3.alloc (.cells #[.int .u8 0, .int .u32 0, .slice none 0 0] 25); obtain ⟨r0, r1, r2⟩ := hr4.cells; obtain ⟨q0, q1, q2⟩ := hr4.frozen))
          have hB3 := hB0.trans (hb3.mono hB0.size)
          have hB4 := hB3.alloc hB3.size (.cells #[.int .u8 0, .int .u32 0, .slice none 0 0] 25)
          exact bodyPost_ret (v := .tuple #[.agg #[.int .u8 0, .int .u32 0, .slice none 0 0], .int .i64 30]) (by simp [results, Try.results26, go_sem, r0, r1, r2]) rfl ⟨_, by rw [hE.out, hK.out, hJ.out]; rfl, by rw [hL.out]; exact bts_nil _, ((hB4.setCell (Nat.le_refl _) _).setCell (Nat.le_refl _) _).setCell (Nat.le_refl _) _⟩
end
end Go.Proofs.Ytcgjolonapndgaa
