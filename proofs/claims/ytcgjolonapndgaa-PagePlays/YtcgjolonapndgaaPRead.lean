/- The contract of page.Read. -/
import Derived.Test.YtcgjolonapndgaaSecs
namespace Go.Proofs.Ytcgjolonapndgaa
open Go.RowKit Go.Maps Go.ChangeMaps Go.MapKept
/-- The bytes of a page's place. -/
def place (s : St) (per id : Int) : List Int := secs s (id * per) per.toNat
/-- Is there a page that is that one? -/
def there (s : St) (per id : Int) : Bool := isPage (place s per id) && decide ((idOf (place s per id) : Int) = id)
/-- Read's error. -/
def prE (s : St) (per id : Int) : Int := if id < 0 ∨ cnt s per ≤ id then 2 else if s.dead = true then 20 else if there s per id = true then 0 else 30
def prK (s : St) (per id : Int) : Int := if prE s per id = 0 then kindOf (place s per id) else 0
def prI (s : St) (per id : Int) : Nat := if prE s per id = 0 then idOf (place s per id) else 0
def prL (s : St) (per id : Int) : List Int := if prE s per id = 0 then loadOf (place s per id) else []
theorem cnt_pos {s : St} {per id : Int} (h0 : 0 ≤ id) (h : id < cnt s per) : 1 ≤ per ∧ per ≤ 8192 ∧ 64 ≤ per * s.size ∧ per * s.size ≤ 8192 ∧ id < 16384 ∧ id < s.sectors / per := by
  unfold cnt at h
  split at h
  · omega
  · omega
section
variable {w : World} {p : Nat} {F : Nat → Prop} {s : St}
set_option maxRecDepth 100000 in
set_option maxHeartbeats 4000000 in
theorem pread_any (h : IsD w p F s) (per id : Int) (hby : ∀ n, IsBytes (s.now n)) (hnow : ∀ n, (s.now n).length = s.size) :
    Calls Try.prog 25 #[.pointer (some ⟨p, 0, none⟩), .int .i64 per, .int .i64 id] w fun e w' => ∃ v, e = .returned (.tuple #[.agg #[.int .u8 (prK s per id), .int .u32 (prI s per id), v], .int .i64 (prE s per id)]) ∧ Bts w' v (prL s per id) ∧ Below w.heap.size w w' := by
  have hcnt := count_any (h.alloc (.cells #[.int .u8 0, .int .u32 0, .slice none 0 0] 25)) per
  have hB0 := (Below.refl w.heap.size w).alloc (Nat.le_refl _) (.cells #[.int .u8 0, .int .u32 0, .slice none 0 0] 25)
  have hcn0 : 0 ≤ cnt s per := by
    unfold cnt
    split
    · omega
    · rename_i hh
      have : 0 ≤ (s.sectors : Int) / per := Int.ediv_nonneg (by omega) (by omega)
      omega
  by_cases c1 : id < 0
  · have hE : prE s per id = 2 := by unfold prE; rw [if_pos (.inl c1)]
    unfold prK prI prL
    rw [hE]
    simp only [show ¬ ((2 : Int) = 0) by omega, if_false]
    go_enter Try.func25, Try.ntmps25
    go_wp2_with fail
    exact bodyPost_ret (v := .tuple #[.agg #[.int .u8 0, .int .u32 0, .slice none 0 0], .int .i64 2]) (by simp [results, Try.results25, go_sem]) rfl ⟨_, rfl, bts_nil _, hB0⟩
  have d1 : decide (id < 0) = false := by simpa using c1
  by_cases c2 : cnt s per ≤ id
  · have hE : prE s per id = 2 := by unfold prE; rw [if_pos (.inr c2)]
    have d2 : decide (cnt s per ≤ id) = true := by simpa using c2
    unfold prK prI prL
    rw [hE]
    simp only [show ¬ ((2 : Int) = 0) by omega, if_false]
    generalize cnt s per = C at *
    go_enter Try.func25, Try.ntmps25
    go_wp2_with (first | (go_at_call 21; refine hcnt.mono ?_; rintro e w' ⟨rfl, hw'⟩; subst w'))
    exact bodyPost_ret (v := .tuple #[.agg #[.int .u8 0, .int .u32 0, .slice none 0 0], .int .i64 2]) (by simp [results, Try.results25, go_sem]) rfl ⟨_, rfl, bts_nil _, hB0⟩
  have d2 : decide (cnt s per ≤ id) = false := by simpa using c2
  obtain ⟨u1, u2, u3, u4, u5, u6⟩ := cnt_pos (s := s) (per := per) (id := id) (by omega) (by omega)
  obtain ⟨P, rfl⟩ : ∃ P : Nat, per = P := ⟨per.toNat, by omega⟩
  obtain ⟨I, rfl⟩ : ∃ I : Nat, id = I := ⟨id.toNat, by omega⟩
  have hdiv : I < s.sectors / P := by
    have : ((s.sectors / P : Nat) : Int) = (s.sectors : Int) / (P : Int) := Int.natCast_ediv _ _
    omega
  have hfit : I * P + P ≤ s.sectors := by
    have h1 : (I + 1) * P ≤ s.sectors := Nat.mul_le_of_le_div _ _ _ hdiv
    rwa [Nat.succ_mul] at h1
  have hroom : P * s.size ≤ 8192 := by
    have : ((P * s.size : Nat) : Int) = (P : Int) * (s.size : Int) := Int.natCast_mul _ _
    omega
  have hroom1 : 64 ≤ P * s.size := by
    have : ((P * s.size : Nat) : Int) = (P : Int) * (s.size : Int) := Int.natCast_mul _ _
    omega
  obtain ⟨f, hf⟩ : ∃ f, f = I * P := ⟨_, rfl⟩
  have hcm : (I : Int) * (P : Int) = (f : Int) := by rw [hf, Int.natCast_mul]
  have hsec : s.sectors ≤ 65536 := by obtain ⟨bs, bf, ns, nf, gs, gf, hdk, _⟩ := h; exact hdk.sec2
  rw [← hf] at hfit
  have hpl : place s P I = secs s f P := by unfold place; rw [hcm, Int.toNat_natCast]
  have hmul : IntKind.i64.wrap (f : Int) = (f : Int) := Go.IntWalk.i64_in _ (by omega)
  clear hf
  have hE0 : prE s P I = if s.dead = true then 20 else if there s P I = true then 0 else 30 := by unfold prE; rw [if_neg (by omega)]
  generalize cnt s P = C at *
  by_cases hdd : s.dead = true
  · have hrs := readSectors_dead (h.alloc (.cells #[.int .u8 0, .int .u32 0, .slice none 0 0] 25)) f P (by omega) hfit hdd hroom
    have her : s.errRead f = 20 := by unfold St.errRead; rw [if_pos (by omega), hdd]; rfl
    rw [her] at hrs
    have hE : prE s P I = 20 := by rw [hE0, if_pos hdd]
    unfold prK prI prL
    rw [hE]
    simp only [show ¬ ((20 : Int) = 0) by omega, if_false]
    go_enter Try.func25, Try.ntmps25
    go_wp2_with (first | (go_at_call 21; refine hcnt.mono ?_; rintro e w' ⟨rfl, hw'⟩; subst w') | (go_at_call 45; refine hrs.mono ?_; rintro e w2 ⟨rfl, hb2⟩; have hr2 : PageAt w2 w.heap.size 0 0 (.slice none 0 0) := (hb2.block _ (by simp)).trans (heap_alloc_new w _); obtain ⟨r0, r1, r2⟩ := hr2.cells; obtain ⟨q0, q1, q2⟩ := hr2.frozen))
    have hB2 := hB0.trans (hb2.mono hB0.size)
    exact bodyPost_ret (v := .tuple #[.agg #[.int .u8 0, .int .u32 0, .slice none 0 0], .int .i64 20]) (by simp [results, Try.results25, go_sem, r0, r1, r2]) rfl ⟨_, rfl, bts_nil _, ((hB2.setCell (Nat.le_refl _) _).setCell (Nat.le_refl _) _).setCell (Nat.le_refl _) _⟩
  · have hd0 : s.dead = false := by simpa using hdd
    have hrs := readSectors_ok (h.alloc (.cells #[.int .u8 0, .int .u32 0, .slice none 0 0] 25)) f P hfit hd0 hroom hnow
    have hTh : there s P I = (isPage (secs s f P) && decide ((idOf (secs s f P) : Int) = (I : Int))) := by unfold there; rw [hpl]
    have hbb : IsBytes (secs s f P) := by
      generalize P = k
      induction k with
      | zero => intro c hc; cases hc
      | succ k ih => exact isBytes_append ih (hby _)
    rw [if_neg hdd] at hE0
    unfold prK prI prL
    rw [hpl]
    have hwI : IntKind.u32.wrap (I : Int) = (I : Int) := wrap_u32 _ (by omega) (by omega)
    have hz : ∀ (v : Value) (w2 : World), Own w2 (w.alloc (.cells #[.int .u8 0, .int .u32 0, .slice none 0 0] 25)).heap.size v (secs s f P) → Bts w2 v (secs s f P) := fun v w2 ho => ho.bts
    by_cases hp : isPage (secs s f P) = true
    · have hgy := fun v W hb => get_yes v (secs s f P) W hb hbb hp
      have hit : idOf (secs s f P) < 2 ^ 32 := by
        have h4 : (((secs s f P).drop 1).take 4).length = 4 := by
          have := secs_len s f P hnow
          simp; omega
        have := ofBe_lt (((secs s f P).drop 1).take 4) ((hbb.drop 1).take 4)
        rw [h4] at this
        exact this
      have hLb : IsBytes (loadOf (secs s f P)) := (hbb.drop 7).take _
      rw [hp, Bool.true_and] at hTh
      by_cases hid : idOf (secs s f P) = I
      · have hE : prE s P I = 0 := by rw [hE0, hTh, hid]; simp
        rw [hE, if_pos rfl, if_pos rfl, if_pos rfl]
        generalize kindOf (secs s f P) = K at *
        generalize idOf (secs s f P) = J at *
        generalize loadOf (secs s f P) = Ld at *
        subst hid
        go_enter Try.func25, Try.ntmps25
        go_wp2_with (first
          | (go_at_call 21; refine hcnt.mono ?_; rintro e w' ⟨rfl, hw'⟩; subst w')
          | (go_at_call 45; refine hrs.mono ?_; rintro e w2 ⟨v2, rfl, ho2, hb2⟩; have hr2 : PageAt w2 w.heap.size 0 0 (.slice none 0 0) := (hb2.block _ (by simp)).trans (heap_alloc_new w _); have hbt2 := hz v2 w2 ho2; clear ho2)
          | (go_at_call 12; refine (hgy _ _ hbt2).mono ?_; rintro e w3 ⟨lv, rfl, ⟨base, hbase, hol⟩, hb3⟩; obtain ⟨al, cl, hlv⟩ := hol.bts.split; subst hlv; have hr3 := hr2.keep (hb3.block _ hr2.lt); have hr4 := hr3.alloc (.cells #[.int .u8 K, .int .u32 J, .slice al Ld.length cl] 25); obtain ⟨r0, r1, r2⟩ := hr4.cells; obtain ⟨q0, q1, q2⟩ := hr4.frozen))
        have hB2 := hB0.trans (hb2.mono hB0.size)
        have hB3 := hB2.trans (hb3.mono hB2.size)
        have hB4 := hB3.alloc hB3.size (.cells #[.int .u8 K, .int .u32 J, .slice al Ld.length cl] 25)
        have hol4 := hol.bts.alloc (.cells #[.int .u8 K, .int .u32 J, .slice al Ld.length cl] 25)
        have hlt2 := hr2.lt
        refine bodyPost_ret (v := .tuple #[.agg #[.int .u8 K, .int .u32 J, .slice al Ld.length cl], .int .i64 0]) (by simp [results, Try.results25, go_sem, r0, r1, r2]) rfl ⟨_, rfl, hol4.keep (fun k hk => setThree _ _ _ (by have := (hol.lt k hk).1; omega)), ((hB4.setCell (Nat.le_refl _) _).setCell (Nat.le_refl _) _).setCell (Nat.le_refl _) _⟩
      · have hE : prE s P I = 30 := by rw [hE0, hTh]; simp; omega
        rw [hE]
        simp only [show ¬ ((30 : Int) = 0) by omega, if_false]
        have hne : ((idOf (secs s f P) : Int) == (I : Int)) = false := by simp; omega
        have hne2 : ((idOf (secs s f P) : Int) != (I : Int)) = true := by simp; omega
        generalize kindOf (secs s f P) = K at *
        generalize idOf (secs s f P) = J at *
        generalize loadOf (secs s f P) = Ld at *
        go_enter Try.func25, Try.ntmps25
        go_wp2_with (first
          | (go_at_call 21; refine hcnt.mono ?_; rintro e w' ⟨rfl, hw'⟩; subst w')
          | (go_at_call 45; refine hrs.mono ?_; rintro e w2 ⟨v2, rfl, ho2, hb2⟩; have hr2 : PageAt w2 w.heap.size 0 0 (.slice none 0 0) := (hb2.block _ (by simp)).trans (heap_alloc_new w _); have hbt2 := hz v2 w2 ho2; clear ho2)
          | (go_at_call 12; refine (hgy _ _ hbt2).mono ?_; rintro e w3 ⟨lv, rfl, ⟨base, hbase, hol⟩, hb3⟩; obtain ⟨al, cl, hlv⟩ := hol.bts.split; subst hlv; have hr3 := hr2.keep (hb3.block _ hr2.lt); have hr4 := hr3.alloc (.cells #[.int .u8 K, .int .u32 J, .slice al Ld.length cl] 25); obtain ⟨r0, r1, r2⟩ := hr4.cells; obtain ⟨q0, q1, q2⟩ := hr4.frozen))
        have hB2 := hB0.trans (hb2.mono hB0.size)
        have hB3 := hB2.trans (hb3.mono hB2.size)
        have hB4 := hB3.alloc hB3.size (.cells #[.int .u8 K, .int .u32 J, .slice al Ld.length cl] 25)
        refine bodyPost_ret (v := .tuple #[.agg #[.int .u8 0, .int .u32 0, .slice none 0 0], .int .i64 30]) (by simp [results, Try.results25, go_sem, r0, r1, r2]) rfl ⟨_, rfl, bts_nil _, ((hB4.setCell (Nat.le_refl _) _).setCell (Nat.le_refl _) _).setCell (Nat.le_refl _) _⟩
    · have hp0 : isPage (secs s f P) = false := by simpa using hp
      have hgn := fun v W hb => get_no v (secs s f P) W hb hbb hp0
      have hE : prE s P I = 30 := by rw [hE0, hTh, hp0]; simp
      rw [hE]
      simp only [show ¬ ((30 : Int) = 0) by omega, if_false]
      go_enter Try.func25, Try.ntmps25
      go_wp2_with (first
        | (go_at_call 21; refine hcnt.mono ?_; rintro e w' ⟨rfl, hw'⟩; subst w')
        | (go_at_call 45; refine hrs.mono ?_; rintro e w2 ⟨v2, rfl, ho2, hb2⟩; have hr2 : PageAt w2 w.heap.size 0 0 (.slice none 0 0) := (hb2.block _ (by simp)).trans (heap_alloc_new w _); have hbt2 := hz v2 w2 ho2; clear ho2)
        | (go_at_call 12; refine (hgn _ _ hbt2).mono ?_; rintro e w3 ⟨rfl, hb3⟩; have hr3 := hr2.keep (hb3.block _ hr2.lt); have hr4 := hr3.alloc (.cells #[.int .u8 0, .int .u32 0, .slice none 0 0] 25); obtain ⟨r0, r1, r2⟩ := hr4.cells; obtain ⟨q0, q1, q2⟩ := hr4.frozen))
      have hB2 := hB0.trans (hb2.mono hB0.size)
      have hB3 := hB2.trans (hb3.mono hB2.size)
      have hB4 := hB3.alloc hB3.size (.cells #[.int .u8 0, .int .u32 0, .slice none 0 0] 25)
      refine bodyPost_ret (v := .tuple #[.agg #[.int .u8 0, .int .u32 0, .slice none 0 0], .int .i64 30]) (by simp [results, Try.results25, go_sem, r0, r1, r2]) rfl ⟨_, rfl, bts_nil _, ((hB4.setCell (Nat.le_refl _) _).setCell (Nat.le_refl _) _).setCell (Nat.le_refl _) _⟩
end
end Go.Proofs.Ytcgjolonapndgaa
