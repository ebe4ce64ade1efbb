/- What Write of a page leaves and answers; the contract of the document's Write. -/
import Derived.Test.YtcgjolonapndgaaRRead
namespace Go.Proofs.Ytcgjolonapndgaa
open Go.RowKit Go.Maps Go.ChangeMaps Go.MapKept
/-- The k-th part of b, z bytes each. -/
def part (b : List Int) (z k : Nat) : List Int := (b.drop (k * z)).take z
/-- So many parts are written, from the k-th on, until one is refused: what is left, and the answer. -/
def putFrom (s : St) (n : Int) (b : List Int) (z k : Nat) : Nat → St × Int
  | 0 => (s, 0)
  | m + 1 => if s.errWrite (n + k) [part b z k] = 0 then putFrom (s.write (n + k) [part b z k]) n b z (k + 1) m else (s.write (n + k) [part b z k], s.errWrite (n + k) [part b z k])
/-- Write of a page: what is left, and the answer. -/
def pwr (s : St) (per : Int) (kind : Int) (id : Nat) (load : List Int) : St × Int :=
  if cnt s per ≤ (id : Int) then (s, 2)
  else if putE (per * s.size) kind load.length ≠ 0 then (s, putE (per * s.size) kind load.length)
  else putFrom s (id * per) (pageB (per * s.size).toNat kind id load) s.size 0 per.toNat
theorem below_d1 (W : World) : Below W.heap.size W W.drew := ⟨rfl, rfl, rfl, Nat.le_refl _, fun _ _ => rfl⟩
theorem cellOf {w W : World} {q : Addr} {v : Value} (h : Below w.heap.size w W) (hc : w.cell? q = some v) : W.cell? q = some v := (h.cell (World.block_lt_of_cell? w _ hc)).trans hc
theorem below_d2 (W : World) : Below W.heap.size W W.drew.drew := ⟨rfl, rfl, rfl, Nat.le_refl _, fun _ _ => rfl⟩
theorem str_mid (S : ByteArray) (lo hi : Nat) (h0 : lo ≤ hi) (h : hi ≤ S.size) (W : World) : (Instr.slice 9 (.string S) (some (.int .i64 (lo : Int))) (some (.int .i64 (hi : Int))) none).run Try.prog W = .ok (.string (S.extract lo hi)) W := by
  have := run_slice_string (P := Try.prog) W 9 S .i64 .i64 (lo : Int) (hi : Int) Try.underlying9 (by omega) (by omega) (by omega)
  rw [Int.toNat_natCast, Int.toNat_natCast] at this
  exact this
section
variable {w wq : World} {p r : Nat} {F G : Nat → Prop} {s t : St}
set_option maxRecDepth 100000 in
set_option maxHeartbeats 8000000 in
theorem two_rwrite (h : Two w wq p r F G s t) (hops : t.ops < 17592186000000) (per : Int) (kind : Int) (hk : 0 ≤ kind ∧ kind < 256) (id : Nat) (hid : id < 2 ^ 32) (lv : Value) (load : List Int) (hb : Bts wq lv load) (hby : IsBytes load) :
    Calls Try.prog 24 #[.pointer (some ⟨r, 0, none⟩), .int .i64 per, .agg #[.int .u8 kind, .int .u32 id, lv]] wq fun e w' => e = .returned (.int .i64 (pwr t per kind id load).2) ∧ ∃ G', Two w w' p r F G' s (pwr t per kind id load).1 ∧ Frm G wq w' := by
  obtain ⟨a, c, hlv⟩ := hb.split
  subst hlv
  have hB0 := (Below.refl wq.heap.size wq).alloc (Nat.le_refl _) (.cells #[.int .u8 kind, .int .u32 id, .slice a load.length c] 25)
  have hA := h.grow hB0
  have hx0 : PageAt (wq.alloc (.cells #[.int .u8 kind, .int .u32 id, .slice a load.length c] 25)) wq.heap.size kind id (.slice a load.length c) := heap_alloc_new wq _
  have hcnt : ∀ W, Below (wq.alloc (.cells #[.int .u8 kind, .int .u32 id, .slice a load.length c] 25)).heap.size (wq.alloc (.cells #[.int .u8 kind, .int .u32 id, .slice a load.length c] 25)) W → Calls Try.prog 22 #[.pointer (some ⟨r, 0, none⟩), .int .i64 per] W fun e w' => e = .returned (.int .i64 (cnt t per)) ∧ w' = W := fun W hW => rcount_any (hA.ref.grow hW) per
  have hbt0 := hb.grow hB0
  have hu : IntKind.i64.wrap (id : Int) = (id : Int) := Go.IntWalk.i64_in _ (by omega)
  obtain ⟨e0, e1, e2⟩ := hx0.cells
  by_cases c2 : cnt t per ≤ (id : Int)
  · have hv : pwr t per kind id load = (t, 2) := by unfold pwr; rw [if_pos c2]
    rw [hv]
    have d2 : decide (cnt t per ≤ (id : Int)) = true := by simpa using c2
    generalize cnt t per = C at *
    go_enter Try.func24, Try.ntmps24
    go_wp2_with fail
    go_region_held3 (fun W => W.cell? ⟨wq.heap.size, 1, none⟩ = some (.int .u32 id)) (go_keep) (first | (go_at_call 22; refine (hcnt _ (by first | exact Below.refl _ _ | exact below_d1 _)).mono ?_; rintro e wA ⟨rfl, hwA⟩; subst wA))
    go_wp2_with fail
    go_ret
    exact ⟨rfl, G, hA.grow (below_d1 _), (Frm.of_below hB0 G).trans (Frm.of_below (below_d1 _) G) (fun _ h => .inl h)⟩
  have d2 : decide (cnt t per ≤ (id : Int)) = false := by simpa using c2
  have hz := hA.ref
  obtain ⟨gn, cn, gs, cs, gu, cu, hz⟩ := hz
  have z0 := hz.c0
  have z1 := hz.size1
  have z2 := hz.size2
  have hsec := hz.sec2
  clear hz
  obtain ⟨u1, u2, u3, u4, u5, u6⟩ := cnt_pos (s := t) (per := per) (id := id) (by omega) (by omega)
  obtain ⟨P, rfl⟩ : ∃ P : Nat, per = P := ⟨per.toNat, by omega⟩
  have hroom : ((P * t.size : Nat) : Int) = (P : Int) * (t.size : Int) := Int.natCast_mul _ _
  have hpw : IntKind.i64.wrap ((P : Int) * (t.size : Int)) = ((P * t.size : Nat) : Int) := by rw [hroom]; exact Go.IntWalk.i64_in _ (by omega)
  by_cases c3 : putE ((P : Int) * t.size) kind load.length = 0
  · have hv : pwr t P kind id load = putFrom t (id * P) (pageB (P * t.size) kind id load) t.size 0 P := by
      unfold pwr; rw [if_neg c2, if_neg (by simpa using c3), ← hroom, Int.toNat_natCast, Int.toNat_natCast]
    rw [hv]
    obtain ⟨k1, k2, k3, k4⟩ := putE_zero c3
    have hput : ∀ W, Below (wq.alloc (.cells #[.int .u8 kind, .int .u32 id, .slice a load.length c] 25)).heap.size (wq.alloc (.cells #[.int .u8 kind, .int .u32 id, .slice a load.length c] 25)) W → _ := fun W hW => rput_ok (P * t.size) kind id (.slice a load.length c) load W (by omega) (by omega) (by omega) hid (hbt0.grow hW) hby (by omega)
    have hbl : (pageB (P * t.size) kind id load).length = P * t.size := pageB_len _ _ _ _ (by omega)
    have hdiv : id < t.sectors / P := by
      have : ((t.sectors / P : Nat) : Int) = (t.sectors : Int) / (P : Int) := Int.natCast_ediv _ _
      omega
    have hfit : id * P + P ≤ t.sectors := by
      have h1 : (id + 1) * P ≤ t.sectors := Nat.mul_le_of_le_div _ _ _ hdiv
      rwa [Nat.succ_mul] at h1
    obtain ⟨f, hf⟩ : ∃ f, f = id * P := ⟨_, rfl⟩
    have hcm : (id : Int) * (P : Int) = (f : Int) := by rw [hf, Int.natCast_mul]
    rw [← hf] at hfit
    have hmul : IntKind.i64.wrap ((id : Int) * (P : Int)) = (f : Int) := by rw [hcm]; exact Go.IntWalk.i64_in _ (by omega)
    rw [hcm]
    clear hf hv c3 k1 k2 k3 k4
    generalize hPB : pageB (P * t.size) kind id load = PB at *
    obtain ⟨R, hR⟩ : ∃ R, R = putFrom t f PB t.size 0 P := ⟨_, rfl⟩
    rw [← hR]
    obtain ⟨S, hS⟩ : ∃ S, S = strOfNums PB := ⟨_, rfl⟩
    rw [← hS] at hput
    have hSl : S.size = P * t.size := by rw [hS, str_size]; exact hbl
    obtain ⟨z, hzz⟩ : ∃ z, z = t.size := ⟨_, rfl⟩
    rw [← hzz] at z0 z1 z2 hroom hpw hput hSl hR u3 u4
    replace hPB : Hid _ := hPB
    replace hS : Hid _ := hS
    replace hR : Hid _ := hR
    replace hbl : Hid _ := hbl
    replace hzz : Hid _ := hzz
    replace hfit : Hid _ := hfit
    generalize cnt t P = C at *
    have hP8 : P * z ≤ 8192 := by omega
    replace hP8 : Hid _ := hP8
    have hkeep : ∀ W, Below (wq.alloc (.cells #[.int .u8 kind, .int .u32 id, .slice a load.length c] 25)).heap.size (wq.alloc (.cells #[.int .u8 kind, .int .u32 id, .slice a load.length c] 25)) W → W.cell? ⟨r, 0, none⟩ = some (.int .i64 z) ∧ W.cell? ⟨wq.heap.size, 0, none⟩ = some (.int .u8 kind) ∧ W.cell? ⟨wq.heap.size, 1, none⟩ = some (.int .u32 id) ∧ W.cell? ⟨wq.heap.size, 2, none⟩ = some (.slice a load.length c) := fun W hW => ⟨cellOf hW z0, cellOf hW e0, cellOf hW e1, cellOf hW e2⟩
    go_enter Try.func24, Try.ntmps24
    go_wp2_with fail
    go_region_held3 (fun W => W.cell? ⟨wq.heap.size, 1, none⟩ = some (.int .u32 id)) (go_keep) (first | (go_at_call 22; refine (hcnt _ (by first | exact Below.refl _ _ | exact below_d1 _)).mono ?_; rintro e wA ⟨rfl, hwA⟩; subst wA))
    go_wp2_with fail
    go_region_held3 (fun W => W.cell? ⟨r, 0, none⟩ = some (.int .i64 z) ∧ W.cell? ⟨wq.heap.size, 0, none⟩ = some (.int .u8 kind) ∧ W.cell? ⟨wq.heap.size, 1, none⟩ = some (.int .u32 id) ∧ W.cell? ⟨wq.heap.size, 2, none⟩ = some (.slice a load.length c)) (go_keep) (first | (go_at_call 11; refine (hput _ (by first | exact below_d1 _ | exact Below.refl _ _ | exact below_d2 _)).mono ?_; rintro e w1 ⟨rfl, hb1⟩; have hB1 : Below (wq.alloc (.cells #[.int .u8 kind, .int .u32 id, .slice a load.length c] 25)).heap.size (wq.alloc (.cells #[.int .u8 kind, .int .u32 id, .slice a load.length c] 25)) w1 := Below.trans (by first | exact below_d1 _ | exact Below.refl _ _ | exact below_d2 _) hb1; obtain ⟨y0, y1, y2, y3⟩ := hkeep w1 hB1))
    go_wp2_with fail
    go_loopw [9] (fun i wr => ∃ (k : Nat) (t' : St) (G' : Nat → Prop), k ≤ P ∧ i = .int .i64 k ∧ Two w wr p r F G' s t' ∧ t'.size = z ∧ t'.ops ≤ t.ops + k ∧ putFrom t' f PB z k (P - k) = R ∧ PageAt wr wq.heap.size kind id (.slice a load.length c) ∧ ¬ G' wq.heap.size ∧ Frm G wq wr ∧ (∀ j, G' j → G j ∨ wq.heap.size ≤ j)) (fun i _ => P - (intOf i).toNat)
    case atStart =>
      exact ⟨0, t, G, Nat.zero_le _, rfl, hA.grow hB1, hzz.out.symm, by omega, by rw [hR.out]; rfl, hx0.keep (hB1.block _ hx0.lt), (fun hg => by have := (h.gb _ hg).2; omega), (Frm.of_below hB0 G).trans (Frm.of_below hB1 G) (fun _ h => .inl h), fun j hj => .inl hj⟩
    case round =>
      clear hput hb1 hB1 hkeep y0 y1 y2 y3 hcnt e0 e1 e2 z0 hA hB0 hx0 hbt0
      obtain ⟨k, t', G', hk', rfl, hT, hsz, hop, hput, hxr, hng, hfr, hGG⟩ := hrel
      obtain ⟨e0, e1, e2⟩ := hxr.cells
      by_cases hlt : k < P
      · have hki : (k : Int) < (P : Int) := by omega
        have hz := hT.ref
        obtain ⟨gn, cn, gs, cs, gu, cu, hz⟩ := hz
        have z0 := hz.c0
        rw [hsz] at z0
        clear hz
        obtain ⟨m, hm⟩ : ∃ m, P - k = m + 1 := ⟨P - k - 1, by omega⟩
        rw [hm] at hput
        unfold putFrom at hput
        obtain ⟨lo, hlo⟩ : ∃ lo, lo = k * z := ⟨_, rfl⟩
        have hlo2 : lo + z ≤ P * z := by
          have : (k + 1) * z ≤ P * z := Nat.mul_le_mul_right _ hlt
          rw [Nat.succ_mul] at this
          omega
        have hl1 : (k : Int) * (z : Int) = (lo : Int) := by rw [hlo, Int.natCast_mul]
        obtain ⟨hi, hhi⟩ : ∃ hi, hi = lo + z := ⟨_, rfl⟩
        have hl2 : ((k : Int) + 1) * (z : Int) = (hi : Int) := by rw [Int.add_mul, hl1, Int.one_mul, hhi]; omega
        have hp8 := hP8.out
        have hw1 : IntKind.i64.wrap ((k : Int) * (z : Int)) = (lo : Int) := by rw [hl1]; exact Go.IntWalk.i64_in _ (by omega)
        have hw2 : IntKind.i64.wrap (((k : Int) + 1) * (z : Int)) = (hi : Int) := by rw [hl2]; exact Go.IntWalk.i64_in _ (by omega)
        have hw3 : IntKind.i64.wrap (lo : Int) = (lo : Int) := Go.IntWalk.i64_in _ (by omega)
        have hw4 : IntKind.i64.wrap (hi : Int) = (hi : Int) := Go.IntWalk.i64_in _ (by omega)
        have hwk : IntKind.i64.wrap ((k : Int) + 1) = (k : Int) + 1 := Go.IntWalk.i64_in _ (by omega)
        have hw0 : IntKind.i64.wrap (f : Int) = (f : Int) := Go.IntWalk.i64_in _ (by have := hfit.out; omega)
        have hwf : IntKind.i64.wrap ((f : Int) + (k : Int)) = (f : Int) + (k : Int) := Go.IntWalk.i64_in _ (by have := hfit.out; omega)
        have hsi : (hi : Int) ≤ (S.size : Int) := by omega
        have hli : (lo : Int) ≤ (hi : Int) := by omega
        have hcut : S.extract lo hi = strOfNums (part PB z k) := by rw [hhi, hS.out, strs_cut]; unfold part; rw [hlo]
        have hwr : ∀ W, Below wr.heap.size wr W → _ := fun W hW => two_refWrite (hT.grow hW) (by omega) ((f : Int) + (k : Int)) (part PB z k)
        have hse : hi ≤ S.size := by omega
        have hlh : lo ≤ hi := by omega
        have hmid : ∀ W, (Instr.slice 9 (.string S) (some (.int .i64 (lo : Int))) (some (.int .i64 (hi : Int))) none).run Try.prog W = .ok (.string (S.extract lo hi)) W := fun W => str_mid S lo hi hlh hse W
        replace hhi : Hid _ := hhi
        clear hSl
        simp only [← hcut] at hwr
        have hei := errWrite_in t' ((f : Int) + (k : Int)) [part PB z k]
        have hdm := write_dims t' ((f : Int) + (k : Int)) [part PB z k]
        generalize t'.write ((f : Int) + (k : Int)) [part PB z k] = t2 at *
        have hfo := hfit.out
        by_cases her : t'.errWrite ((f : Int) + (k : Int)) [part PB z k] = 0
        · rw [if_pos her] at hput
          simp only [her] at hwr
          clear hei her hcut hw1 hw2
          replace hlo : Hid _ := hlo
          replace hput : Hid _ := hput
          have hafter : ∀ w6 G6, Two w w6 p r F G6 s t2 → Frm G' wr.drew w6 → Frm G' wr w6 ∧ w6.cell? ⟨wq.heap.size, 1, none⟩ = some (.int .u32 id) ∧ w6.cell? ⟨r, 0, none⟩ = some (.int .i64 z) := by
            intro w6 G6 hT6 hf6
            have hf7 : Frm G' wr w6 := (Frm.of_below (below_d1 wr) G').trans hf6 (fun _ h => .inl h)
            have hh := hxr.keep (hf7.block _ hxr.lt hng)
            obtain ⟨gn, cn, gs, cs, gu, cu, hz6⟩ := hT6.ref
            have hc := hz6.c0
            rw [hdm.2.2, hsz] at hc
            exact ⟨hf7, hh.cells.2.1, hc⟩
          have hw34 := hwr wr.drew (below_d1 wr)
          replace hwr : Hid _ := hwr
          replace hdm : Hid _ := hdm
          replace hT : Hid _ := hT
          replace hxr : Hid _ := hxr
          go_wp2_with fail
          go_region_held3 (fun W => W.cell? ⟨wq.heap.size, 1, none⟩ = some (.int .u32 id) ∧ W.cell? ⟨r, 0, none⟩ = some (.int .i64 z)) (go_keep) (first | (go_at_call 34; refine Calls.mono hw34 ?_; rintro e w6 ⟨rfl, G6, hT6, hG6, hf6⟩; obtain ⟨hf7, y1, y0⟩ := hafter w6 G6 hT6 hf6))
          go_wp2_with fail
          go_roundw
          case rel =>
            refine ⟨k + 1, t2, G6, by omega, by go_num, hT6, by have := hdm.out; omega, by have := hdm.out; omega, ?_, PageAt.keep hxr.out (hf7.block _ (PageAt.lt hxr.out) hng), fun hg => ?_, hfr.trans hf7 hGG, fun j hj => ?_⟩
            · rw [show P - (k + 1) = m by omega]; exact hput.out
            · rcases hG6 _ hg with hh | hh
              · exact hng hh
              · have := PageAt.lt hxr.out; simp at hh; omega
            · rcases hG6 _ hj with hh | hh
              · exact hGG j hh
              · exact .inr (Nat.le_trans hfr.size hh)
          case measure => simp [intOf]; omega
        · rw [if_neg her] at hput
          generalize t'.errWrite ((f : Int) + (k : Int)) [part PB z k] = er at *
          have hne : (er == 0) = false := by simpa using her
          have hne2 : (er != 0) = true := by simpa using her
          clear hcut hw1 hw2
          replace hlo : Hid _ := hlo
          replace hput : Hid _ := hput
          have hafter : ∀ w6 G6, Two w w6 p r F G6 s t2 → Frm G' wr.drew w6 → Frm G' wr w6 ∧ w6.cell? ⟨wq.heap.size, 1, none⟩ = some (.int .u32 id) ∧ w6.cell? ⟨r, 0, none⟩ = some (.int .i64 z) := by
            intro w6 G6 hT6 hf6
            have hf7 : Frm G' wr w6 := (Frm.of_below (below_d1 wr) G').trans hf6 (fun _ h => .inl h)
            have hh := hxr.keep (hf7.block _ hxr.lt hng)
            obtain ⟨gn, cn, gs, cs, gu, cu, hz6⟩ := hT6.ref
            have hc := hz6.c0
            rw [hdm.2.2, hsz] at hc
            exact ⟨hf7, hh.cells.2.1, hc⟩
          have hw34 := hwr wr.drew (below_d1 wr)
          replace hwr : Hid _ := hwr
          replace hdm : Hid _ := hdm
          replace hT : Hid _ := hT
          replace hxr : Hid _ := hxr
          go_wp2_with fail
          go_region_held3 (fun W => W.cell? ⟨wq.heap.size, 1, none⟩ = some (.int .u32 id) ∧ W.cell? ⟨r, 0, none⟩ = some (.int .i64 z)) (go_keep) (first | (go_at_call 34; refine Calls.mono hw34 ?_; rintro e w6 ⟨rfl, G6, hT6, hG6, hf6⟩; obtain ⟨hf7, y1, y0⟩ := hafter w6 G6 hT6 hf6))
          go_wp2_with fail
          go_ret
          exact ⟨by rw [← hput.out]; rfl, G6, by rw [← hput.out]; exact hT6, hfr.trans hf7 hGG⟩
      · obtain rfl : k = P := by omega
        rw [Nat.sub_self] at hput
        unfold putFrom at hput
        replace hput : Hid _ := hput
        go_wp2
        go_ret
        exact ⟨by rw [← hput.out]; rfl, G', by rw [← hput.out]; exact hT, hfr⟩
  · have hv : pwr t P kind id load = (t, putE ((P : Int) * t.size) kind load.length) := by
      unfold pwr; rw [if_neg c2, if_pos c3]
    rw [hv]
    have hput : ∀ W, _ := fun W => rput_bad ((P : Int) * t.size) kind id a load.length c W hk.1 c3
    have hne : (putE ((P : Int) * t.size) kind load.length == 0) = false := by simpa using c3
    have hne2 : (putE ((P : Int) * t.size) kind load.length != 0) = true := by simpa using c3
    rw [← hroom] at hput hne hne2 c3 ⊢
    generalize putE ((P * t.size : Nat) : Int) kind load.length = er at *
    generalize cnt t P = C at *
    have hkeep : ∀ W, Below (wq.alloc (.cells #[.int .u8 kind, .int .u32 id, .slice a load.length c] 25)).heap.size (wq.alloc (.cells #[.int .u8 kind, .int .u32 id, .slice a load.length c] 25)) W → W.cell? ⟨r, 0, none⟩ = some (.int .i64 t.size) ∧ W.cell? ⟨wq.heap.size, 0, none⟩ = some (.int .u8 kind) ∧ W.cell? ⟨wq.heap.size, 1, none⟩ = some (.int .u32 id) ∧ W.cell? ⟨wq.heap.size, 2, none⟩ = some (.slice a load.length c) := fun W hW => ⟨cellOf hW z0, cellOf hW e0, cellOf hW e1, cellOf hW e2⟩
    go_enter Try.func24, Try.ntmps24
    go_wp2_with fail
    go_region_held3 (fun W => W.cell? ⟨wq.heap.size, 1, none⟩ = some (.int .u32 id)) (go_keep) (first | (go_at_call 22; refine (hcnt _ (by first | exact Below.refl _ _ | exact below_d1 _)).mono ?_; rintro e wA ⟨rfl, hwA⟩; subst wA))
    go_wp2_with fail
    go_region_held3 (fun W => W.cell? ⟨r, 0, none⟩ = some (.int .i64 t.size) ∧ W.cell? ⟨wq.heap.size, 0, none⟩ = some (.int .u8 kind) ∧ W.cell? ⟨wq.heap.size, 1, none⟩ = some (.int .u32 id) ∧ W.cell? ⟨wq.heap.size, 2, none⟩ = some (.slice a load.length c)) (go_keep) (first | (go_at_call 11; refine (hput _).mono ?_; rintro e w1 ⟨rfl, hb1⟩; have hB1 : Below (wq.alloc (.cells #[.int .u8 kind, .int .u32 id, .slice a load.length c] 25)).heap.size (wq.alloc (.cells #[.int .u8 kind, .int .u32 id, .slice a load.length c] 25)) w1 := Below.trans (by first | exact below_d1 _ | exact Below.refl _ _ | exact below_d2 _) hb1; obtain ⟨y0, y1, y2, y3⟩ := hkeep w1 hB1))
    go_wp2_with fail
    go_ret
    exact ⟨rfl, G, hA.grow hB1, (Frm.of_below hB0 G).trans (Frm.of_below hB1 G) (fun _ h => .inl h)⟩
end
end Go.Proofs.Ytcgjolonapndgaa
