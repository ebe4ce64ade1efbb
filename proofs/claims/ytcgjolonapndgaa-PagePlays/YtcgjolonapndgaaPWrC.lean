/- The contract of page.Write, further. -/
import Derived.Test.YtcgjolonapndgaaPWrL
namespace Go.Proofs.Ytcgjolonapndgaa
set_option linter.unusedVariables false
open Go.RowKit Go.Maps Go.ChangeMaps Go.MapKept Go.Shelf
attribute [local go_sem] Oper.semAt_some
section
variable {w : World} {p : Nat} {F : Nat → Prop} {s : St}

set_option maxRecDepth 100000 in
set_option maxHeartbeats 4000000 in
theorem pwrite_ok (h : IsD w p F s) (hops : s.ops < 17592186000000) (P : Nat) (kind : Int) (hk : 0 < kind ∧ kind < 256) (id : Nat) (hid : id < 2 ^ 32) (a : Option Addr) (n c : Nat) (load : List Int) (hn : n = load.length) (hb : Bts w (.slice a n c) load) (hby : IsBytes load) (c2 : ¬ cnt s P ≤ (id : Int)) (c21 : cnt s P ≤ 16384) (hP1 : 64 ≤ P * s.size) (hP2 : P * s.size ≤ 8192) (hl : load.length + 11 ≤ P * s.size) (hfit : id * P + P ≤ s.sectors) :
    Calls Try.prog 23 #[.pointer (some ⟨p, 0, none⟩), .int .i64 P, .agg #[.int .u8 kind, .int .u32 id, .slice a n c]] w fun e w' => e = .returned (.int .i64 (putFrom s (id * P : Nat) (pageB (P * s.size) kind id load) s.size 0 P).2) ∧ Turned w p F (putFrom s (id * P : Nat) (pageB (P * s.size) kind id load) s.size 0 P).1 w' := by
  obtain ⟨per, hper⟩ : ∃ per : Int, per = P := ⟨_, rfl⟩
  rw [← hper] at c2 c21 ⊢
  have d2 : decide (cnt s per ≤ (id : Int)) = false := by simpa using c2
  have hu : IntKind.u32.wrap (cnt s per) = cnt s per := Go.IntWalk.u32_in _ (by omega)
  obtain ⟨hB, hd, hx, hr, hz1⟩ := three w (.cells #[.pointer (some ⟨p, 0, none⟩)] 42) (.cells #[.int .u8 kind, .int .u32 id, .slice a n c] 25) (.cells #[.int .i64 0] 27)
  have hcnt : ∀ W, Below w.heap.size w W → Calls Try.prog 21 #[.pointer (some ⟨p, 0, none⟩), .int .i64 per] W fun e w' => e = .returned (.int .i64 (cnt s per)) ∧ w' = W := fun W hW => count_any (h.grow hW) per

  have hsz : ∀ W, Below w.heap.size w W → Calls Try.prog 42 #[.pointer (some ⟨p, 0, none⟩)] W fun e w' => e = .returned (.int .i64 s.size) ∧ w' = W := fun W hW => size_any (h.grow hW)
  have hput : ∀ W, Below w.heap.size w W → Calls Try.prog 10 #[.int .i64 ((P * s.size : Nat) : Int), .agg #[.int .u8 kind, .int .u32 id, .slice a n c]] W fun e w' => e = .returned (.tuple #[.slice (some ⟨W.heap.size + 1, 0, none⟩) (P * s.size) (P * s.size), .int .i64 0]) ∧ Row w' (W.heap.size + 1) (pageB (P * s.size) kind id load) ∧ Below W.heap.size W w' := fun W hW => put_ok _ kind id _ load W hP1 hP2 hk hid (hb.grow hW) hby hl
  have hroom : per * (s.size : Int) = ((P * s.size : Nat) : Int) := by rw [hper, Int.natCast_mul]
  have hpw : IntKind.i64.wrap (per * (s.size : Int)) = ((P * s.size : Nat) : Int) := by rw [hroom]; exact Go.IntWalk.i64_in _ (by omega)
  have hsec : s.sectors ≤ 65536 ∧ 64 ≤ s.size := by
    obtain ⟨bs, bf, ns, nf, gs, gf, hd, _⟩ := h
    exact ⟨hd.sec2, hd.size1⟩
  have hbl : (pageB (P * s.size) kind id load).length = P * s.size := pageB_len _ _ _ _ (by omega)
  obtain ⟨f, hf⟩ : ∃ f, f = id * P := ⟨_, rfl⟩
  have hcm : (id : Int) * per = (f : Int) := by rw [hf, hper, Int.natCast_mul]
  have hmul : IntKind.i64.wrap ((id : Int) * per) = (f : Int) := by rw [hcm]; exact Go.IntWalk.i64_in _ (by omega)
  have hui : IntKind.i64.wrap (id : Int) = (id : Int) := Go.IntWalk.i64_in _ (by omega)
  rw [← hf] at hfit ⊢
  clear hroom hcm
  generalize hPB : pageB (P * s.size) kind id load = PB at *
  obtain ⟨R, hR⟩ : ∃ R, R = putFrom s f PB s.size 0 P := ⟨_, rfl⟩
  rw [← hR]
  generalize cnt s per = C at *
  obtain ⟨z, hzz⟩ : ∃ z, z = s.size := ⟨_, rfl⟩
  rw [← hzz] at hsz hput hpw hbl hR hsec hP1 hP2 hl
  obtain ⟨N, hN⟩ : ∃ N, N = P * z := ⟨_, rfl⟩
  rw [← hN] at hput hpw hbl hP1 hP2 hl
  replace hPB : Hid _ := hPB
  replace hR : Hid _ := hR
  replace hbl : Hid _ := hbl
  replace hzz : Hid _ := hzz
  replace hf : Hid _ := hf
  replace hN : Hid _ := hN
  replace hper : Hid _ := hper
  replace hn : Hid _ := hn
  refine (callsIn_wide (n := 6)).1 ?_
  refine callsIn_of_wp_marks Try.func23 rfl trivial ?_ rfl
  simp only [Try.ntmps23, List.size_toArray, List.length_cons, List.length_nil, Nat.reduceAdd, Nat.reduceSub, Array.replicate_succ, Array.replicate_zero, List.push_toArray, List.append_toArray, List.nil_append, List.cons_append]
  refine wpIn_wide.2 ?_
  go_wp2_with fail

  generalize ((w.alloc (.cells #[.pointer (some ⟨p, 0, none⟩)] 42)).alloc (.cells #[.int .u8 kind, .int .u32 id, .slice a n c] 25)).alloc (.cells #[.int .i64 0] 27) = W1 at *
  replace hd : Bx W1 w.heap.size _ 42 := hd
  replace hx : PageAt W1 (w.heap.size + 1) kind id (.slice a n c) := hx
  replace hr : Bx W1 (w.heap.size + 1 + 1) _ 27 := hr
  obtain ⟨d0, d1⟩ := hd.cell
  obtain ⟨x0, x1, x2⟩ := hx.cells
  obtain ⟨r0, r1⟩ := hr.cell

  go_region_held3 (fun W => W.cell? ⟨w.heap.size + 1, 1, none⟩ = some (.int .u32 id) ∧ W.cell? ⟨w.heap.size, 0, none⟩ = some (.pointer (some ⟨p, 0, none⟩))) (go_keep) (first | (go_at_call 21; refine (hcnt _ (by first | exact hB | exact hB.drew)).mono ?_; rintro e wA ⟨rfl, hwA⟩; subst wA))

  go_wp2_with fail

  go_region_held3 (fun W => W.cell? ⟨w.heap.size, 0, none⟩ = some (.pointer (some ⟨p, 0, none⟩)) ∧ W.cell? ⟨w.heap.size + 1, 0, none⟩ = some (.int .u8 kind) ∧ W.cell? ⟨w.heap.size + 1, 1, none⟩ = some (.int .u32 id) ∧ W.cell? ⟨w.heap.size + 1, 2, none⟩ = some (.slice a n c)) (go_keep) (first | (go_at_call 42; refine (hsz _ (by first | exact hB | exact hB.drew | exact hB.drew.drew)).mono ?_; rintro e wA ⟨rfl, hwA⟩; subst wA) | (go_at_call 10; refine (hput _ (by first | exact hB | exact hB.drew | exact hB.drew.drew)).mono ?_; rintro e w2 ⟨rfl, hrow2, hb2⟩; have hB2 : Below W1.heap.size W1 w2 := Below.trans (by first | exact Below.refl _ _ | exact below_d1 _ | exact below_d2 _) hb2; have y0 := cellOf hB2 d0; have y1 := cellOf hB2 x0; have y2 := cellOf hB2 x1; have y3 := cellOf hB2 x2; have y4 := cellOf hB2 r0; have y5 : w2.frozen? ⟨w.heap.size + 1 + 1, 0, none⟩ = false := (hr.keep (hB2.block _ hr.lt)).cell.2))

  go_upto_region 9 with fail
  have hrow3 : Row w2 (w.heap.size + 3 + 1) PB := by simpa [hz1] using hrow2
  have hB3 : Below w2.heap.size w2 (w2.alloc (.cells #[.int .i64 f] 3)) := (Below.refl _ w2).alloc (Nat.le_refl _) _
  have hnb : Bx (w2.alloc (.cells #[.int .i64 f] 3)) w2.heap.size (.int .i64 f) 3 := heap_alloc_new w2 _
  have hB4 : Below W1.heap.size W1 (w2.alloc (.cells #[.int .i64 f] 3)) := hB2.trans (hB3.mono hB2.size)
  have hrow4 := hrow3.keep (hB3.block _ hrow3.lt)
  have hd4 := hd.keep (hB4.block _ hd.lt)
  have hr4 := hr.keep (hB4.block _ hr.lt)
  have hnb1 : W1.heap.size ≤ w2.heap.size := hB2.size
  have hgn : w.heap.size + 3 + 1 < w2.heap.size := hrow3.lt
  have hsz4 : w2.heap.size < (w2.alloc (.cells #[.int .i64 f] 3)).heap.size := by simp
  clear hrow2 hrow3 hb2 hB3 y0 y1 y2 y3 y4 y5 d0 d1 x0 x1 x2 r0 r1 hcnt hput hB2
  generalize w2.alloc (.cells #[.int .i64 f] 3) = W3 at *
  generalize w2.heap.size = nb at *
  obtain ⟨d0, _⟩ := hd4.cell
  have hB5 := hB.trans (hB4.mono hB.size)
  have hch : ∀ W, Calls Try.prog 44 #[.slice (some ⟨w.heap.size + 3 + 1, 0, none⟩) N N, .int .i64 z] W fun e w' => e = .returned (.func (.func 56) #[] #[.pointer (some ⟨W.heap.size, 0, none⟩), .pointer (some ⟨W.heap.size + 1, 0, none⟩)]) ∧ w' = (W.alloc (.cells #[.slice (some ⟨w.heap.size + 3 + 1, 0, none⟩) N N] 23)).alloc (.cells #[.int .i64 z] 3) := fun W => callsIn_wide.1 (chunk_in Fence.wide 5 trivial rfl _ _ _ z (by omega) W)
  go_wp2_with (first | (go_at_call 42; refine (hsz _ hB5).mono ?_; rintro e wA ⟨rfl, hwA⟩; subst wA) | (go_at_call 44; refine (hch _).mono ?_; rintro e wC ⟨rfl, hwC⟩; subst wC))
  obtain ⟨bs, bf, hdb0, hbs, hbf⟩ := isDB_of h.tight
  have hF0 : ∀ j, (F j ∧ j < w.heap.size) → j < w.heap.size := fun j hj => hj.2
  generalize hF0' : (fun j => F j ∧ j < w.heap.size) = F0 at *
  replace hF0 : ∀ j, F0 j → F j ∧ j < w.heap.size := fun j hj => by rw [← hF0'] at hj; exact hj
  have hA0 : Below W3.heap.size W3 ((W3.alloc (.cells #[.slice (some ⟨w.heap.size + 3 + 1, 0, none⟩) N N] 23)).alloc (.cells #[.int .i64 z] 3)) := ((Below.refl _ W3).alloc (Nat.le_refl _) _).alloc (by simp) _
  have hs0 : Bx ((W3.alloc (.cells #[.slice (some ⟨w.heap.size + 3 + 1, 0, none⟩) N N] 23)).alloc (.cells #[.int .i64 z] 3)) W3.heap.size (.slice (some ⟨w.heap.size + 3 + 1, 0, none⟩) N N) 23 := ((heap_alloc (W3.alloc (.cells #[.slice (some ⟨w.heap.size + 3 + 1, 0, none⟩) N N] 23)) (.cells #[.int .i64 z] 3)).2 _ (by simp)).trans (heap_alloc_new W3 _)
  have hk0 : Bx ((W3.alloc (.cells #[.slice (some ⟨w.heap.size + 3 + 1, 0, none⟩) N N] 23)).alloc (.cells #[.int .i64 z] 3)) (W3.heap.size + 1) (.int .i64 z) 3 := by
    have := heap_alloc_new (W3.alloc (.cells #[.slice (some ⟨w.heap.size + 3 + 1, 0, none⟩) N N] 23)) (.cells #[.int .i64 z] 3)
    rwa [World.size_alloc] at this
  have hz0 : ((W3.alloc (.cells #[.slice (some ⟨w.heap.size + 3 + 1, 0, none⟩) N N] 23)).alloc (.cells #[.int .i64 z] 3)).heap.size = W3.heap.size + 2 := by simp
  generalize (W3.alloc (.cells #[.slice (some ⟨w.heap.size + 3 + 1, 0, none⟩) N N] 23)).alloc (.cells #[.int .i64 z] 3) = W0 at *
  have hrow0 := hrow4.keep (hA0.block _ hrow4.lt)
  have hd0 := hd4.keep (hA0.block _ hd4.lt)
  have hr0 := hr4.keep (hA0.block _ hr4.lt)
  have hn0 := hnb.keep (hA0.block _ hsz4)
  have hwW0 : Below w.heap.size w W0 := hB5.trans (hA0.mono hB5.size)
  have hdb : IsDB W0 p F0 s bs bf := hdb0.keep (fun j _ hl => hwW0.block j hl)
  have hww : w.heap.size + 3 ≤ nb := by omega
  have nF : ∀ j, w.heap.size ≤ j → ¬ F0 j := fun j hj hf => absurd (hF0 j hf).2 (by omega)
  have hPpos : 0 < P := Nat.pos_of_ne_zero (fun e => by have := hN.out; rw [e] at this; simp at this; omega)
  have hPl : P ≤ 8192 := by
    have h8 := hN.out
    have h9 : P * 1 ≤ P * z := Nat.mul_le_mul_left _ (by omega)
    omega
  have hf6 : f ≤ 65536 := by omega
  clear hch hB4 hd4 hr4 hrow4 hnb hd hx hr hB d0 hsz hpw hmul hui hdb0
  refine (wpIn_wide (n := 6)).1 ?_
  refine wpIn_rangeFunc_ownG (F := Fence.wide) (n := 6) (w := W0) rfl (by omega) (gf := 56) (lb := #[.pointer (some ⟨W3.heap.size, 0, none⟩), .pointer (some ⟨W3.heap.size + 1, 0, none⟩)]) rfl trivial (enters_of Try.func56 (by kernel_rfl) rfl)
    (chunk_stops Fence.wide (6 - 1) trivial rfl (by omega) W3.heap.size (W3.heap.size + 1) (w.heap.size + 3 + 1) N z P N hN.out (by omega) (by omega) (Nat.le_refl _) (by omega) W0 hs0.cell.1 hk0.cell.1) keepC_t (keepC_b (by omega) (by omega)) (Below.refl _ _) (fun _ => rfl)
    (LoopA W0 p F0 bs bf nb (w.heap.size + 1 + 1) z s.ops f PB P R) (LoopX W0 p F0 bs bf nb (w.heap.size + 1 + 1) z s.ops f PB P R)
    (loopA_own (by omega) (by omega)) (loopX_own (by omega) (by omega)) ?start
    (fun x => { tmps := #[.pointer (some ⟨p, 0, none⟩), .int .i64 per, .agg #[.int .u8 kind, .int .u32 id, .slice a n c], .pointer (some ⟨w.heap.size, 0, none⟩), undef, .pointer (some ⟨w.heap.size + 1, 0, none⟩), .pointer (some ⟨w.heap.size + 1 + 1, 0, none⟩), .slice (some ⟨w.heap.size + 3 + 1, 0, none⟩) N N, .int .i64 0, .pointer (some ⟨nb, 0, none⟩), .slice (some ⟨w.heap.size + 3 + 1, x % P * z, none⟩) z z, undef, .bool false, .pointer (some ⟨p, 0, none⟩), .bool false, .bool false, .pointer (some ⟨w.heap.size + 1, 1, none⟩), .int .u32 id, .pointer (some ⟨p, 0, none⟩), .int .i64 per, .int .i64 C, .int .u32 C, .bool false, .tuple #[.slice (some ⟨w.heap.size + 3 + 1, 0, none⟩) N N, .int .i64 0], .int .i64 per, .pointer (some ⟨p, 0, none⟩), .int .i64 z, .int .i64 N, .agg #[.int .u8 kind, .int .u32 id, .slice a n c], .tuple #[.slice (some ⟨w.heap.size + 3 + 1, 0, none⟩) N N, .int .i64 0], .slice (some ⟨w.heap.size + 3 + 1, 0, none⟩) N N, .int .i64 0, .int .i64 0, .bool false, undef, .pointer (some ⟨w.heap.size + 1, 1, none⟩), .int .u32 id, .int .i64 id, .int .i64 per, .int .i64 f, .slice (some ⟨w.heap.size + 3 + 1, 0, none⟩) N N, .pointer (some ⟨p, 0, none⟩), .int .i64 z, .func (.func 56) #[] #[.pointer (some ⟨W3.heap.size, 0, none⟩), .pointer (some ⟨W3.heap.size + 1, 0, none⟩)], .slice (some ⟨w.heap.size + 3 + 1, x % P * z, none⟩) z z, undef, undef, undef, undef, undef, undef, undef, undef, undef, undef], defers := [] }) ?assign ?body ?done ?stop
  case start => exact loopA_start hdb hzz.out.symm hn0 hr0 hR.out
  case assign =>
    intro l x W K hK
    gi_wp2
    exact hK
  case body =>
    rintro l pre x W ⟨s', m, hm, hL, hn, hr, hst⟩ hlt
    have hfr := hL.2.1
    have hnl : nb < W0.heap.size := hn0.lt
    have hrl : w.heap.size + 1 + 1 < W0.heap.size := hr0.lt
    have hd := hd0.keep (hfr.block _ hd0.lt (by rintro (e | e | e); exact nF _ (Nat.le_refl _) e; omega; omega))
    have hy : x % P < P := Nat.mod_lt _ hPpos
    have hwr := loop_write hL (by omega) (by omega) (by omega) hrow0 ⟨nF _ (by omega), by omega, by omega⟩ (by rw [hbl.out, hN.out]) hy (m : Int) (by omega) (by omega)
    have heb := errWrite_in s' (m : Int) [part PB z (x % P)]
    have hmk : ((m : Nat) : Int) = (f : Int) + (pre.length : Int) := by omega
    obtain ⟨er, her⟩ : ∃ er, er = s'.errWrite (m : Int) [part PB z (x % P)] := ⟨_, rfl⟩
    obtain ⟨s2, hs2⟩ : ∃ s2, s2 = s'.write (m : Int) [part PB z (x % P)] := ⟨_, rfl⟩
    rw [← her, ← hs2] at hwr
    rw [← her] at heb
    have hlen : (pre ++ [x]).length = pre.length + 1 := by simp
    have hfin : pre ++ [x] = List.range (pre ++ [x]).length → (er = 0 → putFrom s2 f PB z (pre.length + 1) (P - (pre.length + 1)) = R) ∧ (er ≠ 0 → R = (s2, er)) := fun hp => by
      obtain ⟨h1, h2⟩ := snoc_range hp
      have h3 := hst h1
      have h4 : x % P = pre.length := by rw [h2, Nat.mod_eq_of_lt hlt]
      rw [h4, hmk] at her hs2
      refine ⟨fun e => ?_, fun e => ?_⟩
      · rw [← h3, putFrom_go hlt (by rw [← her]; exact e), ← hs2]
      · rw [← h3, putFrom_stop hlt (by rw [← her]; exact e), ← hs2, ← her]
    have hmw : IntKind.i64.wrap ((m : Int) + 1) = (m : Int) + 1 := Go.IntWalk.i64_in _ (by omega)
    obtain ⟨d0, d1⟩ := hd.cell
    obtain ⟨n0, n1⟩ := hn.cell
    obtain ⟨r0, r1⟩ := hr.cell
    have hbw := hd0.lt
    have hnW : nb < W.heap.size := hn.lt
    generalize x % P * z = xo at *
    replace hfin : Hid _ := hfin
    replace her : Hid _ := her
    replace hs2 : Hid _ := hs2
    replace hst : Hid _ := hst
    replace hm : Hid _ := hm
    clear hmk
    by_cases e0 : er = 0
    · replace hwr := hwr
      rw [e0] at hwr
      gi_wp2_with (refine ⟨trivial, ?_⟩; gi_at_call 33; refine (CallsIn.inRound l (callsIn_wide.2 hwr)).mono ?_; rintro e w2 ⟨rfl, hL2, hKF, hsame⟩; have hn2 := hn.keep (hsame _ hnl (nF _ (by omega))); have hr2 := hr.keep (hsame _ hrl (nF _ (by omega))); obtain ⟨n20, n21⟩ := hn2.cell; obtain ⟨r20, r21⟩ := hr2.cell)
      refine ⟨hKF.trans ((KeepsOthers.setCell _ _ _).from _), ⟨(Below.heap_setCell _ _ _ _ (by show _ ≠ nb; omega)).trans (hsame _ hs0.lt (nF _ (by omega))), (Below.heap_setCell _ _ _ _ (by show _ ≠ nb; omega)).trans (hsame _ hk0.lt (nF _ (by omega)))⟩, s2, m + 1, (by rw [hlen, hm.out]; omega), ?_, hn2.set _, hr2.keep (Below.heap_setCell _ _ _ _ (by show _ ≠ nb; omega)), fun hp => ?_⟩
      · rw [hlen]; exact hL2.set (.inl rfl) hnl (nF _ (by omega)) _
      · rw [hlen]; exact (hfin.out hp).1 e0
    · have e1 : (er != 0) = true := by simpa using e0
      have e2 : (er == 0) = false := by simpa using e0
      gi_wp2_with (refine ⟨trivial, ?_⟩; gi_at_call 33; refine (CallsIn.inRound l (callsIn_wide.2 hwr)).mono ?_; rintro e w2 ⟨rfl, hL2, hKF, hsame⟩; have hn2 := hn.keep (hsame _ hnl (nF _ (by omega))); have hr2 := hr.keep (hsame _ hrl (nF _ (by omega))); obtain ⟨n20, n21⟩ := hn2.cell; obtain ⟨r20, r21⟩ := hr2.cell)
      refine ⟨hKF.trans ((KeepsOthers.setCell _ _ _).from _), rfl, s2, er, ?_, hr2.set _, fun hp => (hfin.out hp).2 e0⟩
      rw [hlen]; exact hL2.set (.inr rfl) hrl (nF _ (by omega)) _
  case done =>
    rintro D xs W hD rfl ⟨s', m, hm, hL, hn, hr, hst⟩ hK
    have hR2 := hst (by simp)
    rw [List.length_range, Nat.sub_self] at hR2
    unfold putFrom at hR2
    obtain ⟨r0, r1⟩ := hr.cell
    replace hR2 : Hid _ := hR2
    replace hm : Hid _ := hm
    go_wp2_with fail
    have hr5 := hr.set (.int .i64 0)
    have hK' := (KeepsOthers.setCell W ⟨w.heap.size + 1 + 1, 0, none⟩ (.int .i64 0)).same D _ hK rfl
    refine ⟨by simp, .inl ⟨_, _, rfl, run_takeDeferred hK', ?_⟩⟩
    have hr6 := (hr5.own (grownBy_putObj' _ D (.deferred none)) (fun r e => by cases e; exact ⟨_, hK', rfl⟩)).cell.1
    have hL6 := (hL.set (.inr rfl) hr0.lt (nF _ (by omega)) (.int .i64 0)).own (by omega) (by omega) (grownBy_putObj' _ D (.deferred none)) (fun r e => by cases e; exact ⟨hD, _, hK', rfl⟩)
    refine ⟨.int .i64 0, ?_, by rw [← hR2.out], ?_⟩
    · simp [results, go_sem, hr6]
    · rw [← hR2.out]; exact loop_fin hL6 hwW0 hF0 (by omega) (by omega)
  case stop =>
    rintro D c pre W hD ⟨k, hk, rfl⟩ ⟨rfl, s', er, hL, hr, hst⟩ hK
    have hR2 := hst (by simp)
    replace hR2 : Hid _ := hR2
    gi_wp2
    refine ⟨by simp, .inl ⟨_, _, rfl, run_takeDeferred hK, ?_⟩⟩
    have hr6 := (hr.own (grownBy_putObj' _ D (.deferred none)) (fun r e => by cases e; exact ⟨_, hK, rfl⟩)).cell.1
    have hL6 := hL.own (by omega) (by omega) (grownBy_putObj' _ D (.deferred none)) (fun r e => by cases e; exact ⟨hD, _, hK, rfl⟩)
    refine ⟨.int .i64 er, ?_, by rw [hR2.out], ?_⟩
    · simp [results, go_sem, hr6]
    · rw [hR2.out]; exact loop_fin hL6 hwW0 hF0 (by omega) (by omega)
end
end Go.Proofs.Ytcgjolonapndgaa
