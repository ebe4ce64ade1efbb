/- steps. -/
import Derived.Test.YtaffplmfnincfaaGreatDoorOc
import Derived.Test.YtaffplmfnincfaaGreatDoorDd
import Derived.Test.YtaffplmfnincfaaGreatDoorOgOi
import Derived.Deep.RegionWith
namespace Go.Proofs.YtaffplmfnincfaaGreatDoor
set_option linter.unusedVariables false
open Go.RowKit
/-- The steps of nodes. -/
noncomputable def sqN (x : Nd) : Sq := (x.ref, inpN x)
/-- What stands between two rounds. -/
structure StpI (w : World) (l : List Nd) (k : Nat) (wr : World) (out : List Sx) : Prop where
  own : OwnX wr w.heap.size (.slice (some ⟨w.heap.size, 0, none⟩) l.length l.length) (padX out l.length)
  len : out.length = k
  ok : LxOk wr w.heap.size out
  is : out.map sqOf = (l.take k).map sqN
  bel : Below w.heap.size w wr
theorem StpI.next {w : World} {l : List Nd} {k : Nat} {wr W : World} {out : List Sx} (h : StpI w l k wr out) (hk : k < l.length) (x : Nd) (hx : x = l.getD k nd0) {a : Option Addr} {n c : Nat} (hb : Below (wr.alloc (.cells (ndC x) 36)).heap.size (wr.alloc (.cells (ndC x) 36)) W) (hi : Txs W (.slice a n c) (inpN x)) (hg : ∀ ad, a = some ad → ad.block ≠ w.heap.size) :
    StpI w l (k + 1) ((W.setCell ⟨w.heap.size, k * 2, none⟩ (.string x.ref)).setCell ⟨w.heap.size, k * 2 + 1, none⟩ (.slice a n c)) (out ++ [⟨x.ref, a, n, c, inpN x⟩]) := by
  have hB1 := h.bel.trans ((bW0 wr (.cells (ndC x) 36)).mono h.bel.size)
  have hB2 := hB1.trans (hb.mono hB1.size)
  have hgr : Below wr.heap.size wr W := (bW0 wr _).trans (hb.mono (by simp))
  have ho : OwnX W w.heap.size (.slice (some ⟨w.heap.size, 0, none⟩) l.length l.length) (padX out l.length) := h.own.stay hgr
  have hset : ∀ {W : World} {o : Nat} {u : Value} {y : Sx}, SxOk W w.heap.size y → SxOk (W.setCell ⟨w.heap.size, o, none⟩ u) w.heap.size y := fun {W o u y} hy => hy.keep fun b hb hne => Below.heap_setCell _ _ _ _ (fun e => hne e)
  refine ⟨?_, by simp [h.len], ?_, ?_, ?_⟩
  · have := own_storeX ho (padX_len out l.length (by have := h.len; omega)).symm k ⟨x.ref, a, n, c, inpN x⟩
    rw [← h.len, padX_set out l.length (by have := h.len; omega)] at this
    rw [← h.len]
    exact this
  · intro y hy
    rcases List.mem_append.1 hy with hy | hy
    · exact hset (hset ((h.ok y hy).grow hgr))
    · rw [List.mem_singleton.1 hy]
      exact hset (hset ⟨hi, hg⟩)
  · rw [List.map_append, h.is, List.take_succ_eq_append_getElem hk, List.map_append, hx, List.getD_eq_getElem?_getD, List.getElem?_eq_getElem hk]
    rfl
  · exact (hB2.setCell (p := ⟨w.heap.size, k * 2, none⟩) (Nat.le_refl _) _).setCell (p := ⟨w.heap.size, k * 2 + 1, none⟩) (Nat.le_refl _) _
theorem srt_rise {L : List Sx} (h : SrtX L) (hn : (L.map (·.ref)).Nodup) : SRise (L.map sqOf) := by
  unfold SRise
  rw [List.pairwise_map]
  have h2 : L.Pairwise fun a b => a.ref ≠ b.ref := by
    have := hn
    rw [List.Nodup, List.pairwise_map] at this
    exact this
  refine (h.and h2).imp ?_
  rintro a b ⟨g1, g2⟩
  rcases bltS_total g2 with g | g
  · exact g
  · exact absurd g g1
set_option maxRecDepth 100000 in
set_option maxHeartbeats 8000000 in
/-- steps. -/
theorem steps22 (a : Option Addr) (n c : Nat) (l : List Nd) (w : World) (hG : G w) (hS : SignsAt w) (hv : Sls encN w (.slice a n c) l) (hl : l.length ≤ 1000) (hsh : ShN l) : Calls Tryz.prog 22 #[.slice a n c] w fun e w' => ∃ L g, e = .returned (.slice (some ⟨g, 0, none⟩) n n) ∧ Hid (OwnX w' w.heap.size (.slice (some ⟨g, 0, none⟩) n n) L ∧ LxOk w' g L ∧ (L.map sqOf).Perm (l.map sqN) ∧ SrtX L ∧ Below w.heap.size w w') := by
  have hn : Hid (n = l.length) := hv.len
  have hn1 : n ≤ 1000 := by have := hn.out; omega
  have hrow : Hid (∀ W, Below w.heap.size w W → Sls encN W (.slice a n c) l) := fun W h => hv.grow h
  have hinp : Hid (∀ k W, k < l.length → Below w.heap.size w W → Calls Tryz.prog 12 #[ndV (l.getD k nd0)] W fun e w' => ∃ a n c, e = .returned (.slice a n c) ∧ Hid (Txs w' (.slice a n c) (inpN (l.getD k nd0)) ∧ Below W.heap.size W w' ∧ FreshA W.heap.size a)) := fun k W hk hB => inputs12f (l.getD k nd0) _ (hG.grow hB) (hS.grow hB) (hsh.at hk)
  have hmk : ∀ W : World, (Instr.makeSlice 49 (.int .i64 (n : Int)) (.int .i64 (n : Int))).run Tryz.prog W = .ok (.slice (some ⟨W.heap.size, 0, none⟩) n n) (W.alloc (.cells (madeCells TX.z.cells (n * encX.k)) 56)) := run_makeR TX n (by omega)
  have hI0 : Hid (StpI w l 0 (w.alloc (.cells (madeCells TX.z.cells (n * encX.k)) 56)) []) := ⟨by
    have := own_madeR TX rfl w n (by omega)
    rw [hn.out] at this ⊢
    have e : padX [] l.length = List.replicate l.length encX.d := by unfold padX; rfl
    rw [e]
    exact this, rfl, (fun x h => by cases h), by simp, bW0 w _⟩
  have hsort : Hid (∀ (W : World) (L : List Sx), L.length = n → OwnX W w.heap.size (.slice (some ⟨w.heap.size, 0, none⟩) n n) L → Calls Tryz.prog 42 #[.slice (some ⟨w.heap.size, 0, none⟩) n n, .func (.func 43) #[] #[]] W fun e w' => e = .returned (.tuple #[]) ∧ ∃ l', l'.Perm L ∧ SrtX l' ∧ OwnX w' w.heap.size (.slice (some ⟨w.heap.size, 0, none⟩) n n) l' ∧ W.grownBy w' (some w.heap.size)) := fun W L hL ho => by
    have h := sort42 w.heap.size w.heap.size n L W (by rw [hL]; exact ho) (by omega)
    rw [hL] at h
    exact h
  clear hv hG hS hsh hl
  generalize madeCells TX.z.cells (n * encX.k) = cs at *
  go_enter Tryz.func22, Tryz.ntmps22
  go_wp2
  clear hmk
  generalize w.alloc (.cells cs 56) = W0 at *
  go_loopw [11] (fun i wr => ∃ (k : Nat) (out : List Sx), k ≤ n ∧ i = .int .i64 k ∧ Hid (StpI w l k wr out)) (fun i _ => n - (intOf i).toNat)
  case atStart => exact ⟨0, [], Nat.zero_le _, rfl, hI0⟩
  case round =>
    obtain ⟨k, out, hk, rfl, hI⟩ := hrel
    by_cases hlt : k < n
    · have hki : (k : Int) < (n : Int) := by omega
      have hkl : k < l.length := by have := hn.out; omega
      obtain ⟨b, o, rfl, c0, c1, c2, c3, c4, c5, c6, c7, c8, c9, c10⟩ := nd_at (hrow.out wr hI.out.bel) k hkl
      have hB1 := hI.out.bel.trans ((bW0 wr (.cells (ndC (l.getD k nd0)) 36)).mono hI.out.bel.size)
      have hcall : Hid (∀ W, Below (wr.alloc (.cells (ndC (l.getD k nd0)) 36)).heap.size (wr.alloc (.cells (ndC (l.getD k nd0)) 36)) W → _) := fun W hW => hinp.out k W hkl (hB1.trans (hW.mono hB1.size))
      have hnx : Hid (∀ (W : World) (a : Option Addr) (n' c' : Nat), Below (wr.alloc (.cells (ndC (l.getD k nd0)) 36)).heap.size (wr.alloc (.cells (ndC (l.getD k nd0)) 36)) W → Txs W (.slice a n' c') (inpN (l.getD k nd0)) → FreshA (wr.alloc (.cells (ndC (l.getD k nd0)) 36)).heap.size a → ∃ out', StpI w l (k + 1) ((W.setCell ⟨w.heap.size, k * 2, none⟩ (.string (l.getD k nd0).ref)).setCell ⟨w.heap.size, k * 2 + 1, none⟩ (.slice a n' c')) out') := fun W a n' c' h1 h2 h3 =>
        ⟨_, hI.out.next hkl _ rfl h1 h2 fun ad e => by
          have h4 := h3 ad e
          have h5 := (hI.out.own.lt w.heap.size rfl).2
          have h6 : (wr.alloc (.cells (ndC (l.getD k nd0)) 36)).heap.size = wr.heap.size + 1 := by simp
          omega⟩
      have hcl : Hid (∀ (W : World), Below (wr.alloc (.cells (ndC (l.getD k nd0)) 36)).heap.size (wr.alloc (.cells (ndC (l.getD k nd0)) 36)) W → ∃ (s : ByteArray) (v : Value), W.cell? ⟨w.heap.size, k * 2, none⟩ = some (.string s) ∧ W.cell? ⟨w.heap.size, k * 2 + 1, none⟩ = some v ∧ W.frozen? ⟨w.heap.size, k * 2, none⟩ = false ∧ W.frozen? ⟨w.heap.size, k * 2 + 1, none⟩ = false) := fun W hW => by
        have hpl : (padX out l.length).length = l.length := padX_len out l.length (by have := hI.out.len; omega)
        have hgr : Below wr.heap.size wr W := (bW0 wr _).trans (hW.mono (by simp))
        obtain ⟨⟨g1, g2⟩, g3, g4⟩ := own_cellX (hI.out.own.stay hgr) hpl.symm k hkl
        exact ⟨_, _, g1, g2, g3, g4⟩
      have hgl : w.heap.size < wr.heap.size := (hI.out.own.lt w.heap.size rfl).2
      generalize l.getD k nd0 = x at *
      clear hI hI0 hinp hrow hsort
      have hU0 : Below (wr.alloc (.cells (ndC x) 36)).heap.size (wr.alloc (.cells (ndC x) 36)) (wr.alloc (.cells (ndC x) 36)) := Below.refl _ _
      go_wp2
      obtain ⟨d0, d1, d2, d3, d4, d5, d6, d7, d8, d9, d10⟩ := nd_kept x hU0
      have hbU : Hid (∀ W, Below (wr.alloc (.cells (ndC x) 36)).heap.size (wr.alloc (.cells (ndC x) 36)) W → W.cell? ⟨wr.heap.size, 0, none⟩ = some (.string x.ref)) := fun W h => (nd_kept x h).1
      have hUs : wr.heap.size < (wr.alloc (.cells (ndC x) 36)).heap.size := by simp
      generalize (wr.alloc (.cells (ndC x) 36)) = U at *
      clear c0 c1 c2 c3 c4 c5 c6 c7 c8 c9 c10
      have hc12 := hcall.out U.drew (Below.refl _ _).drew
      go_region_with (first
        | (go_at_call 12; refine hc12.mono ?_; rintro e w1 ⟨a1, n1, c1, rfl, h1⟩; have hb1 : Below U.heap.size U w1 := (Below.refl _ _).drew.trans (h1.out.2.1.mono (Nat.le_refl _)); have hr1 := hbU.out w1 hb1; obtain ⟨s1, v1, q1, q2, q3, q4⟩ := hcl.out w1 hb1))
      all_goals
        obtain ⟨out', hI'⟩ := hnx.out w1 a1 n1 c1 hb1 h1.out.1 h1.out.2.2
        replace hI' : Hid (StpI w l (k + 1) _ out') := hI'
        clear hnx hcall hcl hc12 h1 hb1 hr1 q1 q2 q3 q4 hbU d0 d1 d2 d3 d4 d5 d6 d7 d8 d9 d10 hB1
        generalize (w1.setCell ⟨w.heap.size, k * 2, none⟩ (.string x.ref)).setCell ⟨w.heap.size, k * 2 + 1, none⟩ (.slice a1 n1 c1) = W2 at *
        go_wp2
        refine ⟨⟨k + 1, out', by omega, by go_num, hI'⟩, ?_⟩
        simp [intOf]; omega
    · have hkn : Hid (k = n) := by show k = n; omega
      have hki : ¬ (k : Int) < (n : Int) := by omega
      have hso := hsort.out wr out (by rw [hI.out.len, hkn.out]) (by
        have h := hI.out.own
        rw [← hn.out] at h
        have e : padX out n = out := by have := hI.out.len; rw [hkn.out] at this; rw [← this]; exact padX_full out
        rw [e] at h
        exact h)
      have hfin : Hid (∀ (W : World) (L : List Sx), L.Perm out → wr.grownBy W (some w.heap.size) → LxOk W w.heap.size L ∧ (L.map sqOf).Perm (l.map sqN) ∧ Below w.heap.size w W) := fun W L hp hg => by
        refine ⟨fun x hx => (hI.out.ok x (hp.subset hx)).kept hg, ?_, hI.out.bel.grown hg hI.out.bel.size fun j hj => by injection hj with e; omega⟩
        have h := hI.out.is
        rw [hkn.out, List.take_of_length_le (by have := hn.out; omega)] at h
        rw [← h]
        exact hp.map _
      clear hI hI0 hinp hrow hsort hkn
      go_wp2_with (first
        | (go_at_call 42; refine hso.mono ?_; clear hso; rintro e w2 ⟨rfl, L, hp, hsr, ho2, hg2⟩))
      go_ret
      exact ⟨L, w.heap.size, rfl, ho2, (hfin.out _ _ hp hg2).1, (hfin.out _ _ hp hg2).2.1, hsr, (hfin.out _ _ hp hg2).2.2⟩
end Go.Proofs.YtaffplmfnincfaaGreatDoor
