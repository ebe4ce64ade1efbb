/- (*evaluation).hear. -/
import Derived.Test.YtiajafljgfpdcaaGreatBSt
import Derived.Test.YtiajafljgfpdcaaGreatWt
import Derived.Test.YtiajafljgfpdcaaGreatSNw
namespace Go.Proofs.YtiajafljgfpdcaaGreat
set_option linter.unusedVariables false
open Go.RowKit
/-- A time from which an instance may be stepped. -/
def Fine (now : Int) (x : S.Inst) : Prop := (x.st = 2 → -9223372036854775808 ≤ now - x.fr ∧ now - x.fr ≤ 9223372036854775807) ∧ (x.quiet ≠ -1 → -9223372036854775808 ≤ now - x.quiet ∧ now - x.quiet ≤ 9223372036854775807)
def FineL (now : Int) (L : List Ae) : Prop := ∀ s ∈ L, s.sp = false → Fine now s.x
theorem fine_new (now : Int) : Fine now (S.newI now) := ⟨(fun h => by cases h), fun h => absurd rfl h⟩
theorem putG_putG {α : Type} {f : α → List Lb} {s t : α} (e : f s = f t) {L : List α} (h : RiseG f L) : putG f s (putG f t L) = putG f s L := by
  refine rise_ext (rise_putG (rise_putG h)) (rise_putG h) fun x => ?_
  rw [mem_putG (rise_putG h), mem_putG h, mem_putG h, e]
  constructor
  · rintro (rfl | ⟨rfl | ⟨h1, h2⟩, h3⟩)
    · exact .inl rfl
    · exact absurd rfl h3
    · exact .inr ⟨h1, h2⟩
  · rintro (rfl | ⟨h1, h2⟩)
    · exact .inl rfl
    · exact .inr ⟨.inr ⟨h1, h2⟩, h2⟩
theorem hearL_rise {h : S.Hd} {own : List Lb} {now : Int} {r : Rt} {L : List Ae} (hL : RiseG Ae.ls L) : RiseG Ae.ls (hearL h own now r L) := by
  unfold hearL
  split
  · split
    · split
      · exact hL
      · exact rise_putG hL
    · split
      · exact rise_putG hL
      · exact hL
  · exact hL
theorem hearL_fine {h : S.Hd} {own : List Lb} {now : Int} {r : Rt} {L : List Ae} (hr : RiseG Ae.ls L) (hL : FineL now L) : FineL now (hearL h own now r L) := by
  have key : ∀ s : Ae, s.sp = true → FineL now (putG Ae.ls s L) := fun s hs t ht hsp => by
    rcases (mem_putG hr).1 ht with rfl | ⟨hm, _⟩
    · rw [hs] at hsp; cases hsp
    · exact hL t hm hsp
  unfold hearL
  split
  · split
    · split
      · exact hL
      · exact key _ rfl
    · split
      · exact key _ rfl
      · exact hL
  · exact hL
theorem hearL_len {h : S.Hd} {own : List Lb} {now : Int} {r : Rt} {L : List Ae} (hr : RiseG Ae.ls L) : (hearL h own now r L).length ≤ max L.length 100 := by
  unfold hearL
  split
  · split
    · rename_i s hg
      obtain ⟨hm, hs⟩ := getG_some hg
      split
      · omega
      · rw [len_putG hr]
        have : (stpA h now r s).ls = s.ls := rfl
        rw [this, getG_of hr hm]
        simp only [Option.isSome_some, if_true]
        omega
    · split
      · rw [len_putG hr]
        split <;> omega
      · omega
  · omega
/-- What stands between two results. -/
structure HeardAt (w : World) (p b : Nat) (h : S.Hd) (iv now : Int) (L : List Ae) (M : List Sd) : Prop where
  ev : EvAt w p b h iv now
  map : MapIs w b M
  sds : Sds w M
  eq : M.map (·.s) = L
theorem HeardAt.grow {w w' : World} {p b : Nat} {h : S.Hd} {iv now : Int} {L : List Ae} {M : List Sd} (g : HeardAt w p b h iv now L M) (hb : Below w.heap.size w w') : HeardAt w' p b h iv now L M :=
  ⟨g.ev.grow hb, g.map.grow hb, g.sds.grow hb, g.eq⟩
theorem HeardAt.rise {w : World} {p b : Nat} {h : S.Hd} {iv now : Int} {L : List Ae} {M : List Sd} (g : HeardAt w p b h iv now L M) : RiseG Ae.ls L := by
  rw [← g.eq]
  exact (rise_map (f := fun s : Sd => s.s.ls) (·.s) (fun x => rfl)).2 g.map.rise
theorem lbs_turned {w w' : World} {v : Value} {l : List Lb} {b : Nat} (h : Lbs w v l) (hg : w.grownBy w' (some b)) (hm : ∃ es clock, w.heap[b]? = some (.map es clock)) : Lbs w' v l := by
  obtain ⟨es, clock, hb⟩ := hm
  obtain ⟨a, c, rfl, hn, h⟩ := h
  refine ⟨a, c, rfl, hn, ?_⟩
  rcases h with h | ⟨g, o, rfl, h⟩
  · exact .inl h
  · refine .inr ⟨g, o, rfl, fun t ht i u hu => ?_⟩
    have h1 := h t ht i u hu
    have hlt := World.block_lt_of_cell? w ⟨g, o + t * encL.k + i, none⟩ h1
    have hne : ¬ some g = some b := fun e => by
      cases e
      simp [World.cell?, hb] at h1
    rw [← h1]
    unfold World.cell?
    rw [hg.block g hlt hne]
theorem ev_turned {w w' : World} {p b c : Nat} {h : S.Hd} {iv now : Int} (he : EvAt w p c h iv now) (hg : w.grownBy w' (some b)) (hm : ∃ es clock, w.heap[b]? = some (.map es clock)) : EvAt w' p c h iv now := by
  obtain ⟨es, clock, hb⟩ := hm
  refine he.keep (hg.block p he.lt fun e => ?_)
  cases e
  unfold EvAt at he
  rw [hb] at he
  cases he
theorem grown_of {w w' : World} (hb : Below w.heap.size w w') (row : Option Nat) : w.grownBy w' row := ⟨hb.os, hb.tape, hb.output, hb.size, fun k hk _ => hb.block k hk⟩
/-- With, by what it tells. -/
theorem with_f (v u : Value) (l m : List Lb) (w : World) (hv : Lbs w v l) (hu : Lbs w u m) (hl : l.length ≤ 10000) (hm : m.length ≤ 10000) (rl : LbsR l) (rm : LbsR m) {out : List Lb} {er : Int} (hf : mkF (withL l m) = (out, er)) :
    Calls Tryz.prog 69 #[v, u] w fun e w' => ∃ a c, e = .returned (.tuple #[.slice a out.length c, .int .i64 er]) ∧ MkQ (withL l m) out er ∧ OwnL w' w.heap.size (.slice a out.length c) out ∧ Below w.heap.size w w' := by
  refine (with_any v u l m w hv hu hl hm rl rm).mono ?_
  rintro e w' ⟨u1, out1, er1, rfl, hQ, hO, hB⟩
  have := mkF_of hQ
  rw [hf] at this
  obtain ⟨rfl, rfl⟩ := Prod.mk.inj this
  obtain ⟨a, c, rfl⟩ := hO.shape
  exact ⟨a, c, rfl, hQ, hO, hB⟩
theorem mkF_some {v u : Value} {l m : List Lb} {w : World} (hv : Lbs w v l) (hu : Lbs w u m) (hl : l.length ≤ 10000) (hm : m.length ≤ 10000) (rl : LbsR l) (rm : LbsR m) : True := trivial
theorem key_f (v : Value) (l : List Lb) (w : World) (hv : Lbs w v l) (hs : IsSet l) : Calls Tryz.prog 36 #[v] w fun e w' => e = .returned (.string (keyB l)) ∧ Below w.heap.size w w' :=
  key_any v l w hv hs.short (by have := hs.2.2; omega)
set_option maxRecDepth 100000 in
set_option maxHeartbeats 2000000 in
theorem hear_no (p b : Nat) (h : S.Hd) (iv now : Int) (own : List Lb) (ov : Value) (r : Rn) (L : List Ae) (M : List Sd) (w : World) (ha : HeardAt w p b h iv now L M) (hr : Lbs w r.sv.v r.r.ls) (ho : Lbs w ov own) (h1 : r.r.ls.length ≤ 10000) (h2 : own.length ≤ 10000) (q1 : LbsR r.r.ls) (q2 : LbsR own)
    {out : List Lb} {er : Int} (hf : mkF (withL r.r.ls own) = (out, er)) (her : ¬ er = 0) :
    Calls Tryz.prog 37 #[.pointer (some ⟨p, 0, none⟩), encR r, ov] w fun e w' => e = .returned (.tuple #[]) ∧ ∃ M', HeardAt w' p b h iv now (hearL h own now r.r L) M' ∧ w.grownBy w' (some b) := by
  have hL : hearL h own now r.r L = L := by
    unfold hearL
    rw [hf, if_neg her]
  rw [hL]
  obtain ⟨⟨ra, rn, rc⟩, rls, rk, rvk, rvn⟩ := r
  simp only at *
  have hb0 : Hid (Below w.heap.size w (w.alloc (rO ⟨⟨ra, rn, rc⟩, rls, rk, rvk, rvn⟩))) := (Below.refl _ w).alloc (Nat.le_refl _) _
  have hW := with_f (.slice ra rn rc) ov rls own _ (Sls.grow hr hb0.out) (Sls.grow ho hb0.out) h1 h2 q1 q2 hf
  unfold encR
  simp only
  go_enter Tryz.func37, Tryz.ntmps37
  go_wp2_with (go_at_call 69; refine hW.mono ?_; rintro e w1 ⟨a1, c1, rfl, hQ, hO, hb1⟩)
  refine bodyPost_ret (results_none rfl _ _ _) rfl ?_
  have hB1 := hb0.out.trans (hb1.mono hb0.out.size)
  exact ⟨rfl, M, ha.grow hB1, grown_of hB1 _⟩
set_option maxRecDepth 100000 in
set_option maxHeartbeats 2000000 in
theorem hear_was (p b : Nat) (h : S.Hd) (iv now : Int) (own : List Lb) (ov : Value) (r : Rn) (L : List Ae) (M : List Sd) (w : World) (ha : HeardAt w p b h iv now L M) (hr : Lbs w r.sv.v r.r.ls) (ho : Lbs w ov own) (h1 : r.r.ls.length ≤ 10000) (h2 : own.length ≤ 10000) (q1 : LbsR r.r.ls) (q2 : LbsR own)
    {out : List Lb} (hf : mkF (withL r.r.ls own) = (out, 0)) {s : Sd} (hg : getG (fun s : Sd => s.s.ls) M out = some s) (hsp : s.s.sp = true) :
    Calls Tryz.prog 37 #[.pointer (some ⟨p, 0, none⟩), encR r, ov] w fun e w' => e = .returned (.tuple #[]) ∧ ∃ M', HeardAt w' p b h iv now (hearL h own now r.r L) M' ∧ w.grownBy w' (some b) := by
  have hL : hearL h own now r.r L = L := by
    have hg2 : getG Ae.ls L out = some s.s := by rw [← ha.eq, map_getG (f := fun s : Sd => s.s.ls) (·.s) (fun x => rfl), hg]; rfl
    unfold hearL
    rw [hf]
    simp only [if_true]
    rw [hg2]
    simp only [hsp, if_true]
  rw [hL]
  obtain ⟨⟨ra, rn, rc⟩, rls, rk, rvk, rvn⟩ := r
  simp only at *
  have hset := fun (hQ : MkQ (withL rls own) out 0) => hQ.set rfl
  have hb0 : Hid (Below w.heap.size w (w.alloc (rO ⟨⟨ra, rn, rc⟩, rls, rk, rvk, rvn⟩))) := (Below.refl _ w).alloc (Nat.le_refl _) _
  have hR0 : Hid (RAt (w.alloc (rO ⟨⟨ra, rn, rc⟩, rls, rk, rvk, rvn⟩)) w.heap.size ⟨⟨ra, rn, rc⟩, rls, rk, rvk, rvn⟩) := rNew w _
  have hW := with_f (.slice ra rn rc) ov rls own _ (Sls.grow hr hb0.out) (Sls.grow ho hb0.out) h1 h2 q1 q2 hf
  unfold encR
  simp only
  go_enter Tryz.func37, Tryz.ntmps37
  go_wp2_with (first
    | (go_at_call 69; refine hW.mono ?_; rintro e w1 ⟨a1, c1, rfl, hQ, hO, hb1⟩)
    | (go_at_call 36; refine (key_f _ out _ hO.sls (hset hQ)).mono ?_; rintro e w2 ⟨rfl, hb2⟩
       have hB1 : Below w.heap.size w w1 := hb0.out.trans (hb1.mono hb0.out.size)
       have hB2 : Below w.heap.size w w2 := hB1.trans (hb2.mono hB1.size)
       have hlk := (ha.map.grow hB2).look_ok (hset hQ)
       rw [hg] at hlk
       simp only [Option.getD_some, Option.isSome_some, encD] at hlk
       obtain ⟨c0, c1', c2, c3, c4, c5, c6⟩ := (ha.ev.grow hB2).cells
       go_frame))
  go_end0
  have hB3 := hB2.alloc hB2.size (.cells #[.slice s.sv.a s.sv.n s.sv.c, .int .i64 s.s.x.st, .int .i64 s.s.x.since, .int .i64 s.s.x.fr, .int .i64 s.s.x.quiet, .int .i64 s.s.x.seen, .int .i64 s.s.x.vk, .int .i64 s.s.x.vn, .int .i64 s.s.ah, .bool true] 120)
  exact ⟨rfl, M, ha.grow hB3, grown_of hB3 _⟩
set_option maxRecDepth 100000 in
set_option maxHeartbeats 2000000 in
theorem hear_step (p b : Nat) (h : S.Hd) (iv now : Int) (own : List Lb) (ov : Value) (r : Rn) (L : List Ae) (M : List Sd) (w : World) (ha : HeardAt w p b h iv now L M) (hr : Lbs w r.sv.v r.r.ls) (ho : Lbs w ov own) (h1 : r.r.ls.length ≤ 10000) (h2 : own.length ≤ 10000) (q1 : LbsR r.r.ls) (q2 : LbsR own)
    {out : List Lb} (hf : mkF (withL r.r.ls own) = (out, 0)) {s : Sd} (hg : getG (fun s : Sd => s.s.ls) M out = some s) (hsp : s.s.sp = false) (hlen : M.length < 1000000) (hfine : Fine now s.s.x) :
    Calls Tryz.prog 37 #[.pointer (some ⟨p, 0, none⟩), encR r, ov] w fun e w' => e = .returned (.tuple #[]) ∧ ∃ M', HeardAt w' p b h iv now (hearL h own now r.r L) M' ∧ w.grownBy w' (some b) := by
  have hL : hearL h own now r.r L = (putG (fun s : Sd => s.s.ls) ⟨s.sv, stpA h now r.r s.s⟩ M).map (·.s) := by
    have hg2 : getG Ae.ls L out = some s.s := by rw [← ha.eq, map_getG (f := fun s : Sd => s.s.ls) (·.s) (fun x => rfl), hg]; rfl
    unfold hearL
    rw [hf]
    simp only [if_true]
    rw [hg2]
    simp only [hsp, map_putG (f := fun s : Sd => s.s.ls) (g := Ae.ls) (·.s) (fun x => rfl), ha.eq]
    rfl
  rw [hL]
  obtain ⟨⟨ra, rn, rc⟩, rls, rk, rvk, rvn⟩ := r
  simp only at *
  have hset := fun (hQ : MkQ (withL rls own) out 0) => hQ.set rfl
  have hb0 : Hid (Below w.heap.size w (w.alloc (rO ⟨⟨ra, rn, rc⟩, rls, rk, rvk, rvn⟩))) := (Below.refl _ w).alloc (Nat.le_refl _) _
  have hR0 : Hid (RAt (w.alloc (rO ⟨⟨ra, rn, rc⟩, rls, rk, rvk, rvn⟩)) w.heap.size ⟨⟨ra, rn, rc⟩, rls, rk, rvk, rvn⟩) := rNew w _
  have hW := with_f (.slice ra rn rc) ov rls own _ (Sls.grow hr hb0.out) (Sls.grow ho hb0.out) h1 h2 q1 q2 hf
  have hstep := fun W (hW : Below w.heap.size w W) (hset : IsSet out) => step_any p b h iv now out ⟨⟨ra, rn, rc⟩, rls, rk, rvk, rvn⟩ M s W (ha.ev.grow hW) (ha.map.grow hW) hset hg hlen hfine.1 hfine.2
  have hsds : ∀ W W', Below w.heap.size w W → W.grownBy W' (some b) → Sds W' (putG (fun s : Sd => s.s.ls) ⟨s.sv, stpA h now ⟨rls, rk, rvk, rvn⟩ s.s⟩ M) := fun W W' hW hg' t ht => by
    have hm := (ha.map.grow hW).isMap
    rcases (mem_putG ha.map.rise).1 ht with rfl | ⟨hm2, _⟩
    · exact lbs_turned ((ha.sds s (getG_some hg).1).grow hW) hg' hm
    · exact lbs_turned ((ha.sds t hm2).grow hW) hg' hm
  unfold encR at *
  simp only at *
  go_enter Tryz.func37, Tryz.ntmps37
  go_wp2_with (first
    | (go_at_call 69; refine hW.mono ?_; rintro e w1 ⟨a1, c1, rfl, hQ, hO, hb1⟩)
    | (go_at_call 36; refine (key_f _ out _ hO.sls (hset hQ)).mono ?_; rintro e w2 ⟨rfl, hb2⟩
       have hB1 : Below w.heap.size w w1 := hb0.out.trans (hb1.mono hb0.out.size)
       have hB2 : Below w.heap.size w w2 := hB1.trans (hb2.mono hB1.size)
       have hlk := (ha.map.grow hB2).look_ok (hset hQ)
       rw [hg] at hlk
       simp only [Option.getD_some, Option.isSome_some, encD] at hlk
       obtain ⟨c0, c1', c2, c3, c4, c5, c6⟩ := (ha.ev.grow hB2).cells
       obtain ⟨r0, r1, r2, r3⟩ := ((hR0.out.grow hb1).grow hb2).cells
       have hb3 : Below w2.heap.size w2 (w2.alloc (.cells #[.slice s.sv.a s.sv.n s.sv.c, .int .i64 s.s.x.st, .int .i64 s.s.x.since, .int .i64 s.s.x.fr, .int .i64 s.s.x.quiet, .int .i64 s.s.x.seen, .int .i64 s.s.x.vk, .int .i64 s.s.x.vn, .int .i64 s.s.ah, .bool false] 120)) := (Below.refl _ w2).alloc (Nat.le_refl _) _
       obtain ⟨r0', r1', r2', r3'⟩ := (((hR0.out.grow hb1).grow hb2).grow hb3).cells
       go_frame)
    | (go_at_call 35; refine (hstep _ (hB2.alloc hB2.size _) (hset hQ)).mono ?_; rintro e w4 ⟨rfl, hM4, hG4⟩))
  go_end0
  have hB3 := hB2.alloc hB2.size (.cells #[.slice s.sv.a s.sv.n s.sv.c, .int .i64 s.s.x.st, .int .i64 s.s.x.since, .int .i64 s.s.x.fr, .int .i64 s.s.x.quiet, .int .i64 s.s.x.seen, .int .i64 s.s.x.vk, .int .i64 s.s.x.vn, .int .i64 s.s.ah, .bool false] 120)
  refine ⟨rfl, _, ⟨?_, hM4, hsds _ _ hB3 hG4, rfl⟩, ?_⟩
  · exact ev_turned (ha.ev.grow hB3) hG4 (ha.map.grow hB3).isMap
  · have hg := hG4
    exact ⟨hg.os.trans hB3.os, hg.tape.trans hB3.tape, hg.output.trans hB3.output, Nat.le_trans hB3.size hg.size, fun k hk hne => (hg.block k (Nat.lt_of_lt_of_le hk hB3.size) hne).trans (hB3.block k hk)⟩
set_option maxRecDepth 100000 in
set_option maxHeartbeats 2000000 in
theorem hear_full (p b : Nat) (h : S.Hd) (iv now : Int) (own : List Lb) (ov : Value) (r : Rn) (L : List Ae) (M : List Sd) (w : World) (ha : HeardAt w p b h iv now L M) (hr : Lbs w r.sv.v r.r.ls) (ho : Lbs w ov own) (h1 : r.r.ls.length ≤ 10000) (h2 : own.length ≤ 10000) (q1 : LbsR r.r.ls) (q2 : LbsR own)
    {out : List Lb} (hf : mkF (withL r.r.ls own) = (out, 0)) (hg : getG (fun s : Sd => s.s.ls) M out = none) (hlen : ¬ M.length < 100) (hlt : M.length < 1000000) :
    Calls Tryz.prog 37 #[.pointer (some ⟨p, 0, none⟩), encR r, ov] w fun e w' => e = .returned (.tuple #[]) ∧ ∃ M', HeardAt w' p b h iv now (hearL h own now r.r L) M' ∧ w.grownBy w' (some b) := by
  have hLM : L.length = M.length := by rw [← ha.eq]; simp
  have hL : hearL h own now r.r L = L := by
    have hg2 : getG Ae.ls L out = none := by rw [← ha.eq, map_getG (f := fun s : Sd => s.s.ls) (·.s) (fun x => rfl), hg]; rfl
    unfold hearL
    rw [hf]
    simp only [if_true]
    rw [hg2]
    simp only [hLM, hlen, if_false]
  rw [hL]
  obtain ⟨⟨ra, rn, rc⟩, rls, rk, rvk, rvn⟩ := r
  simp only at *
  have hset := fun (hQ : MkQ (withL rls own) out 0) => hQ.set rfl
  have hb0 : Hid (Below w.heap.size w (w.alloc (rO ⟨⟨ra, rn, rc⟩, rls, rk, rvk, rvn⟩))) := (Below.refl _ w).alloc (Nat.le_refl _) _
  have hR0 : Hid (RAt (w.alloc (rO ⟨⟨ra, rn, rc⟩, rls, rk, rvk, rvn⟩)) w.heap.size ⟨⟨ra, rn, rc⟩, rls, rk, rvk, rvn⟩) := rNew w _
  have hW := with_f (.slice ra rn rc) ov rls own _ (Sls.grow hr hb0.out) (Sls.grow ho hb0.out) h1 h2 q1 q2 hf
  have hl100 : ¬ (M.length : Int) < 100 := by omega
  have hlens := fun W (hW : Below w.heap.size w W) => (ha.map.grow hW).len
  unfold encR
  simp only
  go_enter Tryz.func37, Tryz.ntmps37
  go_wp2_with (first
    | (go_at_call 69; refine hW.mono ?_; rintro e w1 ⟨a1, c1, rfl, hQ, hO, hb1⟩)
    | (go_at_call 36; refine (key_f _ out _ hO.sls (hset hQ)).mono ?_; rintro e w2 ⟨rfl, hb2⟩
       have hB1 : Below w.heap.size w w1 := hb0.out.trans (hb1.mono hb0.out.size)
       have hB2 : Below w.heap.size w w2 := hB1.trans (hb2.mono hB1.size)
       have hlk := (ha.map.grow hB2).look_ok (hset hQ)
       rw [hg] at hlk
       simp only [Option.getD_none, Option.isSome_none, encD, sd0, sv0, zI] at hlk
       obtain ⟨c0, c1', c2, c3, c4, c5, c6⟩ := (ha.ev.grow hB2).cells
       have hb3 : Below w2.heap.size w2 (w2.alloc (.cells #[.slice none 0 0, .int .i64 0, .int .i64 0, .int .i64 0, .int .i64 0, .int .i64 0, .int .i64 0, .int .i64 0, .int .i64 0, .bool false] 120)) := (Below.refl _ w2).alloc (Nat.le_refl _) _
       obtain ⟨d0, d1, d2, d3, d4, d5, d6⟩ := ((ha.ev.grow hB2).grow hb3).cells
       have hlen2 := hlens _ (hB2.trans (hb3.mono hB2.size))
       go_frame))
  go_end0
  have hB3 := hB2.alloc hB2.size (.cells #[.slice none 0 0, .int .i64 0, .int .i64 0, .int .i64 0, .int .i64 0, .int .i64 0, .int .i64 0, .int .i64 0, .int .i64 0, .bool false] 120)
  exact ⟨rfl, M, ha.grow hB3, grown_of hB3 _⟩
set_option maxRecDepth 100000 in
set_option maxHeartbeats 2000000 in
theorem hear_new (p b : Nat) (h : S.Hd) (iv now : Int) (own : List Lb) (ov : Value) (r : Rn) (L : List Ae) (M : List Sd) (w : World) (ha : HeardAt w p b h iv now L M) (hr : Lbs w r.sv.v r.r.ls) (ho : Lbs w ov own) (h1 : r.r.ls.length ≤ 10000) (h2 : own.length ≤ 10000) (q1 : LbsR r.r.ls) (q2 : LbsR own)
    {out : List Lb} (hf : mkF (withL r.r.ls own) = (out, 0)) (hg : getG (fun s : Sd => s.s.ls) M out = none) (hlen : M.length < 100) :
    Calls Tryz.prog 37 #[.pointer (some ⟨p, 0, none⟩), encR r, ov] w fun e w' => e = .returned (.tuple #[]) ∧ ∃ M', HeardAt w' p b h iv now (hearL h own now r.r L) M' ∧ w.grownBy w' (some b) := by
  have hLM : L.length = M.length := by rw [← ha.eq]; simp
  have hL : hearL h own now r.r L = putG Ae.ls (stpA h now r.r (newA now out)) L := by
    have hg2 : getG Ae.ls L out = none := by rw [← ha.eq, map_getG (f := fun s : Sd => s.s.ls) (·.s) (fun x => rfl), hg]; rfl
    unfold hearL
    rw [hf]
    simp only [if_true]
    rw [hg2]
    simp only [hLM, hlen, if_true]
  rw [hL]
  obtain ⟨⟨ra, rn, rc⟩, rls, rk, rvk, rvn⟩ := r
  simp only at *
  have hset := fun (hQ : MkQ (withL rls own) out 0) => hQ.set rfl
  have hb0 : Hid (Below w.heap.size w (w.alloc (rO ⟨⟨ra, rn, rc⟩, rls, rk, rvk, rvn⟩))) := (Below.refl _ w).alloc (Nat.le_refl _) _
  have hR0 : Hid (RAt (w.alloc (rO ⟨⟨ra, rn, rc⟩, rls, rk, rvk, rvn⟩)) w.heap.size ⟨⟨ra, rn, rc⟩, rls, rk, rvk, rvn⟩) := rNew w _
  have hW := with_f (.slice ra rn rc) ov rls own _ (Sls.grow hr hb0.out) (Sls.grow ho hb0.out) h1 h2 q1 q2 hf
  have hl100 : (M.length : Int) < 100 := by omega
  have hlens := fun W (hW : Below w.heap.size w W) => (ha.map.grow hW).len
  have hnew := fun W => S.new13 now W
  unfold S.encI S.newI at hnew
  have hstep := fun W sv M' (hE : EvAt W p b h iv now) (hM : MapIs W b M') (hset : IsSet out) (hg' : getG (fun s : Sd => s.s.ls) M' out = some ⟨sv, newA now out⟩) (hl : M'.length < 1000000) => step_any p b h iv now out ⟨⟨ra, rn, rc⟩, rls, rk, rvk, rvn⟩ M' ⟨sv, newA now out⟩ W hE hM hset hg' hl (fine_new now).1 (fine_new now).2
  unfold encR at *
  simp only at *
  go_enter Tryz.func37, Tryz.ntmps37
  go_wp2_with (first
    | (go_at_call 69; refine hW.mono ?_; rintro e w1 ⟨a1, c1, rfl, hQ, hO, hb1⟩)
    | (go_at_call 36; refine (key_f _ out _ hO.sls (hset hQ)).mono ?_; rintro e w2 ⟨rfl, hb2⟩
       have hB1 : Below w.heap.size w w1 := hb0.out.trans (hb1.mono hb0.out.size)
       have hB2 : Below w.heap.size w w2 := hB1.trans (hb2.mono hB1.size)
       have hlk := (ha.map.grow hB2).look_ok (hset hQ)
       rw [hg] at hlk
       simp only [Option.getD_none, Option.isSome_none, encD, sd0, sv0, zI] at hlk
       obtain ⟨c0, c1', c2, c3, c4, c5, c6⟩ := (ha.ev.grow hB2).cells
       have hb3 : Below w2.heap.size w2 (w2.alloc (.cells #[.slice none 0 0, .int .i64 0, .int .i64 0, .int .i64 0, .int .i64 0, .int .i64 0, .int .i64 0, .int .i64 0, .int .i64 0, .bool false] 120)) := (Below.refl _ w2).alloc (Nat.le_refl _) _
       obtain ⟨d0, d1, d2, d3, d4, d5, d6⟩ := ((ha.ev.grow hB2).grow hb3).cells
       have hlen2 := hlens _ (hB2.trans (hb3.mono hB2.size))
       have hB3 := hB2.trans (hb3.mono hB2.size)
       go_frame)
    | (go_at_call 70; refine (hnew _).mono ?_; rintro e w3 ⟨rfl, hb4⟩; go_frame))
  have hB4 : Below w.heap.size w w3 := hB3.trans (hb4.mono hB3.size)
  have hB5 : Below w.heap.size w (w3.alloc (.cells #[.slice a1 out.length c1, .int .i64 1, .int .i64 now, .int .i64 (-1), .int .i64 (-1), .int .i64 now, .int .i64 2, .int .i64 0] 67)) := hB4.alloc hB4.size _
  have hX5 : (w3.alloc (.cells #[.slice a1 out.length c1, .int .i64 1, .int .i64 now, .int .i64 (-1), .int .i64 (-1), .int .i64 now, .int .i64 2, .int .i64 0] 67)).heap[w3.heap.size]? = some (.cells #[.slice a1 out.length c1, .int .i64 1, .int .i64 now, .int .i64 (-1), .int .i64 (-1), .int .i64 now, .int .i64 2, .int .i64 0] 67 (0, 0)) := heap_new _ _
  have hO5 : Hid (Lbs (w3.alloc (.cells #[.slice a1 out.length c1, .int .i64 1, .int .i64 now, .int .i64 (-1), .int .i64 (-1), .int .i64 now, .int .i64 2, .int .i64 0] 67)) (.slice a1 out.length c1) out) :=
    ((((hO.sls.grow hb2).grow hb3).grow hb4).alloc _)
  have hR5 : Hid (RAt (w3.alloc (.cells #[.slice a1 out.length c1, .int .i64 1, .int .i64 now, .int .i64 (-1), .int .i64 (-1), .int .i64 now, .int .i64 2, .int .i64 0] 67)) w.heap.size ⟨⟨ra, rn, rc⟩, rls, rk, rvk, rvn⟩) :=
    ((((hR0.out.grow hb1).grow hb2).grow hb3).grow hb4).grow ((Below.refl _ _).alloc (Nat.le_refl _) _)
  have hx3 : w3.heap.size < (w3.alloc (.cells #[.slice a1 out.length c1, .int .i64 1, .int .i64 now, .int .i64 (-1), .int .i64 (-1), .int .i64 now, .int .i64 2, .int .i64 0] 67)).heap.size := by simp
  clear d0 d1 d2 d3 d4 d5 d6 c0 c1' c2 c3 c4 c5 c6 hlk hlen2 hlens hnew hW
  generalize (w3.alloc (.cells #[.slice a1 out.length c1, .int .i64 1, .int .i64 now, .int .i64 (-1), .int .i64 (-1), .int .i64 now, .int .i64 2, .int .i64 0] 67)) = W5 at *
  have hE5 : Hid (EvAt W5 p b h iv now) := ha.ev.grow hB5
  have hM5 : Hid (MapIs W5 b M) := ha.map.grow hB5
  have e0 : ∀ q : Bel W5, q.W.cell? ⟨p, 0, none⟩ = some (.map (some b)) := fun q => (hE5.out.grow q.h).cells.1
  have hxq : ∀ q : Bel W5, q.W.heap[w3.heap.size]? = some (.cells #[.slice a1 out.length c1, .int .i64 1, .int .i64 now, .int .i64 (-1), .int .i64 (-1), .int .i64 now, .int .i64 2, .int .i64 0] 67 (0, 0)) := fun q => (q.h.block _ hx3).trans hX5
  have s0 : ∀ q : Bel W5, q.W.cell? ⟨w3.heap.size, 0, none⟩ = some (.slice a1 out.length c1) := fun q => by simp [World.cell?, hxq q]
  have s1 : ∀ q : Bel W5, q.W.cell? ⟨w3.heap.size, 1, none⟩ = some (.int .i64 1) := fun q => by simp [World.cell?, hxq q]
  have s2 : ∀ q : Bel W5, q.W.cell? ⟨w3.heap.size, 2, none⟩ = some (.int .i64 now) := fun q => by simp [World.cell?, hxq q]
  have s3 : ∀ q : Bel W5, q.W.cell? ⟨w3.heap.size, 3, none⟩ = some (.int .i64 (-1)) := fun q => by simp [World.cell?, hxq q]
  have s4 : ∀ q : Bel W5, q.W.cell? ⟨w3.heap.size, 4, none⟩ = some (.int .i64 (-1)) := fun q => by simp [World.cell?, hxq q]
  have s5 : ∀ q : Bel W5, q.W.cell? ⟨w3.heap.size, 5, none⟩ = some (.int .i64 now) := fun q => by simp [World.cell?, hxq q]
  have s6 : ∀ q : Bel W5, q.W.cell? ⟨w3.heap.size, 6, none⟩ = some (.int .i64 2) := fun q => by simp [World.cell?, hxq q]
  have s7 : ∀ q : Bel W5, q.W.cell? ⟨w3.heap.size, 7, none⟩ = some (.int .i64 0) := fun q => by simp [World.cell?, hxq q]
  clear hxq
  refine Yquiettail.region_tail (C := fun W => ∃ p : Bel W5, W = p.W) 7 (by kernel_rfl) (by kernel_rfl) ⟨⟨W5.drew, (Below.refl _ _).drew⟩, rfl⟩ ?_
  dsimp only [List.take, List.drop]
  repeat (go_big_quiet_step (fail))
  refine wpQuiet_nil ?_
  rintro w8 ⟨⟨wy, h8⟩, rfl⟩
  replace h8 : Below W5.heap.size W5 w8 := h8
  clear e0 s0 s1 s2 s3 s4 s5 s6 s7
  have hso : IsSet out := hset hQ
  obtain ⟨w9, hrun, hM9, ht9⟩ := (hM5.out.grow h8).update (by omega) ⟨⟨a1, out.length, c1⟩, newA now out⟩ hso
  have hB8 : Below w.heap.size w w8 := hB5.trans (h8.mono hB5.size)
  have hG9 : w.grownBy w9 (some b) := grown_of_turned hB8 ht9
  have hmap8 := (hM5.out.grow h8).isMap
  have hE9 : Hid (EvAt w9 p b h iv now) := ev_turned (hE5.out.grow h8) ht9.grown hmap8
  have hO9 : Hid (Lbs w9 (.slice a1 out.length c1) out) := lbs_turned (hO5.out.grow h8) ht9.grown hmap8
  have hR9 : RAt w9 w.heap.size ⟨⟨ra, rn, rc⟩, rls, rk, rvk, rvn⟩ := by
    have g8 := hR5.out.grow h8
    refine Eq.trans (ht9.grown.block _ g8.lt fun e => ?_) g8
    obtain ⟨es, ck, hb⟩ := hmap8
    cases e
    unfold RAt at g8
    rw [hb] at g8
    cases g8
  have hS9 : Hid (Sds w9 M) := fun t ht => lbs_turned ((ha.sds t ht).grow hB8) ht9.grown hmap8
  have hlen9 : (putG (fun s : Sd => s.s.ls) ⟨⟨a1, out.length, c1⟩, newA now out⟩ M).length < 1000000 := by
    rw [len_putG ha.map.rise]
    split <;> omega
  have hget9 : getG (fun s : Sd => s.s.ls) (putG (fun s : Sd => s.s.ls) ⟨⟨a1, out.length, c1⟩, newA now out⟩ M) out = some ⟨⟨a1, out.length, c1⟩, newA now out⟩ := by
    rw [getG_put ha.map.rise]; exact if_pos rfl
  have hmap9 := hM9.isMap
  have hstp := hstep w9 ⟨a1, out.length, c1⟩ _ hE9.out hM9 hso hget9 hlen9
  have hput : putG (fun s : Sd => s.s.ls) ⟨⟨a1, out.length, c1⟩, stpA h now ⟨rls, rk, rvk, rvn⟩ (newA now out)⟩ (putG (fun s : Sd => s.s.ls) ⟨⟨a1, out.length, c1⟩, newA now out⟩ M) = putG (fun s : Sd => s.s.ls) ⟨⟨a1, out.length, c1⟩, stpA h now ⟨rls, rk, rvk, rvn⟩ (newA now out)⟩ M :=
    putG_putG (s := ⟨⟨a1, out.length, c1⟩, stpA h now ⟨rls, rk, rvk, rvn⟩ (newA now out)⟩) (t := ⟨⟨a1, out.length, c1⟩, newA now out⟩) rfl ha.map.rise
  rw [hput] at hstp
  have hfin : ∀ w10, w9.grownBy w10 (some b) → MapIs w10 b (putG (fun s : Sd => s.s.ls) ⟨⟨a1, out.length, c1⟩, stpA h now ⟨rls, rk, rvk, rvn⟩ (newA now out)⟩ M) →
      ∃ M', HeardAt w10 p b h iv now (putG Ae.ls (stpA h now ⟨rls, rk, rvk, rvn⟩ (newA now out)) L) M' ∧ w.grownBy w10 (some b) := fun w10 hG10 hM10 => by
    refine ⟨_, ⟨ev_turned hE9.out hG10 hmap9, hM10, fun t ht => ?_, ?_⟩, ?_⟩
    · rcases (mem_putG ha.map.rise).1 ht with rfl | ⟨hm2, _⟩
      · exact lbs_turned hO9.out hG10 hmap9
      · exact lbs_turned (hS9.out t hm2) hG10 hmap9
    · rw [map_putG (f := fun s : Sd => s.s.ls) (g := Ae.ls) (·.s) (fun x => rfl), ha.eq]
    · exact ⟨hG10.os.trans hG9.os, hG10.tape.trans hG9.tape, hG10.output.trans hG9.output, Nat.le_trans hG9.size hG10.size, fun k hk hne => (hG10.block k (Nat.lt_of_lt_of_le hk hG9.size) hne).trans (hG9.block k hk hne)⟩
  have hrun2 : (Instr.mapUpdate 79 (.map (some b)) (.string (keyB out)) (.agg #[.slice a1 out.length c1, .int .i64 1, .int .i64 now, .int .i64 (-1), .int .i64 (-1), .int .i64 now, .int .i64 2, .int .i64 0, .int .i64 1, .bool false])).run Tryz.prog w8 = .ok () w9 := hrun
  obtain ⟨r0, r1, r2, r3⟩ := hR9.cells
  replace hfin : Hid _ := hfin
  clear hrun hM9 ht9 hstep hget9 hlen9 hput
  go_wp2_with (go_at_call 35; refine hstp.mono ?_; rintro e w10 ⟨rfl, hM10, hG10⟩)
  go_end0
  exact ⟨rfl, hfin.out _ hG10 hM10⟩
/-- Hear. -/
theorem hear_any (p b : Nat) (h : S.Hd) (iv now : Int) (own : List Lb) (ov : Value) (r : Rn) (L : List Ae) (M : List Sd) (w : World) (ha : HeardAt w p b h iv now L M) (hr : Lbs w r.sv.v r.r.ls) (ho : Lbs w ov own) (h1 : r.r.ls.length ≤ 10000) (h2 : own.length ≤ 10000) (q1 : LbsR r.r.ls) (q2 : LbsR own)
    (hlen : M.length < 1000000) (hfine : FineL now L) :
    Calls Tryz.prog 37 #[.pointer (some ⟨p, 0, none⟩), encR r, ov] w fun e w' => e = .returned (.tuple #[]) ∧ ∃ M', HeardAt w' p b h iv now (hearL h own now r.r L) M' ∧ w.grownBy w' (some b) := by
  rcases hf : mkF (withL r.r.ls own) with ⟨out, er⟩
  by_cases her : er = 0
  · subst her
    cases hg : getG (fun s : Sd => s.s.ls) M out with
    | some s =>
      cases hsp : s.s.sp with
      | true => exact hear_was p b h iv now own ov r L M w ha hr ho h1 h2 q1 q2 hf hg hsp
      | false => exact hear_step p b h iv now own ov r L M w ha hr ho h1 h2 q1 q2 hf hg hsp hlen (hfine _ (by rw [← ha.eq]; exact List.mem_map_of_mem (getG_some hg).1) hsp)
    | none =>
      by_cases hl : M.length < 100
      · exact hear_new p b h iv now own ov r L M w ha hr ho h1 h2 q1 q2 hf hg hl
      · exact hear_full p b h iv now own ov r L M w ha hr ho h1 h2 q1 q2 hf hg hl hlen
  · exact hear_no p b h iv now own ov r L M w ha hr ho h1 h2 q1 q2 hf her
end Go.Proofs.YtiajafljgfpdcaaGreat
