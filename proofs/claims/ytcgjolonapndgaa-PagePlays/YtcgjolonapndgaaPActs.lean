/- Lists of acts that came in, with the bounds of their lengths. -/
import Derived.Test.YtcgjolonapndgaaPOpen
import Derived.BigQuiet
namespace Go.Proofs.Ytcgjolonapndgaa
set_option linter.unusedVariables false
open Go.RowKit Go.Maps Go.ChangeMaps Go.MapKept Go.ChangeShapes Go.WideShapes Go.ChangeAt Go.Deep
structure Deed where
  kind : Int
  n : Int
  xk : Int
  xi : Nat
  p : List Int
  keep : List Int
  torn : List (Int × Int)
/-- No act. -/
def act0 : Deed := ⟨0, 0, 0, 0, [], [], []⟩
/-- One act in memory, from place o of block b on. -/
def ActAt (w : World) (b o : Nat) (a : Deed) : Prop :=
  ∃ vp vk vt, w.cell? ⟨b, o, none⟩ = some (.int .i64 a.kind) ∧ w.cell? ⟨b, o + 1, none⟩ = some (.int .i64 a.n) ∧ w.cell? ⟨b, o + 2, none⟩ = some (.int .u8 a.xk) ∧ w.cell? ⟨b, o + 3, none⟩ = some (.int .u32 a.xi) ∧
    w.cell? ⟨b, o + 4, none⟩ = some vp ∧ w.cell? ⟨b, o + 5, none⟩ = some vk ∧ w.cell? ⟨b, o + 6, none⟩ = some vt ∧ Bts w vp a.p ∧ Ints w vk a.keep ∧ Torns w vt a.torn
/-- What an act's numbers are. -/
def ActIn (a : Deed) : Prop := In64 a.kind ∧ In64 a.n ∧ ((0 ≤ a.xk ∧ a.xk < 256) ∧ a.xi < 2 ^ 32) ∧ IsBytes a.p ∧ (∀ x ∈ a.keep, In64 x) ∧ ∀ t ∈ a.torn, In64 t.1 ∧ In64 t.2
def Acts (w : World) (v : Value) (l : List Deed) : Prop :=
  ∃ a c, v = .slice a l.length c ∧ (∀ x ∈ l, ActIn x) ∧ (l = [] ∨ ∃ b o, a = some ⟨b, o, none⟩ ∧ ∀ t, t < l.length → ActAt w b (o + t * 7) (l.getD t act0))
/-- No slice of an act is longer than what may come in. -/
def DeedIn (a : Deed) : Prop := a.p.length ≤ reachBytes ∧ a.keep.length ≤ reachBytes ∧ a.torn.length ≤ reachBytes
section
variable {H : Type} {enc : TypeId × Value → H} {W : World} {n : Nat}
/-- A page's cells, read, with the bound of the load. -/
theorem page_cells2 {cs : List Value} {x : DataW H × List MemPlace} (hl : cs.length = 3) (h : DataW.trod enc Try.prog W 0 (fun _ => true) true n 25 cs = some x) (hF : Fits x.1 25) :
    ∃ (k : Int) (i : Nat) (a : Option Addr) (len cap : Nat) (zs : List Int), cs = [.int .u8 k, .int .u32 i, .slice a len cap] ∧ (0 ≤ k ∧ k < 256) ∧ i < 2 ^ 32 ∧ IsRow .u8 W a len cap zs ∧ (zs.take len).length ≤ reachBytes := by
  match cs, hl with
  | [v0, v1, v2], _ =>
    obtain ⟨xs, k, _, hxx, _, hxl, hf⟩ := DataW.trod_struct Try.underlying25 h
    have g0 : DataW.trod enc Try.prog W 0 (fun _ => true) true k 5 (([v0, v1, v2].drop 0).take (Try.prog.cellsOf 5)) = xs[0]? := hf 0 _ rfl
    have g1 : DataW.trod enc Try.prog W 0 (fun _ => true) true k 22 (([v0, v1, v2].drop 1).take (Try.prog.cellsOf 22)) = xs[1]? := hf 1 _ rfl
    have g2 : DataW.trod enc Try.prog W 0 (fun _ => true) true k 23 (([v0, v1, v2].drop 2).take (Try.prog.cellsOf 23)) = xs[2]? := hf 2 _ rfl
    have k5 : Try.prog.cellsOf 5 = 1 := by kernel_rfl
    have k22 : Try.prog.cellsOf 22 = 1 := by kernel_rfl
    have k23 : Try.prog.cellsOf 23 = 1 := by kernel_rfl
    simp only [k5, k22, k23, List.drop_zero, List.drop_succ_cons, List.take_succ_cons, List.take_zero] at g0 g1 g2
    match xs, hxl with
    | [y0, y1, y2], _ =>
      simp at g0 g1 g2
      have F2 : Fits y2.1 23 := by
        intro q hq
        refine hF q ?_
        rw [hxx]
        have hh := DataW.weights_mem_each (P := Try.prog) (ts := [5, 22, 23]) (ds := [y0.1, y1.1, y2.1]) (j := 2) (t := 23) rfl rfl q hq
        simp only [DataW.weights, Try.underlying25]
        exact hh
      obtain ⟨a0, h01, _, h03⟩ := DataW.trod_int Try.underlying5 g0
      obtain ⟨a1, h11, _, h13⟩ := DataW.trod_int Try.underlying22 g1
      obtain ⟨p2, l2, q2, z2, rfl, r2, m2⟩ := bytes_of_trod2 g2 F2
      simp at h01 h11
      subst h01 h11
      have b0 := bounds_u8 h03
      have b1 : 0 ≤ a1 ∧ a1 < 4294967296 := by
        simp only [Lit.wf, Bool.and_eq_true, IntKind.min, IntKind.max, IntKind.signed, IntKind.bits] at h13
        simp at h13
        omega
      obtain ⟨i, rfl⟩ : ∃ i : Nat, a1 = i := ⟨a1.toNat, by omega⟩
      exact ⟨a0, i, p2, l2, q2, z2, rfl, by omega, by omega, r2, m2⟩
theorem cells7 {b o : Nat} {cs : List Value} (h : W.cells? 0 ⟨b, o, none⟩ 7 = some cs) : ∃ v0 v1 v2 v3 v4 v5 v6, cs = [v0, v1, v2, v3, v4, v5, v6] ∧ W.cell? ⟨b, o, none⟩ = some v0 ∧ W.cell? ⟨b, o + 1, none⟩ = some v1 ∧ W.cell? ⟨b, o + 2, none⟩ = some v2 ∧ W.cell? ⟨b, o + 3, none⟩ = some v3 ∧ W.cell? ⟨b, o + 4, none⟩ = some v4 ∧ W.cell? ⟨b, o + 5, none⟩ = some v5 ∧ W.cell? ⟨b, o + 6, none⟩ = some v6 := by
  obtain ⟨_, hlen, hcell⟩ := World.cells?_some h
  match cs, hlen with
  | [v0, v1, v2, v3, v4, v5, v6], _ =>
    have e0 := hcell 0 (by omega)
    have e1 := hcell 1 (by omega)
    have e2 := hcell 2 (by omega)
    have e3 := hcell 3 (by omega)
    have e4 := hcell 4 (by omega)
    have e5 := hcell 5 (by omega)
    have e6 := hcell 6 (by omega)
    rw [add_at] at e0 e1 e2 e3 e4 e5 e6
    exact ⟨v0, v1, v2, v3, v4, v5, v6, rfl, by simpa using e0, by simpa using e1, by simpa using e2, by simpa using e3, by simpa using e4, by simpa using e5, by simpa using e6⟩
set_option maxRecDepth 100000 in
theorem act_of_trod2 {b o : Nat} {cs : List Value} {x : DataW H × List MemPlace} (hc : W.cells? 0 ⟨b, o, none⟩ 7 = some cs) (h : DataW.trod enc Try.prog W 0 (fun _ => true) true n 53 cs = some x) (hF : Fits x.1 53) : ∃ a, ActAt W b o a ∧ ActIn a ∧ DeedIn a := by
  obtain ⟨v0, v1, v2, v3, v4, v5, v6, rfl, c0, c1, c2, c3, c4, c5, c6⟩ := cells7 hc
  obtain ⟨xs, k, _, hxx, _, hxl, hf⟩ := DataW.trod_struct Try.underlying53 h
  have g0 : DataW.trod enc Try.prog W 0 (fun _ => true) true k 3 (([v0, v1, v2, v3, v4, v5, v6].drop 0).take (Try.prog.cellsOf 3)) = xs[0]? := hf 0 _ rfl
  have g1 : DataW.trod enc Try.prog W 0 (fun _ => true) true k 3 (([v0, v1, v2, v3, v4, v5, v6].drop 1).take (Try.prog.cellsOf 3)) = xs[1]? := hf 1 _ rfl
  have g2 : DataW.trod enc Try.prog W 0 (fun _ => true) true k 25 (([v0, v1, v2, v3, v4, v5, v6].drop 2).take (Try.prog.cellsOf 25)) = xs[2]? := hf 2 _ rfl
  have g3 : DataW.trod enc Try.prog W 0 (fun _ => true) true k 50 (([v0, v1, v2, v3, v4, v5, v6].drop 5).take (Try.prog.cellsOf 50)) = xs[3]? := hf 3 _ rfl
  have g4 : DataW.trod enc Try.prog W 0 (fun _ => true) true k 51 (([v0, v1, v2, v3, v4, v5, v6].drop 6).take (Try.prog.cellsOf 51)) = xs[4]? := hf 4 _ rfl
  have k3 : Try.prog.cellsOf 3 = 1 := by kernel_rfl
  have k25 : Try.prog.cellsOf 25 = 3 := by kernel_rfl
  have k50 : Try.prog.cellsOf 50 = 1 := by kernel_rfl
  have k51 : Try.prog.cellsOf 51 = 1 := by kernel_rfl
  simp only [k3, k25, k50, k51, List.drop_zero, List.drop_succ_cons, List.take_succ_cons, List.take_zero] at g0 g1 g2 g3 g4
  match xs, hxl with
  | [y0, y1, y2, y3, y4], _ =>
    simp at g0 g1 g2 g3 g4
    have hW : ∀ (j : Nat) (t : TypeId) (d : DataW H), [(3 : TypeId), 3, 25, 50, 51][j]? = some t → [y0.1, y1.1, y2.1, y3.1, y4.1][j]? = some d → Fits d t := by
      intro j t d ht hd q hq
      refine hF q ?_
      rw [hxx]
      have hh := DataW.weights_mem_each (P := Try.prog) ht hd q hq
      simp only [DataW.weights, Try.underlying53]
      exact hh
    have F2 : Fits y2.1 25 := hW 2 25 _ rfl rfl
    have F3 : Fits y3.1 50 := hW 3 50 _ rfl rfl
    have F4 : Fits y4.1 51 := hW 4 51 _ rfl rfl
    obtain ⟨a0, rfl, i0⟩ := int_of_trod g0
    obtain ⟨a1, rfl, i1⟩ := int_of_trod g1
    obtain ⟨mk, mi, p2, l2, q2, z2, hm, j1, j2, r2, m2⟩ := page_cells2 rfl g2 F2
    simp only [List.cons.injEq, and_true] at hm
    obtain ⟨rfl, rfl, rfl⟩ := hm
    obtain ⟨p4, l4, q4, z4, rfl, r4, m4⟩ := ints_of_trod2 g3 F3
    obtain ⟨ts, t5, i5, l5⟩ := torns_of_trod2 g4 F4
    exact ⟨⟨a0, a1, mk, mi, z2.take l2, z4.take l4, ts⟩, ⟨_, _, _, c0, c1, c2, c3, c4, c5, c6, r2.bts, r4.ints, t5⟩, ⟨i0, i1, ⟨j1, j2⟩, r2.isBytes, fun x hx => in64_of (r4.wf x hx), i5⟩, m2, m4, l5⟩
theorem acts_of_trod2 {v : Value} {x : DataW H × List MemPlace} (h : DataW.trod enc Try.prog W 0 (fun _ => true) true n 40 [v] = some x) (hF : Fits x.1 40) : ∃ l, Acts W v l ∧ ∀ x ∈ l, DeedIn x := by
  rcases open_slice Try.underlying40 h with ⟨hcs, _⟩ | ⟨a, len, cap, m, k, D, Pl, hcs, _, hl, hm, hmm, hxx, hx⟩
  · simp at hcs
    subst hcs
    exact ⟨[], ⟨none, 0, rfl, by simp, .inl rfl⟩, by simp⟩
  · simp at hcs hmm
    subst hcs hmm
    have k53 : Try.prog.cellsOf 53 = 7 := by kernel_rfl
    rw [k53] at hx
    by_cases h0 : len = 0
    · subst h0
      exact ⟨[], ⟨some a, m, rfl, by simp, .inl rfl⟩, by simp⟩
    · obtain ⟨b, o, spot⟩ := a
      obtain ⟨cs0, hc0, _⟩ := hx 0 (by omega)
      obtain ⟨_, hlen0, hcell0⟩ := World.cells?_some hc0
      have hc00 := hcell0 0 (by omega)
      rw [List.getElem?_eq_getElem (by omega)] at hc00
      have hspot : spot = none := by simpa [Addr.add] using World.cell?_spot hc00
      subst hspot
      have hv : ∀ i, i < len → ∃ q : Deed, ActAt W b (o + i * 7) q ∧ ActIn q ∧ DeedIn q := fun i hi => by
        obtain ⟨cs, h1, h2⟩ := hx i (by omega)
        rw [add_at] at h1
        refine act_of_trod2 h1 h2 (fun q hq => hF q ?_)
        rw [hxx]
        simp only [DataW.weights, Try.underlying40, List.mem_cons, List.mem_append]
        exact .inr (.inl (weightsAll_in (List.mem_map.2 ⟨i, List.mem_range.2 hi, rfl⟩) q hq))
      have hne : Nonempty Deed := ⟨act0⟩
      obtain ⟨q, hq⟩ : ∃ q : Nat → Deed, ∀ i, i < len → ActAt W b (o + i * 7) (q i) ∧ ActIn (q i) ∧ DeedIn (q i) := by
        refine ⟨fun i => if hi : i < len then Classical.choose (hv i hi) else act0, fun i hi => ?_⟩
        simp only [hi, dif_pos]
        exact Classical.choose_spec (hv i hi)
      refine ⟨(List.range len).map q, ⟨some ⟨b, o, none⟩, m, by simp, ?_, .inr ⟨b, o, rfl, fun t ht => ?_⟩⟩, ?_⟩
      · intro y hy
        obtain ⟨i, hi, rfl⟩ := List.mem_map.1 hy
        have := List.mem_range.1 hi
        exact (hq i (by omega)).2.1
      · have ht' : t < len := by simpa using ht
        have eg : ((List.range len).map q).getD t act0 = q t := by simp [ht']
        rw [eg]
        exact (hq t (by omega)).1
      · intro y hy
        obtain ⟨i, hi, rfl⟩ := List.mem_map.1 hy
        have := List.mem_range.1 hi
        exact (hq i (by omega)).2.2
end
/-- The three slices of an act. -/
theorem ActAt.shapes {w : World} {b o : Nat} {a : Deed} (h : ActAt w b o a) : ∃ ap lp cp ak lk ck at' lt ct, w.cell? ⟨b, o + 4, none⟩ = some (.slice ap lp cp) ∧ w.cell? ⟨b, o + 5, none⟩ = some (.slice ak lk ck) ∧ w.cell? ⟨b, o + 6, none⟩ = some (.slice at' lt ct) ∧ lp = a.p.length ∧ lk = a.keep.length ∧ lt = a.torn.length := by
  obtain ⟨vp, vk, vt, _, _, _, _, h6, h7, h8, h9, h10, h11⟩ := h
  obtain ⟨a1, c1, rfl, _⟩ := h9
  obtain ⟨a2, c2, rfl, _⟩ := h10
  obtain ⟨a3, c3, rfl, _⟩ := h11
  exact ⟨_, _, _, _, _, _, _, _, _, h6, h7, h8, rfl, rfl, rfl⟩
/-- The lengths of an act. -/
def deedLen (d : Deed) : Nat := d.p.length + d.keep.length + d.torn.length
def deedsLen (l : List Deed) : Nat := (l.map deedLen).sum
theorem deedsLen_take (l : List Deed) (k : Nat) (h : k < l.length) : deedsLen (l.take (k + 1)) = deedsLen (l.take k) + deedLen (l.getD k act0) := by
  unfold deedsLen
  rw [List.take_succ_eq_append_getElem h, List.map_append, List.sum_append]
  simp [h]
theorem deedsLen_mem (l : List Deed) (x : Deed) (h : x ∈ l) : deedLen x ≤ deedsLen l := by
  induction l with
  | nil => cases h
  | cons y r ih =>
    unfold deedsLen at *
    simp only [List.map_cons, List.sum_cons]
    rcases List.mem_cons.1 h with rfl | h
    · omega
    · have := ih h; omega
def HugeQ (w : World) (l : List Deed) (e : Ending) (w' : World) : Prop := ∃ B : Bool, e = .returned (.bool B) ∧ (B = false → l.length ≤ 80 ∧ ∀ x ∈ l, x.p.length ≤ 20000 ∧ x.keep.length ≤ 20000 ∧ x.torn.length ≤ 20000) ∧ ∃ m, w' = w.drewN m
set_option maxRecDepth 100000 in
set_option maxHeartbeats 2000000 in
theorem huge2_any {w : World} (v : Value) (l : List Deed) (h : Acts w v l) (hlen : ∀ x ∈ l, x.p.length ≤ 140737488355328 ∧ x.keep.length ≤ 140737488355328 ∧ x.torn.length ≤ 140737488355328) : Calls Try.prog 18 #[v] w fun e w' => HugeQ w l e w' := by
  obtain ⟨a, c, rfl, _, h⟩ := h
  obtain ⟨n, hn⟩ : ∃ n, Hid (n = l.length) := ⟨_, rfl⟩
  rw [← hn.out]
  replace hlen : Hid _ := hlen
  go_enter Try.func18, Try.ntmps18
  go_wp2
  go_loopw [3, 4] (fun x i wr => ∃ (k z : Nat), k ≤ n ∧ k ≤ 81 ∧ i = .int .i64 k ∧ x = .int .i64 z ∧ Hid (z = deedsLen (l.take k)) ∧ z ≤ k * 422212465065984 ∧ ∃ m, wr = w.drewN m) (fun _ i _ => n - (intOf i).toNat)
  case atStart => exact ⟨0, 0, Nat.zero_le _, by omega, rfl, rfl, rfl, by omega, 0, rfl⟩
  case round =>
    obtain ⟨k, z, hk, hk2, rfl, rfl, hz, hzb, m, rfl⟩ := hrel
    by_cases hlt : k < n
    · by_cases h150 : k ≤ 80
      · have hki : (k : Int) < (n : Int) := by omega
        rcases h with h0 | ⟨b, o, rfl, h⟩
        · have := hn.out; rw [h0] at this; simp at this; omega
        · obtain ⟨ap, lp, cp, ak, lk, ck, at', lt, ct, g2, g3, g4, e2, e3, e4⟩ := (h k (by have := hn.out; omega)).shapes
          have hb3 := hlen.out (l.getD k act0) (by have := hn.out; rw [List.getD_eq_getElem?_getD, List.getElem?_eq_getElem (by omega)]; simp)
          have hst : Hid (z + lp + lk + lt = deedsLen (l.take (k + 1))) := by
            show _ = _
            rw [deedsLen_take l k (by have := hn.out; omega), ← hz.out, e2, e3, e4]
            unfold deedLen; omega
          rw [← e2, ← e3, ← e4] at hb3
          obtain ⟨hb31, hb32, hb33⟩ := hb3
          clear h e2 e3 e4
          have hzl : (z : Int) ≤ 63753982224963584 := by omega
          go_wp2
          go_quiet (fail)
          go_wp2
          refine ⟨⟨k + 1, z + lp + lk + lt, by omega, by omega, by go_num, by go_num, hst, by omega, _, rfl⟩, ?_⟩
          simp [intOf]; omega
      · have hki : (k : Int) < (n : Int) := by omega
        have hkd : decide ((k : Int) ≤ 80) = false := by simp; omega
        have hnb : (80 : Int) < (n : Int) := by omega
        clear h
        go_wp2
        go_ret
        exact ⟨true, rfl, (fun h => by cases h), m, rfl⟩
    · have hkd : decide ((k : Int) < (n : Int)) = false := by simp; omega
      obtain rfl : k = n := by omega
      clear h
      by_cases hb : (80 : Int) < (k : Int)
      · go_wp2
        go_ret
        exact ⟨true, rfl, (fun h => by cases h), m, rfl⟩
      · have hbd : decide ((80 : Int) < (k : Int)) = false := by simpa using hb
        by_cases hzz : (20000 : Int) < (z : Int)
        · go_wp2
          go_ret
          exact ⟨true, rfl, (fun h => by cases h), m, rfl⟩
        · have hzd : decide ((20000 : Int) < (z : Int)) = false := by simpa using hzz
          go_wp2
          go_ret
          refine ⟨false, rfl, (fun _ => ⟨by have := hn.out; omega, fun x hx => ?_⟩), m, rfl⟩
          have h1 := deedsLen_mem l x hx
          have h2 := hz.out
          rw [List.take_of_length_le (by have := hn.out; omega)] at h2
          unfold deedLen at h1
          omega
end Go.Proofs.Ytcgjolonapndgaa
