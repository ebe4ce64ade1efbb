/- board.Update. -/
import Derived.Test.YtiajafljgfpdcaaGreatBTd
namespace Go.Proofs.YtiajafljgfpdcaaGreat
set_option linter.unusedVariables false
open Go.RowKit
theorem allB_eq (n : Nat) (l : List Rn) : allB n (l.map (·.r)) = (decide (0 < n) && ofAllB l) := by
  unfold allB ofAllB
  match l with
  | [] => simp
  | [r] => simp
  | r :: s :: t => simp
/-- Bounds of an entry at a time. -/
def SeenL (now : Int) (L : List Ae) : Prop := ∀ s ∈ L, -9223372036854775808 ≤ now - s.x.seen ∧ now - s.x.seen ≤ 9223372036854775807
theorem hearL_seen {h : S.Hd} {own : List Lb} {now : Int} {r : Rt} {L : List Ae} (hr : RiseG Ae.ls L) (hL : SeenL now L) : SeenL now (hearL h own now r L) := by
  have key : ∀ s : Ae, SeenL now (putG Ae.ls (stpA h now r s) L) := fun s t ht => by
    rcases (mem_putG hr).1 ht with rfl | ⟨hm, _⟩
    · have : (stpA h now r s).x.seen = now := (S.step_seen s.x h r.k r.vk r.vn now).1
      rw [this]; omega
    · exact hL t hm
  unfold hearL
  split
  · split
    · split
      · exact hL
      · exact key _
    · split
      · exact key _
      · exact hL
  · exact hL
/-- The entries behind the first k results. -/
noncomputable def heardK (h : S.Hd) (own : List Lb) (now : Int) (rs : List Rn) (L : List Ae) (k : Nat) : List Ae := (rs.take k).foldl (fun L r => hearL h own now r.r L) L
theorem heardK_succ {h : S.Hd} {own : List Lb} {now : Int} {rs : List Rn} {L : List Ae} {k : Nat} (hk : k < rs.length) : heardK h own now rs L (k + 1) = hearL h own now (rs.getD k rn0).r (heardK h own now rs L k) := by
  unfold heardK
  rw [take_getD rs rn0 k hk, List.foldl_append]
  rfl
theorem heardK_props {h : S.Hd} {own : List Lb} {now : Int} {rs : List Rn} {L : List Ae} (hr : RiseG Ae.ls L) (hf : FineL now L) (hs : SeenL now L) :
    ∀ k, k ≤ rs.length → RiseG Ae.ls (heardK h own now rs L k) ∧ FineL now (heardK h own now rs L k) ∧ SeenL now (heardK h own now rs L k) ∧ (heardK h own now rs L k).length ≤ max L.length 100
  | 0, _ => ⟨hr, hf, hs, Nat.le_max_left _ _⟩
  | k + 1, hk => by
    obtain ⟨h1, h2, h3, h4⟩ := heardK_props (h := h) (own := own) (rs := rs) hr hf hs k (by omega)
    rw [heardK_succ (show k < rs.length by omega)]
    have h5 := hearL_len (h := h) (own := own) (now := now) (r := (rs.getD k rn0).r) h1
    exact ⟨hearL_rise h1, hearL_fine h1 h2, hearL_seen h1 h3, Nat.le_trans h5 (Nat.max_le.2 ⟨h4, Nat.le_max_right _ _⟩)⟩
/-- A stand of an entry, stepped. -/
def stS (h : S.Hd) (now : Int) (r : Rt) (e : En) : Sd := ⟨e.sv, stpA h now r (beginA (enF e))⟩
def allK (h : S.Hd) (now : Int) (r : Rt) (l : List En) (k : Nat) : List Sd := (l.take k).map (stS h now r) ++ (l.drop k).map stE
theorem putG_mid {α : Type} {f : α → List Lb} {s t : α} (e : f s = f t) : ∀ {A B : List α}, RiseG f (A ++ t :: B) → putG f s (A ++ t :: B) = A ++ s :: B
  | [], B, h => by
    show putG f s (t :: B) = s :: B
    unfold putG
    rw [if_pos (by rw [e]; exact cmpS_self _)]
  | a :: A, B, h => by
    have ha := List.pairwise_cons.1 h
    have h1 := ha.1 t (by simp)
    have h2 : cmpS (f s) (f a) = 1 := by rw [e, cmpS_neg, h1]; rfl
    show putG f s (a :: (A ++ t :: B)) = _
    unfold putG
    rw [if_neg (by rw [h2]; decide), if_neg (by rw [h2]; decide), putG_mid e ha.2]
    rfl
theorem drop_en (l : List En) (k : Nat) (h : k < l.length) : l.drop k = l.getD k en0 :: l.drop (k + 1) := by
  rw [List.drop_eq_getElem_cons h]
  simp [h]
theorem allK_rise {h : S.Hd} {now : Int} {r : Rt} {l : List En} (hl : RiseE l) (k : Nat) : RiseG (fun s : Sd => s.s.ls) (allK h now r l k) := by
  have h1 : (allK h now r l k).map (fun s : Sd => s.s.ls) = l.map (fun e => e.ls) := by
    unfold allK
    rw [List.map_append, List.map_map, List.map_map]
    show (l.take k).map (fun e => e.ls) ++ (l.drop k).map (fun e => e.ls) = _
    rw [← List.map_append, List.take_append_drop]
  have h2 : RiseG (fun x : List Lb => x) (l.map fun e => e.ls) := (rise_map (f := fun e : En => e.ls) (g := fun x => x) (fun e => e.ls) (fun x => rfl)).2 hl.1
  rw [← h1] at h2
  exact (rise_map (f := fun s : Sd => s.s.ls) (g := fun x => x) (fun s : Sd => s.s.ls) (fun x => rfl)).1 h2
theorem allK_succ {h : S.Hd} {now : Int} {r : Rt} {l : List En} (hl : RiseE l) {k : Nat} (hk : k < l.length) :
    getG (fun s : Sd => s.s.ls) (allK h now r l k) (l.getD k en0).ls = some (stE (l.getD k en0)) ∧ putG (fun s : Sd => s.s.ls) (stS h now r (l.getD k en0)) (allK h now r l k) = allK h now r l (k + 1) := by
  have hr := allK_rise (h := h) (now := now) (r := r) hl k
  have he : allK h now r l k = (l.take k).map (stS h now r) ++ stE (l.getD k en0) :: (l.drop (k + 1)).map stE := by
    unfold allK
    rw [drop_en l k hk]
    rfl
  constructor
  · exact getG_of hr (x := stE (l.getD k en0)) (by rw [he]; simp)
  · rw [he] at hr ⊢
    rw [putG_mid (s := stS h now r (l.getD k en0)) (t := stE (l.getD k en0)) rfl hr]
    unfold allK
    rw [take_getD l en0 k hk, List.map_append]
    simp
theorem allK_end {h : S.Hd} {now : Int} {r : Rt} {l : List En} : (allK h now r l l.length).map (·.s) = ((l.map enF).map beginA).map (stpA h now r) := by
  unfold allK
  rw [List.take_of_length_le (Nat.le_refl _), List.drop_eq_nil_of_le (Nat.le_refl _)]
  simp [stS]
theorem fst_map (l : List En) : (l.map stE).map (·.s) = (l.map enF).map beginA := by
  rw [List.map_map, List.map_map]; rfl
/-- What Update asks. -/
structure UpIn (w : World) (vb vo vl : Value) (l : List En) (own : List Lb) (rs : List Rn) (h : S.Hd) (iv now : Int) : Prop where
  ens : Ens w vb l
  rise : RiseE l
  len : l.length ≤ 1000
  ownv : Lbs w vo own
  ownl : own.length ≤ 10000
  ownr : LbsR own
  rns : Rns w vl rs
  rlen : rs.length ≤ 10000
  rl : ∀ r ∈ rs, r.r.ls.length ≤ 10000
  rr : ∀ r ∈ rs, LbsR r.r.ls
  fine : ∀ e ∈ l, Fine now e.x
  seen : ∀ e ∈ l, -9223372036854775808 ≤ now - e.x.seen ∧ now - e.x.seen ≤ 9223372036854775807
  iv : -4611686018427387904 ≤ iv ∧ iv ≤ 4611686018427387903
theorem UpIn.grow {w w' : World} {vb vo vl : Value} {l : List En} {own : List Lb} {rs : List Rn} {h : S.Hd} {iv now : Int} (g : UpIn w vb vo vl l own rs h iv now) (hb : Below w.heap.size w w') : UpIn w' vb vo vl l own rs h iv now :=
  { g with ens := g.ens.grow hb, ownv := Sls.grow g.ownv hb, rns := g.rns.grow hb }
/-- The entries behind what was said. -/
noncomputable def heardF (h : S.Hd) (own : List Lb) (now : Int) (rs : List Rn) (l : List En) : List Ae := heardL h own now (rs.map (·.r)) (l.map enF)
theorem heardF_all {h : S.Hd} {own : List Lb} {now : Int} {rs : List Rn} {l : List En} (ha : (decide (0 < l.length) && ofAllB rs) = true) : heardF h own now rs l = (allK h now (rs.headD rn0).r l l.length).map (·.s) := by
  unfold heardF heardL
  rw [List.length_map, allB_eq, if_pos ha, allK_end]
  have h1 : rs.length = 1 := by
    simp only [Bool.and_eq_true, ofAllB] at ha
    simpa using ha.2.1
  match rs, h1 with
  | [r], _ => rfl
theorem heardF_each {h : S.Hd} {own : List Lb} {now : Int} {rs : List Rn} {l : List En} (ha : ¬ (decide (0 < l.length) && ofAllB rs) = true) : heardF h own now rs l = heardK h own now rs ((l.map enF).map beginA) rs.length := by
  unfold heardF heardL
  rw [List.length_map, allB_eq, if_neg ha]
  unfold heardK
  rw [List.take_of_length_le (Nat.le_refl _), List.foldl_map]
/-- What the first drawn region of Update leaves. -/
def UpAct (w : World) (vb vo vl : Value) (l : List En) (h : S.Hd) (iv now : Int) (hs : Nat) (a : Act) (W : World) : Prop :=
  ∃ p b t19 t20 t21 t22 t23 t24, a = { tmps := #[vb, .agg #[.int .i64 h.fo, .int .i64 h.keep, .int .i64 h.nd, .int .i64 h.oe], vo, .int .i64 iv, .int .i64 now, vl, undef, .pointer (some ⟨hs, 0, none⟩), undef, undef, undef, undef, .slice none 0 0, .slice none 0 0, .pointer (some ⟨p, 0, none⟩), undef, undef, undef, undef, t19, t20, t21, t22, t23, t24, undef, undef, undef, undef, undef, undef, undef, undef, undef, undef, undef, undef, undef, undef, undef, undef, undef, undef, undef, undef, undef, undef, undef, undef, undef, undef, undef, undef, undef, undef, undef, undef, undef, undef], defers := [] } ∧
    EvAt W p b h iv now ∧ MapIs W b (l.map stE) ∧ Below w.heap.size w W ∧ w.heap.size ≤ p ∧ w.heap.size ≤ b
def UpQ (w : World) (vb vo vl : Value) (l : List En) (h : S.Hd) (iv now : Int) (hs : Nat) : Exit → Act → World → Prop
  | .normal, a, W => UpAct w vb vo vl l h iv now hs a W
  | _, _, _ => False
theorem upQ {w : World} {vb vo vl : Value} {l : List En} {h : S.Hd} {iv now : Int} {hs : Nat} {Q : Exit → Act → World → Prop} (hQ : ∀ a W, UpAct w vb vo vl l h iv now hs a W → Q .normal a W) : ∀ (e : Exit) (a : Act) (W : World), UpQ w vb vo vl l h iv now hs e a W → Q e a W
  | .normal, a, W, g => hQ a W g
  | .ret, _, _, g => g.elim
  | .exit _, _, _, g => g.elim
  | .goto _, _, _, g => g.elim
  | .panic _, _, _, g => g.elim
  | .outgrown, _, _, g => g.elim
theorem ev_set {W : World} {g b : Nat} {h : S.Hd} {iv now : Int} (hC : W.heap[g]? = some (.cells #[.map none, .int .i64 0, .int .i64 0, .int .i64 0, .int .i64 0, .int .i64 0, .int .i64 0] 82 (0, 0))) :
    EvAt (((((((W.setCell ⟨g, 0, none⟩ (.map (some b))).setCell ⟨g, 1, none⟩ (.int .i64 h.fo)).setCell ⟨g, 2, none⟩ (.int .i64 h.keep)).setCell ⟨g, 3, none⟩ (.int .i64 h.nd)).setCell ⟨g, 4, none⟩ (.int .i64 h.oe)).setCell ⟨g, 5, none⟩ (.int .i64 iv)).setCell ⟨g, 6, none⟩ (.int .i64 now)) g b h iv now := by
  have h0 := S.block_setCell (i := 0) (u := .map (some b)) hC
  have h1 := S.block_setCell (i := 1) (u := .int .i64 h.fo) h0
  have h2 := S.block_setCell (i := 2) (u := .int .i64 h.keep) h1
  have h3 := S.block_setCell (i := 3) (u := .int .i64 h.nd) h2
  have h4 := S.block_setCell (i := 4) (u := .int .i64 h.oe) h3
  have h5 := S.block_setCell (i := 5) (u := .int .i64 iv) h4
  have h6 := S.block_setCell (i := 6) (u := .int .i64 now) h5
  unfold EvAt
  rw [h6]
  simp
theorem bel_set7 {w W : World} {g b : Nat} {h : S.Hd} {iv now : Int} {m : Nat} (hB : Below m w W) (hg : m ≤ g) :
    Below m w (((((((W.setCell ⟨g, 0, none⟩ (.map (some b))).setCell ⟨g, 1, none⟩ (.int .i64 h.fo)).setCell ⟨g, 2, none⟩ (.int .i64 h.keep)).setCell ⟨g, 3, none⟩ (.int .i64 h.nd)).setCell ⟨g, 4, none⟩ (.int .i64 h.oe)).setCell ⟨g, 5, none⟩ (.int .i64 iv)).setCell ⟨g, 6, none⟩ (.int .i64 now)) :=
  ((((((hB.setCell (p := ⟨g, 0, none⟩) hg _).setCell (p := ⟨g, 1, none⟩) hg _).setCell (p := ⟨g, 2, none⟩) hg _).setCell (p := ⟨g, 3, none⟩) hg _).setCell (p := ⟨g, 4, none⟩) hg _).setCell (p := ⟨g, 5, none⟩) hg _).setCell (p := ⟨g, 6, none⟩) hg _
theorem map_set7 {W : World} {g b c : Nat} {h : S.Hd} {iv now : Int} {C : Array Value} {M : List Sd} (hM : MapIs W c M) (hC : W.heap[g]? = some (.cells C 82 (0, 0))) :
    MapIs (((((((W.setCell ⟨g, 0, none⟩ (.map (some b))).setCell ⟨g, 1, none⟩ (.int .i64 h.fo)).setCell ⟨g, 2, none⟩ (.int .i64 h.keep)).setCell ⟨g, 3, none⟩ (.int .i64 h.nd)).setCell ⟨g, 4, none⟩ (.int .i64 h.oe)).setCell ⟨g, 5, none⟩ (.int .i64 iv)).setCell ⟨g, 6, none⟩ (.int .i64 now)) c M := by
  obtain ⟨es, ck, hb⟩ := hM.isMap
  have hne : g ≠ c := fun e => by
    subst e
    rw [hC] at hb
    cases hb
  exact hM.keep (by rw [S.heap_setCell hne, S.heap_setCell hne, S.heap_setCell hne, S.heap_setCell hne, S.heap_setCell hne, S.heap_setCell hne, S.heap_setCell hne])
set_option maxRecDepth 100000 in
set_option maxHeartbeats 4000000 in
theorem update_all (vb vo vl : Value) (l : List En) (own : List Lb) (rs : List Rn) (h : S.Hd) (iv now : Int) (w : World) (g : UpIn w vb vo vl l own rs h iv now) (ha : (decide (0 < l.length) && ofAllB rs) = true) :
    Calls Tryz.prog 11 #[vb, S.encH h, vo, .int .i64 iv, .int .i64 now, vl] w fun e w' => ∃ y z E C, e = .returned (.tuple #[y, z]) ∧ Ens w' y E ∧ Cns w' z C ∧ E.map enF = leftL iv now (heardF h own now rs l) ∧ C.map (·.c) = toldL iv now (heardF h own now rs l) ∧ Below w.heap.size w w' := by
  have hpos : 0 < l.length := by simp at ha; exact ha.1
  have hall : ofAllB rs = true := by simp at ha; exact ha.2
  have hb0 : Below w.heap.size w (w.alloc (.cells #[.int .i64 h.fo, .int .i64 h.keep, .int .i64 h.nd, .int .i64 h.oe] 23)) := (Below.refl _ w).alloc (Nat.le_refl _) _
  have hx0 : (w.alloc (.cells #[.int .i64 h.fo, .int .i64 h.keep, .int .i64 h.nd, .int .i64 h.oe] 23)).heap[w.heap.size]? = some (.cells #[.int .i64 h.fo, .int .i64 h.keep, .int .i64 h.nd, .int .i64 h.oe] 23 (0, 0)) := heap_new _ _
  obtain ⟨ba, bc, rfl⟩ := g.ens.1.shape
  obtain ⟨la, lc, rfl⟩ := g.rns.1.shape
  have hbk := fun W (hW : Below w.heap.size w W) => byKey_any _ l W (g.ens.grow hW) g.rise (by have := g.len; omega)
  have hk0 := hbk _ hb0.drew
  have q0 : (w.alloc (.cells #[.int .i64 h.fo, .int .i64 h.keep, .int .i64 h.nd, .int .i64 h.oe] 23)).cell? ⟨w.heap.size, 0, none⟩ = some (.int .i64 h.fo) := by unfold World.cell?; rw [hx0]; rfl
  have q1 : (w.alloc (.cells #[.int .i64 h.fo, .int .i64 h.keep, .int .i64 h.nd, .int .i64 h.oe] 23)).cell? ⟨w.heap.size, 1, none⟩ = some (.int .i64 h.keep) := by unfold World.cell?; rw [hx0]; rfl
  have q2 : (w.alloc (.cells #[.int .i64 h.fo, .int .i64 h.keep, .int .i64 h.nd, .int .i64 h.oe] 23)).cell? ⟨w.heap.size, 2, none⟩ = some (.int .i64 h.nd) := by unfold World.cell?; rw [hx0]; rfl
  have q3 : (w.alloc (.cells #[.int .i64 h.fo, .int .i64 h.keep, .int .i64 h.nd, .int .i64 h.oe] 23)).cell? ⟨w.heap.size, 3, none⟩ = some (.int .i64 h.oe) := by unfold World.cell?; rw [hx0]; rfl
  unfold S.encH
  go_enter Tryz.func11, Tryz.ntmps11
  go_upto_region 1 with fail
  have keep : ∀ X {b o : Nat} {u : Value}, Below (w.alloc (.cells #[.int .i64 h.fo, .int .i64 h.keep, .int .i64 h.nd, .int .i64 h.oe] 23)).heap.size (w.alloc (.cells #[.int .i64 h.fo, .int .i64 h.keep, .int .i64 h.nd, .int .i64 h.oe] 23)) X → (w.alloc (.cells #[.int .i64 h.fo, .int .i64 h.keep, .int .i64 h.nd, .int .i64 h.oe] 23)).cell? ⟨b, o, none⟩ = some u → X.cell? ⟨b, o, none⟩ = some u := fun X b o u hX h => (hX.cell (p := ⟨b, o, none⟩) (World.block_lt_of_cell? _ _ h)).trans h
  have hsz1 : w.heap.size ≤ (w.alloc (.cells #[.int .i64 h.fo, .int .i64 h.keep, .int .i64 h.nd, .int .i64 h.oe] 23)).heap.size := hb0.size
  generalize (w.alloc (.cells #[.int .i64 h.fo, .int .i64 h.keep, .int .i64 h.nd, .int .i64 h.oe] 23)) = W1 at *
  refine Code.wp_mono (Q := UpQ w (.slice ba l.length bc) vo (.slice la rs.length lc) l h iv now w.heap.size) (upQ ?cont) ?_
  case cont =>
    rintro a W ⟨p, b, t19, t20, t21, t22, t23, t24, rfl, hE, hM, hB, hp, hb⟩
    have hof := isOfAll_any (.slice la rs.length lc) rs W (g.rns.grow hB) (by have := g.rlen; omega) (fun r hr => by have := g.rl r hr; omega)
    rw [hall] at hof
    have hposi : (0 : Int) < (l.length : Int) := by omega
    have hlen := g.len
    have hr1 : Hid (rs.length = 1) := by
      show rs.length = 1
      simp only [ofAllB, Bool.and_eq_true] at hall
      simpa using hall.1
    replace hE : Hid (EvAt W p b h iv now) := hE
    replace hM : Hid (MapIs W b (allK h now (rs.headD rn0).r l 0)) := hM
    replace hB : Hid (Below w.heap.size w W) := hB
    have ha' : Hid ((decide (0 < l.length) && ofAllB rs) = true) := ha
    clear hbk hk0 keep q0 q1 q2 q3 hall ha hx0
    go_wp2_with (go_at_call 34; refine hof.mono ?_; rintro e w3 ⟨rfl, hb3⟩)
    have hB3 : Hid (Below w.heap.size w w3) := hB.out.trans (hb3.mono hB.out.size)
    have hE3 : Hid (EvAt w3 p b h iv now) := hE.out.grow hb3
    have hM3 : Hid (MapIs w3 b (allK h now (rs.headD rn0).r l 0)) := hM.out.grow hb3
    clear hof hE hM hB hb3
    go_loopw [34] (fun i wr => ∃ k : Nat, k ≤ l.length ∧ i = .int .i64 k ∧ Hid (EvAt wr p b h iv now) ∧ Hid (MapIs wr b (allK h now (rs.headD rn0).r l k)) ∧ Hid (Sds wr (allK h now (rs.headD rn0).r l k)) ∧ Hid (Below w.heap.size w wr)) (fun i _ => l.length - (intOf i).toNat)
    case atStart =>
      refine ⟨0, Nat.zero_le _, rfl, hE3, hM3, ?_, hB3⟩
      show Sds _ _
      intro s hs
      have hs' : s ∈ l.map stE := by simpa [allK] using hs
      obtain ⟨e, he, rfl⟩ := List.mem_map.1 hs'
      exact Sls.grow (g.ens.2 e he) hB3.out
    case round =>
      obtain ⟨k, hk, rfl, hE, hM, hS, hB⟩ := hrel
      by_cases hlt : k < l.length
      · have hki : (k : Int) < (l.length : Int) := by omega
        obtain ⟨bb, o, rfl, hat⟩ := en_at (Sls.grow g.ens.1 hB.out) k hlt
        obtain ⟨x0, x1, x2, x3, x4, x5, x6, x7⟩ := at_en hat
        obtain ⟨bl, ol, rfl, hatr⟩ := rn_at (Sls.grow g.rns.1 hB.out) 0 (by rw [hr1.out]; decide)
        have hr0 : rs.headD rn0 = rs.getD 0 rn0 := by cases rs <;> rfl
        rw [hr0] at hM hS ⊢
        simp only [Nat.zero_mul, Nat.add_zero] at hatr
        obtain ⟨y0, y1, y2, y3⟩ := at_rn hatr
        have hrl0 : (0 : Int) < (rs.length : Int) := by rw [hr1.out]; decide
        obtain ⟨hget, hput⟩ := allK_succ (h := h) (now := now) (r := (rs.getD 0 rn0).r) g.rise hlt
        have hmem := getD_mem l en0 k hlt
        have hset := g.rise.2 _ hmem
        have hfine := g.fine _ hmem
        have hlb := Sls.grow (g.ens.2 _ hmem) hB.out
        have hkl : (allK h now (rs.getD 0 rn0).r l k).length < 1000000 := by
          have : (allK h now (rs.getD 0 rn0).r l k).length = l.length := by unfold allK; simp; omega
          rw [this]; have := g.len; omega
        generalize allK h now (rs.getD 0 rn0).r l k = M0 at *
        generalize hM1 : allK h now (rs.getD 0 rn0).r l (k + 1) = M1 at *
        generalize rs.getD 0 rn0 = r at *
        generalize l.getD k en0 = e at *
        obtain ⟨⟨ea, en, ec⟩, els, ⟨st, since, fr, quiet, seen, vk, vn⟩⟩ := e
        simp only at *
        replace hE : Hid (EvAt wr p b h iv now) := hE
        replace hM : Hid (MapIs wr b M0) := hM
        replace hS : Hid (Sds wr M0) := hS
        replace hget : Hid (getG (fun s : Sd => s.s.ls) M0 els = some (stE ⟨⟨ea, en, ec⟩, els, ⟨st, since, fr, quiet, seen, vk, vn⟩⟩)) := hget
        replace hput : Hid (putG (fun s : Sd => s.s.ls) (stS h now r.r ⟨⟨ea, en, ec⟩, els, ⟨st, since, fr, quiet, seen, vk, vn⟩⟩) M0 = M1) := hput
        replace hlb : Hid (Lbs wr (.slice ea en ec) els) := hlb
        replace hset : Hid (IsSet els) := hset
        replace hfine : Hid (Fine now ⟨st, since, fr, quiet, seen, vk, vn⟩) := hfine
        clear hmem hat hatr hr0
        go_upto_region 6 with fail
        have hx5 : (wr.alloc (.cells #[.slice ea en ec, .int .i64 st, .int .i64 since, .int .i64 fr, .int .i64 quiet, .int .i64 seen, .int .i64 vk, .int .i64 vn] 67)).heap[wr.heap.size]? = some (.cells #[.slice ea en ec, .int .i64 st, .int .i64 since, .int .i64 fr, .int .i64 quiet, .int .i64 seen, .int .i64 vk, .int .i64 vn] 67 (0, 0)) := heap_new _ _
        have hG5 : Hid (Below wr.heap.size wr (wr.alloc (.cells #[.slice ea en ec, .int .i64 st, .int .i64 since, .int .i64 fr, .int .i64 quiet, .int .i64 seen, .int .i64 vk, .int .i64 vn] 67))) := (Below.refl _ wr).alloc (Nat.le_refl _) _
        have hx3 : wr.heap.size < (wr.alloc (.cells #[.slice ea en ec, .int .i64 st, .int .i64 since, .int .i64 fr, .int .i64 quiet, .int .i64 seen, .int .i64 vk, .int .i64 vn] 67)).heap.size := by simp
        clear x0 x1 x2 x3 x4 x5 x6 x7
        generalize (wr.alloc (.cells #[.slice ea en ec, .int .i64 st, .int .i64 since, .int .i64 fr, .int .i64 quiet, .int .i64 seen, .int .i64 vk, .int .i64 vn] 67)) = W5 at *
        have hxq : ∀ q : Bel W5, q.W.heap[wr.heap.size]? = some (.cells #[.slice ea en ec, .int .i64 st, .int .i64 since, .int .i64 fr, .int .i64 quiet, .int .i64 seen, .int .i64 vk, .int .i64 vn] 67 (0, 0)) := fun q => (q.h.block _ hx3).trans hx5
        have hGq : ∀ q : Bel W5, Below wr.heap.size wr q.W := fun q => hG5.out.trans (q.h.mono hG5.out.size)
        have s0 : ∀ q : Bel W5, q.W.cell? ⟨wr.heap.size, 0, none⟩ = some (.slice ea en ec) := fun q => by simp [World.cell?, hxq q]
        have t0 : ∀ q : Bel W5, q.W.cell? ⟨bl, ol, none⟩ = some (.slice r.sv.a r.sv.n r.sv.c) := fun q => ((hGq q).cell (p := ⟨bl, ol, none⟩) (World.block_lt_of_cell? wr _ y0)).trans y0
        have t1 : ∀ q : Bel W5, q.W.cell? ⟨bl, ol + 1, none⟩ = some (.int .i64 r.r.k) := fun q => ((hGq q).cell (p := ⟨bl, ol + 1, none⟩) (World.block_lt_of_cell? wr _ y1)).trans y1
        have t2 : ∀ q : Bel W5, q.W.cell? ⟨bl, ol + 2, none⟩ = some (.int .i64 r.r.vk) := fun q => ((hGq q).cell (p := ⟨bl, ol + 2, none⟩) (World.block_lt_of_cell? wr _ y2)).trans y2
        have t3 : ∀ q : Bel W5, q.W.cell? ⟨bl, ol + 3, none⟩ = some (.int .i64 r.r.vn) := fun q => ((hGq q).cell (p := ⟨bl, ol + 3, none⟩) (World.block_lt_of_cell? wr _ y3)).trans y3
        have hkey : ∀ q : Bel W5, Calls Tryz.prog 36 #[.slice ea en ec] q.W fun e w' => e = .returned (.string (keyB els)) ∧ Below q.W.heap.size q.W w' := fun q => key_f _ els _ (Sls.grow hlb.out (hGq q)) hset.out
        have hstep : Hid (∀ W, Below wr.heap.size wr W → Calls Tryz.prog 35 #[.pointer (some ⟨p, 0, none⟩), .string (keyB els), encR r] W fun e w' => e = .returned (.tuple #[]) ∧ MapIs w' b M1 ∧ W.grownBy w' (some b)) := fun W hW => by
          have := step_any p b h iv now els r M0 _ W (hE.out.grow hW) (hM.out.grow hW) hset.out hget.out hkl hfine.out.1 hfine.out.2
          have e2 : putG (fun s : Sd => s.s.ls) ⟨(stE ⟨⟨ea, en, ec⟩, els, ⟨st, since, fr, quiet, seen, vk, vn⟩⟩).sv, stpA h now r.r (stE ⟨⟨ea, en, ec⟩, els, ⟨st, since, fr, quiet, seen, vk, vn⟩⟩).s⟩ M0 = M1 := hput.out
          rw [e2] at this
          exact this
        clear hxq
        refine Yquiettail.region_tail (C := fun W => ∃ p : Bel W5, W = p.W) 6 (by kernel_rfl) (by kernel_rfl) ⟨⟨W5.drew, (Below.refl _ _).drew⟩, rfl⟩ ?_
        dsimp only [List.take, List.drop]
        repeat (go_big_quiet_step (first | (go_at_call 36; exact Calls.bel (hkey _))))
        refine wpQuiet_nil ?_
        rintro w8 ⟨⟨wy, h8⟩, rfl⟩
        have hGy : Below wr.heap.size wr w8 := hGq ⟨w8, h8⟩
        clear s0 t0 t1 t2 t3 hkey hGq y0 y1 y2 y3
        have hs8 := hstep.out w8 hGy
        unfold encR at hs8
        go_wp2_with (go_at_call 35; refine hs8.mono ?_; rintro e w9 ⟨rfl, hM9, hG9⟩)
        have hB8 : Below w.heap.size w w8 := hB.out.trans (hGy.mono hB.out.size)
        have hmap8 := (hM.out.grow hGy).isMap
        go_roundw
        case rel =>
          refine ⟨k + 1, by omega, by go_num, ev_turned (hE.out.grow hGy) hG9 hmap8, ?_, ?_, ?_⟩
          · show MapIs _ _ _
            rw [hM1]
            exact hM9
          · show Sds _ _
            rw [hM1, ← hput.out]
            intro t ht
            rcases (mem_putG hM.out.rise).1 ht with rfl | ⟨hm2, _⟩
            · exact lbs_turned (Sls.grow hlb.out hGy) hG9 hmap8
            · exact lbs_turned (Sls.grow (hS.out t hm2) hGy) hG9 hmap8
          · exact hB8.grown hG9 hB8.size (fun k e => by cases e; exact hb)
        case measure => simp [intOf]; omega
      · obtain rfl : k = l.length := by omega
        have hki : ¬ (l.length : Int) < (l.length : Int) := by omega
        have hH : HeardAt wr p b h iv now (heardF h own now rs l) (allK h now (rs.headD rn0).r l l.length) := ⟨hE.out, hM.out, hS.out, (heardF_all ha'.out).symm⟩
        have hlenK : (allK h now (rs.headD rn0).r l l.length).length = l.length := by unfold allK; simp
        have htold := told_any p b h iv now _ _ wr hH (by rw [hlenK]; have := g.len; omega) g.iv (fun s hs => by
          have hs' : s ∈ l.map (stS h now (rs.headD rn0).r) := by simpa [allK] using hs
          obtain ⟨e, he, rfl⟩ := List.mem_map.1 hs'
          have : (stS h now (rs.headD rn0).r e).s.x.seen = now := (S.step_seen _ h _ _ _ now).1
          rw [this]; omega)
        go_wp2_with (go_at_call 38; refine htold.mono ?_; rintro e w4 ⟨y, z, E, C, rfl, hEn, hCn, hE2, hC2, hb4⟩)
        go_ret2
        exact ⟨_, _, E, C, rfl, hEn, hCn, hE2, hC2, hB.out.trans (hb4.mono hB.out.size)⟩
  have hZ1 : Below W1.heap.size W1 (W1.drew.alloc (.cells #[.map none, .int .i64 0, .int .i64 0, .int .i64 0, .int .i64 0, .int .i64 0, .int .i64 0] 82)) := ((Below.refl _ W1).drew).alloc (Nat.le_refl _) _
  have hk1 := hbk _ (hb0.trans (hZ1.mono hb0.size))
  have hZ3 : Below W1.heap.size W1 (W1.alloc (.cells #[.map none, .int .i64 0, .int .i64 0, .int .i64 0, .int .i64 0, .int .i64 0, .int .i64 0] 82)).drew := ((Below.refl _ W1).alloc (Nat.le_refl _) _).drew
  have z0 := keep _ hZ3 q0
  have z1 := keep _ hZ3 q1
  have z2 := keep _ hZ3 q2
  have z3 := keep _ hZ3 q3
  go_region_law (first
    | (go_simp; go_at_call 33; refine hk0.mono ?_; rintro e w2 ⟨b, rfl, hM2, hb2, hbb⟩; have hX2 : Below W1.heap.size W1 w2 := ((Below.refl _ W1).drew).trans (hb2.mono (Nat.le_refl _)); have y0 := keep _ hX2 q0; have y1 := keep _ hX2 q1; have y2 := keep _ hX2 q2; have y3 := keep _ hX2 q3; have hX3 : Below W1.heap.size W1 (w2.alloc (.cells #[.map none, .int .i64 0, .int .i64 0, .int .i64 0, .int .i64 0, .int .i64 0, .int .i64 0] 82)) := hX2.alloc hX2.size _; have v0 := keep _ hX3 q0; have v1 := keep _ hX3 q1; have v2 := keep _ hX3 q2; have v3 := keep _ hX3 q3)
    | (go_simp; go_at_call 33; refine hk1.mono ?_; rintro e w2 ⟨b, rfl, hM2, hb2, hbb⟩; have hX2 : Below W1.heap.size W1 w2 := hZ1.trans (hb2.mono hZ1.size); have y0 := keep _ hX2 q0; have y1 := keep _ hX2 q1; have y2 := keep _ hX2 q2; have y3 := keep _ hX2 q3; have hZ2 : w2.heap[W1.heap.size]? = some (.cells #[.map none, .int .i64 0, .int .i64 0, .int .i64 0, .int .i64 0, .int .i64 0, .int .i64 0] 82 (0, 0)) := ((hb2.block _ (by simp)).trans (heap_new W1.drew _)); have o0 : w2.cell? ⟨W1.heap.size, 0, none⟩ = some (.map none) := (by unfold World.cell?; rw [hZ2]; rfl); have o1 : w2.cell? ⟨W1.heap.size, 1, none⟩ = some (.int .i64 0) := (by unfold World.cell?; rw [hZ2]; rfl); have o2 : w2.cell? ⟨W1.heap.size, 2, none⟩ = some (.int .i64 0) := (by unfold World.cell?; rw [hZ2]; rfl); have o3 : w2.cell? ⟨W1.heap.size, 3, none⟩ = some (.int .i64 0) := (by unfold World.cell?; rw [hZ2]; rfl); have o4 : w2.cell? ⟨W1.heap.size, 4, none⟩ = some (.int .i64 0) := (by unfold World.cell?; rw [hZ2]; rfl); have o5 : w2.cell? ⟨W1.heap.size, 5, none⟩ = some (.int .i64 0) := (by unfold World.cell?; rw [hZ2]; rfl); have o6 : w2.cell? ⟨W1.heap.size, 6, none⟩ = some (.int .i64 0) := (by unfold World.cell?; rw [hZ2]; rfl); have of : ∀ i, w2.frozen? ⟨W1.heap.size, i, none⟩ = false := (fun i => by simp [World.frozen?, hZ2])))
  all_goals
    have hB2 : Below w.heap.size w w2 := hb0.trans (hX2.mono hb0.size)
    have hbb2 : w.heap.size ≤ b := Nat.le_trans hsz1 (by first | exact hbb | exact Nat.le_trans (by simp) hbb)
  · exact ⟨w2.heap.size, b, _, _, _, _, _, _, rfl, heap_new _ _, hM2.grow ((Below.refl _ w2).alloc (Nat.le_refl _) _), hB2.alloc hB2.size _, hB2.size, hbb2⟩
  · exact ⟨w2.heap.size, b, _, _, _, _, _, _, rfl, heap_new _ _, hM2.grow ((Below.refl _ w2).alloc (Nat.le_refl _) _), hB2.alloc hB2.size _, hB2.size, hbb2⟩
  · exact ⟨w2.heap.size, b, _, _, _, _, _, _, rfl, heap_new _ _, hM2.grow ((Below.refl _ w2).alloc (Nat.le_refl _) _), hB2.alloc hB2.size _, hB2.size, hbb2⟩
  · exact ⟨W1.heap.size, b, _, _, _, _, _, _, rfl, ev_set hZ2, map_set7 hM2 hZ2, bel_set7 hB2 hsz1, hsz1, hbb2⟩
  · exact ⟨W1.heap.size, b, _, _, _, _, _, _, rfl, ev_set hZ2, map_set7 hM2 hZ2, bel_set7 hB2 hsz1, hsz1, hbb2⟩
  · exact ⟨W1.heap.size, b, _, _, _, _, _, _, rfl, ev_set hZ2, map_set7 hM2 hZ2, bel_set7 hB2 hsz1, hsz1, hbb2⟩
end Go.Proofs.YtiajafljgfpdcaaGreat
