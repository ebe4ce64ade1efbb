/- BUp; BCk. -/
import Derived.Test.YtiajafljgfpdcaaGreatBTd
import Derived.Test.YtiajafljgfpdcaaGreatMk
import Derived.Test.YtiajafljgfpdcaaGreatSCkSRk
/- board.Update. -/
namespace Go.Proofs.YtiajafljgfpdcaaGreat
set_option linter.unusedVariables false
open Go.RowKit
theorem allB_eq (n : Nat) (l : List Rn) : allB n (l.map (·.r)) = (decide (0 < n) && ofAllB l) := by
  unfold allB ofAllB
  match l with
  | [] => simp
  | [r] => simp
  | r :: s :: t => simp
/-- Bounds of an entry at a time. -/
def SeenL (now : Int) (L : List Ae) : Prop := ∀ s ∈ L, -9223372036854775808 ≤ now - s.x.seen ∧ now - s.x.seen ≤ 9223372036854775807
theorem hearL_seen {h : S.Hd} {own : List Lb} {now : Int} {r : Rt} {L : List Ae} (hr : RiseG Ae.ls L) (hL : SeenL now L) : SeenL now (hearL h own now r L) := by
  have key : ∀ s : Ae, SeenL now (putG Ae.ls (stpA h now r s) L) := fun s t ht => by
    rcases (mem_putG hr).1 ht with rfl | ⟨hm, _⟩
    · have : (stpA h now r s).x.seen = now := (S.step_seen s.x h r.k r.vk r.vn now).1
      rw [this]; omega
    · exact hL t hm
  unfold hearL
  split
  · split
    · split
      · exact hL
      · exact key _
    · split
      · exact key _
      · exact hL
  · exact hL
/-- The entries behind the first k results. -/
noncomputable def heardK (h : S.Hd) (own : List Lb) (now : Int) (rs : List Rn) (L : List Ae) (k : Nat) : List Ae := (rs.take k).foldl (fun L r => hearL h own now r.r L) L
theorem heardK_succ {h : S.Hd} {own : List Lb} {now : Int} {rs : List Rn} {L : List Ae} {k : Nat} (hk : k < rs.length) : heardK h own now rs L (k + 1) = hearL h own now (rs.getD k rn0).r (heardK h own now rs L k) := by
  unfold heardK
  rw [take_getD rs rn0 k hk, List.foldl_append]
  rfl
theorem heardK_props {h : S.Hd} {own : List Lb} {now : Int} {rs : List Rn} {L : List Ae} (hr : RiseG Ae.ls L) (hf : FineL now L) (hs : SeenL now L) :
    ∀ k, k ≤ rs.length → RiseG Ae.ls (heardK h own now rs L k) ∧ FineL now (heardK h own now rs L k) ∧ SeenL now (heardK h own now rs L k) ∧ (heardK h own now rs L k).length ≤ max L.length 100
  | 0, _ => ⟨hr, hf, hs, Nat.le_max_left _ _⟩
  | k + 1, hk => by
    obtain ⟨h1, h2, h3, h4⟩ := heardK_props (h := h) (own := own) (rs := rs) hr hf hs k (by omega)
    rw [heardK_succ (show k < rs.length by omega)]
    have h5 := hearL_len (h := h) (own := own) (now := now) (r := (rs.getD k rn0).r) h1
    exact ⟨hearL_rise h1, hearL_fine h1 h2, hearL_seen h1 h3, Nat.le_trans h5 (Nat.max_le.2 ⟨h4, Nat.le_max_right _ _⟩)⟩
/-- A stand of an entry, stepped. -/
def stS (h : S.Hd) (now : Int) (r : Rt) (e : En) : Sd := ⟨e.sv, stpA h now r (beginA (enF e))⟩
def allK (h : S.Hd) (now : Int) (r : Rt) (l : List En) (k : Nat) : List Sd := (l.take k).map (stS h now r) ++ (l.drop k).map stE
theorem putG_mid {α : Type} {f : α → List Lb} {s t : α} (e : f s = f t) : ∀ {A B : List α}, RiseG f (A ++ t :: B) → putG f s (A ++ t :: B) = A ++ s :: B
  | [], B, h => by
    show putG f s (t :: B) = s :: B
    unfold putG
    rw [if_pos (by rw [e]; exact cmpS_self _)]
  | a :: A, B, h => by
    have ha := List.pairwise_cons.1 h
    have h1 := ha.1 t (by simp)
    have h2 : cmpS (f s) (f a) = 1 := by rw [e, cmpS_neg, h1]; rfl
    show putG f s (a :: (A ++ t :: B)) = _
    unfold putG
    rw [if_neg (by rw [h2]; decide), if_neg (by rw [h2]; decide), putG_mid e ha.2]
    rfl
theorem drop_en (l : List En) (k : Nat) (h : k < l.length) : l.drop k = l.getD k en0 :: l.drop (k + 1) := by
  rw [List.drop_eq_getElem_cons h]
  simp [h]
theorem allK_rise {h : S.Hd} {now : Int} {r : Rt} {l : List En} (hl : RiseE l) (k : Nat) : RiseG (fun s : Sd => s.s.ls) (allK h now r l k) := by
  have h1 : (allK h now r l k).map (fun s : Sd => s.s.ls) = l.map (fun e => e.ls) := by
    unfold allK
    rw [List.map_append, List.map_map, List.map_map]
    show (l.take k).map (fun e => e.ls) ++ (l.drop k).map (fun e => e.ls) = _
    rw [← List.map_append, List.take_append_drop]
  have h2 : RiseG (fun x : List Lb => x) (l.map fun e => e.ls) := (rise_map (f := fun e : En => e.ls) (g := fun x => x) (fun e => e.ls) (fun x => rfl)).2 hl.1
  rw [← h1] at h2
  exact (rise_map (f := fun s : Sd => s.s.ls) (g := fun x => x) (fun s : Sd => s.s.ls) (fun x => rfl)).1 h2
theorem allK_succ {h : S.Hd} {now : Int} {r : Rt} {l : List En} (hl : RiseE l) {k : Nat} (hk : k < l.length) :
    getG (fun s : Sd => s.s.ls) (allK h now r l k) (l.getD k en0).ls = some (stE (l.getD k en0)) ∧ putG (fun s : Sd => s.s.ls) (stS h now r (l.getD k en0)) (allK h now r l k) = allK h now r l (k + 1) := by
  have hr := allK_rise (h := h) (now := now) (r := r) hl k
  have he : allK h now r l k = (l.take k).map (stS h now r) ++ stE (l.getD k en0) :: (l.drop (k + 1)).map stE := by
    unfold allK
    rw [drop_en l k hk]
    rfl
  constructor
  · exact getG_of hr (x := stE (l.getD k en0)) (by rw [he]; simp)
  · rw [he] at hr ⊢
    rw [putG_mid (s := stS h now r (l.getD k en0)) (t := stE (l.getD k en0)) rfl hr]
    unfold allK
    rw [take_getD l en0 k hk, List.map_append]
    simp
theorem allK_end {h : S.Hd} {now : Int} {r : Rt} {l : List En} : (allK h now r l l.length).map (·.s) = ((l.map enF).map beginA).map (stpA h now r) := by
  unfold allK
  rw [List.take_of_length_le (Nat.le_refl _), List.drop_eq_nil_of_le (Nat.le_refl _)]
  simp [stS]
theorem fst_map (l : List En) : (l.map stE).map (·.s) = (l.map enF).map beginA := by
  rw [List.map_map, List.map_map]; rfl
/-- What Update asks. -/
structure UpIn (w : World) (vb vo vl : Value) (l : List En) (own : List Lb) (rs : List Rn) (h : S.Hd) (iv now : Int) : Prop where
  ens : Ens w vb l
  rise : RiseE l
  len : l.length ≤ 1000
  ownv : Lbs w vo own
  ownl : own.length ≤ 10000
  ownr : LbsR own
  rns : Rns w vl rs
  rlen : rs.length ≤ 10000
  rl : ∀ r ∈ rs, r.r.ls.length ≤ 10000
  rr : ∀ r ∈ rs, LbsR r.r.ls
  fine : ∀ e ∈ l, Fine now e.x
  seen : ∀ e ∈ l, -9223372036854775808 ≤ now - e.x.seen ∧ now - e.x.seen ≤ 9223372036854775807
  iv : -4611686018427387904 ≤ iv ∧ iv ≤ 4611686018427387903
theorem UpIn.grow {w w' : World} {vb vo vl : Value} {l : List En} {own : List Lb} {rs : List Rn} {h : S.Hd} {iv now : Int} (g : UpIn w vb vo vl l own rs h iv now) (hb : Below w.heap.size w w') : UpIn w' vb vo vl l own rs h iv now :=
  { g with ens := g.ens.grow hb, ownv := Sls.grow g.ownv hb, rns := g.rns.grow hb }
/-- The entries behind what was said. -/
noncomputable def heardF (h : S.Hd) (own : List Lb) (now : Int) (rs : List Rn) (l : List En) : List Ae := heardL h own now (rs.map (·.r)) (l.map enF)
theorem heardF_all {h : S.Hd} {own : List Lb} {now : Int} {rs : List Rn} {l : List En} (ha : (decide (0 < l.length) && ofAllB rs) = true) : heardF h own now rs l = (allK h now (rs.headD rn0).r l l.length).map (·.s) := by
  unfold heardF heardL
  rw [List.length_map, allB_eq, if_pos ha, allK_end]
  have h1 : rs.length = 1 := by
    simp only [Bool.and_eq_true, ofAllB] at ha
    simpa using ha.2.1
  match rs, h1 with
  | [r], _ => rfl
theorem heardF_each {h : S.Hd} {own : List Lb} {now : Int} {rs : List Rn} {l : List En} (ha : ¬ (decide (0 < l.length) && ofAllB rs) = true) : heardF h own now rs l = heardK h own now rs ((l.map enF).map beginA) rs.length := by
  unfold heardF heardL
  rw [List.length_map, allB_eq, if_neg ha]
  unfold heardK
  rw [List.take_of_length_le (Nat.le_refl _), List.foldl_map]
/-- What the first drawn region of Update leaves. -/
def UpAct (w : World) (vb vo vl : Value) (l : List En) (h : S.Hd) (iv now : Int) (hs : Nat) (a : Act) (W : World) : Prop :=
  ∃ p b t19 t20 t21 t22 t23 t24, a = { tmps := #[vb, .agg #[.int .i64 h.fo, .int .i64 h.keep, .int .i64 h.nd, .int .i64 h.oe], vo, .int .i64 iv, .int .i64 now, vl, undef, .pointer (some ⟨hs, 0, none⟩), undef, undef, undef, undef, .slice none 0 0, .slice none 0 0, .pointer (some ⟨p, 0, none⟩), undef, undef, undef, undef, t19, t20, t21, t22, t23, t24, undef, undef, undef, undef, undef, undef, undef, undef, undef, undef, undef, undef, undef, undef, undef, undef, undef, undef, undef, undef, undef, undef, undef, undef, undef, undef, undef, undef, undef, undef, undef, undef, undef, undef], defers := [] } ∧
    EvAt W p b h iv now ∧ MapIs W b (l.map stE) ∧ Below w.heap.size w W ∧ w.heap.size ≤ p ∧ w.heap.size ≤ b
def UpQ (w : World) (vb vo vl : Value) (l : List En) (h : S.Hd) (iv now : Int) (hs : Nat) : Exit → Act → World → Prop
  | .normal, a, W => UpAct w vb vo vl l h iv now hs a W
  | _, _, _ => False
theorem upQ {w : World} {vb vo vl : Value} {l : List En} {h : S.Hd} {iv now : Int} {hs : Nat} {Q : Exit → Act → World → Prop} (hQ : ∀ a W, UpAct w vb vo vl l h iv now hs a W → Q .normal a W) : ∀ (e : Exit) (a : Act) (W : World), UpQ w vb vo vl l h iv now hs e a W → Q e a W
  | .normal, a, W, g => hQ a W g
  | .ret, _, _, g => g.elim
  | .exit _, _, _, g => g.elim
  | .goto _, _, _, g => g.elim
  | .panic _, _, _, g => g.elim
  | .outgrown, _, _, g => g.elim
theorem ev_set {W : World} {g b : Nat} {h : S.Hd} {iv now : Int} (hC : W.heap[g]? = some (.cells #[.map none, .int .i64 0, .int .i64 0, .int .i64 0, .int .i64 0, .int .i64 0, .int .i64 0] 82 (0, 0))) :
    EvAt (((((((W.setCell ⟨g, 0, none⟩ (.map (some b))).setCell ⟨g, 1, none⟩ (.int .i64 h.fo)).setCell ⟨g, 2, none⟩ (.int .i64 h.keep)).setCell ⟨g, 3, none⟩ (.int .i64 h.nd)).setCell ⟨g, 4, none⟩ (.int .i64 h.oe)).setCell ⟨g, 5, none⟩ (.int .i64 iv)).setCell ⟨g, 6, none⟩ (.int .i64 now)) g b h iv now := by
  have h0 := S.block_setCell (i := 0) (u := .map (some b)) hC
  have h1 := S.block_setCell (i := 1) (u := .int .i64 h.fo) h0
  have h2 := S.block_setCell (i := 2) (u := .int .i64 h.keep) h1
  have h3 := S.block_setCell (i := 3) (u := .int .i64 h.nd) h2
  have h4 := S.block_setCell (i := 4) (u := .int .i64 h.oe) h3
  have h5 := S.block_setCell (i := 5) (u := .int .i64 iv) h4
  have h6 := S.block_setCell (i := 6) (u := .int .i64 now) h5
  unfold EvAt
  rw [h6]
  simp
theorem bel_set7 {w W : World} {g b : Nat} {h : S.Hd} {iv now : Int} {m : Nat} (hB : Below m w W) (hg : m ≤ g) :
    Below m w (((((((W.setCell ⟨g, 0, none⟩ (.map (some b))).setCell ⟨g, 1, none⟩ (.int .i64 h.fo)).setCell ⟨g, 2, none⟩ (.int .i64 h.keep)).setCell ⟨g, 3, none⟩ (.int .i64 h.nd)).setCell ⟨g, 4, none⟩ (.int .i64 h.oe)).setCell ⟨g, 5, none⟩ (.int .i64 iv)).setCell ⟨g, 6, none⟩ (.int .i64 now)) :=
  ((((((hB.setCell (p := ⟨g, 0, none⟩) hg _).setCell (p := ⟨g, 1, none⟩) hg _).setCell (p := ⟨g, 2, none⟩) hg _).setCell (p := ⟨g, 3, none⟩) hg _).setCell (p := ⟨g, 4, none⟩) hg _).setCell (p := ⟨g, 5, none⟩) hg _).setCell (p := ⟨g, 6, none⟩) hg _
theorem map_set7 {W : World} {g b c : Nat} {h : S.Hd} {iv now : Int} {C : Array Value} {M : List Sd} (hM : MapIs W c M) (hC : W.heap[g]? = some (.cells C 82 (0, 0))) :
    MapIs (((((((W.setCell ⟨g, 0, none⟩ (.map (some b))).setCell ⟨g, 1, none⟩ (.int .i64 h.fo)).setCell ⟨g, 2, none⟩ (.int .i64 h.keep)).setCell ⟨g, 3, none⟩ (.int .i64 h.nd)).setCell ⟨g, 4, none⟩ (.int .i64 h.oe)).setCell ⟨g, 5, none⟩ (.int .i64 iv)).setCell ⟨g, 6, none⟩ (.int .i64 now)) c M := by
  obtain ⟨es, ck, hb⟩ := hM.isMap
  have hne : g ≠ c := fun e => by
    subst e
    rw [hC] at hb
    cases hb
  exact hM.keep (by rw [S.heap_setCell hne, S.heap_setCell hne, S.heap_setCell hne, S.heap_setCell hne, S.heap_setCell hne, S.heap_setCell hne, S.heap_setCell hne])
set_option maxRecDepth 100000 in
set_option maxHeartbeats 4000000 in
theorem update_all (vb vo vl : Value) (l : List En) (own : List Lb) (rs : List Rn) (h : S.Hd) (iv now : Int) (w : World) (g : UpIn w vb vo vl l own rs h iv now) (ha : (decide (0 < l.length) && ofAllB rs) = true) :
    Calls Tryz.prog 11 #[vb, S.encH h, vo, .int .i64 iv, .int .i64 now, vl] w fun e w' => ∃ y z E C, e = .returned (.tuple #[y, z]) ∧ Ens w' y E ∧ Cns w' z C ∧ E.map enF = leftL iv now (heardF h own now rs l) ∧ C.map (·.c) = toldL iv now (heardF h own now rs l) ∧ Below w.heap.size w w' := by
  have hpos : 0 < l.length := by simp at ha; exact ha.1
  have hall : ofAllB rs = true := by simp at ha; exact ha.2
  have hb0 : Below w.heap.size w (w.alloc (.cells #[.int .i64 h.fo, .int .i64 h.keep, .int .i64 h.nd, .int .i64 h.oe] 23)) := (Below.refl _ w).alloc (Nat.le_refl _) _
  have hx0 : (w.alloc (.cells #[.int .i64 h.fo, .int .i64 h.keep, .int .i64 h.nd, .int .i64 h.oe] 23)).heap[w.heap.size]? = some (.cells #[.int .i64 h.fo, .int .i64 h.keep, .int .i64 h.nd, .int .i64 h.oe] 23 (0, 0)) := heap_new _ _
  obtain ⟨ba, bc, rfl⟩ := g.ens.1.shape
  obtain ⟨la, lc, rfl⟩ := g.rns.1.shape
  have hbk := fun W (hW : Below w.heap.size w W) => byKey_any _ l W (g.ens.grow hW) g.rise (by have := g.len; omega)
  have hk0 := hbk _ hb0.drew
  have q0 : (w.alloc (.cells #[.int .i64 h.fo, .int .i64 h.keep, .int .i64 h.nd, .int .i64 h.oe] 23)).cell? ⟨w.heap.size, 0, none⟩ = some (.int .i64 h.fo) := by unfold World.cell?; rw [hx0]; rfl
  have q1 : (w.alloc (.cells #[.int .i64 h.fo, .int .i64 h.keep, .int .i64 h.nd, .int .i64 h.oe] 23)).cell? ⟨w.heap.size, 1, none⟩ = some (.int .i64 h.keep) := by unfold World.cell?; rw [hx0]; rfl
  have q2 : (w.alloc (.cells #[.int .i64 h.fo, .int .i64 h.keep, .int .i64 h.nd, .int .i64 h.oe] 23)).cell? ⟨w.heap.size, 2, none⟩ = some (.int .i64 h.nd) := by unfold World.cell?; rw [hx0]; rfl
  have q3 : (w.alloc (.cells #[.int .i64 h.fo, .int .i64 h.keep, .int .i64 h.nd, .int .i64 h.oe] 23)).cell? ⟨w.heap.size, 3, none⟩ = some (.int .i64 h.oe) := by unfold World.cell?; rw [hx0]; rfl
  unfold S.encH
  go_enter Tryz.func11, Tryz.ntmps11
  go_upto_region 1 with fail
  have keep : ∀ X {b o : Nat} {u : Value}, Below (w.alloc (.cells #[.int .i64 h.fo, .int .i64 h.keep, .int .i64 h.nd, .int .i64 h.oe] 23)).heap.size (w.alloc (.cells #[.int .i64 h.fo, .int .i64 h.keep, .int .i64 h.nd, .int .i64 h.oe] 23)) X → (w.alloc (.cells #[.int .i64 h.fo, .int .i64 h.keep, .int .i64 h.nd, .int .i64 h.oe] 23)).cell? ⟨b, o, none⟩ = some u → X.cell? ⟨b, o, none⟩ = some u := fun X b o u hX h => (hX.cell (p := ⟨b, o, none⟩) (World.block_lt_of_cell? _ _ h)).trans h
  have hsz1 : w.heap.size ≤ (w.alloc (.cells #[.int .i64 h.fo, .int .i64 h.keep, .int .i64 h.nd, .int .i64 h.oe] 23)).heap.size := hb0.size
  generalize (w.alloc (.cells #[.int .i64 h.fo, .int .i64 h.keep, .int .i64 h.nd, .int .i64 h.oe] 23)) = W1 at *
  refine Code.wp_mono (Q := UpQ w (.slice ba l.length bc) vo (.slice la rs.length lc) l h iv now w.heap.size) (upQ ?cont) ?_
  case cont =>
    rintro a W ⟨p, b, t19, t20, t21, t22, t23, t24, rfl, hE, hM, hB, hp, hb⟩
    have hof := isOfAll_any (.slice la rs.length lc) rs W (g.rns.grow hB) (by have := g.rlen; omega) (fun r hr => by have := g.rl r hr; omega)
    rw [hall] at hof
    have hposi : (0 : Int) < (l.length : Int) := by omega
    have hlen := g.len
    have hr1 : Hid (rs.length = 1) := by
      show rs.length = 1
      simp only [ofAllB, Bool.and_eq_true] at hall
      simpa using hall.1
    replace hE : Hid (EvAt W p b h iv now) := hE
    replace hM : Hid (MapIs W b (allK h now (rs.headD rn0).r l 0)) := hM
    replace hB : Hid (Below w.heap.size w W) := hB
    have ha' : Hid ((decide (0 < l.length) && ofAllB rs) = true) := ha
    clear hbk hk0 keep q0 q1 q2 q3 hall ha hx0
    go_wp2_with (go_at_call 34; refine hof.mono ?_; rintro e w3 ⟨rfl, hb3⟩)
    have hB3 : Hid (Below w.heap.size w w3) := hB.out.trans (hb3.mono hB.out.size)
    have hE3 : Hid (EvAt w3 p b h iv now) := hE.out.grow hb3
    have hM3 : Hid (MapIs w3 b (allK h now (rs.headD rn0).r l 0)) := hM.out.grow hb3
    clear hof hE hM hB hb3
    go_loopw [34] (fun i wr => ∃ k : Nat, k ≤ l.length ∧ i = .int .i64 k ∧ Hid (EvAt wr p b h iv now) ∧ Hid (MapIs wr b (allK h now (rs.headD rn0).r l k)) ∧ Hid (Sds wr (allK h now (rs.headD rn0).r l k)) ∧ Hid (Below w.heap.size w wr)) (fun i _ => l.length - (intOf i).toNat)
    case atStart =>
      refine ⟨0, Nat.zero_le _, rfl, hE3, hM3, ?_, hB3⟩
      show Sds _ _
      intro s hs
      have hs' : s ∈ l.map stE := by simpa [allK] using hs
      obtain ⟨e, he, rfl⟩ := List.mem_map.1 hs'
      exact Sls.grow (g.ens.2 e he) hB3.out
    case round =>
      obtain ⟨k, hk, rfl, hE, hM, hS, hB⟩ := hrel
      by_cases hlt : k < l.length
      · have hki : (k : Int) < (l.length : Int) := by omega
        obtain ⟨bb, o, rfl, hat⟩ := en_at (Sls.grow g.ens.1 hB.out) k hlt
        obtain ⟨x0, x1, x2, x3, x4, x5, x6, x7⟩ := at_en hat
        obtain ⟨bl, ol, rfl, hatr⟩ := rn_at (Sls.grow g.rns.1 hB.out) 0 (by rw [hr1.out]; decide)
        have hr0 : rs.headD rn0 = rs.getD 0 rn0 := by cases rs <;> rfl
        rw [hr0] at hM hS ⊢
        simp only [Nat.zero_mul, Nat.add_zero] at hatr
        obtain ⟨y0, y1, y2, y3⟩ := at_rn hatr
        have hrl0 : (0 : Int) < (rs.length : Int) := by rw [hr1.out]; decide
        obtain ⟨hget, hput⟩ := allK_succ (h := h) (now := now) (r := (rs.getD 0 rn0).r) g.rise hlt
        have hmem := getD_mem l en0 k hlt
        have hset := g.rise.2 _ hmem
        have hfine := g.fine _ hmem
        have hlb := Sls.grow (g.ens.2 _ hmem) hB.out
        have hkl : (allK h now (rs.getD 0 rn0).r l k).length < 1000000 := by
          have : (allK h now (rs.getD 0 rn0).r l k).length = l.length := by unfold allK; simp; omega
          rw [this]; have := g.len; omega
        generalize allK h now (rs.getD 0 rn0).r l k = M0 at *
        generalize hM1 : allK h now (rs.getD 0 rn0).r l (k + 1) = M1 at *
        generalize rs.getD 0 rn0 = r at *
        generalize l.getD k en0 = e at *
        obtain ⟨⟨ea, en, ec⟩, els, ⟨st, since, fr, quiet, seen, vk, vn⟩⟩ := e
        simp only at *
        replace hE : Hid (EvAt wr p b h iv now) := hE
        replace hM : Hid (MapIs wr b M0) := hM
        replace hS : Hid (Sds wr M0) := hS
        replace hget : Hid (getG (fun s : Sd => s.s.ls) M0 els = some (stE ⟨⟨ea, en, ec⟩, els, ⟨st, since, fr, quiet, seen, vk, vn⟩⟩)) := hget
        replace hput : Hid (putG (fun s : Sd => s.s.ls) (stS h now r.r ⟨⟨ea, en, ec⟩, els, ⟨st, since, fr, quiet, seen, vk, vn⟩⟩) M0 = M1) := hput
        replace hlb : Hid (Lbs wr (.slice ea en ec) els) := hlb
        replace hset : Hid (IsSet els) := hset
        replace hfine : Hid (Fine now ⟨st, since, fr, quiet, seen, vk, vn⟩) := hfine
        clear hmem hat hatr hr0
        go_upto_region 6 with fail
        have hx5 : (wr.alloc (.cells #[.slice ea en ec, .int .i64 st, .int .i64 since, .int .i64 fr, .int .i64 quiet, .int .i64 seen, .int .i64 vk, .int .i64 vn] 67)).heap[wr.heap.size]? = some (.cells #[.slice ea en ec, .int .i64 st, .int .i64 since, .int .i64 fr, .int .i64 quiet, .int .i64 seen, .int .i64 vk, .int .i64 vn] 67 (0, 0)) := heap_new _ _
        have hG5 : Hid (Below wr.heap.size wr (wr.alloc (.cells #[.slice ea en ec, .int .i64 st, .int .i64 since, .int .i64 fr, .int .i64 quiet, .int .i64 seen, .int .i64 vk, .int .i64 vn] 67))) := (Below.refl _ wr).alloc (Nat.le_refl _) _
        have hx3 : wr.heap.size < (wr.alloc (.cells #[.slice ea en ec, .int .i64 st, .int .i64 since, .int .i64 fr, .int .i64 quiet, .int .i64 seen, .int .i64 vk, .int .i64 vn] 67)).heap.size := by simp
        clear x0 x1 x2 x3 x4 x5 x6 x7
        generalize (wr.alloc (.cells #[.slice ea en ec, .int .i64 st, .int .i64 since, .int .i64 fr, .int .i64 quiet, .int .i64 seen, .int .i64 vk, .int .i64 vn] 67)) = W5 at *
        have hxq : ∀ q : Bel W5, q.W.heap[wr.heap.size]? = some (.cells #[.slice ea en ec, .int .i64 st, .int .i64 since, .int .i64 fr, .int .i64 quiet, .int .i64 seen, .int .i64 vk, .int .i64 vn] 67 (0, 0)) := fun q => (q.h.block _ hx3).trans hx5
        have hGq : ∀ q : Bel W5, Below wr.heap.size wr q.W := fun q => hG5.out.trans (q.h.mono hG5.out.size)
        have s0 : ∀ q : Bel W5, q.W.cell? ⟨wr.heap.size, 0, none⟩ = some (.slice ea en ec) := fun q => by simp [World.cell?, hxq q]
        have t0 : ∀ q : Bel W5, q.W.cell? ⟨bl, ol, none⟩ = some (.slice r.sv.a r.sv.n r.sv.c) := fun q => ((hGq q).cell (p := ⟨bl, ol, none⟩) (World.block_lt_of_cell? wr _ y0)).trans y0
        have t1 : ∀ q : Bel W5, q.W.cell? ⟨bl, ol + 1, none⟩ = some (.int .i64 r.r.k) := fun q => ((hGq q).cell (p := ⟨bl, ol + 1, none⟩) (World.block_lt_of_cell? wr _ y1)).trans y1
        have t2 : ∀ q : Bel W5, q.W.cell? ⟨bl, ol + 2, none⟩ = some (.int .i64 r.r.vk) := fun q => ((hGq q).cell (p := ⟨bl, ol + 2, none⟩) (World.block_lt_of_cell? wr _ y2)).trans y2
        have t3 : ∀ q : Bel W5, q.W.cell? ⟨bl, ol + 3, none⟩ = some (.int .i64 r.r.vn) := fun q => ((hGq q).cell (p := ⟨bl, ol + 3, none⟩) (World.block_lt_of_cell? wr _ y3)).trans y3
        have hkey : ∀ q : Bel W5, Calls Tryz.prog 36 #[.slice ea en ec] q.W fun e w' => e = .returned (.string (keyB els)) ∧ Below q.W.heap.size q.W w' := fun q => key_f _ els _ (Sls.grow hlb.out (hGq q)) hset.out
        have hstep : Hid (∀ W, Below wr.heap.size wr W → Calls Tryz.prog 35 #[.pointer (some ⟨p, 0, none⟩), .string (keyB els), encR r] W fun e w' => e = .returned (.tuple #[]) ∧ MapIs w' b M1 ∧ W.grownBy w' (some b)) := fun W hW => by
          have := step_any p b h iv now els r M0 _ W (hE.out.grow hW) (hM.out.grow hW) hset.out hget.out hkl hfine.out.1 hfine.out.2
          have e2 : putG (fun s : Sd => s.s.ls) ⟨(stE ⟨⟨ea, en, ec⟩, els, ⟨st, since, fr, quiet, seen, vk, vn⟩⟩).sv, stpA h now r.r (stE ⟨⟨ea, en, ec⟩, els, ⟨st, since, fr, quiet, seen, vk, vn⟩⟩).s⟩ M0 = M1 := hput.out
          rw [e2] at this
          exact this
        clear hxq
        refine Yquiettail.region_tail (C := fun W => ∃ p : Bel W5, W = p.W) 6 (by kernel_rfl) (by kernel_rfl) ⟨⟨W5.drew, (Below.refl _ _).drew⟩, rfl⟩ ?_
        dsimp only [List.take, List.drop]
        repeat (go_big_quiet_step (first | (go_at_call 36; exact Calls.bel (hkey _))))
        refine wpQuiet_nil ?_
        rintro w8 ⟨⟨wy, h8⟩, rfl⟩
        have hGy : Below wr.heap.size wr w8 := hGq ⟨w8, h8⟩
        clear s0 t0 t1 t2 t3 hkey hGq y0 y1 y2 y3
        have hs8 := hstep.out w8 hGy
        unfold encR at hs8
        go_wp2_with (go_at_call 35; refine hs8.mono ?_; rintro e w9 ⟨rfl, hM9, hG9⟩)
        have hB8 : Below w.heap.size w w8 := hB.out.trans (hGy.mono hB.out.size)
        have hmap8 := (hM.out.grow hGy).isMap
        go_roundw
        case rel =>
          refine ⟨k + 1, by omega, by go_num, ev_turned (hE.out.grow hGy) hG9 hmap8, ?_, ?_, ?_⟩
          · show MapIs _ _ _
            rw [hM1]
            exact hM9
          · show Sds _ _
            rw [hM1, ← hput.out]
            intro t ht
            rcases (mem_putG hM.out.rise).1 ht with rfl | ⟨hm2, _⟩
            · exact lbs_turned (Sls.grow hlb.out hGy) hG9 hmap8
            · exact lbs_turned (Sls.grow (hS.out t hm2) hGy) hG9 hmap8
          · exact hB8.grown hG9 hB8.size (fun k e => by cases e; exact hb)
        case measure => simp [intOf]; omega
      · obtain rfl : k = l.length := by omega
        have hki : ¬ (l.length : Int) < (l.length : Int) := by omega
        have hH : HeardAt wr p b h iv now (heardF h own now rs l) (allK h now (rs.headD rn0).r l l.length) := ⟨hE.out, hM.out, hS.out, (heardF_all ha'.out).symm⟩
        have hlenK : (allK h now (rs.headD rn0).r l l.length).length = l.length := by unfold allK; simp
        have htold := told_any p b h iv now _ _ wr hH (by rw [hlenK]; have := g.len; omega) g.iv (fun s hs => by
          have hs' : s ∈ l.map (stS h now (rs.headD rn0).r) := by simpa [allK] using hs
          obtain ⟨e, he, rfl⟩ := List.mem_map.1 hs'
          have : (stS h now (rs.headD rn0).r e).s.x.seen = now := (S.step_seen _ h _ _ _ now).1
          rw [this]; omega)
        go_wp2_with (go_at_call 38; refine htold.mono ?_; rintro e w4 ⟨y, z, E, C, rfl, hEn, hCn, hE2, hC2, hb4⟩)
        go_ret2
        exact ⟨_, _, E, C, rfl, hEn, hCn, hE2, hC2, hB.out.trans (hb4.mono hB.out.size)⟩
  have hZ1 : Below W1.heap.size W1 (W1.drew.alloc (.cells #[.map none, .int .i64 0, .int .i64 0, .int .i64 0, .int .i64 0, .int .i64 0, .int .i64 0] 82)) := ((Below.refl _ W1).drew).alloc (Nat.le_refl _) _
  have hk1 := hbk _ (hb0.trans (hZ1.mono hb0.size))
  have hZ3 : Below W1.heap.size W1 (W1.alloc (.cells #[.map none, .int .i64 0, .int .i64 0, .int .i64 0, .int .i64 0, .int .i64 0, .int .i64 0] 82)).drew := ((Below.refl _ W1).alloc (Nat.le_refl _) _).drew
  have z0 := keep _ hZ3 q0
  have z1 := keep _ hZ3 q1
  have z2 := keep _ hZ3 q2
  have z3 := keep _ hZ3 q3
  go_region_law (first
    | (go_simp; go_at_call 33; refine hk0.mono ?_; rintro e w2 ⟨b, rfl, hM2, hb2, hbb⟩; have hX2 : Below W1.heap.size W1 w2 := ((Below.refl _ W1).drew).trans (hb2.mono (Nat.le_refl _)); have y0 := keep _ hX2 q0; have y1 := keep _ hX2 q1; have y2 := keep _ hX2 q2; have y3 := keep _ hX2 q3; have hX3 : Below W1.heap.size W1 (w2.alloc (.cells #[.map none, .int .i64 0, .int .i64 0, .int .i64 0, .int .i64 0, .int .i64 0, .int .i64 0] 82)) := hX2.alloc hX2.size _; have v0 := keep _ hX3 q0; have v1 := keep _ hX3 q1; have v2 := keep _ hX3 q2; have v3 := keep _ hX3 q3)
    | (go_simp; go_at_call 33; refine hk1.mono ?_; rintro e w2 ⟨b, rfl, hM2, hb2, hbb⟩; have hX2 : Below W1.heap.size W1 w2 := hZ1.trans (hb2.mono hZ1.size); have y0 := keep _ hX2 q0; have y1 := keep _ hX2 q1; have y2 := keep _ hX2 q2; have y3 := keep _ hX2 q3; have hZ2 : w2.heap[W1.heap.size]? = some (.cells #[.map none, .int .i64 0, .int .i64 0, .int .i64 0, .int .i64 0, .int .i64 0, .int .i64 0] 82 (0, 0)) := ((hb2.block _ (by simp)).trans (heap_new W1.drew _)); have o0 : w2.cell? ⟨W1.heap.size, 0, none⟩ = some (.map none) := (by unfold World.cell?; rw [hZ2]; rfl); have o1 : w2.cell? ⟨W1.heap.size, 1, none⟩ = some (.int .i64 0) := (by unfold World.cell?; rw [hZ2]; rfl); have o2 : w2.cell? ⟨W1.heap.size, 2, none⟩ = some (.int .i64 0) := (by unfold World.cell?; rw [hZ2]; rfl); have o3 : w2.cell? ⟨W1.heap.size, 3, none⟩ = some (.int .i64 0) := (by unfold World.cell?; rw [hZ2]; rfl); have o4 : w2.cell? ⟨W1.heap.size, 4, none⟩ = some (.int .i64 0) := (by unfold World.cell?; rw [hZ2]; rfl); have o5 : w2.cell? ⟨W1.heap.size, 5, none⟩ = some (.int .i64 0) := (by unfold World.cell?; rw [hZ2]; rfl); have o6 : w2.cell? ⟨W1.heap.size, 6, none⟩ = some (.int .i64 0) := (by unfold World.cell?; rw [hZ2]; rfl); have of : ∀ i, w2.frozen? ⟨W1.heap.size, i, none⟩ = false := (fun i => by simp [World.frozen?, hZ2])))
  all_goals
    have hB2 : Below w.heap.size w w2 := hb0.trans (hX2.mono hb0.size)
    have hbb2 : w.heap.size ≤ b := Nat.le_trans hsz1 (by first | exact hbb | exact Nat.le_trans (by simp) hbb)
  · exact ⟨w2.heap.size, b, _, _, _, _, _, _, rfl, heap_new _ _, hM2.grow ((Below.refl _ w2).alloc (Nat.le_refl _) _), hB2.alloc hB2.size _, hB2.size, hbb2⟩
  · exact ⟨w2.heap.size, b, _, _, _, _, _, _, rfl, heap_new _ _, hM2.grow ((Below.refl _ w2).alloc (Nat.le_refl _) _), hB2.alloc hB2.size _, hB2.size, hbb2⟩
  · exact ⟨w2.heap.size, b, _, _, _, _, _, _, rfl, heap_new _ _, hM2.grow ((Below.refl _ w2).alloc (Nat.le_refl _) _), hB2.alloc hB2.size _, hB2.size, hbb2⟩
  · exact ⟨W1.heap.size, b, _, _, _, _, _, _, rfl, ev_set hZ2, map_set7 hM2 hZ2, bel_set7 hB2 hsz1, hsz1, hbb2⟩
  · exact ⟨W1.heap.size, b, _, _, _, _, _, _, rfl, ev_set hZ2, map_set7 hM2 hZ2, bel_set7 hB2 hsz1, hsz1, hbb2⟩
  · exact ⟨W1.heap.size, b, _, _, _, _, _, _, rfl, ev_set hZ2, map_set7 hM2 hZ2, bel_set7 hB2 hsz1, hsz1, hbb2⟩
end Go.Proofs.YtiajafljgfpdcaaGreat
/- slices.Equal of labels, isSet, mayBe, Check. -/
namespace Go.Proofs.YtiajafljgfpdcaaGreat
set_option linter.unusedVariables false
open Go.RowKit
set_option maxRecDepth 100000 in
set_option maxHeartbeats 2000000 in
theorem equal105 (v u : Value) (a b : List Lb) (w : World) (hv : Lbs w v a) (hu : Lbs w u b) (hla : a.length ≤ 1000000) (hlb : b.length ≤ 1000000) :
    Calls Tryz.prog 105 #[v, u] w fun e w' => e = .returned (.bool (decide (a = b))) ∧ Below w.heap.size w w' := by
  obtain ⟨a1, c1, rfl⟩ := hv.shape
  obtain ⟨a2, c2, rfl⟩ := hu.shape
  replace hv : Hid (Lbs w (.slice a1 a.length c1) a) := hv
  replace hu : Hid (Lbs w (.slice a2 b.length c2) b) := hu
  by_cases hlen : a.length = b.length
  · go_enter Tryz.func105, Tryz.ntmps105
    go_wp2
    go_loopw [13] (fun i wr => ∃ k d : Nat, k ≤ a.length ∧ i = .int .i64 k ∧ Hid (a.take k = b.take k) ∧ wr = w.drewN d) (fun i _ => a.length - (intOf i).toNat)
    case atStart => exact ⟨0, 0, Nat.zero_le _, rfl, rfl, rfl⟩
    case round =>
      obtain ⟨k, d, hk, rfl, htk, rfl⟩ := hrel
      by_cases hlt : k < a.length
      · have hki : (k : Int) < (a.length : Int) := by omega
        have hkb : (k : Int) < (b.length : Int) := by omega
        obtain ⟨b1, o1, rfl, x0, x1⟩ := lb_at hv.out k (by omega)
        obtain ⟨b2, o2, rfl, y0, y1⟩ := lb_at hu.out k (by omega)
        by_cases hpq : a.getD k lb0 = b.getD k lb0
        · have hst : Hid (a.take (k + 1) = b.take (k + 1)) := by
            show _ = _
            rw [take_getD a lb0 k (by omega), take_getD b lb0 k (by omega), htk.out, hpq]
          rw [hpq] at x0 x1
          clear hpq
          generalize b.getD k lb0 = x at *
          obtain ⟨nx, vx⟩ := x
          simp only at x0 x1 y0 y1
          go_wp2
          go_quiet (fail)
          go_wp2
          refine ⟨⟨k + 1, _, by omega, by go_num, hst, rfl⟩, ?_⟩
          simp [intOf]; omega
        · have hne : Hid (decide (a = b) = false) := by
            show _ = _
            rw [decide_eq_false_iff_not]
            intro e
            exact hpq (by rw [e])
          have hb3 : (((a.getD k lb0).name.toList == (b.getD k lb0).name.toList) = false) ∨ (((a.getD k lb0).name.toList == (b.getD k lb0).name.toList) = true ∧ ((a.getD k lb0).value.toList == (b.getD k lb0).value.toList) = false) := by
            cases e2 : ((a.getD k lb0).name.toList == (b.getD k lb0).name.toList) with
            | false => exact .inl rfl
            | true =>
              cases e3 : ((a.getD k lb0).value.toList == (b.getD k lb0).value.toList) with
              | false => exact .inr ⟨rfl, rfl⟩
              | true =>
                exfalso
                exact hpq (lb_ext (toList_eq e2) (toList_eq e3))
          clear hpq
          generalize a.getD k lb0 = x at *
          generalize b.getD k lb0 = y at *
          obtain ⟨nx, vx⟩ := x
          obtain ⟨ny, vy⟩ := y
          simp only at x0 x1 y0 y1 hb3
          rcases hb3 with e1 | ⟨e1, e2⟩
          all_goals
            go_wp2
            go_quiet (fail)
            go_wp2
            go_ret
            exact ⟨by have h9 := hne.out; rw [decide_eq_false_iff_not] at h9; simp [h9], below_drewN (below_drewN (Below.refl _ _) _) _⟩
      · obtain rfl : k = a.length := by omega
        have hki : ¬ (a.length : Int) < (a.length : Int) := by omega
        have heq : Hid (a = b) := by
          show a = b
          have := htk.out
          rw [List.take_of_length_le (Nat.le_refl _), hlen, List.take_of_length_le (Nat.le_refl _)] at this
          exact this
        go_wp2
        go_ret
        exact ⟨by have h9 := heq.out; simp [h9], below_drewN (Below.refl _ _) _⟩
  · have hne : decide (a = b) = false := by
      rw [decide_eq_false_iff_not]
      intro e
      exact hlen (by rw [e])
    have hli : ¬ (a.length : Int) = (b.length : Int) := by omega
    rw [hne]
    go_enter Tryz.func105, Tryz.ntmps105
    go_wp2
    go_ret
    exact ⟨rfl, Below.refl _ _⟩
theorem setB_of {l out : List Lb} {er : Int} (h : MkQ l out er) : setB l = (decide (er = 0) && decide (out = l)) := by
  by_cases hs : IsSet l
  · obtain ⟨rfl, rfl⟩ := h.one hs.make
    simp [setB, hs]
  · have : ¬ (er = 0 ∧ out = l) := fun ⟨h1, h2⟩ => hs (h2 ▸ h.set h1)
    rw [setB_no hs]
    by_cases h1 : er = 0
    · have h2 : out ≠ l := fun e => this ⟨h1, e⟩
      simp [h2]
    · simp [h1]
set_option maxRecDepth 100000 in
set_option maxHeartbeats 2000000 in
theorem isSet82 (v : Value) (l : List Lb) (w : World) (hv : Lbs w v l) (hr : LbsR l) (hl : l.length ≤ 100000) : Calls Tryz.prog 82 #[v] w fun e w' => e = .returned (.bool (setB l)) ∧ Below w.heap.size w w' := by
  have hm : ∃ out er, Calls Tryz.prog 99 #[v] w fun e w' => ∃ u, e = .returned (.tuple #[u, .int .i64 er]) ∧ MkQ l out er ∧ OwnL w' w.heap.size u out ∧ Below w.heap.size w w' := by
    rcases hf : mkF l with ⟨out, er⟩
    refine ⟨out, er, (make_any v l w hv hr hl).mono ?_⟩
    rintro e w' ⟨u, out1, er1, rfl, hQ, hO, hB⟩
    have := mkF_of hQ
    rw [hf] at this
    obtain ⟨rfl, rfl⟩ := Prod.mk.inj this
    exact ⟨u, rfl, hQ, hO, hB⟩
  obtain ⟨out, er, hm⟩ := hm
  by_cases h0 : er = 0
  · subst h0
    have he := fun u w1 (hQ : MkQ l out 0) (hO : OwnL w1 w.heap.size u out) (hb : Below w.heap.size w w1) => equal105 u v out l w1 hO.sls (Sls.grow hv hb) (by have := hQ.set rfl; have := this.2.2; omega) (by omega)
    obtain ⟨a, c, rfl⟩ := hv.shape
    go_enter Tryz.func82, Tryz.ntmps82
    go_wp2_with (first
      | (go_at_call 99; refine hm.mono ?_; rintro e w1 ⟨u, rfl, hQ, hO, hb1⟩)
      | (go_at_call 105; refine (he _ _ hQ hO hb1).mono ?_; rintro e w2 ⟨rfl, hb2⟩))
    go_ret
    exact ⟨by rw [setB_of hQ]; simp, hb1.trans (hb2.mono hb1.size)⟩
  · obtain ⟨a, c, rfl⟩ := hv.shape
    go_enter Tryz.func82, Tryz.ntmps82
    go_wp2_with (first
      | (go_at_call 99; refine hm.mono ?_; rintro e w1 ⟨u, rfl, hQ, hO, hb1⟩))
    go_ret
    exact ⟨by rw [setB_of hQ]; simp [h0], hb1⟩
/-- An entry that may be. -/
noncomputable def mbB (e : List Lb × S.Inst) : Bool := setB e.1 && S.okB e.2
set_option maxRecDepth 100000 in
set_option maxHeartbeats 2000000 in
theorem mayBe46 (e : En) (w : World) (hv : Lbs w e.sv.v e.ls) (hr : LbsR e.ls) (hl : e.ls.length ≤ 100000) : Calls Tryz.prog 46 #[encE e] w fun e' w' => e' = .returned (.bool (mbB (enF e))) ∧ Below w.heap.size w w' := by
  have hb0 : Below w.heap.size w (w.alloc (.cells #[.slice e.sv.a e.sv.n e.sv.c, .int .i64 e.x.st, .int .i64 e.x.since, .int .i64 e.x.fr, .int .i64 e.x.quiet, .int .i64 e.x.seen, .int .i64 e.x.vk, .int .i64 e.x.vn] 67)) := (Below.refl _ w).alloc (Nat.le_refl _) _
  have hx0 : (w.alloc (.cells #[.slice e.sv.a e.sv.n e.sv.c, .int .i64 e.x.st, .int .i64 e.x.since, .int .i64 e.x.fr, .int .i64 e.x.quiet, .int .i64 e.x.seen, .int .i64 e.x.vk, .int .i64 e.x.vn] 67)).heap[w.heap.size]? = some (.cells #[.slice e.sv.a e.sv.n e.sv.c, .int .i64 e.x.st, .int .i64 e.x.since, .int .i64 e.x.fr, .int .i64 e.x.quiet, .int .i64 e.x.seen, .int .i64 e.x.vk, .int .i64 e.x.vn] 67 (0, 0)) := heap_new _ _
  have hset := isSet82 e.sv.v e.ls _ (Sls.grow hv hb0) hr hl
  have hchk := fun W => S.check11 e.x W
  obtain ⟨⟨ea, en, ec⟩, els, ⟨st, since, fr, quiet, seen, vk, vn⟩⟩ := e
  unfold encE
  unfold S.encI at hchk
  unfold Sv.v at hset
  simp only at *
  have hmb : mbB (enF ⟨⟨ea, en, ec⟩, els, ⟨st, since, fr, quiet, seen, vk, vn⟩⟩) = (setB els && S.okB ⟨st, since, fr, quiet, seen, vk, vn⟩) := rfl
  rw [hmb]
  cases hsb : setB els with
  | false =>
    rw [hsb] at hset
    go_enter Tryz.func46, Tryz.ntmps46
    go_wp2_with (go_at_call 82; refine hset.mono ?_; rintro e w1 ⟨rfl, hb1⟩)
    go_ret
    exact ⟨rfl, hb0.trans (hb1.mono hb0.size)⟩
  | true =>
    rw [hsb] at hset
    have hx := fun w1 (hb1 : Below (w.alloc (.cells #[.slice ea en ec, .int .i64 st, .int .i64 since, .int .i64 fr, .int .i64 quiet, .int .i64 seen, .int .i64 vk, .int .i64 vn] 67)).heap.size (w.alloc (.cells #[.slice ea en ec, .int .i64 st, .int .i64 since, .int .i64 fr, .int .i64 quiet, .int .i64 seen, .int .i64 vk, .int .i64 vn] 67)) w1) => (hb1.block w.heap.size (by simp)).trans hx0
    have hcells : ∀ (w1 : World), w1.heap[w.heap.size]? = some (.cells #[.slice ea en ec, .int .i64 st, .int .i64 since, .int .i64 fr, .int .i64 quiet, .int .i64 seen, .int .i64 vk, .int .i64 vn] 67 (0, 0)) → w1.cell? ⟨w.heap.size, 1, none⟩ = some (.int .i64 st) ∧ w1.cell? ⟨w.heap.size, 2, none⟩ = some (.int .i64 since) ∧ w1.cell? ⟨w.heap.size, 3, none⟩ = some (.int .i64 fr) ∧ w1.cell? ⟨w.heap.size, 4, none⟩ = some (.int .i64 quiet) ∧ w1.cell? ⟨w.heap.size, 5, none⟩ = some (.int .i64 seen) ∧ w1.cell? ⟨w.heap.size, 6, none⟩ = some (.int .i64 vk) ∧ w1.cell? ⟨w.heap.size, 7, none⟩ = some (.int .i64 vn) :=
      fun w1 h => by simp [World.cell?, h]
    have hce : S.chE ⟨st, since, fr, quiet, seen, vk, vn⟩ = if S.okB ⟨st, since, fr, quiet, seen, vk, vn⟩ then 0 else 2 := rfl
    cases hok : S.okB ⟨st, since, fr, quiet, seen, vk, vn⟩ with
    | true =>
      rw [hok] at hce
      simp only [if_true] at hce
      rw [hce] at hchk
      clear hok hce hsb
      go_enter Tryz.func46, Tryz.ntmps46
      go_wp2_with (first
        | (go_at_call 82; refine hset.mono ?_; rintro e w1 ⟨rfl, hb1⟩; obtain ⟨p1, p2, p3, p4, p5, p6, p7⟩ := hcells w1 (hx w1 hb1))
        | (go_at_call 83; refine (hchk _).mono ?_; rintro e w2 ⟨rfl, hb2⟩))
      go_ret
      exact ⟨rfl, (hb0.trans (hb1.mono hb0.size)).trans (hb2.mono (hb0.trans (hb1.mono hb0.size)).size)⟩
    | false =>
      rw [hok] at hce
      simp only [Bool.false_eq_true, if_false] at hce
      rw [hce] at hchk
      clear hok hce hsb
      go_enter Tryz.func46, Tryz.ntmps46
      go_wp2_with (first
        | (go_at_call 82; refine hset.mono ?_; rintro e w1 ⟨rfl, hb1⟩; obtain ⟨p1, p2, p3, p4, p5, p6, p7⟩ := hcells w1 (hx w1 hb1))
        | (go_at_call 83; refine (hchk _).mono ?_; rintro e w2 ⟨rfl, hb2⟩))
      go_ret
      exact ⟨rfl, (hb0.trans (hb1.mono hb0.size)).trans (hb2.mono (hb0.trans (hb1.mono hb0.size)).size)⟩
/-- A board. -/
def IsBd (l : List (List Lb × S.Inst)) : Prop := RiseG (fun e : List Lb × S.Inst => e.1) l ∧ ∀ e ∈ l, mbB e = true
open Classical in
/-- What Check tells. -/
noncomputable def chkF (l : List (List Lb × S.Inst)) : Int := if 100 < l.length then 6 else if IsBd l then 0 else 2
theorem bd_nil : IsBd [] := ⟨RiseG.nil, by simp⟩
theorem bd_take {l : List (List Lb × S.Inst)} (h : IsBd l) (k : Nat) : IsBd (l.take k) := ⟨List.Pairwise.sublist (List.take_sublist k l) h.1, fun e he => h.2 e (List.mem_of_mem_take he)⟩
def pr0 : List Lb × S.Inst := enF en0
theorem bd_succ {l : List (List Lb × S.Inst)} {k : Nat} (hk : k < l.length) (h : IsBd (l.take k)) (hm : mbB (l.getD k pr0) = true) (hc : k = 0 ∨ cmpS (l.getD (k - 1) pr0).1 (l.getD k pr0).1 = -1) : IsBd (l.take (k + 1)) := by
  rw [take_getD l pr0 k hk]
  refine ⟨?_, fun e he => ?_⟩
  · unfold RiseG
    rw [List.pairwise_append]
    refine ⟨h.1, List.pairwise_singleton _ _, fun a ha b hb => ?_⟩
    obtain rfl : b = l.getD k pr0 := by simpa using hb
    rcases hc with rfl | hc
    · simp at ha
    · obtain ⟨j, hj, rfl⟩ := List.mem_iff_getElem.1 ha
      rw [List.length_take] at hj
      by_cases hjk : j = k - 1
      · subst hjk
        rw [List.getElem_take]
        have : l.getD (k - 1) pr0 = l[k - 1] := by simp [show k - 1 < l.length by omega]
        rw [← this]; exact hc
      · have h1 := List.pairwise_iff_getElem.1 h.1 j (k - 1) (by rw [List.length_take]; omega) (by rw [List.length_take]; omega) (by omega)
        rw [List.getElem_take] at h1 ⊢
        rw [List.getElem_take] at h1
        have : l.getD (k - 1) pr0 = l[k - 1] := by simp [show k - 1 < l.length by omega]
        rw [← this] at h1
        exact cmpS_trans h1 hc
  · rcases List.mem_append.1 he with he | he
    · exact h.2 e he
    · obtain rfl : e = l.getD k pr0 := by simpa using he
      exact hm
theorem bd_not_mb {l : List (List Lb × S.Inst)} {k : Nat} (hk : k < l.length) (hm : mbB (l.getD k pr0) = false) : ¬ IsBd l := fun h => by
  rw [h.2 _ (getD_mem l pr0 k hk)] at hm; cases hm
theorem bd_not_cmp {l : List (List Lb × S.Inst)} {k : Nat} (hk : k < l.length) (h0 : 0 < k) (hc : cmpS (l.getD (k - 1) pr0).1 (l.getD k pr0).1 ≠ -1) : ¬ IsBd l := fun h => by
  have h1 := List.pairwise_iff_getElem.1 h.1 (k - 1) k (by omega) hk (by omega)
  have e1 : l.getD (k - 1) pr0 = l[k - 1] := by simp [show k - 1 < l.length by omega]
  have e2 : l.getD k pr0 = l[k] := by simp [hk]
  rw [e1, e2] at hc
  exact hc h1
theorem getD_map (l : List En) (k : Nat) : (l.map enF).getD k pr0 = enF (l.getD k en0) := by
  rw [List.getD_eq_getElem?_getD, List.getElem?_map, List.getD_eq_getElem?_getD]
  cases l[k]? <;> rfl
set_option maxRecDepth 100000 in
set_option maxHeartbeats 4000000 in
theorem check17 (v : Value) (l : List En) (w : World) (hv : Ens w v l) (hl : l.length ≤ 1000000) (hr : ∀ e ∈ l, LbsR e.ls ∧ e.ls.length ≤ 100000) : Calls Tryz.prog 17 #[v] w fun e w' => e = .returned (.int .i64 (chkF (l.map enF))) ∧ Below w.heap.size w w' := by
  obtain ⟨a, c, rfl⟩ := hv.1.shape
  have hlm : (l.map enF).length = l.length := List.length_map _
  by_cases h100 : 100 < l.length
  · have hF : chkF (l.map enF) = 6 := by unfold chkF; rw [hlm, if_pos h100]
    rw [hF]
    have hi : (100 : Int) < (l.length : Int) := by omega
    go_enter Tryz.func17, Tryz.ntmps17
    go_wp2
    go_ret
    exact ⟨rfl, Below.refl _ _⟩
  · have hi : ¬ (100 : Int) < (l.length : Int) := by omega
    have hF0 : Hid (IsBd (l.map enF) → chkF (l.map enF) = 0) := fun h => by unfold chkF; rw [hlm, if_neg h100, if_pos h]
    have hF2 : Hid (¬ IsBd (l.map enF) → chkF (l.map enF) = 2) := fun h => by unfold chkF; rw [hlm, if_neg h100, if_neg h]
    go_enter Tryz.func17, Tryz.ntmps17
    go_wp2
    go_loopw [10] (fun i wr => ∃ k : Nat, k ≤ l.length ∧ i = .int .i64 k ∧ Hid (IsBd ((l.map enF).take k)) ∧ Hid (Below w.heap.size w wr)) (fun i _ => l.length - (intOf i).toNat)
    case atStart => exact ⟨0, Nat.zero_le _, rfl, (show IsBd _ by rw [List.take_zero]; exact bd_nil), Below.refl _ _⟩
    case round =>
      obtain ⟨k, hk, rfl, hG, hB⟩ := hrel
      by_cases hlt : k < l.length
      · have hki : (k : Int) < (l.length : Int) := by omega
        have hltm : k < (l.map enF).length := by omega
        obtain ⟨bb, o, rfl, hat⟩ := en_at (Sls.grow hv.1 hB.out) k hlt
        obtain ⟨x0, x1, x2, x3, x4, x5, x6, x7⟩ := at_en hat
        have hmem := getD_mem l en0 k hlt
        have hmb := fun W (hW : Below wr.heap.size wr W) => mayBe46 (l.getD k en0) W (Sls.grow (Sls.grow (hv.2 _ hmem) hB.out) hW) (hr _ hmem).1 (hr _ hmem).2
        have hnm := bd_not_mb (l := l.map enF) hltm
        have hlb := Sls.grow (hv.2 _ hmem) hB.out
        have hlb2 := (hr _ hmem).2
        rw [getD_map] at hnm
        have hG5 : Hid (Below wr.heap.size wr (wr.alloc (.cells #[.slice (l.getD k en0).sv.a (l.getD k en0).sv.n (l.getD k en0).sv.c, .int .i64 (l.getD k en0).x.st, .int .i64 (l.getD k en0).x.since, .int .i64 (l.getD k en0).x.fr, .int .i64 (l.getD k en0).x.quiet, .int .i64 (l.getD k en0).x.seen, .int .i64 (l.getD k en0).x.vk, .int .i64 (l.getD k en0).x.vn] 67))) := (Below.refl _ wr).alloc (Nat.le_refl _) _
        have hx5 := heap_new wr (.cells #[.slice (l.getD k en0).sv.a (l.getD k en0).sv.n (l.getD k en0).sv.c, .int .i64 (l.getD k en0).x.st, .int .i64 (l.getD k en0).x.since, .int .i64 (l.getD k en0).x.fr, .int .i64 (l.getD k en0).x.quiet, .int .i64 (l.getD k en0).x.seen, .int .i64 (l.getD k en0).x.vk, .int .i64 (l.getD k en0).x.vn] 67)
        have hx3 : wr.heap.size < (wr.alloc (.cells #[.slice (l.getD k en0).sv.a (l.getD k en0).sv.n (l.getD k en0).sv.c, .int .i64 (l.getD k en0).x.st, .int .i64 (l.getD k en0).x.since, .int .i64 (l.getD k en0).x.fr, .int .i64 (l.getD k en0).x.quiet, .int .i64 (l.getD k en0).x.seen, .int .i64 (l.getD k en0).x.vk, .int .i64 (l.getD k en0).x.vn] 67)).heap.size := by simp
        have hB5 : Hid (Below w.heap.size w (wr.alloc (.cells #[.slice (l.getD k en0).sv.a (l.getD k en0).sv.n (l.getD k en0).sv.c, .int .i64 (l.getD k en0).x.st, .int .i64 (l.getD k en0).x.since, .int .i64 (l.getD k en0).x.fr, .int .i64 (l.getD k en0).x.quiet, .int .i64 (l.getD k en0).x.seen, .int .i64 (l.getD k en0).x.vk, .int .i64 (l.getD k en0).x.vn] 67))) := hB.out.trans (hG5.out.mono hB.out.size)
        have hbs := bd_succ (l := l.map enF) hltm hG.out
        have hnc := bd_not_cmp (l := l.map enF) hltm
        rw [getD_map, getD_map] at hbs hnc
        have hprev : ∀ j, k = j + 1 → ∃ bb2 o2, (some ⟨bb, o, none⟩ : Option Addr) = some ⟨bb2, o2, none⟩ ∧ At eEn wr bb2 (o2 + j * 8) (l.getD j en0) := fun j hj => en_at (Sls.grow hv.1 hB.out) j (by omega)
        have hplb : ∀ j, k = j + 1 → Lbs wr (l.getD j en0).sv.v (l.getD j en0).ls ∧ (l.getD j en0).ls.length ≤ 100000 := fun j hj => ⟨Sls.grow (hv.2 _ (getD_mem l en0 j (by omega))) hB.out, (hr _ (getD_mem l en0 j (by omega))).2⟩
        have hke : k - 1 = k - 1 := rfl
        generalize hE : l.getD k en0 = e at *
        obtain ⟨⟨ea, en, ec⟩, els, ⟨st, since, fr, quiet, seen, vk, vn⟩⟩ := e
        unfold encE at hmb
        unfold Sv.v at hlb
        simp only at *
        have hmb2 : ∀ (W5 : World), Below wr.heap.size wr W5 → ∀ q : Bel W5, Calls Tryz.prog 46 #[.agg #[.slice ea en ec, .int .i64 st, .int .i64 since, .int .i64 fr, .int .i64 quiet, .int .i64 seen, .int .i64 vk, .int .i64 vn]] q.W fun e' w' => e' = .returned (.bool (mbB (enF ⟨⟨ea, en, ec⟩, els, ⟨st, since, fr, quiet, seen, vk, vn⟩⟩))) ∧ Below q.W.heap.size q.W w' := fun W5 h q => hmb _ (h.trans (q.h.mono h.size))
        go_upto_region 6 with fail
        generalize (wr.alloc (.cells #[.slice ea en ec, .int .i64 st, .int .i64 since, .int .i64 fr, .int .i64 quiet, .int .i64 seen, .int .i64 vk, .int .i64 vn] 67)) = W5 at *
        have hmb3 := hmb2 W5 hG5.out
        have hxq : ∀ q : Bel W5, q.W.heap[wr.heap.size]? = some (.cells #[.slice ea en ec, .int .i64 st, .int .i64 since, .int .i64 fr, .int .i64 quiet, .int .i64 seen, .int .i64 vk, .int .i64 vn] 67 (0, 0)) := fun q => (q.h.block _ hx3).trans hx5
        have s0 : ∀ q : Bel W5, q.W.cell? ⟨wr.heap.size, 0, none⟩ = some (.slice ea en ec) := fun q => by simp [World.cell?, hxq q]
        have s1 : ∀ q : Bel W5, q.W.cell? ⟨wr.heap.size, 1, none⟩ = some (.int .i64 st) := fun q => by simp [World.cell?, hxq q]
        have s2 : ∀ q : Bel W5, q.W.cell? ⟨wr.heap.size, 2, none⟩ = some (.int .i64 since) := fun q => by simp [World.cell?, hxq q]
        have s3 : ∀ q : Bel W5, q.W.cell? ⟨wr.heap.size, 3, none⟩ = some (.int .i64 fr) := fun q => by simp [World.cell?, hxq q]
        have s4 : ∀ q : Bel W5, q.W.cell? ⟨wr.heap.size, 4, none⟩ = some (.int .i64 quiet) := fun q => by simp [World.cell?, hxq q]
        have s5 : ∀ q : Bel W5, q.W.cell? ⟨wr.heap.size, 5, none⟩ = some (.int .i64 seen) := fun q => by simp [World.cell?, hxq q]
        have s6 : ∀ q : Bel W5, q.W.cell? ⟨wr.heap.size, 6, none⟩ = some (.int .i64 vk) := fun q => by simp [World.cell?, hxq q]
        have s7 : ∀ q : Bel W5, q.W.cell? ⟨wr.heap.size, 7, none⟩ = some (.int .i64 vn) := fun q => by simp [World.cell?, hxq q]
        have hGq : ∀ q : Bel W5, Below wr.heap.size wr q.W := fun q => hG5.out.trans (q.h.mono hG5.out.size)
        clear hxq hmb hmb2 x0 x1 x2 x3 x4 x5 x6 x7 hat
        replace hnm : Hid (mbB (enF ⟨⟨ea, en, ec⟩, els, ⟨st, since, fr, quiet, seen, vk, vn⟩⟩) = false → ¬ IsBd (l.map enF)) := hnm
        cases hmbc : mbB (enF ⟨⟨ea, en, ec⟩, els, ⟨st, since, fr, quiet, seen, vk, vn⟩⟩) with
        | false =>
          rw [hmbc] at hmb3
          have hR : Hid (chkF (l.map enF) = 2) := hF2.out (hnm.out hmbc)
          clear hbs hnc hmbc
          refine wp_region_bel (by kernel_rfl) (by kernel_rfl) ?_
          repeat (go_big_quiet_step (first | (go_at_call 46; exact Calls.bel (hmb3 _))))
          refine wpQuiet_nil ?_
          rintro w8 ⟨⟨_, h8⟩, rfl⟩
          go_wp2
          go_ret
          exact ⟨by rw [hR.out]; rfl, hB5.out.trans (h8.mono hB5.out.size)⟩
        | true =>
          rw [hmbc] at hmb3
          cases k with
          | zero =>
            have hG2 : Hid (IsBd ((l.map enF).take (0 + 1))) := hbs hmbc (.inl rfl)
            clear hbs hnc hmbc
            refine wp_region_bel (by kernel_rfl) (by kernel_rfl) ?_
            repeat (go_big_quiet_step (first | (go_at_call 46; exact Calls.bel (hmb3 _))))
            refine wpQuiet_nil ?_
            rintro w8 ⟨⟨_, h8⟩, rfl⟩
            have hB8 : Hid (Below w.heap.size w w8) := hB5.out.trans (Below.mono h8 hB5.out.size)
            go_wp2
            refine ⟨⟨0 + 1, by omega, by go_num, hG2, hB8⟩, ?_⟩
            simp [intOf]; omega
          | succ j =>
            obtain ⟨bb2, o2, he2, hat2⟩ := hprev j rfl
            cases he2
            obtain ⟨p0, -⟩ := at_en hat2
            obtain ⟨hpl, hpl2⟩ := hplb j rfl
            have d0 : ∀ q : Bel W5, q.W.cell? ⟨bb, o + j * 8, none⟩ = some (.slice (l.getD j en0).sv.a (l.getD j en0).sv.n (l.getD j en0).sv.c) := fun q => ((hGq q).cell (p := ⟨bb, o + j * 8, none⟩) (World.block_lt_of_cell? wr _ p0)).trans p0
            have hcmp : ∀ q : Bel W5, Calls Tryz.prog 47 #[.slice (l.getD j en0).sv.a (l.getD j en0).sv.n (l.getD j en0).sv.c, .slice ea en ec] q.W fun e' w' => e' = .returned (.int .i64 (cmpS (l.getD j en0).ls els)) ∧ Below q.W.heap.size q.W w' := fun q => compare_any _ _ _ _ q.W (Sls.grow hpl (hGq q)) (Sls.grow hlb (hGq q)) (by omega) (by omega)
            have hkj : IntKind.i64.wrap (((j + 1 : Nat) : Int) - 1) = (j : Int) := by rw [Go.IntWalk.i64_in _ (by omega)]; omega
            have hjl : (j : Int) < (l.length : Int) := by omega
            have hpos : (0 : Int) < ((j + 1 : Nat) : Int) := by omega
            simp only [Nat.add_sub_cancel] at hbs hnc
            have hbs' := hbs hmbc
            have hnc' := hnc (by omega)
            have e1 : (enF (l.getD j en0)).1 = (l.getD j en0).ls := rfl
            have e2 : (enF ⟨⟨ea, en, ec⟩, els, ⟨st, since, fr, quiet, seen, vk, vn⟩⟩).1 = els := rfl
            rw [e1, e2] at hbs' hnc'
            clear hbs hnc hmbc p0 hat2 hprev hplb hpl e1 e2
            rcases cmpS_in (l.getD j en0).ls els with hc | hc | hc
            · have hG2 : Hid (IsBd ((l.map enF).take (j + 1 + 1))) := hbs' (.inr hc)
              rw [hc] at hcmp
              clear hbs' hnc' hc
              refine wp_region_bel (by kernel_rfl) (by kernel_rfl) ?_
              repeat (go_big_quiet_step (first | (go_at_call 46; exact Calls.bel (hmb3 _)) | (go_at_call 47; exact Calls.bel (hcmp _))))
              refine wpQuiet_nil ?_
              rintro w8 ⟨⟨_, h8⟩, rfl⟩
              have hB8 : Hid (Below w.heap.size w w8) := hB5.out.trans (Below.mono h8 hB5.out.size)
              go_wp2
              refine ⟨⟨j + 1 + 1, by omega, by go_num, hG2, hB8⟩, ?_⟩
              simp [intOf]; omega
            all_goals
              have hR : Hid (chkF (l.map enF) = 2) := hF2.out (hnc' (by rw [hc]; decide))
              rw [hc] at hcmp
              clear hbs' hnc' hc
              refine wp_region_bel (by kernel_rfl) (by kernel_rfl) ?_
              repeat (go_big_quiet_step (first | (go_at_call 46; exact Calls.bel (hmb3 _)) | (go_at_call 47; exact Calls.bel (hcmp _))))
              refine wpQuiet_nil ?_
              rintro w8 ⟨⟨_, h8⟩, rfl⟩
              go_wp2
              go_ret
              exact ⟨by rw [hR.out]; rfl, hB5.out.trans (h8.mono hB5.out.size)⟩
      · obtain rfl : k = l.length := by omega
        have hki : ¬ (l.length : Int) < (l.length : Int) := by omega
        have hok : Hid (chkF (l.map enF) = 0) := hF0.out (by
          have := hG.out
          rwa [List.take_of_length_le (by rw [hlm]; exact Nat.le_refl _)] at this)
        go_wp2
        go_ret
        exact ⟨by rw [hok.out]; rfl, hB.out⟩
end Go.Proofs.YtiajafljgfpdcaaGreat
