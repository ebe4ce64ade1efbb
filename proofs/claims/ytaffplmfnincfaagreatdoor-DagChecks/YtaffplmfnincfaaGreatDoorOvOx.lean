/- Ov; Ow; Ox. -/
import Derived.Test.YtaffplmfnincfaaGreatDoorOtOu
import Derived.Test.YtaffplmfnincfaaGreatDoorVpVw
/- Concrete nodes: what is told of them. -/
namespace Go.Proofs.YtaffplmfnincfaaGreatDoor
set_option linter.unusedVariables false
open Go.RowKit
def TN : RowTy encN where
  st := 22
  et := 36
  z := ndV nd0
  bytes := 128
  hu := Tryz.underlying22
  hi := by kernel_rfl
  hz := rfl
  hb := by decide
abbrev OwnN := OwnS TN
/-- A literal row. -/
theorem own_lit {α : Type} {E : Enc α} (T : RowTy E) (w : World) (base : Nat) (cs : Array Value) (l : List α) (n : Nat) (hb : base ≤ w.heap.size) (hn : l.length = n) (hn2 : n ≤ 1000000) (hc : cs.toList = flat E l) : OwnS T (w.alloc (.cells cs T.et)) base (.slice (some ⟨w.heap.size, 0, none⟩) n n) l := by
  subst hn
  have h := World.ownsRow_lit w (base := base) (e := T.et) (size := E.k) cs l.length hb (by unfold maxLen; omega) (by rw [← Array.length_toList, hc, flat_len])
  unfold OwnS
  rw [← hc]
  exact h
theorem nd_box (w : World) (x : Nd) : NdA (w.alloc (.cells (ndC x) 36)) w.heap.size x := heap_alloc_new w _
theorem NdA.lt {w : World} {q : Nat} {x : Nd} (h : NdA w q x) : q < w.heap.size := (Array.getElem?_eq_some_iff.1 h).1
theorem NdA.grow {w w' : World} {q : Nat} {x : Nd} (h : NdA w q x) (hb : Below w.heap.size w w') : NdA w' q x := (hb.block q h.lt).trans h
def naA : Nd := ⟨⟨#[65]⟩, 1, ⟨#[115]⟩, ⟨#[]⟩, ⟨#[]⟩, false, zer, zer, ⟨#[]⟩⟩
def naB : Nd := ⟨⟨#[66]⟩, 2, ⟨#[]⟩, ⟨#[65]⟩, ⟨#[108, 97, 115, 116]⟩, false, zer, zer, ⟨#[]⟩⟩
def naC : Nd := ⟨⟨#[67]⟩, 4, ⟨#[]⟩, ⟨#[66]⟩, ⟨#[103, 116]⟩, false, ⟨1, 1000⟩, zer, ⟨#[]⟩⟩
def naX : Nd := ⟨⟨#[65]⟩, 3, ⟨#[]⟩, ⟨#[]⟩, ⟨#[]⟩, false, zer, zer, ⟨#[36, 66]⟩⟩
def naY : Nd := ⟨⟨#[66]⟩, 3, ⟨#[]⟩, ⟨#[]⟩, ⟨#[]⟩, false, zer, zer, ⟨#[36, 65]⟩⟩
theorem whX : Whole (par := parC) ⟨#[36, 66]⟩ (exR ⟨#[66]⟩) := ⟨2, ⟨40, by kernel_rfl⟩, by kernel_rfl⟩
theorem whY : Whole (par := parC) ⟨#[36, 65]⟩ (exR ⟨#[65]⟩) := ⟨2, ⟨40, by kernel_rfl⟩, by kernel_rfl⟩
theorem refsR_one (n : ByteArray) : refsR (exR n) = [n] := by
  unfold refsR
  rw [refs_r]
  unfold srtS
  rw [show lsB [n] = [n.data.toList] from rfl, List.mergeSort_singleton]
  show cmpS' [bB n.data.toList] = [n]
  rw [bB_list]
  unfold cmpS'
  rw [show Lib.compact (lsB [n]) = [n.data.toList] by simp [lsB, Lib.compact, Lib.compactUpTo, Lib.keeps]]
  show [bB n.data.toList] = [n]
  rw [bB_list]
theorem inpA : inpN naA = [] := inpN_no (by decide) (by decide) (by decide)
theorem inpB : inpN naB = [⟨#[65]⟩] := inpN_in (.inl rfl)
theorem inpC : inpN naC = [⟨#[66]⟩] := inpN_in (.inr rfl)
theorem inpX : inpN naX = [⟨#[66]⟩] := (inpN_math rfl).trans ((inpM_ok (by decide) whX).trans (refsR_one _))
theorem inpY : inpN naY = [⟨#[65]⟩] := (inpN_math rfl).trans ((inpM_ok (by decide) whY).trans (refsR_one _))
theorem bndC : bndB ⟨1, 1000⟩ = true := by simp [bndB, IsV]
theorem mayA : mayB naA = true := by
  unfold mayB
  rw [show refB naA.ref = true by kernel_rfl, show partsB naA = true by unfold partsB; rw [if_pos (by rfl)]; kernel_rfl, show eqNd naA (wipN naA) = true by kernel_rfl]
  rfl
theorem mayBb : mayB naB = true := by
  unfold mayB
  rw [show refB naB.ref = true by kernel_rfl, show partsB naB = true by unfold partsB; rw [if_neg (by decide), if_pos (by rfl)]; kernel_rfl, show eqNd naB (wipN naB) = true by kernel_rfl]
  rfl
theorem mayC : mayB naC = true := by
  unfold mayB
  rw [show refB naC.ref = true by kernel_rfl, show partsB naC = true by unfold partsB; rw [if_neg (by decide), if_neg (by decide), if_neg (by decide), if_pos (by rfl)]; unfold hbB; rw [if_pos (by kernel_rfl)]; exact bndC, show eqNd naC (wipN naC) = true by kernel_rfl]
  rfl
theorem mayX : mayB naX = true := by
  unfold mayB
  rw [show refB naX.ref = true by kernel_rfl, show partsB naX = true by unfold partsB; rw [if_neg (by decide), if_neg (by decide), if_pos (by rfl)]; exact treeB_ok (by decide) whX, show eqNd naX (wipN naX) = true by kernel_rfl]
  rfl
theorem mayY : mayB naY = true := by
  unfold mayB
  rw [show refB naY.ref = true by kernel_rfl, show partsB naY = true by unfold partsB; rw [if_neg (by decide), if_neg (by decide), if_pos (by rfl)]; exact treeB_ok (by decide) whY, show eqNd naY (wipN naY) = true by kernel_rfl]
  rfl
theorem may0 : mayB nd0 = false := by
  unfold mayB
  rw [show refB nd0.ref = false by kernel_rfl]
  rfl
theorem ordABC : OrdT [naC, naB, naA] (some [⟨#[65]⟩, ⟨#[66]⟩, ⟨#[67]⟩]) := by
  refine ⟨[(⟨#[65]⟩, []), (⟨#[66]⟩, [⟨#[65]⟩]), (⟨#[67]⟩, [⟨#[66]⟩])], ?_, ?_, by kernel_rfl⟩
  · have e : [naC, naB, naA].map sqN = [(⟨#[67]⟩, [⟨#[66]⟩]), (⟨#[66]⟩, [⟨#[65]⟩]), (⟨#[65]⟩, [])] := by
      simp only [List.map_cons, List.map_nil, sqN, inpA, inpB, inpC]
      rfl
    rw [e]
    exact (List.reverse_perm ([(⟨#[65]⟩, []), (⟨#[66]⟩, [⟨#[65]⟩]), (⟨#[67]⟩, [⟨#[66]⟩])] : List Sq)).symm
  · simp only [SRise, List.pairwise_cons, bltS]
    refine ⟨?_, ?_, ?_, List.Pairwise.nil⟩
    · intro a ha; simp at ha; rcases ha with rfl | rfl <;> decide
    · intro a ha; simp at ha; subst ha; decide
    · intro a ha; cases ha
theorem ordABC' : OrdT [naA, naB, naC] (some [⟨#[65]⟩, ⟨#[66]⟩, ⟨#[67]⟩]) := by
  obtain ⟨L, p, h, e⟩ := ordABC
  exact ⟨L, p.trans (List.Perm.map _ (List.reverse_perm [naA, naB, naC])), h, e⟩
theorem ordXY : OrdT [naX, naY] none := by
  refine ⟨[(⟨#[65]⟩, [⟨#[66]⟩]), (⟨#[66]⟩, [⟨#[65]⟩])], ?_, ?_, by kernel_rfl⟩
  · have e : [naX, naY].map sqN = [(⟨#[65]⟩, [⟨#[66]⟩]), (⟨#[66]⟩, [⟨#[65]⟩])] := by
      simp only [List.map_cons, List.map_nil, sqN, inpX, inpY]
      rfl
    rw [e]
  · simp only [SRise, List.pairwise_cons, bltS]
    refine ⟨?_, ?_, List.Pairwise.nil⟩
    · intro a ha; simp at ha; subst ha; decide
    · intro a ha; cases ha
theorem nodABC : ([naA, naB, naC].map (·.ref)).Nodup := by decide
theorem nodCBA : ([naC, naB, naA].map (·.ref)).Nodup := by decide
theorem nodXY : ([naX, naY].map (·.ref)).Nodup := by decide
theorem chkABC : chkN ⟨#[67]⟩ [naA, naB, naC] = 0 := by
  unfold chkN
  rw [if_neg (by decide), if_neg (by simp [mayA, mayBb, mayC]), if_neg (fun h => h nodABC), if_neg, ordN_is ordABC', if_neg (by intro e; cases e)]
  rw [byN_of_nodup nodABC]
  simp only [allI, List.flatMap_cons, List.flatMap_nil, inpA, inpB, inpC]
  decide
theorem chkXY : chkN ⟨#[65]⟩ [naX, naY] = 121 := by
  unfold chkN
  rw [if_neg (by decide), if_neg (by simp [mayX, mayY]), if_neg (fun h => h nodXY), if_neg, ordN_is ordXY, if_pos rfl]
  rw [byN_of_nodup nodXY]
  simp only [allI, List.flatMap_cons, List.flatMap_nil, inpX, inpY]
  decide
theorem chk0 : chkN ⟨#[65]⟩ [nd0] = 120 := by
  unfold chkN
  rw [if_neg (by decide), if_pos (by simp [may0])]
theorem NeedR.inv_nil {M : List (ByteArray × Nd)} {L out : List ByteArray} (h : NeedR M [] L out) : out = L := by
  generalize hz : ([] : List ByteArray) = Z at h
  cases h with
  | done => rfl
  | miss => simp at hz
  | hit => simp at hz
theorem NeedR.inv {M : List (ByteArray × Nd)} {A L out : List ByteArray} {r : ByteArray} (h : NeedR M (A ++ [r]) L out) : (asc r M = none ∧ NeedR M A L out) ∨ ∃ x, asc r M = some x ∧ NeedR (dropK r M) (A ++ inpN x) (L ++ [r]) out := by
  generalize hz : A ++ [r] = Z at h
  cases h with
  | done => simp at hz
  | miss h1 h2 =>
    obtain ⟨e1, e2⟩ := List.append_inj' hz rfl
    injection e2 with e2
    subst e1 e2
    exact .inl ⟨h1, h2⟩
  | hit h1 h2 =>
    obtain ⟨e1, e2⟩ := List.append_inj' hz rfl
    injection e2 with e2
    subst e1 e2
    exact .inr ⟨_, h1, h2⟩
theorem sorted_eq : ∀ {l m : List (List UInt8)}, l.Pairwise (· ≤ ·) → m.Pairwise (· ≤ ·) → l.Perm m → l = m
  | [], m, _, _, p => by rw [List.nil_perm.1 p]
  | x :: l, [], _, _, p => by have := List.perm_nil.1 p; cases this
  | x :: l, y :: m, hl, hm, p => by
    have hx := List.pairwise_cons.1 hl
    have hy := List.pairwise_cons.1 hm
    have e : x = y := by
      rcases List.mem_cons.1 (p.subset List.mem_cons_self) with h | h
      · exact h
      · rcases List.mem_cons.1 (p.symm.subset List.mem_cons_self) with g | g
        · exact g.symm
        · exact List.le_antisymm (hx.1 y g) (hy.1 x h)
    subst e
    rw [sorted_eq hx.2 hy.2 ((List.perm_cons x).1 p)]
theorem srtS_perm {L M : List ByteArray} (h : L.Perm M) : srtS L = srtS M := by
  unfold srtS
  rw [sorted_eq (srt_sorted (lsB L)) (srt_sorted (lsB M)) ((List.mergeSort_perm _ _).trans ((h.map _).trans (List.mergeSort_perm _ _).symm))]
theorem srtS_self {L : List ByteArray} (h : (lsB L).Pairwise (· ≤ ·)) : srtS L = L := by
  unfold srtS
  rw [sorted_eq (srt_sorted (lsB L)) h (List.mergeSort_perm _ _)]
  unfold blS lsB
  rw [List.map_map]
  conv => rhs; rw [← List.map_id L]
  exact List.map_congr_left fun x _ => bB_list x
theorem needB : ∀ L, NeedR (byN [naA, naB, naC]) [⟨#[66]⟩] [] L → srtS L = [⟨#[65]⟩, ⟨#[66]⟩] := by
  rw [byN_of_nodup nodABC]
  intro L h
  rcases NeedR.inv (A := []) h with ⟨h1, _⟩ | ⟨x, h1, h2⟩
  · exact absurd h1 (by decide)
  · have e : x = naB := by
      have h3 : asc (⟨#[66]⟩ : ByteArray) ([naA, naB, naC].map (fun x => (x.ref, x))) = some naB := rfl
      rw [h3] at h1
      injection h1 with h1
      exact h1.symm
    subst e
    rw [inpB] at h2
    rcases NeedR.inv (A := []) h2 with ⟨h3, _⟩ | ⟨y, h3, h4⟩
    · exact absurd h3 (by decide)
    · have e2 : y = naA := by
        have h5 : asc (⟨#[65]⟩ : ByteArray) (dropK (⟨#[66]⟩ : ByteArray) ([naA, naB, naC].map (fun x => (x.ref, x)))) = some naA := rfl
        rw [h5] at h3
        injection h3 with h3
        exact h3.symm
      subst e2
      rw [inpA] at h4
      have h6 := NeedR.inv_nil h4
      subst h6
      show srtS [⟨#[66]⟩, ⟨#[65]⟩] = _
      rw [srtS_perm (M := [⟨#[65]⟩, ⟨#[66]⟩]) (List.Perm.swap _ _ _), srtS_self]
      decide
end Go.Proofs.YtaffplmfnincfaaGreatDoor
/- live. -/
namespace Go.Proofs.YtaffplmfnincfaaGreatDoor
set_option linter.unusedVariables false
open Go.RowKit
set_option maxRecDepth 100000 in
set_option maxHeartbeats 1000000 in
theorem num14 (x : Int) (w : World) (h0 : -1000 ≤ x) (h1 : x ≤ 1000) : Calls Tryz.prog 14 #[.int .i64 x] w fun e w' => e = .returned (.int .i64 x) ∧ w' = w := lnum_any x w h0 h1
theorem nds (x : Nd) (h : x.ref.size ≤ 10 ∧ x.source.size ≤ 10 ∧ x.text.size ≤ 10) : NdS x := ⟨by omega, by omega, by omega⟩
theorem shABC : ShA [naA, naB, naC] := fun x hx => by
  simp at hx
  rcases hx with rfl | rfl | rfl <;> exact nds _ (by decide)
theorem shCBA : ShA [naC, naB, naA] := fun x hx => by
  simp at hx
  rcases hx with rfl | rfl | rfl <;> exact nds _ (by decide)
theorem shXY : ShA [naX, naY] := fun x hx => by
  simp at hx
  rcases hx with rfl | rfl <;> exact nds _ (by decide)
theorem sh0 : ShA [nd0] := fun x hx => by
  simp at hx
  subst hx
  exact nds _ (by decide)
/-- The calls of live, at the rows that it lays. -/
theorem lv9 (W : World) (hG : G W) (hS : SignsAt W) : Calls Tryz.prog 9 #[.slice (some ⟨W.heap.size, 0, none⟩) 3 3] (W.alloc (.cells #[.string ⟨#[67]⟩, .int .i64 4, .string ⟨#[]⟩, .string ⟨#[66]⟩, .string ⟨#[103, 116]⟩, .bool false, .int .i64 1, .int .i64 1000, .int .i64 0, .int .i64 0, .string ⟨#[]⟩, .string ⟨#[66]⟩, .int .i64 2, .string ⟨#[]⟩, .string ⟨#[65]⟩, .string ⟨#[108, 97, 115, 116]⟩, .bool false, .int .i64 0, .int .i64 0, .int .i64 0, .int .i64 0, .string ⟨#[]⟩, .string ⟨#[65]⟩, .int .i64 1, .string ⟨#[115]⟩, .string ⟨#[]⟩, .string ⟨#[]⟩, .bool false, .int .i64 0, .int .i64 0, .int .i64 0, .int .i64 0, .string ⟨#[]⟩] 36)) fun e w' => ∃ a n c, e = .returned (.tuple #[.slice a n c, .int .i64 0]) ∧ Hid (n = 3 ∧ Txs w' (.slice a n c) [⟨#[65]⟩, ⟨#[66]⟩, ⟨#[67]⟩] ∧ Below W.heap.size W w') := by
  have hb := bW0 W (.cells #[.string ⟨#[67]⟩, .int .i64 4, .string ⟨#[]⟩, .string ⟨#[66]⟩, .string ⟨#[103, 116]⟩, .bool false, .int .i64 1, .int .i64 1000, .int .i64 0, .int .i64 0, .string ⟨#[]⟩, .string ⟨#[66]⟩, .int .i64 2, .string ⟨#[]⟩, .string ⟨#[65]⟩, .string ⟨#[108, 97, 115, 116]⟩, .bool false, .int .i64 0, .int .i64 0, .int .i64 0, .int .i64 0, .string ⟨#[]⟩, .string ⟨#[65]⟩, .int .i64 1, .string ⟨#[115]⟩, .string ⟨#[]⟩, .string ⟨#[]⟩, .bool false, .int .i64 0, .int .i64 0, .int .i64 0, .int .i64 0, .string ⟨#[]⟩] 36)
  have ho := own_lit TN W W.heap.size #[.string ⟨#[67]⟩, .int .i64 4, .string ⟨#[]⟩, .string ⟨#[66]⟩, .string ⟨#[103, 116]⟩, .bool false, .int .i64 1, .int .i64 1000, .int .i64 0, .int .i64 0, .string ⟨#[]⟩, .string ⟨#[66]⟩, .int .i64 2, .string ⟨#[]⟩, .string ⟨#[65]⟩, .string ⟨#[108, 97, 115, 116]⟩, .bool false, .int .i64 0, .int .i64 0, .int .i64 0, .int .i64 0, .string ⟨#[]⟩, .string ⟨#[65]⟩, .int .i64 1, .string ⟨#[115]⟩, .string ⟨#[]⟩, .string ⟨#[]⟩, .bool false, .int .i64 0, .int .i64 0, .int .i64 0, .int .i64 0, .string ⟨#[]⟩] [naC, naB, naA] 3 (Nat.le_refl _) rfl (by decide) rfl
  refine (order9_ok _ 3 3 [naC, naB, naA] _ (hG.grow hb) (hS.grow hb) ho.sls (by decide) shCBA.sh nodCBA).mono ?_
  rintro e w' ⟨r, h⟩
  obtain ⟨h1, h2, h3⟩ := h.out
  have hr := h1.one ordABC
  rcases h2 with ⟨g, _⟩ | ⟨out, a, n, c, g, rfl, ht⟩
  · rw [hr] at g; cases g
  · rw [hr] at g
    injection g with g
    subst g
    exact ⟨a, n, c, rfl, ht.len, ht, hb.trans (h3.mono hb.size)⟩
theorem lv15a (W : World) (hG : G W) (hS : SignsAt W) : Calls Tryz.prog 15 #[.string ⟨#[67]⟩, .slice (some ⟨W.heap.size, 0, none⟩) 3 3] (W.alloc (.cells #[.string ⟨#[65]⟩, .int .i64 1, .string ⟨#[115]⟩, .string ⟨#[]⟩, .string ⟨#[]⟩, .bool false, .int .i64 0, .int .i64 0, .int .i64 0, .int .i64 0, .string ⟨#[]⟩, .string ⟨#[66]⟩, .int .i64 2, .string ⟨#[]⟩, .string ⟨#[65]⟩, .string ⟨#[108, 97, 115, 116]⟩, .bool false, .int .i64 0, .int .i64 0, .int .i64 0, .int .i64 0, .string ⟨#[]⟩, .string ⟨#[67]⟩, .int .i64 4, .string ⟨#[]⟩, .string ⟨#[66]⟩, .string ⟨#[103, 116]⟩, .bool false, .int .i64 1, .int .i64 1000, .int .i64 0, .int .i64 0, .string ⟨#[]⟩] 36)) fun e w' => e = .returned (.int .i64 0) ∧ Below W.heap.size W w' := by
  have hb := bW0 W (.cells #[.string ⟨#[65]⟩, .int .i64 1, .string ⟨#[115]⟩, .string ⟨#[]⟩, .string ⟨#[]⟩, .bool false, .int .i64 0, .int .i64 0, .int .i64 0, .int .i64 0, .string ⟨#[]⟩, .string ⟨#[66]⟩, .int .i64 2, .string ⟨#[]⟩, .string ⟨#[65]⟩, .string ⟨#[108, 97, 115, 116]⟩, .bool false, .int .i64 0, .int .i64 0, .int .i64 0, .int .i64 0, .string ⟨#[]⟩, .string ⟨#[67]⟩, .int .i64 4, .string ⟨#[]⟩, .string ⟨#[66]⟩, .string ⟨#[103, 116]⟩, .bool false, .int .i64 1, .int .i64 1000, .int .i64 0, .int .i64 0, .string ⟨#[]⟩] 36)
  have ho := own_lit TN W W.heap.size #[.string ⟨#[65]⟩, .int .i64 1, .string ⟨#[115]⟩, .string ⟨#[]⟩, .string ⟨#[]⟩, .bool false, .int .i64 0, .int .i64 0, .int .i64 0, .int .i64 0, .string ⟨#[]⟩, .string ⟨#[66]⟩, .int .i64 2, .string ⟨#[]⟩, .string ⟨#[65]⟩, .string ⟨#[108, 97, 115, 116]⟩, .bool false, .int .i64 0, .int .i64 0, .int .i64 0, .int .i64 0, .string ⟨#[]⟩, .string ⟨#[67]⟩, .int .i64 4, .string ⟨#[]⟩, .string ⟨#[66]⟩, .string ⟨#[103, 116]⟩, .bool false, .int .i64 1, .int .i64 1000, .int .i64 0, .int .i64 0, .string ⟨#[]⟩] [naA, naB, naC] 3 (Nat.le_refl _) rfl (by decide) rfl
  refine (check15 _ _ 3 3 [naA, naB, naC] _ (hG.grow hb) (hS.grow hb) ho.sls (by decide) shABC).mono ?_
  rintro e w' ⟨rfl, h⟩
  exact ⟨by rw [chkABC], hb.trans (h.mono hb.size)⟩
theorem lv15b (W : World) (hG : G W) (hS : SignsAt W) : Calls Tryz.prog 15 #[.string ⟨#[65]⟩, .slice (some ⟨W.heap.size, 0, none⟩) 2 2] (W.alloc (.cells #[.string ⟨#[65]⟩, .int .i64 3, .string ⟨#[]⟩, .string ⟨#[]⟩, .string ⟨#[]⟩, .bool false, .int .i64 0, .int .i64 0, .int .i64 0, .int .i64 0, .string ⟨#[36, 66]⟩, .string ⟨#[66]⟩, .int .i64 3, .string ⟨#[]⟩, .string ⟨#[]⟩, .string ⟨#[]⟩, .bool false, .int .i64 0, .int .i64 0, .int .i64 0, .int .i64 0, .string ⟨#[36, 65]⟩] 36)) fun e w' => e = .returned (.int .i64 121) ∧ Below W.heap.size W w' := by
  have hb := bW0 W (.cells #[.string ⟨#[65]⟩, .int .i64 3, .string ⟨#[]⟩, .string ⟨#[]⟩, .string ⟨#[]⟩, .bool false, .int .i64 0, .int .i64 0, .int .i64 0, .int .i64 0, .string ⟨#[36, 66]⟩, .string ⟨#[66]⟩, .int .i64 3, .string ⟨#[]⟩, .string ⟨#[]⟩, .string ⟨#[]⟩, .bool false, .int .i64 0, .int .i64 0, .int .i64 0, .int .i64 0, .string ⟨#[36, 65]⟩] 36)
  have ho := own_lit TN W W.heap.size #[.string ⟨#[65]⟩, .int .i64 3, .string ⟨#[]⟩, .string ⟨#[]⟩, .string ⟨#[]⟩, .bool false, .int .i64 0, .int .i64 0, .int .i64 0, .int .i64 0, .string ⟨#[36, 66]⟩, .string ⟨#[66]⟩, .int .i64 3, .string ⟨#[]⟩, .string ⟨#[]⟩, .string ⟨#[]⟩, .bool false, .int .i64 0, .int .i64 0, .int .i64 0, .int .i64 0, .string ⟨#[36, 65]⟩] [naX, naY] 2 (Nat.le_refl _) rfl (by decide) rfl
  refine (check15 _ _ 2 2 [naX, naY] _ (hG.grow hb) (hS.grow hb) ho.sls (by decide) shXY).mono ?_
  rintro e w' ⟨rfl, h⟩
  exact ⟨by rw [chkXY], hb.trans (h.mono hb.size)⟩
theorem lv15c (W : World) (hG : G W) (hS : SignsAt W) : Calls Tryz.prog 15 #[.string ⟨#[65]⟩, .slice (some ⟨W.heap.size, 0, none⟩) 1 1] (W.alloc (.cells #[.string ⟨#[]⟩, .int .i64 0, .string ⟨#[]⟩, .string ⟨#[]⟩, .string ⟨#[]⟩, .bool false, .int .i64 0, .int .i64 0, .int .i64 0, .int .i64 0, .string ⟨#[]⟩] 36)) fun e w' => e = .returned (.int .i64 120) ∧ Below W.heap.size W w' := by
  have hb := bW0 W (.cells #[.string ⟨#[]⟩, .int .i64 0, .string ⟨#[]⟩, .string ⟨#[]⟩, .string ⟨#[]⟩, .bool false, .int .i64 0, .int .i64 0, .int .i64 0, .int .i64 0, .string ⟨#[]⟩] 36)
  have ho := own_lit TN W W.heap.size #[.string ⟨#[]⟩, .int .i64 0, .string ⟨#[]⟩, .string ⟨#[]⟩, .string ⟨#[]⟩, .bool false, .int .i64 0, .int .i64 0, .int .i64 0, .int .i64 0, .string ⟨#[]⟩] [nd0] 1 (Nat.le_refl _) rfl (by decide) rfl
  refine (check15 _ _ 1 1 [nd0] _ (hG.grow hb) (hS.grow hb) ho.sls (by decide) sh0).mono ?_
  rintro e w' ⟨rfl, h⟩
  exact ⟨by rw [chk0], hb.trans (h.mono hb.size)⟩
theorem lv17 (W : World) (hG : G W) (hS : SignsAt W) : Calls Tryz.prog 17 #[.string ⟨#[66]⟩, .slice (some ⟨W.heap.size, 0, none⟩) 3 3] (W.alloc (.cells #[.string ⟨#[65]⟩, .int .i64 1, .string ⟨#[115]⟩, .string ⟨#[]⟩, .string ⟨#[]⟩, .bool false, .int .i64 0, .int .i64 0, .int .i64 0, .int .i64 0, .string ⟨#[]⟩, .string ⟨#[66]⟩, .int .i64 2, .string ⟨#[]⟩, .string ⟨#[65]⟩, .string ⟨#[108, 97, 115, 116]⟩, .bool false, .int .i64 0, .int .i64 0, .int .i64 0, .int .i64 0, .string ⟨#[]⟩, .string ⟨#[67]⟩, .int .i64 4, .string ⟨#[]⟩, .string ⟨#[66]⟩, .string ⟨#[103, 116]⟩, .bool false, .int .i64 1, .int .i64 1000, .int .i64 0, .int .i64 0, .string ⟨#[]⟩] 36)) fun e w' => ∃ a n c, e = .returned (.slice a n c) ∧ Hid (n = 2 ∧ Txs w' (.slice a n c) [⟨#[65]⟩, ⟨#[66]⟩] ∧ Below W.heap.size W w') := by
  have hb := bW0 W (.cells #[.string ⟨#[65]⟩, .int .i64 1, .string ⟨#[115]⟩, .string ⟨#[]⟩, .string ⟨#[]⟩, .bool false, .int .i64 0, .int .i64 0, .int .i64 0, .int .i64 0, .string ⟨#[]⟩, .string ⟨#[66]⟩, .int .i64 2, .string ⟨#[]⟩, .string ⟨#[65]⟩, .string ⟨#[108, 97, 115, 116]⟩, .bool false, .int .i64 0, .int .i64 0, .int .i64 0, .int .i64 0, .string ⟨#[]⟩, .string ⟨#[67]⟩, .int .i64 4, .string ⟨#[]⟩, .string ⟨#[66]⟩, .string ⟨#[103, 116]⟩, .bool false, .int .i64 1, .int .i64 1000, .int .i64 0, .int .i64 0, .string ⟨#[]⟩] 36)
  have ho := own_lit TN W W.heap.size #[.string ⟨#[65]⟩, .int .i64 1, .string ⟨#[115]⟩, .string ⟨#[]⟩, .string ⟨#[]⟩, .bool false, .int .i64 0, .int .i64 0, .int .i64 0, .int .i64 0, .string ⟨#[]⟩, .string ⟨#[66]⟩, .int .i64 2, .string ⟨#[]⟩, .string ⟨#[65]⟩, .string ⟨#[108, 97, 115, 116]⟩, .bool false, .int .i64 0, .int .i64 0, .int .i64 0, .int .i64 0, .string ⟨#[]⟩, .string ⟨#[67]⟩, .int .i64 4, .string ⟨#[]⟩, .string ⟨#[66]⟩, .string ⟨#[103, 116]⟩, .bool false, .int .i64 1, .int .i64 1000, .int .i64 0, .int .i64 0, .string ⟨#[]⟩] [naA, naB, naC] 3 (Nat.le_refl _) rfl (by decide) rfl
  refine (needs17 _ _ 3 3 [naA, naB, naC] _ (hG.grow hb) (hS.grow hb) ho.sls (by decide) shABC.sh).mono ?_
  rintro e w' ⟨a, n, c, L, rfl, h⟩
  obtain ⟨h1, h2, h3⟩ := h.out
  rw [needB L h1] at h2
  exact ⟨a, n, c, rfl, h2.len, h2, hb.trans (h3.mono hb.size)⟩
theorem lv11a (W : World) (a : Option Addr) (c : Nat) (h : Txs W (.slice a 3 c) [⟨#[65]⟩, ⟨#[66]⟩, ⟨#[67]⟩]) : Calls Tryz.prog 11 #[.slice a 3 c, .slice (some ⟨W.heap.size, 0, none⟩) 3 3] (W.alloc (.cells #[.string ⟨#[65]⟩, .string ⟨#[66]⟩, .string ⟨#[67]⟩] 9)) fun e w' => e = .returned (.bool true) ∧ Below W.heap.size W w' := by
  have hb := bW0 W (.cells #[.string ⟨#[65]⟩, .string ⟨#[66]⟩, .string ⟨#[67]⟩] 9)
  have ho := own_lit TS W W.heap.size #[.string ⟨#[65]⟩, .string ⟨#[66]⟩, .string ⟨#[67]⟩] [⟨#[65]⟩, ⟨#[66]⟩, ⟨#[67]⟩] 3 (Nat.le_refl _) rfl (by decide) rfl
  exact (texts_any _ [⟨#[65]⟩, ⟨#[66]⟩, ⟨#[67]⟩] a _ 3 c 3 (by decide) (h.grow hb) ho.sls).mono fun e w' ⟨h1, h2⟩ => ⟨h1, hb.trans (h2.mono hb.size)⟩
theorem lv11b (W : World) (a : Option Addr) (c : Nat) (h : Txs W (.slice a 2 c) [⟨#[65]⟩, ⟨#[66]⟩]) : Calls Tryz.prog 11 #[.slice a 2 c, .slice (some ⟨W.heap.size, 0, none⟩) 2 2] (W.alloc (.cells #[.string ⟨#[65]⟩, .string ⟨#[66]⟩] 9)) fun e w' => e = .returned (.bool true) ∧ Below W.heap.size W w' := by
  have hb := bW0 W (.cells #[.string ⟨#[65]⟩, .string ⟨#[66]⟩] 9)
  have ho := own_lit TS W W.heap.size #[.string ⟨#[65]⟩, .string ⟨#[66]⟩] [⟨#[65]⟩, ⟨#[66]⟩] 2 (Nat.le_refl _) rfl (by decide) rfl
  exact (texts_any _ [⟨#[65]⟩, ⟨#[66]⟩] a _ 2 c 2 (by decide) (h.grow hb) ho.sls).mono fun e w' ⟨h1, h2⟩ => ⟨h1, hb.trans (h2.mono hb.size)⟩
theorem lv9q (W : World) (q : Nat) (hq : W.heap.size = q) (hG : G W) (hS : SignsAt W) : Calls Tryz.prog 9 #[.slice (some ⟨q, 0, none⟩) 3 3] (W.alloc (.cells #[.string ⟨#[67]⟩, .int .i64 4, .string ⟨#[]⟩, .string ⟨#[66]⟩, .string ⟨#[103, 116]⟩, .bool false, .int .i64 1, .int .i64 1000, .int .i64 0, .int .i64 0, .string ⟨#[]⟩, .string ⟨#[66]⟩, .int .i64 2, .string ⟨#[]⟩, .string ⟨#[65]⟩, .string ⟨#[108, 97, 115, 116]⟩, .bool false, .int .i64 0, .int .i64 0, .int .i64 0, .int .i64 0, .string ⟨#[]⟩, .string ⟨#[65]⟩, .int .i64 1, .string ⟨#[115]⟩, .string ⟨#[]⟩, .string ⟨#[]⟩, .bool false, .int .i64 0, .int .i64 0, .int .i64 0, .int .i64 0, .string ⟨#[]⟩] 36)) fun e w' => ∃ a n c, e = .returned (.tuple #[.slice a n c, .int .i64 0]) ∧ Hid (n = 3 ∧ Txs w' (.slice a n c) [⟨#[65]⟩, ⟨#[66]⟩, ⟨#[67]⟩] ∧ Below W.heap.size W w') := by
  subst hq
  exact lv9 W hG hS
theorem lv11q (W : World) (q : Nat) (hq : W.heap.size = q) (a : Option Addr) (c : Nat) (h : Txs W (.slice a 3 c) [⟨#[65]⟩, ⟨#[66]⟩, ⟨#[67]⟩]) : Calls Tryz.prog 11 #[.slice a 3 c, .slice (some ⟨q, 0, none⟩) 3 3] (W.alloc (.cells #[.string ⟨#[65]⟩, .string ⟨#[66]⟩, .string ⟨#[67]⟩] 9)) fun e w' => e = .returned (.bool true) ∧ Below W.heap.size W w' := by
  subst hq
  exact lv11a W a c h
end Go.Proofs.YtaffplmfnincfaaGreatDoor
/- live: the walk. -/
namespace Go.Proofs.YtaffplmfnincfaaGreatDoor
set_option linter.unusedVariables false
open Go.RowKit
/-- The boxes of live. -/
structure LvA (w W : World) : Prop where
  a : NdA W w.heap.size naA
  b : NdA W (w.heap.size + 1) naB
  bel : Below w.heap.size w W
theorem LvA.grow {w W W' : World} (h : LvA w W) (hb : Below W.heap.size W W') : LvA w W' := ⟨h.a.grow hb, h.b.grow hb, h.bel.trans (hb.mono h.bel.size)⟩
theorem lvA_new (w : World) : LvA w ((w.alloc (.cells #[.string ⟨#[65]⟩, .int .i64 1, .string ⟨#[115]⟩, .string ⟨#[]⟩, .string ⟨#[]⟩, .bool false, .int .i64 0, .int .i64 0, .int .i64 0, .int .i64 0, .string ⟨#[]⟩] 36)).alloc (.cells #[.string ⟨#[66]⟩, .int .i64 2, .string ⟨#[]⟩, .string ⟨#[65]⟩, .string ⟨#[108, 97, 115, 116]⟩, .bool false, .int .i64 0, .int .i64 0, .int .i64 0, .int .i64 0, .string ⟨#[]⟩] 36)) := by
  have hb1 : Below w.heap.size w (w.alloc (.cells (ndC naA) 36)) := bW0 w _
  refine ⟨(nd_box w naA).grow (bW0 _ _), ?_, hb1.trans ((bW0 _ _).mono hb1.size)⟩
  have := nd_box (w.alloc (.cells (ndC naA) 36)) naB
  rwa [show (w.alloc (.cells (ndC naA) 36)).heap.size = w.heap.size + 1 by simp] at this
theorem xy_new (w2 : World) : NdA ((w2.alloc (.cells #[.string ⟨#[65]⟩, .int .i64 3, .string ⟨#[]⟩, .string ⟨#[]⟩, .string ⟨#[]⟩, .bool false, .int .i64 0, .int .i64 0, .int .i64 0, .int .i64 0, .string ⟨#[36, 66]⟩] 36)).alloc (.cells #[.string ⟨#[66]⟩, .int .i64 3, .string ⟨#[]⟩, .string ⟨#[]⟩, .string ⟨#[]⟩, .bool false, .int .i64 0, .int .i64 0, .int .i64 0, .int .i64 0, .string ⟨#[36, 65]⟩] 36)) w2.heap.size naX ∧ NdA ((w2.alloc (.cells #[.string ⟨#[65]⟩, .int .i64 3, .string ⟨#[]⟩, .string ⟨#[]⟩, .string ⟨#[]⟩, .bool false, .int .i64 0, .int .i64 0, .int .i64 0, .int .i64 0, .string ⟨#[36, 66]⟩] 36)).alloc (.cells #[.string ⟨#[66]⟩, .int .i64 3, .string ⟨#[]⟩, .string ⟨#[]⟩, .string ⟨#[]⟩, .bool false, .int .i64 0, .int .i64 0, .int .i64 0, .int .i64 0, .string ⟨#[36, 65]⟩] 36)) (w2.heap.size + 1) naY ∧ Below w2.heap.size w2 ((w2.alloc (.cells #[.string ⟨#[65]⟩, .int .i64 3, .string ⟨#[]⟩, .string ⟨#[]⟩, .string ⟨#[]⟩, .bool false, .int .i64 0, .int .i64 0, .int .i64 0, .int .i64 0, .string ⟨#[36, 66]⟩] 36)).alloc (.cells #[.string ⟨#[66]⟩, .int .i64 3, .string ⟨#[]⟩, .string ⟨#[]⟩, .string ⟨#[]⟩, .bool false, .int .i64 0, .int .i64 0, .int .i64 0, .int .i64 0, .string ⟨#[36, 65]⟩] 36)) := by
  have hb1 : Below w2.heap.size w2 (w2.alloc (.cells (ndC naX) 36)) := bW0 w2 _
  refine ⟨(nd_box w2 naX).grow (bW0 _ _), ?_, hb1.trans ((bW0 _ _).mono hb1.size)⟩
  have := nd_box (w2.alloc (.cells (ndC naX) 36)) naY
  rwa [show (w2.alloc (.cells (ndC naX) 36)).heap.size = w2.heap.size + 1 by simp] at this
set_option maxRecDepth 100000 in
set_option maxHeartbeats 16000000 in
/-- live. -/
theorem live8 (w : World) (hG : G w) (hS : SignsAt w) : Calls Tryz.prog 8 #[] w fun e w' => e = .returned (.bool true) ∧ Below w.heap.size w w' := by
  have hn : ∀ W, Calls Tryz.prog 20 #[.int .i64 1000] W fun e w' => e = .returned (.agg #[.int .i64 1, .int .i64 1000]) ∧ Below W.heap.size W w' := fun W => rnum_any 1000 W
  have h9 : Hid (∀ W q, W.heap.size = q → Below w.heap.size w W → _) := fun W q hq h => lv9q W q hq (hG.grow h) (hS.grow h)
  have h15a : Hid (∀ W, Below w.heap.size w W → _) := fun W h => lv15a W (hG.grow h) (hS.grow h)
  have h15b : Hid (∀ W, Below w.heap.size w W → _) := fun W h => lv15b W (hG.grow h) (hS.grow h)
  have h15c : Hid (∀ W, Below w.heap.size w W → _) := fun W h => lv15c W (hG.grow h) (hS.grow h)
  have h17 : Hid (∀ W, Below w.heap.size w W → _) := fun W h => lv17 W (hG.grow h) (hS.grow h)
  have e14 : ∀ (x : Int) (W : World), -1000 ≤ x → x ≤ 1000 → Calls Tryz.prog 14 #[.int .i64 x] W fun e w' => e = .returned (.int .i64 x) ∧ w' = W := fun x W h0 h1 => num14 x W h0 h1
  have n0 := fun W => e14 0 W (by decide) (by decide)
  have n121 := fun W => e14 121 W (by decide) (by decide)
  have n120 := fun W => e14 120 W (by decide) (by decide)
  clear e14 hG hS
  have hL : Hid (LvA w ((w.alloc (.cells #[.string ⟨#[65]⟩, .int .i64 1, .string ⟨#[115]⟩, .string ⟨#[]⟩, .string ⟨#[]⟩, .bool false, .int .i64 0, .int .i64 0, .int .i64 0, .int .i64 0, .string ⟨#[]⟩] 36)).alloc (.cells #[.string ⟨#[66]⟩, .int .i64 2, .string ⟨#[]⟩, .string ⟨#[65]⟩, .string ⟨#[108, 97, 115, 116]⟩, .bool false, .int .i64 0, .int .i64 0, .int .i64 0, .int .i64 0, .string ⟨#[]⟩] 36))) := lvA_new w
  go_enter Tryz.func8, Tryz.ntmps8
  go_wp2_with (first
    | (go_at_call 20; refine (hn _).mono ?_; rintro e w1 ⟨rfl, hb1⟩; have hL1 : Hid (LvA w w1) := hL.out.grow hb1; clear hL; obtain ⟨ca0, ca1, ca2, ca3, ca4, ca5, ca6, ca7, ca8, ca9, ca10⟩ := NdA.cells (hL1.out.a); replace ca0 : w1.cell? ⟨w.heap.size, 0, none⟩ = some (.string ⟨#[65]⟩) := ca0; replace ca1 : w1.cell? ⟨w.heap.size, 1, none⟩ = some (.int .i64 1) := ca1; replace ca2 : w1.cell? ⟨w.heap.size, 2, none⟩ = some (.string ⟨#[115]⟩) := ca2; replace ca3 : w1.cell? ⟨w.heap.size, 3, none⟩ = some (.string ⟨#[]⟩) := ca3; replace ca4 : w1.cell? ⟨w.heap.size, 4, none⟩ = some (.string ⟨#[]⟩) := ca4; replace ca5 : w1.cell? ⟨w.heap.size, 5, none⟩ = some (.bool false) := ca5; replace ca6 : w1.cell? ⟨w.heap.size, 6, none⟩ = some (.int .i64 0) := ca6; replace ca7 : w1.cell? ⟨w.heap.size, 7, none⟩ = some (.int .i64 0) := ca7; replace ca8 : w1.cell? ⟨w.heap.size, 8, none⟩ = some (.int .i64 0) := ca8; replace ca9 : w1.cell? ⟨w.heap.size, 9, none⟩ = some (.int .i64 0) := ca9; replace ca10 : w1.cell? ⟨w.heap.size, 10, none⟩ = some (.string ⟨#[]⟩) := ca10; obtain ⟨cb0, cb1, cb2, cb3, cb4, cb5, cb6, cb7, cb8, cb9, cb10⟩ := NdA.cells (hL1.out.b); replace cb0 : w1.cell? ⟨w.heap.size + 1, 0, none⟩ = some (.string ⟨#[66]⟩) := cb0; replace cb1 : w1.cell? ⟨w.heap.size + 1, 1, none⟩ = some (.int .i64 2) := cb1; replace cb2 : w1.cell? ⟨w.heap.size + 1, 2, none⟩ = some (.string ⟨#[]⟩) := cb2; replace cb3 : w1.cell? ⟨w.heap.size + 1, 3, none⟩ = some (.string ⟨#[65]⟩) := cb3; replace cb4 : w1.cell? ⟨w.heap.size + 1, 4, none⟩ = some (.string ⟨#[108, 97, 115, 116]⟩) := cb4; replace cb5 : w1.cell? ⟨w.heap.size + 1, 5, none⟩ = some (.bool false) := cb5; replace cb6 : w1.cell? ⟨w.heap.size + 1, 6, none⟩ = some (.int .i64 0) := cb6; replace cb7 : w1.cell? ⟨w.heap.size + 1, 7, none⟩ = some (.int .i64 0) := cb7; replace cb8 : w1.cell? ⟨w.heap.size + 1, 8, none⟩ = some (.int .i64 0) := cb8; replace cb9 : w1.cell? ⟨w.heap.size + 1, 9, none⟩ = some (.int .i64 0) := cb9; replace cb10 : w1.cell? ⟨w.heap.size + 1, 10, none⟩ = some (.string ⟨#[]⟩) := cb10; have hc1 : Hid (NdA (w1.alloc (.cells #[.string ⟨#[67]⟩, .int .i64 4, .string ⟨#[]⟩, .string ⟨#[66]⟩, .string ⟨#[103, 116]⟩, .bool false, .int .i64 1, .int .i64 1000, .int .i64 0, .int .i64 0, .string ⟨#[]⟩] 36)) w1.heap.size naC) := nd_box w1 naC; have hL2 : Hid (LvA w (w1.alloc (.cells #[.string ⟨#[67]⟩, .int .i64 4, .string ⟨#[]⟩, .string ⟨#[66]⟩, .string ⟨#[103, 116]⟩, .bool false, .int .i64 1, .int .i64 1000, .int .i64 0, .int .i64 0, .string ⟨#[]⟩] 36))) := hL1.out.grow (bW0 _ _); have h9' := h9.out _ (w1.heap.size + 1) (by simp) hL2.out.bel; have hlt1 : w.heap.size < w1.heap.size := hL1.out.a.lt; have hlt2 : w.heap.size + 1 < w1.heap.size := hL1.out.b.lt)
    | (go_at_call 9; refine h9'.mono ?_; clear h9'; rintro e w2 ⟨a2, n2, c2, rfl, h2⟩; clear ca0 ca1 ca2 ca3 ca4 ca5 ca6 ca7 ca8 ca9 ca10 cb0 cb1 cb2 cb3 cb4 cb5 cb6 cb7 cb8 cb9 cb10; have hL3 : Hid (LvA w w2) := hL2.out.grow h2.out.2.2; have hc3 : Hid (NdA w2 w1.heap.size naC) := hc1.out.grow h2.out.2.2; clear hL1 hL2 hc1; obtain rfl : n2 = 3 := h2.out.1; have hT : Hid (Txs w2 (.slice a2 3 c2) [⟨#[65]⟩, ⟨#[66]⟩, ⟨#[67]⟩]) := h2.out.2.1; have hX : Hid (NdA ((w2.alloc (.cells #[.string ⟨#[65]⟩, .int .i64 3, .string ⟨#[]⟩, .string ⟨#[]⟩, .string ⟨#[]⟩, .bool false, .int .i64 0, .int .i64 0, .int .i64 0, .int .i64 0, .string ⟨#[36, 66]⟩] 36)).alloc (.cells #[.string ⟨#[66]⟩, .int .i64 3, .string ⟨#[]⟩, .string ⟨#[]⟩, .string ⟨#[]⟩, .bool false, .int .i64 0, .int .i64 0, .int .i64 0, .int .i64 0, .string ⟨#[36, 65]⟩] 36)) w2.heap.size naX ∧ NdA ((w2.alloc (.cells #[.string ⟨#[65]⟩, .int .i64 3, .string ⟨#[]⟩, .string ⟨#[]⟩, .string ⟨#[]⟩, .bool false, .int .i64 0, .int .i64 0, .int .i64 0, .int .i64 0, .string ⟨#[36, 66]⟩] 36)).alloc (.cells #[.string ⟨#[66]⟩, .int .i64 3, .string ⟨#[]⟩, .string ⟨#[]⟩, .string ⟨#[]⟩, .bool false, .int .i64 0, .int .i64 0, .int .i64 0, .int .i64 0, .string ⟨#[36, 65]⟩] 36)) (w2.heap.size + 1) naY ∧ Below w2.heap.size w2 ((w2.alloc (.cells #[.string ⟨#[65]⟩, .int .i64 3, .string ⟨#[]⟩, .string ⟨#[]⟩, .string ⟨#[]⟩, .bool false, .int .i64 0, .int .i64 0, .int .i64 0, .int .i64 0, .string ⟨#[36, 66]⟩] 36)).alloc (.cells #[.string ⟨#[66]⟩, .int .i64 3, .string ⟨#[]⟩, .string ⟨#[]⟩, .string ⟨#[]⟩, .bool false, .int .i64 0, .int .i64 0, .int .i64 0, .int .i64 0, .string ⟨#[36, 65]⟩] 36))) := xy_new w2; clear h2)
    | (go_at_call 14; (first | (with_reducible refine (n0 _).mono ?_) | (with_reducible refine (n121 _).mono ?_) | (with_reducible refine (n120 _).mono ?_)); rintro e wx ⟨rfl, hwx⟩; subst wx)
    | (go_at_call 11; (refine (lv11q _ (w2.heap.size + 1 + 1) (by simp) a2 c2 (hT.out.grow hX.out.2.2)).mono ?_; rintro e w3 ⟨rfl, hb3⟩; clear hT; have hL4 : Hid (LvA w w3) := hL3.out.grow (hX.out.2.2.trans (hb3.mono hX.out.2.2.size)); have hc4 : Hid (NdA w3 w1.heap.size naC) := hc3.out.grow (hX.out.2.2.trans (hb3.mono hX.out.2.2.size)); have hx4 : Hid (NdA w3 w2.heap.size naX ∧ NdA w3 (w2.heap.size + 1) naY) := ⟨hX.out.1.grow hb3, hX.out.2.1.grow hb3⟩; clear hL3 hc3 hX; obtain ⟨ca0, ca1, ca2, ca3, ca4, ca5, ca6, ca7, ca8, ca9, ca10⟩ := NdA.cells (hL4.out.a); replace ca0 : w3.cell? ⟨w.heap.size, 0, none⟩ = some (.string ⟨#[65]⟩) := ca0; replace ca1 : w3.cell? ⟨w.heap.size, 1, none⟩ = some (.int .i64 1) := ca1; replace ca2 : w3.cell? ⟨w.heap.size, 2, none⟩ = some (.string ⟨#[115]⟩) := ca2; replace ca3 : w3.cell? ⟨w.heap.size, 3, none⟩ = some (.string ⟨#[]⟩) := ca3; replace ca4 : w3.cell? ⟨w.heap.size, 4, none⟩ = some (.string ⟨#[]⟩) := ca4; replace ca5 : w3.cell? ⟨w.heap.size, 5, none⟩ = some (.bool false) := ca5; replace ca6 : w3.cell? ⟨w.heap.size, 6, none⟩ = some (.int .i64 0) := ca6; replace ca7 : w3.cell? ⟨w.heap.size, 7, none⟩ = some (.int .i64 0) := ca7; replace ca8 : w3.cell? ⟨w.heap.size, 8, none⟩ = some (.int .i64 0) := ca8; replace ca9 : w3.cell? ⟨w.heap.size, 9, none⟩ = some (.int .i64 0) := ca9; replace ca10 : w3.cell? ⟨w.heap.size, 10, none⟩ = some (.string ⟨#[]⟩) := ca10; obtain ⟨cb0, cb1, cb2, cb3, cb4, cb5, cb6, cb7, cb8, cb9, cb10⟩ := NdA.cells (hL4.out.b); replace cb0 : w3.cell? ⟨w.heap.size + 1, 0, none⟩ = some (.string ⟨#[66]⟩) := cb0; replace cb1 : w3.cell? ⟨w.heap.size + 1, 1, none⟩ = some (.int .i64 2) := cb1; replace cb2 : w3.cell? ⟨w.heap.size + 1, 2, none⟩ = some (.string ⟨#[]⟩) := cb2; replace cb3 : w3.cell? ⟨w.heap.size + 1, 3, none⟩ = some (.string ⟨#[65]⟩) := cb3; replace cb4 : w3.cell? ⟨w.heap.size + 1, 4, none⟩ = some (.string ⟨#[108, 97, 115, 116]⟩) := cb4; replace cb5 : w3.cell? ⟨w.heap.size + 1, 5, none⟩ = some (.bool false) := cb5; replace cb6 : w3.cell? ⟨w.heap.size + 1, 6, none⟩ = some (.int .i64 0) := cb6; replace cb7 : w3.cell? ⟨w.heap.size + 1, 7, none⟩ = some (.int .i64 0) := cb7; replace cb8 : w3.cell? ⟨w.heap.size + 1, 8, none⟩ = some (.int .i64 0) := cb8; replace cb9 : w3.cell? ⟨w.heap.size + 1, 9, none⟩ = some (.int .i64 0) := cb9; replace cb10 : w3.cell? ⟨w.heap.size + 1, 10, none⟩ = some (.string ⟨#[]⟩) := cb10; obtain ⟨cc0, cc1, cc2, cc3, cc4, cc5, cc6, cc7, cc8, cc9, cc10⟩ := NdA.cells (hc4.out); replace cc0 : w3.cell? ⟨w1.heap.size, 0, none⟩ = some (.string ⟨#[67]⟩) := cc0; replace cc1 : w3.cell? ⟨w1.heap.size, 1, none⟩ = some (.int .i64 4) := cc1; replace cc2 : w3.cell? ⟨w1.heap.size, 2, none⟩ = some (.string ⟨#[]⟩) := cc2; replace cc3 : w3.cell? ⟨w1.heap.size, 3, none⟩ = some (.string ⟨#[66]⟩) := cc3; replace cc4 : w3.cell? ⟨w1.heap.size, 4, none⟩ = some (.string ⟨#[103, 116]⟩) := cc4; replace cc5 : w3.cell? ⟨w1.heap.size, 5, none⟩ = some (.bool false) := cc5; replace cc6 : w3.cell? ⟨w1.heap.size, 6, none⟩ = some (.int .i64 1) := cc6; replace cc7 : w3.cell? ⟨w1.heap.size, 7, none⟩ = some (.int .i64 1000) := cc7; replace cc8 : w3.cell? ⟨w1.heap.size, 8, none⟩ = some (.int .i64 0) := cc8; replace cc9 : w3.cell? ⟨w1.heap.size, 9, none⟩ = some (.int .i64 0) := cc9; replace cc10 : w3.cell? ⟨w1.heap.size, 10, none⟩ = some (.string ⟨#[]⟩) := cc10; have h15 := h15a.out _ hL4.out.bel))
    | (go_at_call 15; (refine h15.mono ?_; clear h15 h15a; rintro e w4 ⟨rfl, hb4⟩; clear ca0 ca1 ca2 ca3 ca4 ca5 ca6 ca7 ca8 ca9 ca10 cb0 cb1 cb2 cb3 cb4 cb5 cb6 cb7 cb8 cb9 cb10 cc0 cc1 cc2 cc3 cc4 cc5 cc6 cc7 cc8 cc9 cc10; have hL5 : Hid (LvA w w4) := hL4.out.grow hb4; have hc5 : Hid (NdA w4 w1.heap.size naC) := hc4.out.grow hb4; have hx5 : Hid (NdA w4 w2.heap.size naX ∧ NdA w4 (w2.heap.size + 1) naY) := ⟨hx4.out.1.grow hb4, hx4.out.2.grow hb4⟩; clear hL4 hc4 hx4; obtain ⟨cx0, cx1, cx2, cx3, cx4, cx5, cx6, cx7, cx8, cx9, cx10⟩ := NdA.cells (hx5.out.1); replace cx0 : w4.cell? ⟨w2.heap.size, 0, none⟩ = some (.string ⟨#[65]⟩) := cx0; replace cx1 : w4.cell? ⟨w2.heap.size, 1, none⟩ = some (.int .i64 3) := cx1; replace cx2 : w4.cell? ⟨w2.heap.size, 2, none⟩ = some (.string ⟨#[]⟩) := cx2; replace cx3 : w4.cell? ⟨w2.heap.size, 3, none⟩ = some (.string ⟨#[]⟩) := cx3; replace cx4 : w4.cell? ⟨w2.heap.size, 4, none⟩ = some (.string ⟨#[]⟩) := cx4; replace cx5 : w4.cell? ⟨w2.heap.size, 5, none⟩ = some (.bool false) := cx5; replace cx6 : w4.cell? ⟨w2.heap.size, 6, none⟩ = some (.int .i64 0) := cx6; replace cx7 : w4.cell? ⟨w2.heap.size, 7, none⟩ = some (.int .i64 0) := cx7; replace cx8 : w4.cell? ⟨w2.heap.size, 8, none⟩ = some (.int .i64 0) := cx8; replace cx9 : w4.cell? ⟨w2.heap.size, 9, none⟩ = some (.int .i64 0) := cx9; replace cx10 : w4.cell? ⟨w2.heap.size, 10, none⟩ = some (.string ⟨#[36, 66]⟩) := cx10; obtain ⟨cy0, cy1, cy2, cy3, cy4, cy5, cy6, cy7, cy8, cy9, cy10⟩ := NdA.cells (hx5.out.2); replace cy0 : w4.cell? ⟨w2.heap.size + 1, 0, none⟩ = some (.string ⟨#[66]⟩) := cy0; replace cy1 : w4.cell? ⟨w2.heap.size + 1, 1, none⟩ = some (.int .i64 3) := cy1; replace cy2 : w4.cell? ⟨w2.heap.size + 1, 2, none⟩ = some (.string ⟨#[]⟩) := cy2; replace cy3 : w4.cell? ⟨w2.heap.size + 1, 3, none⟩ = some (.string ⟨#[]⟩) := cy3; replace cy4 : w4.cell? ⟨w2.heap.size + 1, 4, none⟩ = some (.string ⟨#[]⟩) := cy4; replace cy5 : w4.cell? ⟨w2.heap.size + 1, 5, none⟩ = some (.bool false) := cy5; replace cy6 : w4.cell? ⟨w2.heap.size + 1, 6, none⟩ = some (.int .i64 0) := cy6; replace cy7 : w4.cell? ⟨w2.heap.size + 1, 7, none⟩ = some (.int .i64 0) := cy7; replace cy8 : w4.cell? ⟨w2.heap.size + 1, 8, none⟩ = some (.int .i64 0) := cy8; replace cy9 : w4.cell? ⟨w2.heap.size + 1, 9, none⟩ = some (.int .i64 0) := cy9; replace cy10 : w4.cell? ⟨w2.heap.size + 1, 10, none⟩ = some (.string ⟨#[36, 65]⟩) := cy10; have h15 := h15b.out _ hL5.out.bel))
    | (go_at_call 15; refine h15.mono ?_; clear h15 h15b; rintro e w5 ⟨rfl, hb5⟩; clear cx0 cx1 cx2 cx3 cx4 cx5 cx6 cx7 cx8 cx9 cx10 cy0 cy1 cy2 cy3 cy4 cy5 cy6 cy7 cy8 cy9 cy10; have hL6 : Hid (LvA w w5) := hL5.out.grow hb5; have hc6 : Hid (NdA w5 w1.heap.size naC) := hc5.out.grow hb5; clear hL5 hc5 hx5; have h15 := h15c.out _ hL6.out.bel)
    | (go_at_call 15; refine h15.mono ?_; clear h15 h15c; rintro e w6 ⟨rfl, hb6⟩; have hL7 : Hid (LvA w w6) := hL6.out.grow hb6; have hc7 : Hid (NdA w6 w1.heap.size naC) := hc6.out.grow hb6; clear hL6 hc6; obtain ⟨ca0, ca1, ca2, ca3, ca4, ca5, ca6, ca7, ca8, ca9, ca10⟩ := NdA.cells (hL7.out.a); replace ca0 : w6.cell? ⟨w.heap.size, 0, none⟩ = some (.string ⟨#[65]⟩) := ca0; replace ca1 : w6.cell? ⟨w.heap.size, 1, none⟩ = some (.int .i64 1) := ca1; replace ca2 : w6.cell? ⟨w.heap.size, 2, none⟩ = some (.string ⟨#[115]⟩) := ca2; replace ca3 : w6.cell? ⟨w.heap.size, 3, none⟩ = some (.string ⟨#[]⟩) := ca3; replace ca4 : w6.cell? ⟨w.heap.size, 4, none⟩ = some (.string ⟨#[]⟩) := ca4; replace ca5 : w6.cell? ⟨w.heap.size, 5, none⟩ = some (.bool false) := ca5; replace ca6 : w6.cell? ⟨w.heap.size, 6, none⟩ = some (.int .i64 0) := ca6; replace ca7 : w6.cell? ⟨w.heap.size, 7, none⟩ = some (.int .i64 0) := ca7; replace ca8 : w6.cell? ⟨w.heap.size, 8, none⟩ = some (.int .i64 0) := ca8; replace ca9 : w6.cell? ⟨w.heap.size, 9, none⟩ = some (.int .i64 0) := ca9; replace ca10 : w6.cell? ⟨w.heap.size, 10, none⟩ = some (.string ⟨#[]⟩) := ca10; obtain ⟨cb0, cb1, cb2, cb3, cb4, cb5, cb6, cb7, cb8, cb9, cb10⟩ := NdA.cells (hL7.out.b); replace cb0 : w6.cell? ⟨w.heap.size + 1, 0, none⟩ = some (.string ⟨#[66]⟩) := cb0; replace cb1 : w6.cell? ⟨w.heap.size + 1, 1, none⟩ = some (.int .i64 2) := cb1; replace cb2 : w6.cell? ⟨w.heap.size + 1, 2, none⟩ = some (.string ⟨#[]⟩) := cb2; replace cb3 : w6.cell? ⟨w.heap.size + 1, 3, none⟩ = some (.string ⟨#[65]⟩) := cb3; replace cb4 : w6.cell? ⟨w.heap.size + 1, 4, none⟩ = some (.string ⟨#[108, 97, 115, 116]⟩) := cb4; replace cb5 : w6.cell? ⟨w.heap.size + 1, 5, none⟩ = some (.bool false) := cb5; replace cb6 : w6.cell? ⟨w.heap.size + 1, 6, none⟩ = some (.int .i64 0) := cb6; replace cb7 : w6.cell? ⟨w.heap.size + 1, 7, none⟩ = some (.int .i64 0) := cb7; replace cb8 : w6.cell? ⟨w.heap.size + 1, 8, none⟩ = some (.int .i64 0) := cb8; replace cb9 : w6.cell? ⟨w.heap.size + 1, 9, none⟩ = some (.int .i64 0) := cb9; replace cb10 : w6.cell? ⟨w.heap.size + 1, 10, none⟩ = some (.string ⟨#[]⟩) := cb10; obtain ⟨cc0, cc1, cc2, cc3, cc4, cc5, cc6, cc7, cc8, cc9, cc10⟩ := NdA.cells (hc7.out); replace cc0 : w6.cell? ⟨w1.heap.size, 0, none⟩ = some (.string ⟨#[67]⟩) := cc0; replace cc1 : w6.cell? ⟨w1.heap.size, 1, none⟩ = some (.int .i64 4) := cc1; replace cc2 : w6.cell? ⟨w1.heap.size, 2, none⟩ = some (.string ⟨#[]⟩) := cc2; replace cc3 : w6.cell? ⟨w1.heap.size, 3, none⟩ = some (.string ⟨#[66]⟩) := cc3; replace cc4 : w6.cell? ⟨w1.heap.size, 4, none⟩ = some (.string ⟨#[103, 116]⟩) := cc4; replace cc5 : w6.cell? ⟨w1.heap.size, 5, none⟩ = some (.bool false) := cc5; replace cc6 : w6.cell? ⟨w1.heap.size, 6, none⟩ = some (.int .i64 1) := cc6; replace cc7 : w6.cell? ⟨w1.heap.size, 7, none⟩ = some (.int .i64 1000) := cc7; replace cc8 : w6.cell? ⟨w1.heap.size, 8, none⟩ = some (.int .i64 0) := cc8; replace cc9 : w6.cell? ⟨w1.heap.size, 9, none⟩ = some (.int .i64 0) := cc9; replace cc10 : w6.cell? ⟨w1.heap.size, 10, none⟩ = some (.string ⟨#[]⟩) := cc10; have h17' := h17.out _ hL7.out.bel)
    | (go_at_call 17; refine h17'.mono ?_; clear h17' h17; rintro e w7 ⟨a7, n7, c7, rfl, h7⟩; clear ca0 ca1 ca2 ca3 ca4 ca5 ca6 ca7 ca8 ca9 ca10 cb0 cb1 cb2 cb3 cb4 cb5 cb6 cb7 cb8 cb9 cb10 cc0 cc1 cc2 cc3 cc4 cc5 cc6 cc7 cc8 cc9 cc10; have hL8 : Hid (LvA w w7) := hL7.out.grow h7.out.2.2; obtain rfl : n7 = 2 := h7.out.1; have hT7 : Hid (Txs w7 (.slice a7 2 c7) [⟨#[65]⟩, ⟨#[66]⟩]) := h7.out.2.1; clear h7 hL7 hc7)
    | (go_at_call 11; refine (lv11b _ a7 c7 hT7.out).mono ?_; rintro e w8 ⟨rfl, hb8⟩))
  go_ret
  exact ⟨rfl, hL8.out.bel.trans (hb8.mono hL8.out.bel.size)⟩
end Go.Proofs.YtaffplmfnincfaaGreatDoor
