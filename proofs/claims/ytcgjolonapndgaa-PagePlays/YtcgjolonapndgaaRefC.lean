/- Crash of the document's answer. -/
import Derived.Test.YtcgjolonapndgaaRefN
import Derived.Test.YtcgjolonapndgaaCrash
import Derived.BigQuiet
namespace Go.Proofs.Ytcgjolonapndgaa
open Go.RowKit Go.Maps Go.ChangeMaps Go.MapKept

/-- The first k sectors have settled. -/
def St.half (s : St) (L : Int → Nat) (k : Nat) : St := { s with safe := fun n => if 0 ≤ n ∧ n < k then s.settled L n else s.safe n }
theorem half_zero (s : St) (L : Int → Nat) : s.half L 0 = s := by
  unfold St.half
  have : (fun n : Int => if 0 ≤ n ∧ n < ((0 : Nat) : Int) then s.settled L n else s.safe n) = s.safe := by
    funext n
    rw [if_neg (by omega)]
  rw [this]
theorem half_now (s : St) (L : Int → Nat) (k : Nat) : (s.half L k).now = s.now := by
  funext n
  unfold St.now St.half St.settled
  cases h : s.fresh n <;> simp [h]
theorem settled_eq (s : St) (L : Int → Nat) (n : Int) (h1 : (s.now n).length = s.size) (hL : L n ≤ s.size) : s.settled L n = (s.now n).take (L n) ++ (s.safe n).drop (L n) := by
  unfold St.settled
  unfold St.now at h1 ⊢
  cases hf : s.fresh n with
  | none => simp
  | some x =>
    rw [hf] at h1
    simp only [Option.getD_some] at h1 ⊢
    unfold over
    rw [List.length_take, Nat.min_eq_left (by omega)]
theorem settled_len (s : St) (L : Int → Nat) (n : Int) (h1 : (s.now n).length = s.size) (h2 : (s.safe n).length = s.size) (hL : L n ≤ s.size) : (s.settled L n).length = s.size := by
  rw [settled_eq s L n h1 hL]
  simp only [List.length_append, List.length_take, List.length_drop]
  omega
theorem strs_take (xs : List Int) (k : Nat) : strOfNums (xs.take k) = (strOfNums xs).extract 0 k := by
  apply ByteArray.ext
  simp [strOfNums]
theorem strs_drop (xs : List Int) (k m : Nat) (hm : xs.length ≤ m) : strOfNums (xs.drop k) = (strOfNums xs).extract k m := by
  apply ByteArray.ext
  simp [strOfNums]
  rw [List.take_of_length_le (by simp; omega)]
theorem strs_mix {xs ys : List Int} (h : strOfNums xs = strOfNums ys) (k : Nat) : strOfNums (xs.take k ++ ys.drop k) = strOfNums ys := by
  rw [strs_append, strs_take, h, ← strs_take, ← strs_append, List.take_append_drop]
theorem tornAt_cons (size : Nat) (t : Int × Int) (l : List (Int × Int)) (n : Int) : tornAt size (t :: l) n = if t.1 = n then some (clamp size t.2) else tornAt size l n := by
  unfold tornAt
  by_cases e : t.1 = n
  · simp [e]
  · simp [e]
theorem drop_cons {α : Type} (l : List α) (d : α) (k : Nat) (h : k < l.length) : l.drop k = l.getD k d :: l.drop (k + 1) := by
  rw [List.drop_eq_getElem_cons h, List.getD_eq_getElem?_getD, List.getElem?_eq_getElem h]; rfl

section
variable {w : World} {r : Nat} {G : Nat → Prop} {s : St} {gn cn gs cs gu cu : Nat}
/-- Behind one round. -/
theorem IsRef.half_same {L : Int → Nat} {k : Nat} (h : IsRef w r G (s.half L k) gn cn gs cs gu cu) (hk : k < s.sectors) (e : strOfNums (s.settled L k) = strOfNums (s.safe k)) (hl : ∀ n, (s.settled L n).length = s.size) : IsRef w r G (s.half L (k + 1)) gn cn gs cs gu cu :=
  { h with
    now := by have := h.now; rw [half_now] at this ⊢; exact this
    safe := h.safe.congr (fun i hi => by
      unfold St.half
      simp only
      by_cases e1 : i = k
      · subst e1
        rw [if_pos (by omega), if_neg (by omega), e]
      · by_cases e2 : (i : Int) < k
        · rw [if_pos (by omega), if_pos (by omega)]
        · rw [if_neg (by omega), if_neg (by omega)])
    nowLen := fun i => by have := h.nowLen i; rw [half_now] at this ⊢; exact this
    safeLen := fun i => by
      have := h.safeLen i
      unfold St.half at this ⊢
      simp only at this ⊢
      by_cases e2 : 0 ≤ i ∧ i < ((k + 1 : Nat) : Int)
      · rw [if_pos e2]; exact hl i
      · rw [if_neg e2]; rw [if_neg (by omega)] at this; exact this }
theorem IsRef.half_store {L : Int → Nat} {k : Nat} {S : ByteArray} (h : IsRef w r G (s.half L k) gn cn gs cs gu cu) (hk : k < s.sectors) (e : S = strOfNums (s.settled L k)) (hl : ∀ n, (s.settled L n).length = s.size) : IsRef (w.setCell ⟨gs, k, none⟩ (.string S)) r G (s.half L (k + 1)) gn cn gs cs gu cu := by
  obtain ⟨n1, n2, n3⟩ := h.nr
  obtain ⟨u1, u2⟩ := h.nu
  have hap := h.apart
  have o : ∀ j, j ≠ gs → (w.setCell ⟨gs, k, none⟩ (.string S)).heap[j]? = w.heap[j]? := fun j hj => other_set _ _ _ _ j hj
  exact { h with
    cells := (o r (fun e => n2 e.symm)).trans h.cells
    now := by have := h.now.keep (o gn hap); rw [half_now] at this ⊢; exact this
    safe := (h.safe.store k (.string S)).congr (fun i hi => by
      unfold St.half
      simp only
      by_cases e1 : i = k
      · subst e1
        rw [if_pos (by omega), if_pos rfl, e]
      · rw [if_neg e1]
        by_cases e2 : (i : Int) < k
        · rw [if_pos (by omega), if_pos (by omega)]
        · rw [if_neg (by omega), if_neg (by omega)])
    u := h.u.keep (o gu (fun e => u2 e.symm))
    nowLen := fun i => by have := h.nowLen i; rw [half_now] at this ⊢; exact this
    safeLen := fun i => by
      have := h.safeLen i
      unfold St.half at this ⊢
      simp only at this ⊢
      by_cases e2 : 0 ≤ i ∧ i < ((k + 1 : Nat) : Int)
      · rw [if_pos e2]; exact hl i
      · rw [if_neg e2]; rw [if_neg (by omega)] at this; exact this }
theorem IsRef.crashed {wr w2 W : World} {L : Int → Nat} {g2 c2 : Nat} (hd : IsRef wr r G (s.half L s.sectors) gn cn gs cs gu cu) (hv2 : VRow 9 w2 g2 c2 s.sectors (fun i => .string (strOfNums (s.settled L i)))) (hg2 : wr.heap.size ≤ g2) (hb2 : Below wr.heap.size wr w2) (hl : ∀ n, (s.settled L n).length = s.size)
    (hW : W = ((((w2.setCell ⟨r, 1, none⟩ (.slice (some ⟨g2, 0, none⟩) s.sectors c2)).setCell ⟨r, 3, none⟩ (.slice (some ⟨w2.heap.size, 0, none⟩) s.sectors s.sectors)).setCell ⟨r, 6, none⟩ (.bool false)).setCell ⟨r, 5, none⟩ (.int .i64 (-1))).alloc (.cells (madeCells #[.bool false] s.sectors) 4)) :
    IsRef W r (fun j => G j ∨ wr.heap.size ≤ j) { s.settle L with dead := false, left := -1 } g2 c2 gs cs w2.heap.size s.sectors ∧ Frm (fun j => j = r) w2 W := by
  have hlt := hd.lt
  have hr2 : r < w2.heap.size := Nat.lt_of_lt_of_le hlt hb2.size
  obtain ⟨_, n2, _⟩ := hd.nr
  have hsl := hd.safe.lt
  have hbs := hb2.size
  have hgl := hv2.lt
  have hsz : ((((w2.setCell ⟨r, 1, none⟩ (.slice (some ⟨g2, 0, none⟩) s.sectors c2)).setCell ⟨r, 3, none⟩ (.slice (some ⟨w2.heap.size, 0, none⟩) s.sectors s.sectors)).setCell ⟨r, 6, none⟩ (.bool false)).setCell ⟨r, 5, none⟩ (.int .i64 (-1))).heap.size = w2.heap.size := by simp [World.setCell]
  have ho : ∀ j, j < w2.heap.size → j ≠ r → W.heap[j]? = w2.heap[j]? := fun j hj hn => by
    rw [hW]
    exact ((heap_alloc _ _).2 j (by rw [hsz]; exact hj)).trans ((other_set _ _ _ _ j hn).trans ((other_set _ _ _ _ j hn).trans ((other_set _ _ _ _ j hn).trans (other_set _ _ _ _ j hn))))
  have hcr : W.heap[r]? = some (.cells (refCells { s.settle L with dead := false, left := -1 } (slR3 g2 s.sectors c2) (slR3 gs s.sectors cs) (slR3 w2.heap.size s.sectors s.sectors)) 68 (0, 0)) := by
    rw [hW]
    refine Eq.trans ?_ (show some (Obj.cells (((((refCells (s.half L s.sectors) (slR3 gn s.sectors cn) (slR3 gs s.sectors cs) (slR3 gu s.sectors cu)).setIfInBounds 1 (slR3 g2 s.sectors c2)).setIfInBounds 3 (slR3 w2.heap.size s.sectors s.sectors)).setIfInBounds 6 (.bool false)).setIfInBounds 5 (.int .i64 (-1))) 68 (0, 0)) = _ by simp [refCells, slR3, St.settle, St.half])
    exact ((heap_alloc _ _).2 r (by rw [hsz]; exact hr2)).trans (block_setCell (block_setCell (block_setCell (block_setCell ((hb2.block r hlt).trans hd.cells)))))
  have hob : W.heap[w2.heap.size]? = some (.cells (madeCells #[.bool false] s.sectors) 4 (0, 0)) := by
    have := (heap_alloc ((((w2.setCell ⟨r, 1, none⟩ (.slice (some ⟨g2, 0, none⟩) s.sectors c2)).setCell ⟨r, 3, none⟩ (.slice (some ⟨w2.heap.size, 0, none⟩) s.sectors s.sectors)).setCell ⟨r, 6, none⟩ (.bool false)).setCell ⟨r, 5, none⟩ (.int .i64 (-1))) (.cells (madeCells #[.bool false] s.sectors) 4)).1
    rw [hsz, ← hW] at this
    exact this
  have hnow : ∀ i : Int, ({ s.settle L with dead := false, left := -1 } : St).now i = s.settled L i := fun i => rfl
  refine ⟨{
    cells := hcr
    now := (hv2.keep (ho g2 hgl (by omega))).congr (fun i _ => by rw [hnow])
    safe := (hd.safe.keep ((ho gs (by omega) n2).trans (hb2.block gs hsl))).congr (fun i hi => by
      have hi : i < s.sectors := hi
      show Value.string (strOfNums (s.settled L i)) = _
      unfold St.half
      simp only
      rw [if_pos (by omega)])
    u := vrow_made hob
    apart := by omega
    inR := .inl hd.inR
    inN := .inr hg2
    inS := .inl hd.inS
    inU := .inr hb2.size
    nowLen := fun i => by rw [hnow]; exact hl i
    safeLen := fun i => hl i
    sec1 := hd.sec1
    sec2 := hd.sec2
    size1 := hd.size1
    size2 := hd.size2
    left1 := Int.le_refl _
    left2 := by simp }, ?_⟩
  exact ⟨by rw [hW]; rfl, by rw [hW]; rfl, by rw [hW]; rfl, by rw [hW, World.size_alloc, hsz]; omega, fun j hj hn => ho j hj hn⟩
/-- The fields behind the store of the first and a new block. -/
theorem ref_stores {w2 : World} {vn vs vu : Value} (hc : w2.heap[r]? = some (.cells (refCells s vn vs vu) 68 (0, 0))) (hr : r < w2.heap.size) (g n c : Nat) (O : Obj) :
    ((w2.setCell ⟨r, 1, none⟩ (.slice (some ⟨g, 0, none⟩) n c)).alloc O).cell? ⟨r, 3, none⟩ = some vu ∧ ((w2.setCell ⟨r, 1, none⟩ (.slice (some ⟨g, 0, none⟩) n c)).alloc O).frozen? ⟨r, 3, none⟩ = false ∧
    ((w2.setCell ⟨r, 1, none⟩ (.slice (some ⟨g, 0, none⟩) n c)).alloc O).cell? ⟨r, 6, none⟩ = some (.bool s.dead) ∧ ((w2.setCell ⟨r, 1, none⟩ (.slice (some ⟨g, 0, none⟩) n c)).alloc O).frozen? ⟨r, 6, none⟩ = false ∧
    ((w2.setCell ⟨r, 1, none⟩ (.slice (some ⟨g, 0, none⟩) n c)).alloc O).cell? ⟨r, 5, none⟩ = some (.int .i64 s.left) ∧ ((w2.setCell ⟨r, 1, none⟩ (.slice (some ⟨g, 0, none⟩) n c)).alloc O).frozen? ⟨r, 5, none⟩ = false := by
  have h1 := block_setCell (i := 1) (u := .slice (some ⟨g, 0, none⟩) n c) hc
  have h2 : ((w2.setCell ⟨r, 1, none⟩ (.slice (some ⟨g, 0, none⟩) n c)).alloc O).heap[r]? = _ := ((heap_alloc _ O).2 r (by simpa [World.setCell] using hr)).trans h1
  refine ⟨?_, ?_, ?_, ?_, ?_, ?_⟩ <;> simp [World.cell?, World.frozen?, h2, refCells]

set_option maxRecDepth 100000 in
set_option maxHeartbeats 4000000 in
theorem refCrash_any (h : IsR w r G s) (keep : List Int) (ts : List (Int × Int)) (vk vt : Value) (hk : ∀ W, Frm G w W → Ints W vk keep) (ht : ∀ W, Frm G w W → Torns W vt ts) (hkl : keep.length ≤ 140737488355328) (htl : ts.length ≤ 140737488355328) :
    Calls Try.prog 32 #[.pointer (some ⟨r, 0, none⟩), vk, vt] w fun e w' => e = .returned (.tuple #[]) ∧ TurnedR w r G (s.crash keep ts) w' := by
  obtain ⟨gn, cn, gs, cs, gu, cu, h⟩ := h
  have hL : ∀ n, lastN s.size keep ts n ≤ s.size := fun n => by have := lastAt_in s.size keep ts n; unfold lastN; omega
  have hsl : ∀ n, (s.settled (lastN s.size keep ts) n).length = s.size := fun n => settled_len s _ n (h.nowLen n) (h.safeLen n) (hL n)
  have hse : ∀ n, s.settled (lastN s.size keep ts) n = (s.now n).take (lastN s.size keep ts n) ++ (s.safe n).drop (lastN s.size keep ts n) := fun n => settled_eq s _ n (h.nowLen n) (hL n)
  have hsec := h.sec2
  have hz := h.size2
  obtain ⟨ak, ck, evk, _⟩ := hk w (Frm.refl _ _)
  obtain ⟨at', ct, evt, _⟩ := ht w (Frm.refl _ _)
  subst evk evt
  obtain ⟨kl, hkl'⟩ : ∃ kl, Hid (kl = keep.length) := ⟨_, rfl⟩
  obtain ⟨tl, htl'⟩ : ∃ tl, Hid (tl = ts.length) := ⟨_, rfl⟩
  have hk2 : Hid (∀ W, Frm G w W → ∀ i, i < kl → ∃ b o, ak = some ⟨b, o, none⟩ ∧ W.cell? ⟨b, o + i, none⟩ = some (.int .i64 (keep.getD i 0))) := by
    show ∀ W, _ → _
    intro W hW i hi
    obtain ⟨a1, c1, e, hx⟩ := hk W hW
    cases e
    rcases hx with hx | ⟨b, o, e, hx⟩
    · have := hkl'.out; rw [hx] at this; simp at this; omega
    · exact ⟨b, o, e, hx i (by have := hkl'.out; omega)⟩
  have ht2 : Hid (∀ W, Frm G w W → ∀ i, i < tl → ∃ b o, at' = some ⟨b, o, none⟩ ∧ W.cell? ⟨b, o + i * 2, none⟩ = some (.int .i64 (ts.getD i (0, 0)).1) ∧ W.cell? ⟨b, o + i * 2 + 1, none⟩ = some (.int .i64 (ts.getD i (0, 0)).2)) := by
    show ∀ W, _ → _
    intro W hW i hi
    obtain ⟨a1, c1, e, hx⟩ := ht W hW
    cases e
    rcases hx with hx | ⟨b, o, e, hx⟩
    · have := htl'.out; rw [hx] at this; simp at this; omega
    · exact ⟨b, o, e, hx i (by have := htl'.out; omega)⟩
  clear hk ht
  rw [← hkl'.out, ← htl'.out]
  rw [← hkl'.out] at hkl
  rw [← htl'.out] at htl
  replace hL : Hid _ := hL
  replace hsl : Hid _ := hsl
  replace hse : Hid _ := hse
  go_enter Try.func32, Try.ntmps32
  go_wp2
  go_loopw [6] (fun i wr => ∃ k : Nat, k ≤ s.sectors ∧ i = .int .i64 k ∧ IsRef wr r G (s.half (lastN s.size keep ts) k) gn cn gs cs gu cu ∧ Frm G w wr) (fun i _ => s.sectors - (intOf i).toNat)
  case atStart => exact ⟨0, Nat.zero_le _, rfl, by rw [half_zero]; exact h, Frm.refl _ _⟩
  case round =>
    obtain ⟨k, hks, rfl, hd, hfr⟩ := hrel
    have c0 : wr.cell? ⟨r, 0, none⟩ = some (.int .i64 s.size) := hd.c0
    have c1 : wr.cell? ⟨r, 1, none⟩ = some (.slice (some ⟨gn, 0, none⟩) s.sectors cn) := hd.c1
    have c2 : wr.cell? ⟨r, 2, none⟩ = some (.slice (some ⟨gs, 0, none⟩) s.sectors cs) := hd.c2
    by_cases hlt : k < s.sectors
    · have hki : (k : Int) < (s.sectors : Int) := by omega
      have b1 := (hd.now.cell k hlt).1
      have b2 := (hd.safe.cell k hlt).1
      have b3 := (hd.safe.cell k hlt).2
      rw [half_now] at b1
      have es : (s.half (lastN s.size keep ts) k).safe k = s.safe k := by unfold St.half; simp only; rw [if_neg (by omega)]
      rw [es] at b2
      obtain ⟨P, hP⟩ : ∃ P, Hid (P = strOfNums (s.now k)) := ⟨_, rfl⟩
      obtain ⟨S, hS⟩ : ∃ S, Hid (S = strOfNums (s.safe k)) := ⟨_, rfl⟩
      rw [← hP.out] at b1
      rw [← hS.out] at b2
      have hPs : P.size = s.size := by rw [hP.out, strOfNums_size]; exact h.nowLen k
      have hSs : S.size = s.size := by rw [hS.out, strOfNums_size]; exact h.safeLen k
      cases dPS : (P.toList == S.toList) with
      | true =>
        have hPS : P = S := by
          have := eq_of_beq dPS
          rw [Lib.toList_data, Lib.toList_data] at this
          exact ByteArray.ext (Array.ext' this)
        have hd' : Hid (IsRef wr r G (s.half (lastN s.size keep ts) (k + 1)) gn cn gs cs gu cu) := hd.half_same hlt (by rw [hse.out]; exact strs_mix (by rw [← hP.out, ← hS.out, hPS]) _) hsl.out
        subst hPS
        clear hd
        go_wp2
        go_quiet (fail)
        go_wp2
        refine ⟨⟨k + 1, by omega, by go_num, hd'.out.keep (fun _ _ _ => rfl), hfr.drewN _⟩, ?_⟩
        simp [intOf]; omega
      | false =>
        go_wp2
        go_quiet (fail)
        have hd1 := hd.keep (w' := wr.drewN nq) (fun _ _ _ => rfl)
        have hf1 := hfr.drewN nq
        have a0 : (wr.drewN nq).cell? ⟨r, 0, none⟩ = some (.int .i64 s.size) := c0
        have a1 : (wr.drewN nq).cell? ⟨r, 1, none⟩ = some (.slice (some ⟨gn, 0, none⟩) s.sectors cn) := c1
        have a2 : (wr.drewN nq).cell? ⟨r, 2, none⟩ = some (.slice (some ⟨gs, 0, none⟩) s.sectors cs) := c2
        have a3 : (wr.drewN nq).cell? ⟨gn, k, none⟩ = some (.string P) := b1
        have a4 : (wr.drewN nq).cell? ⟨gs, k, none⟩ = some (.string S) := b2
        have a5 : (wr.drewN nq).frozen? ⟨gs, k, none⟩ = false := b3
        clear c0 c1 c2 b1 b2 b3 hd hfr
        generalize wr.drewN nq = W at hd1 hf1 a0 a1 a2 a3 a4 a5 ⊢
        go_wp2
        go_loopw [7, 8] (fun z j wq => ∃ q : Nat, q ≤ tl ∧ j = .int .i64 ((q : Int) - 1) ∧ z = .int .i64 ((tornAt s.size (ts.drop q) k).getD 0) ∧ ∃ m, wq = W.drewN m) (fun _ j _ => (intOf j + 1).toNat)
        case atStart => exact ⟨tl, Nat.le_refl _, rfl, by rw [htl'.out]; simp [tornAt], 0, rfl⟩
        case round =>
          obtain ⟨q, hq, rfl, rfl, m, rfl⟩ := hrel
          rcases q with _ | q
          · have e0 : ((0 : Nat) : Int) - 1 = -1 := rfl
            rw [e0, List.drop_zero]
            have hT0 : (tornAt s.size ts k).getD 0 = (lastAt s.size (keep.take 0) ts k).getD 0 := by simp [lastAt]
            rw [hT0]
            clear hT0
            generalize HT : (lastAt s.size (keep.take 0) ts k).getD 0 = T0
            replace HT : Hid _ := HT
            go_wp2
            go_loopw [7, 9] (fun z j wq => ∃ q : Nat, q ≤ kl ∧ j = .int .i64 q ∧ z = .int .i64 ((lastAt s.size (keep.take q) ts k).getD 0) ∧ ∃ m, wq = W.drewN m) (fun _ j _ => kl - (intOf j).toNat)
            case atStart => exact ⟨0, Nat.zero_le _, rfl, by rw [HT.out], m, rfl⟩
            case round =>
              clear HT
              obtain ⟨q, hq, rfl, rfl, m, rfl⟩ := hrel
              by_cases hqk : q < kl
              · obtain ⟨b, o, rfl, hc1⟩ := hk2.out W hf1 q hqk
                have hsn := congrFun (lastAt_snoc s.size (keep.take q) ts (keep.getD q 0)) k
                rw [← take_snoc keep 0 q (by have := hkl'.out; omega)] at hsn
                generalize keep.getD q 0 = x at hc1 hsn
                simp only [upd] at hsn
                generalize (lastAt s.size (keep.take q) ts k) = T0 at hsn
                have hqi : (q : Int) < (kl : Int) := by omega
                by_cases e1 : x = k
                · subst e1
                  have hsn2 : Hid (lastAt s.size (keep.take (q + 1)) ts k = some (s.size : Int)) := by
                    show _ = _
                    rw [hsn]; simp
                  clear hsn
                  go_wp2
                  refine ⟨⟨q + 1, by omega, by go_num, by rw [hsn2.out]; rfl, m, rfl⟩, ?_⟩
                  simp [intOf]; omega
                · have hsn2 : Hid (lastAt s.size (keep.take (q + 1)) ts k = T0) := by
                    show _ = _
                    rw [hsn, if_neg (fun e => e1 e.symm)]
                  have de1 : decide (x = (k : Int)) = false := by simpa using e1
                  clear hsn
                  go_wp2
                  refine ⟨⟨q + 1, by omega, by go_num, by rw [hsn2.out], m, rfl⟩, ?_⟩
                  simp [intOf]; omega
              · obtain rfl : q = kl := by omega
                have hTe : Hid ((lastAt s.size (keep.take q) ts k).getD 0 = ((lastN s.size keep ts k : Nat) : Int)) := by
                  have := lastAt_in s.size keep ts k
                  have e : keep.take q = keep := by rw [hkl'.out, List.take_length]
                  unfold lastN
                  rw [e]
                  show _ = _
                  omega
                rw [hTe.out]
                have hLk := hL.out k
                generalize HL : lastN s.size keep ts k = L at hLk
                replace HL : Hid _ := HL
                go_wp2
                go_region
                have hst : Hid (IsRef ((W.drewN (m + 1)).setCell ⟨gs, k, none⟩ (.string (P.extract 0 L ++ S.extract L s.size))) r G (s.half (lastN s.size keep ts) (k + 1)) gn cn gs cs gu cu) := by
                  refine (hd1.keep (w' := W.drewN (m + 1)) (fun _ _ _ => rfl)).half_store hlt ?_ hsl.out
                  rw [hse.out, strs_append, strs_take, strs_drop _ _ s.size (Nat.le_of_eq (h.safeLen k)), ← hP.out, ← hS.out, HL.out]
                have hft : Hid (Frm G w ((W.drewN (m + 1)).setCell ⟨gs, k, none⟩ (.string (P.extract 0 L ++ S.extract L s.size)))) :=
                  (hf1.drewN (m + 1)).trans (Frm.mk (F := fun j => j = gs) rfl rfl rfl (by simp [World.setCell]) (fun j _ hn => other_set _ _ _ _ j hn)) (fun j e => by cases e; exact .inl h.inS)
                generalize ((W.drewN (m + 1)).setCell ⟨gs, k, none⟩ (.string (P.extract 0 L ++ S.extract L s.size))) = W2 at hst hft ⊢
                clear hd1 hf1 hse hsl
                go_wp2
                refine ⟨⟨k + 1, by omega, by go_num, hst.out, hft.out⟩, ?_⟩
                simp [intOf]; omega
          · have eq1 : ((q + 1 : Nat) : Int) - 1 = q := by omega
            rw [eq1]
            obtain ⟨b, o, rfl, hc1, hc2⟩ := ht2.out W hf1 q (by omega)
            have htc := tornAt_cons s.size (ts.getD q (0, 0)) (ts.drop (q + 1)) k
            rw [← drop_cons ts (0, 0) q (by have := htl'.out; omega)] at htc
            generalize ts.getD q (0, 0) = t at hc1 hc2 htc
            obtain ⟨t1, t2⟩ := t
            simp only at hc1 hc2 htc
            generalize (tornAt s.size (ts.drop (q + 1)) k) = T0 at htc
            have hqt : (q : Int) < (tl : Int) := by omega
            have htc' : Hid _ := htc
            by_cases e1 : t1 = k
            · rw [if_pos e1] at htc
              replace htc : Hid _ := htc
              subst e1
              go_wp2
              go_region
              go_wp2
              refine ⟨⟨q, by omega, rfl, ?_, m + 1, rfl⟩, ?_⟩
              · rw [htc.out]
                simp only [Option.getD_some, clamp]
                congr 1
                omega
              · simp only [intOf]; omega
            · rw [if_neg e1] at htc
              replace htc : Hid _ := htc
              have de1 : decide (t1 = (k : Int)) = false := by simpa using e1
              go_wp2
              refine ⟨⟨q, by omega, rfl, by rw [htc.out], m, rfl⟩, ?_⟩
              simp only [intOf]; omega
    · obtain rfl : k = s.sectors := by omega
      have hki : decide ((s.sectors : Int) < (s.sectors : Int)) = false := by simp
      obtain ⟨xs, hxs⟩ : ∃ xs, Hid (xs = (List.range s.sectors).map (fun (i : Nat) => strOfNums (s.settled (lastN s.size keep ts) i))) := ⟨_, rfl⟩
      have hxl : Hid (xs.length = s.sectors) := by show _ = _; rw [hxs.out]; simp
      have hsec1 : 1 ≤ s.sectors := h.sec1
      have hrow : Hid (VRow 9 wr gs cs s.sectors (fun i => .string (xs.getD i ⟨#[]⟩))) := by
        refine hd.safe.congr (fun i hi => ?_)
        have hi : i < s.sectors := hi
        rw [hxs.out]
        unfold St.half
        simp only
        rw [if_pos (by omega)]
        simp [hi]
      have hmb : ∀ W, (Instr.makeSlice 66 (.int .i64 s.sectors) (.int .i64 s.sectors)).run Try.prog W = _ := fun W => makeBo W s.sectors (by omega)
      simp only [slR3] at hmb
      generalize HO : Obj.cells (madeCells #[.bool false] s.sectors) 4 = O at hmb
      replace HO : Hid _ := HO
      have k2 : (wr.alloc (.cells #[] 9)).cell? ⟨r, 2, none⟩ = some (.slice (some ⟨gs, 0, none⟩) s.sectors cs) := (World.cell?_of_block (w := wr) ((heap_alloc wr _).2 r hd.lt)).trans c2
      go_wp2_with (first
        | (at_builtin; refine appStrs rfl _ _ rfl wr gs cs s.sectors xs rfl rfl hxl.out (by omega) (by omega) hrow.out ?_; intro g2 c2' w2 hv2 hg2 hb2; unfold slR3; have hr2 : r < w2.heap.size := Nat.lt_of_lt_of_le hd.lt hb2.size; have hc2 : w2.heap[r]? = _ := (hb2.block r hd.lt).trans hd.cells; have z1 := ref_cell hc2 1 _ rfl; have z2 : w2.frozen? ⟨r, 1, none⟩ = false := frozen_block hc2; unfold slR3 at z1; obtain ⟨y1, y2, y3, y4, y5, y6⟩ := ref_stores hc2 hr2 g2 s.sectors c2' O; have x6 := ref_cell hc2 6 _ rfl; have x5 := ref_cell hc2 5 _ rfl; have x6' : w2.frozen? ⟨r, 6, none⟩ = false := frozen_block hc2; have x5' : w2.frozen? ⟨r, 5, none⟩ = false := frozen_block hc2; replace hv2 : Hid _ := hv2; replace hb2 : Hid _ := hb2; replace hc2 : Hid _ := hc2))
      go_end0
      obtain ⟨hA, hB⟩ := hd.crashed ((show VRow 9 w2 g2 c2' s.sectors _ from hv2.out).congr (f' := fun i => .string (strOfNums (s.settled (lastN s.size keep ts) i))) (fun i hi => by rw [hxs.out]; simp [hi])) hg2 hb2.out hsl.out rfl
      rw [HO.out] at hA hB
      refine ⟨rfl, turnedR_of (hA.wide fun j hj => ?_) ((hfr.trans (Frm.of_below hb2.out G) (fun _ h => .inl h)).trans hB (fun j e => by cases e; exact .inl h.inR))⟩
      rcases hj with hj | hj
      · exact .inl hj
      · exact .inr (Nat.le_trans hfr.size hj)
end
end Go.Proofs.Ytcgjolonapndgaa
