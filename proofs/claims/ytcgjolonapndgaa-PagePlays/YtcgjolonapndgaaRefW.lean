/- Write of the document's answer. -/
import Derived.Test.YtcgjolonapndgaaRef
import Derived.BigRegion
namespace Go.Proofs.Ytcgjolonapndgaa
open Go.RowKit Go.Maps Go.ChangeMaps Go.MapKept

theorem strs_append (a b : List Int) : strOfNums (a ++ b) = strOfNums a ++ strOfNums b := by
  apply ByteArray.ext
  simp [strOfNums]
def TurnedR (w : World) (r : Nat) (G : Nat → Prop) (s' : St) (w' : World) : Prop := ∃ G', IsR w' r G' s' ∧ Frm G w w' ∧ ∀ k, G' k → (G k ∨ w.heap.size ≤ k) ∧ k < w'.heap.size
section
variable {w : World} {r : Nat} {G : Nat → Prop} {s : St} {gn cn gs cs gu cu : Nat}
theorem IsRef.tight (h : IsRef w r G s gn cn gs cs gu cu) : IsRef w r (fun k => G k ∧ k < w.heap.size) s gn cn gs cs gu cu :=
  { h with
    inR := ⟨h.inR, h.lt⟩
    inN := ⟨h.inN, h.now.lt⟩
    inS := ⟨h.inS, h.safe.lt⟩
    inU := ⟨h.inU, h.u.lt⟩ }
theorem IsRef.wide {G' : Nat → Prop} (h : IsRef w r G s gn cn gs cs gu cu) (hG : ∀ k, G k → G' k) : IsRef w r G' s gn cn gs cs gu cu :=
  { h with inR := hG _ h.inR, inN := hG _ h.inN, inS := hG _ h.inS, inU := hG _ h.inU }
theorem turnedR_of {W : World} {s' : St} (h : IsRef W r (fun k => G k ∨ w.heap.size ≤ k) s' gn cn gs cs gu cu) (hf : Frm G w W) : TurnedR w r G s' W :=
  ⟨_, ⟨gn, cn, gs, cs, gu, cu, h.tight⟩, hf, fun _ hk => hk⟩
theorem turnedR_same (h : IsR w r G s) : TurnedR w r G s w := by
  obtain ⟨gn, cn, gs, cs, gu, cu, h⟩ := h
  exact turnedR_of (h.wide fun k hk => .inl hk) (Frm.refl _ _)

/-- Behind the two stores of Write. -/
theorem IsRef.wrote {W : World} {k : Nat} {x : List Int} (h : IsRef w r G s gn cn gs cs gu cu) (hx : x.length = s.size) (hk : k < s.sectors) (hW : Below w.heap.size w W) :
    IsRef ((W.setCell ⟨gn, k, none⟩ (.string (strOfNums x))).setCell ⟨gu, k, none⟩ (.bool true)) r G (s.wrote k x) gn cn gs cs gu cu := by
  obtain ⟨n1, n2, n3⟩ := h.nr
  obtain ⟨u1, u2⟩ := h.nu
  have hw := h.keep (w' := W) (fun j _ hj => hW.block j hj)
  have e1 : ∀ j, j ≠ gn → j ≠ gu → ((W.setCell ⟨gn, k, none⟩ (.string (strOfNums x))).setCell ⟨gu, k, none⟩ (.bool true)).heap[j]? = W.heap[j]? := fun j h1 h2 => (other_set _ _ _ _ j h2).trans (other_set _ _ _ _ j h1)
  have hfr : ∀ i : Nat, ((s.wrote k x).fresh i).isSome = (if i = k then true else (s.fresh i).isSome) := fun i => by
    by_cases e : i = k
    · subst e; simp [St.wrote, upd]
    · have : (i : Int) ≠ k := by omega
      simp [St.wrote, upd, this, e]
  have hno : ∀ i : Nat, (s.wrote k x).now i = (if i = k then x else s.now i) := fun i => by
    by_cases e : i = k
    · subst e; simp [St.wrote, St.now, upd]
    · have : (i : Int) ≠ k := by omega
      simp [St.wrote, St.now, upd, this, e]
  exact { hw with
    cells := (e1 r (fun e => n1 e.symm) (fun e => n3 e.symm)).trans hw.cells
    now := by
      refine ((hw.now.store k (.string (strOfNums x))).keep (other_set _ _ _ _ gn u1)).congr (fun i hi => ?_)
      rw [hno]
      by_cases e : i = k <;> simp [e]
    safe := hw.safe.keep (e1 gs (fun e => hw.apart e.symm) u2)
    u := by
      have h0 : VRow 4 (W.setCell ⟨gn, k, none⟩ (.string (strOfNums x))) gu cu s.sectors (fun i => .bool (s.fresh i).isSome) := hw.u.keep (other_set _ _ _ _ gu (fun e => u1 e.symm))
      refine (h0.store k (.bool true)).congr (fun i hi => ?_)
      rw [hfr]
      by_cases e : i = k <;> simp [e]
    nowLen := fun i => by
      show ((s.wrote k x).now i).length = s.size
      unfold St.now St.wrote upd
      simp only
      split
      · exact hx
      · exact hw.nowLen i
    safeLen := hw.safeLen }

set_option maxRecDepth 100000 in
set_option maxHeartbeats 4000000 in
theorem refWrite_live (h : IsRef w r G s gn cn gs cs gu cu) (hops : s.ops < 17592186044416) (k : Nat) (hk : k < s.sectors) (x : List Int) (hx : x.length ≤ s.size) (hl : s.live = true) :
    Calls Try.prog 34 #[.pointer (some ⟨r, 0, none⟩), .int .i64 k, .string (strOfNums x)] w fun e w' => e = .returned (.int .i64 0) ∧ TurnedR w r G (s.op.wrote k (padded s.size x)) w' := by
  have hop := begin_any h (by omega)
  have e3 : s.errOp = 0 := by simp [St.errOp, hl]
  rw [e3] at hop
  obtain ⟨esec, esz, _, _, hop1, hop2⟩ := op_same s
  have c0 := h.c0
  have c1 := h.c1
  have hz := h.size2
  have hsz : (strOfNums x).size = x.length := strOfNums_size x
  have hki : (k : Int) < (s.sectors : Int) := by omega
  have d0 : decide ((s.sectors : Int) ≤ (k : Int)) = false := by simp; omega
  obtain ⟨P, hP⟩ : ∃ P, Hid (P = strOfNums x) := ⟨_, rfl⟩
  rw [← hP.out] at hsz ⊢
  obtain ⟨m, hm⟩ : ∃ m, Hid (m = x.length) := ⟨_, rfl⟩
  rw [← hm.out] at hsz hx
  have d1 : decide ((s.size : Int) < (m : Int)) = false := by simp; omega
  have hmk : ∀ W, (Instr.makeSlice 23 (.int .i64 ((s.size : Int) - (m : Int))) (.int .i64 ((s.size : Int) - (m : Int)))).run Try.prog W = .ok (slV (s.size - m) W.heap.size) (W.alloc (.cells ((zeros (s.size - m)).map (Value.int .u8)).toArray 5)) := fun W => by
    have := makeZ W (s.size - m) (by omega)
    have e : ((s.size - m : Nat) : Int) = (s.size : Int) - (m : Int) := by omega
    rw [e] at this
    exact this
  generalize HO : Obj.cells ((zeros (s.size - m)).map (Value.int .u8)).toArray 5 = O at hmk
  replace HO : Hid _ := HO
  go_enter Try.func34, Try.ntmps34
  go_wp2_with (first | (go_at_call 50; refine hop.mono ?_; rintro e w1 ⟨rfl, hd1, hg1⟩))
  have a0 := hd1.c0
  have a1 := hd1.c1
  have a3 := hd1.c3
  rw [esz] at a0
  rw [esec] at a1 a3
  have hrow := hd1.now.cell k (by rw [esec]; exact hk)
  obtain ⟨b1, b2⟩ := hrow
  have hconv : ∀ W, OkW (w1.alloc O) W → (convert 23 9 (slV (s.size - m) w1.heap.size)).run Try.prog W = .ok (.string (strOfNums (zeros (s.size - m)))) W := fun W hW => by
    have hr : Row (w1.alloc O) w1.heap.size (zeros (s.size - m)) := by
      unfold Row
      rw [HO.out]
      exact (heap_alloc w1 O).1
    have hb := hr.bts
    have hzl : (zeros (s.size - m)).length = s.size - m := by simp [zeros]
    rw [hzl] at hb
    exact conv_str (Bts.grow hb hW)
  have v0 := hconv _ (OkW.refl _)
  have v1 := hconv _ (OkW.refl _).drew
  have v2 := hconv _ (OkW.refl _).drew.drew
  have v3 := hconv _ (OkW.refl _).drew.drew.drew
  obtain ⟨Z, hZ⟩ : ∃ Z, Hid (Z = strOfNums (zeros (s.size - m))) := ⟨_, rfl⟩
  rw [← hZ.out] at v0 v1 v2 v3
  have hZs : Z.size = s.size - m := by rw [hZ.out, strOfNums_size]; simp [zeros]
  have hadd2 : ¬ (9223372036854775807 < P.size + Z.size) := by omega
  clear hconv hop c0 c1
  have k0 : (w1.alloc O).cell? ⟨r, 0, none⟩ = some (.int .i64 s.size) := (World.cell?_of_block (w := w1) ((heap_alloc w1 O).2 r hd1.lt)).trans a0
  have k1 : (w1.alloc O).cell? ⟨r, 1, none⟩ = some (.slice (some ⟨gn, 0, none⟩) s.sectors cn) := (World.cell?_of_block (w := w1) ((heap_alloc w1 O).2 r hd1.lt)).trans a1
  have k2 := (World.cell?_of_block (w := w1) (w' := w1.alloc O) (a := ⟨gn, k, none⟩) ((heap_alloc w1 O).2 gn hd1.now.lt)).trans b1
  have k3 := (World.frozen?_of_block (w := w1) (w' := w1.alloc O) (a := ⟨gn, k, none⟩) ((heap_alloc w1 O).2 gn hd1.now.lt)).trans b2
  go_region
  obtain ⟨n1, n2, n3⟩ := hd1.nr
  obtain ⟨u1, u2⟩ := hd1.nu
  have hAB : Below w1.heap.size w1 (w1.alloc O).drew := ⟨rfl, rfl, rfl, by simp [World.drew], fun j hj => (heap_alloc w1 O).2 j hj⟩
  have hPZ : P ++ Z = strOfNums (padded s.size x) := by
    rw [hP.out, hZ.out, hm.out, ← strs_append]
    rfl
  have hfin : Hid (TurnedR w r G (s.op.wrote k (padded s.size x)) ((((w1.alloc O).setCell ⟨gn, k, none⟩ (.string (P ++ Z))).drew).setCell ⟨gu, k, none⟩ (.bool true))) := by
    have hwr := hd1.wrote (x := padded s.size x) (k := k) (by rw [esz]; exact padded_len _ _ (by rw [← hm.out]; exact hx)) (by rw [esec]; exact hk) hAB
    rw [hPZ]
    refine turnedR_of (hwr.wide fun j hj => .inl hj) ?_
    have hf1 : Frm G w w1 := Frm.of_grown hg1 (fun j e => by cases e; exact .inl h.inR)
    refine (hf1.trans (Frm.of_below hAB G) (fun _ h => .inl h)).trans (Frm.mk (F := fun j => j = gn ∨ j = gu) rfl rfl rfl (by simp [World.setCell, World.drew]) (fun j hj hn => ?_)) (fun j hj => ?_)
    · exact (other_set _ _ _ _ j (fun e => hn (.inr e))).trans (other_set (w1.alloc O).drew _ _ _ j (fun e => hn (.inl e)))
    · rcases hj with rfl | rfl
      · exact .inl h.inN
      · exact .inl h.inU
  have hcu := hd1.u.cell k (by rw [esec]; exact hk)
  have oth : ∀ j, j < w1.heap.size → j ≠ gn → (((w1.alloc O).setCell ⟨gn, k, none⟩ (.string (P ++ Z))).drew).heap[j]? = w1.heap[j]? := fun j hj hn => (other_set (w1.alloc O) _ _ _ j hn).trans ((heap_alloc w1 O).2 j hj)
  have q3 := (World.cell?_of_block (w := w1) (a := ⟨r, 3, none⟩) (oth r hd1.lt (fun e => n1 e.symm))).trans a3
  have q4 := (World.cell?_of_block (w := w1) (a := ⟨gu, k, none⟩) (oth gu hd1.u.lt (fun e => u1 e.symm))).trans hcu.1
  have q5 := (World.frozen?_of_block (w := w1) (a := ⟨gu, k, none⟩) (oth gu hd1.u.lt (fun e => u1 e.symm))).trans hcu.2
  clear oth k0 k1 k2 k3 hPZ v0 v1 v2 v3 hd1 hg1 h
  generalize ((w1.alloc O).setCell ⟨gn, k, none⟩ (.string (P ++ Z))).drew = W at q3 q4 q5 hfin ⊢
  go_wp2
  go_ret
  exact ⟨rfl, hfin.out⟩

/-- Write(n, p) of the document's answer. -/
theorem write_one (s : St) (n : Int) (x : List Int) : s.write n [x] = if 0 ≤ n ∧ n < s.sectors then (if x.length ≤ s.size then (if s.live then s.op.wrote n (padded s.size x) else s.op) else s) else s := by
  unfold St.write tot
  simp only [List.flatten_cons, List.flatten_nil, List.append_nil]
set_option maxRecDepth 100000 in
set_option maxHeartbeats 2000000 in
theorem refWrite_any (h : IsR w r G s) (hops : s.ops < 17592186044416) (n : Int) (x : List Int) :
    Calls Try.prog 34 #[.pointer (some ⟨r, 0, none⟩), .int .i64 n, .string (strOfNums x)] w fun e w' => e = .returned (.int .i64 (s.errWrite n [x])) ∧ TurnedR w r G (s.write n [x]) w' := by
  have h' := h
  obtain ⟨gn, cn, gs, cs, gu, cu, h⟩ := h
  have c0 := h.c0
  have c1 := h.c1
  have hz := h.size2
  have hsz : (strOfNums x).size = x.length := strOfNums_size x
  by_cases h0 : n < 0
  · have e1 : s.errWrite n [x] = 2 := by unfold St.errWrite; rw [if_neg (by omega)]
    have e2 : s.write n [x] = s := by unfold St.write; rw [if_neg (by omega)]
    rw [e1, e2]
    go_enter Try.func34, Try.ntmps34
    go_wp2
    go_ret
    exact ⟨rfl, turnedR_same h'⟩
  · have d0 : decide (n < 0) = false := by simpa using h0
    by_cases hs : (s.sectors : Int) ≤ n
    · have e1 : s.errWrite n [x] = 2 := by unfold St.errWrite; rw [if_neg (by omega)]
      have e2 : s.write n [x] = s := by unfold St.write; rw [if_neg (by omega)]
      rw [e1, e2]
      go_enter Try.func34, Try.ntmps34
      go_wp2
      go_ret
      exact ⟨rfl, turnedR_same h'⟩
    · have d1 : decide ((s.sectors : Int) ≤ n) = false := by simpa using hs
      obtain ⟨k, rfl⟩ : ∃ k : Nat, n = k := ⟨n.toNat, by omega⟩
      by_cases hx : x.length ≤ s.size
      · have ht : tot [x] ≤ s.size := by simpa [tot] using hx
        cases hl : s.live with
        | true =>
          obtain ⟨e1, e2⟩ : s.errWrite k [x] = 0 ∧ s.write k [x] = s.op.wrote k (padded s.size x) := by
            have hc : 0 ≤ (k : Int) ∧ (k : Int) < s.sectors := by omega
            refine ⟨?_, by rw [write_one, if_pos hc, if_pos hx, if_pos hl]⟩
            unfold St.errWrite
            rw [if_pos hc, if_pos ht]
            simp [St.errOp, hl]
          rw [e1, e2]
          exact refWrite_live h hops k (by omega) x hx hl
        | false =>
          obtain ⟨e1, e2⟩ : s.errWrite k [x] = 20 ∧ s.write k [x] = s.op := by
            have hc : 0 ≤ (k : Int) ∧ (k : Int) < s.sectors := by omega
            refine ⟨?_, by rw [write_one, if_pos hc, if_pos hx, hl]; rfl⟩
            unfold St.errWrite
            rw [if_pos hc, if_pos ht]
            simp [St.errOp, hl]
          rw [e1, e2]
          have hop := begin_any h (by omega)
          have e3 : s.errOp = 20 := by simp [St.errOp, hl]
          rw [e3] at hop
          obtain ⟨m, hm⟩ : ∃ m, Hid (m = x.length) := ⟨_, rfl⟩
          rw [← hm.out] at hsz hx
          generalize strOfNums x = P at hsz
          have d2 : decide ((s.size : Int) < (m : Int)) = false := by simp; omega
          go_enter Try.func34, Try.ntmps34
          go_wp2_with (first | (go_at_call 50; refine hop.mono ?_; rintro e w1 ⟨rfl, hd1, hg1⟩))
          go_ret
          exact ⟨rfl, turnedR_of (hd1.wide fun j hj => .inl hj) (Frm.of_grown hg1 (fun j e => by cases e; exact .inl h.inR))⟩
      · have e1 : s.errWrite k [x] = 1 := by
          unfold St.errWrite
          rw [if_pos (by omega), if_neg (by simpa [tot] using hx)]
        have e2 : s.write k [x] = s := by rw [write_one, if_pos (by omega), if_neg hx]
        rw [e1, e2]
        obtain ⟨m, hm⟩ : ∃ m, Hid (m = x.length) := ⟨_, rfl⟩
        rw [← hm.out] at hsz hx
        generalize strOfNums x = P at hsz
        have d2 : (s.size : Int) < (m : Int) := by omega
        go_enter Try.func34, Try.ntmps34
        go_wp2
        go_ret
        exact ⟨rfl, turnedR_same h'⟩
end
end Go.Proofs.Ytcgjolonapndgaa
