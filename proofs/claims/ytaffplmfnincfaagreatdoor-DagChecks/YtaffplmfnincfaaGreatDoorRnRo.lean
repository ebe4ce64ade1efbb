/- Rn; Ro. -/
import Derived.Test.YtaffplmfnincfaaGreatDoorRgRi
import Derived.Test.YtaffplmfnincfaaGreatDoorPd
/- DagChecks: Needs of every list: mathematics. -/
namespace Go.Proofs.YtaffplmfnincfaaGreatDoor
set_option linter.unusedVariables false
open Go.RowKit
theorem asc_app {β : Type} (r k : ByteArray) (x : β) : ∀ acc : List (ByteArray × β), asc r (acc ++ [(k, x)]) = match asc r acc with | some y => some y | none => if r = k then some x else none
  | [] => by simp [asc]
  | p :: acc => by
    rw [List.cons_append, asc, asc]
    by_cases h : r = p.1
    · rw [if_pos h, if_pos h]
    · rw [if_neg h, if_neg h]; exact asc_app r k x acc
theorem asc_fold (r : ByteArray) : ∀ (l : List Nd) (acc : List (ByteArray × Nd)), asc r (l.foldl addN acc) = match asc r acc with | some y => some y | none => l.find? (fun x => decide (x.ref = r))
  | [], acc => by
    rw [List.foldl_nil]
    cases asc r acc <;> rfl
  | x :: l, acc => by
    rw [List.foldl_cons, asc_fold r l, List.find?_cons]
    unfold addN
    cases hx : asc x.ref acc with
    | some y =>
      simp only [Option.isNone_some]
      rw [if_neg (by decide)]
      cases hr : asc r acc with
      | some z => rfl
      | none =>
        have : ¬ x.ref = r := fun e => by rw [e, hr] at hx; cases hx
        rw [decide_eq_false this]
    | none =>
      simp only [Option.isNone_none, if_true]
      rw [asc_app]
      cases hr : asc r acc with
      | some z => rfl
      | none =>
        by_cases e : x.ref = r
        · rw [decide_eq_true e, if_pos e.symm]
        · rw [decide_eq_false e, if_neg (fun h => e h.symm)]
theorem asc_byN (r : ByteArray) (l : List Nd) : asc r (byN l) = l.find? (fun x => decide (x.ref = r)) := by
  unfold byN
  rw [asc_fold]
  rfl
theorem key_fold : ∀ (l : List Nd) (acc : List (ByteArray × Nd)), (acc.map (·.1)).Nodup → ((l.foldl addN acc).map (·.1)).Nodup
  | [], acc, h => h
  | x :: l, acc, h => by
    rw [List.foldl_cons]
    refine key_fold l _ ?_
    unfold addN
    split
    · rename_i hn
      rw [List.map_append, List.nodup_append]
      refine ⟨h, by simp, fun a ha b hb e => ?_⟩
      simp only [List.map_cons, List.map_nil, List.mem_singleton] at hb
      subst e; subst hb
      obtain ⟨p, hp, hpe⟩ := List.mem_map.1 ha
      have : ∀ m : List (ByteArray × Nd), p ∈ m → asc p.1 m ≠ none := fun m => by
        induction m with
        | nil => intro h; cases h
        | cons q m ih =>
          intro h
          unfold asc
          by_cases e : p.1 = q.1
          · rw [if_pos e]; simp
          · rw [if_neg e]
            rcases List.mem_cons.1 h with rfl | h
            · exact absurd rfl e
            · exact ih h
      have h2 := this acc hp
      rw [hpe] at h2
      rw [Option.isNone_iff_eq_none] at hn
      exact h2 hn
    · exact h
theorem key_nodup (l : List Nd) : ((byN l).map (·.1)).Nodup := key_fold l [] (by simp)
theorem first_split {r : ByteArray} : ∀ {l : List Nd}, r ∈ l.map (·.ref) → ∃ A x B, l = A ++ x :: B ∧ x.ref = r ∧ r ∉ A.map (·.ref)
  | [], h => by simp at h
  | x :: l, h => by
    by_cases e : x.ref = r
    · exact ⟨[], x, l, rfl, e, by simp⟩
    · rw [List.map_cons, List.mem_cons] at h
      obtain ⟨A, y, B, h1, h2, h3⟩ := first_split (h.resolve_left fun q => e q.symm)
      exact ⟨x :: A, y, B, by rw [h1]; rfl, h2, by
        rw [List.map_cons, List.mem_cons]
        rintro (q | q)
        · exact e q.symm
        · exact h3 q⟩
theorem asc_first {l : List Nd} {r : ByteArray} (h : r ∈ l.map (·.ref)) : ∃ i, i < l.length ∧ plc (l.map (·.ref)) r = i ∧ (l.getD i nd0).ref = r ∧ asc r (byN l) = some (l.getD i nd0) := by
  obtain ⟨A, x, B, rfl, hx, hA⟩ := first_split h
  have hg : (A ++ x :: B).getD A.length nd0 = x := by simp [List.getD]
  refine ⟨A.length, by simp, ?_, by rw [hg]; exact hx, ?_⟩
  · rw [List.map_append, List.map_cons, hx, plc_at hA, List.length_map]
  · rw [hg, asc_byN, List.find?_append]
    have : A.find? (fun y => decide (y.ref = r)) = none := List.find?_eq_none.2 fun y hy e => hA (List.mem_map.2 ⟨y, hy, of_decide_eq_true e⟩)
    rw [this, List.find?_cons, decide_eq_true hx]
    rfl
theorem asc_out {l : List Nd} {r : ByteArray} (h : r ∉ l.map (·.ref)) : asc r (byN l) = none := by
  rw [asc_byN]
  exact List.find?_eq_none.2 fun y hy e => h (List.mem_map.2 ⟨y, hy, of_decide_eq_true e⟩)
theorem asc_ne {l : List Nd} {r : ByteArray} : asc r (byN l) ≠ none ↔ r ∈ l.map (·.ref) := by
  constructor
  · intro h
    exact Classical.byContradiction fun hc => h (asc_out hc)
  · intro h
    obtain ⟨i, _, _, _, e⟩ := asc_first h
    rw [e]; simp
theorem nodup_le : ∀ {l m : List ByteArray}, l.Nodup → (∀ x ∈ l, x ∈ m) → l.length ≤ m.length
  | [], _, _, _ => Nat.zero_le _
  | a :: l, m, h, hs => by
    rw [List.nodup_cons] at h
    obtain ⟨A, B, rfl⟩ := List.append_of_mem (hs a (by simp))
    have h3 := nodup_le (m := A ++ B) h.2 fun x hx => by
      have hm := hs x (List.mem_cons_of_mem a hx)
      have hne : x ≠ a := fun e => h.1 (by rw [← e]; exact hx)
      rcases List.mem_append.1 hm with q | q
      · exact List.mem_append.2 (.inl q)
      · rcases List.mem_cons.1 q with q | q
        · exact absurd q hne
        · exact List.mem_append.2 (.inr q)
    rw [List.length_append] at h3
    rw [List.length_cons, List.length_append, List.length_cons]
    omega
/-- What is needed: it, and what all that is needed hangs on. -/
inductive Rch (l : List Nd) (ref : ByteArray) : ByteArray → Prop
  | base : ref ∈ l.map (·.ref) → Rch l ref ref
  | step {s r : ByteArray} {x : Nd} : Rch l ref s → asc s (byN l) = some x → r ∈ inpN x → r ∈ l.map (·.ref) → Rch l ref r
theorem NeedR.rch {l : List Nd} {ref : ByteArray} {out : List ByteArray} (h : NeedR (byN l) [ref] [] out) : out.Nodup ∧ ∀ s, s ∈ out ↔ Rch l ref s := by
  obtain ⟨g1, g2, g3, g4, g5, g6⟩ := h.spec (byN l) (key_nodup l) (fun r => by rw [if_neg (by simp)]) (by simp)
  refine ⟨g2, fun s => ⟨fun hs => ?_, fun hs => ?_⟩⟩
  · refine g6 (Rch l ref) (fun a ha h0 => ?_) (fun s hs => by cases hs) (fun s x hs hx r hr h0 => hs.step hx hr (asc_ne.1 h0)) s hs
    rw [List.mem_singleton.1 ha] at h0 ⊢
    exact .base (asc_ne.1 h0)
  · induction hs with
    | base h => exact g3 ref (by simp) (asc_ne.2 h)
    | step _ hx hr hm ih => exact g4 _ ih (by simp) _ hx _ hr (asc_ne.2 hm)
theorem srtS_rise {L : List ByteArray} (h : L.Nodup) : TRise (srtS L) := by
  have h1 : (lsB (srtS L)).Pairwise (· ≤ ·) := by
    unfold srtS
    rw [lsB_blS]
    exact srt_sorted _
  have h2 : (srtS L).Pairwise fun a b => a.data.toList ≤ b.data.toList := by
    unfold lsB at h1
    rw [List.pairwise_map] at h1
    exact h1
  have hn : (srtS L).Nodup := by
    have hp : (srtS L).Perm L := by
      unfold srtS
      have := (List.mergeSort_perm (lsB L) fun x y => decide (x ≤ y)).map bB
      have e : (lsB L).map bB = L := blS_lsB L
      rw [e] at this
      exact this
    exact hp.nodup_iff.2 h
  refine (h2.and hn).imp fun {a b} ⟨h, hne⟩ => ?_
  rcases bltS_total hne with g | g
  · exact g
  · exact absurd (lt_of_cmp _ _ g) (List.not_lt.2 h)
/-- What Needs tells. -/
def RchQ (l : List Nd) (ref : ByteArray) (O : List ByteArray) : Prop := TRise O ∧ ∀ s, s ∈ O ↔ Rch l ref s
theorem RchQ.one {l : List Nd} {ref : ByteArray} {O P : List ByteArray} (h : RchQ l ref O) (g : RchQ l ref P) : O = P := trise_eq h.1 g.1 fun s => (h.2 s).trans (g.2 s).symm
theorem NeedR.rq {l : List Nd} {ref : ByteArray} {out : List ByteArray} (h : NeedR (byN l) [ref] [] out) : RchQ l ref (srtS out) := by
  obtain ⟨h1, h2⟩ := h.rch
  exact ⟨srtS_rise h1, fun s => mem_srtS.trans (h2 s)⟩
/-- What stands between two rounds of the document's Needs. -/
structure NeQ (l : List Nd) (ref : ByteArray) (O : List ByteArray) : Prop where
  rise : TRise O
  are : ∀ s ∈ O, Rch l ref s
  has : ref ∈ l.map (·.ref) → ref ∈ O
/-- The i-th node's inputs are there, if it is there and the first one of its ref. -/
def CloA (l : List Nd) (O : List ByteArray) (i : Nat) : Prop := (l.getD i nd0).ref ∈ O → plc (l.map (·.ref)) (l.getD i nd0).ref = i → ∀ r ∈ inpN (l.getD i nd0), r ∈ l.map (·.ref) → r ∈ O
theorem Rch.mem {l : List Nd} {ref s : ByteArray} (h : Rch l ref s) : s ∈ l.map (·.ref) := by
  cases h with
  | base h => exact h
  | step _ _ _ h => exact h
theorem NeQ.len {l : List Nd} {ref : ByteArray} {O : List ByteArray} (h : NeQ l ref O) : O.length ≤ l.length := by
  have := nodup_le h.rise.nodup (fun s hs => (h.are s hs).mem)
  rwa [List.length_map] at this
theorem NeQ.done {l : List Nd} {ref : ByteArray} {O : List ByteArray} (h : NeQ l ref O) (hc : ∀ i, i < l.length → CloA l O i) : RchQ l ref O := by
  refine ⟨h.rise, fun s => ⟨h.are s, fun hs => ?_⟩⟩
  induction hs with
  | base hm => exact h.has hm
  | @step s r x hs hx hr hm ih =>
    obtain ⟨i, hi, hp, he, ha⟩ := asc_first hs.mem
    rw [hx] at ha
    injection ha with ha
    have := hc i hi (by rw [he]; exact ih) (by rw [he]; exact hp) r (by rw [← ha]; exact hr) hm
    exact this
theorem NeQ.add {l : List Nd} {ref : ByteArray} {O P : List ByteArray} {i : Nat} {r : ByteArray} (h : NeQ l ref O) (hi : i < l.length) (h1 : (l.getD i nd0).ref ∈ O) (h2 : plc (l.map (·.ref)) (l.getD i nd0).ref = i) (hr : r ∈ inpN (l.getD i nd0)) (hm : r ∈ l.map (·.ref)) (hn : r ∉ O) (g : AddQ O r P) : NeQ l ref P ∧ O.length < P.length ∧ ∀ s ∈ O, s ∈ P := by
  have hsub : ∀ s ∈ O, s ∈ P := fun s hs => (g.2.1 s).2 (.inl hs)
  refine ⟨⟨g.1, fun s hs => ?_, fun q => hsub _ (h.has q)⟩, ?_, hsub⟩
  · rcases (g.2.1 s).1 hs with q | rfl
    · exact h.are s q
    · obtain ⟨k, hk, hp, he, ha⟩ := asc_first (h.are _ h1).mem
      have : k = i := by omega
      subst this
      exact (h.are _ h1).step ha hr hm
  · have := nodup_le (List.nodup_cons.2 ⟨hn, h.rise.nodup⟩) (m := P) fun s hs => by
      rcases List.mem_cons.1 hs with rfl | hs
      · exact (g.2.1 _).2 (.inr rfl)
      · exact hsub s hs
    rw [List.length_cons] at this
    omega
theorem NeQ.start {l : List Nd} {ref : ByteArray} (h : ref ∈ l.map (·.ref)) : NeQ l ref [ref] := ⟨List.pairwise_singleton _ _, fun s hs => (by rw [List.mem_singleton.1 hs]; exact .base h), fun _ => by simp⟩
theorem NeQ.nil {l : List Nd} {ref : ByteArray} (h : ref ∉ l.map (·.ref)) : NeQ l ref [] := ⟨List.Pairwise.nil, fun s hs => (by cases hs), fun q => absurd q h⟩
end Go.Proofs.YtaffplmfnincfaaGreatDoor
/- DagChecks: the document's Needs. -/
namespace Go.Proofs.YtaffplmfnincfaaGreatDoor
set_option linter.unusedVariables false
open Go.RowKit
def gN : Value → Nat
  | .bool true => 1
  | _ => 0
open Classical in
set_option maxRecDepth 100000 in
set_option maxHeartbeats 16000000 in
/-- The document's Needs. -/
theorem rneeds18 (ref : ByteArray) (a : Option Addr) (n c : Nat) (l : List Nd) (w : World) (hG : G w) (hS : SignsAt w) (hv : Sls encN w (.slice a n c) l) (hl : n ≤ 1000) (hp : ∀ x ∈ l, TPar x.text) : Calls Tryz.prog 18 #[.string ref, .slice a n c] w fun e w' => ∃ a' n' c' O, e = .returned (.slice a' n' c') ∧ Hid (RchQ l ref O ∧ Txs w' (.slice a' n' c') O ∧ Below w.heap.size w w') := by
  have hn : Hid (n = l.length) := hv.len
  have hcell : Hid (∀ w', Below w.heap.size w w' → Sls encN w' (.slice a n c) l) := fun w' h => hv.grow h
  have hin : Hid (∀ w' i, Below w.heap.size w w' → i < l.length → Calls Tryz.prog 13 #[ndV (l.getD i nd0)] w' fun e w'' => ∃ a n c, e = .returned (.slice a n c) ∧ Hid (Txs w'' (.slice a n c) (inpN (l.getD i nd0)) ∧ Below w'.heap.size w' w'')) := fun w' i h hi => rinputs13 _ w' (hG.grow h) (hS.grow h) (hp _ (lgetD_mem l nd0 i hi))
  have hfi : Hid (∀ w' s, Below w.heap.size w w' → Calls Tryz.prog 37 #[.slice a n c, .string s] w' fun e w'' => e = .returned (.int .i64 (plc (l.map (·.ref)) s)) ∧ Below w'.heap.size w' w'') := fun w' s h => find37 a n c l s w' (hv.grow h) (by omega)
  have h37 := hfi.out w ref (Below.refl _ _)
  clear hv hp hG hS
  by_cases hm : ref ∈ l.map (·.ref)
  case pos =>
    have hpl := (plc_in hm).1
    have hn1 : 1 ≤ n := by
      have h1 := hn.out
      cases l with
      | nil => simp at hm
      | cons x l => rw [List.length_cons] at h1; omega
    have hst : Hid (NeQ l ref [ref]) := NeQ.start hm
    generalize plc (l.map (·.ref)) ref = PL at *
    clear hm
    go_enter Tryz.func18, Tryz.ntmps18
    go_wp2_with (first
      | (go_at_call 37; refine h37.mono ?_; clear h37; rintro e w1 ⟨rfl, hb1⟩))
    have ht1 : Hid (Txs (w1.alloc (.cells #[.string ref] 9)) (.slice (some ⟨w1.heap.size, 0, none⟩) 1 1) [ref]) := (own_one w1 w.heap.size ref hb1.size).sls
    have hb2 : Hid (Below w.heap.size w (w1.alloc (.cells #[.string ref] 9))) := hb1.trans ((bW0 w1 _).mono hb1.size)
    go_loopw [5, 6] (fun o g wr => ∃ (aO : Option Addr) (nO cO : Nat) (O : List ByteArray) (y : Bool), o = .slice aO nO cO ∧ g = .bool y ∧ nO ≤ n ∧ Hid (Txs wr o O) ∧ Hid (NeQ l ref O) ∧ Hid (y = false → ∀ i, i < l.length → CloA l O i) ∧ Hid (Below w.heap.size w wr)) (fun o g _ => 2 * (n - slen o) + gN g)
    case atStart => exact ⟨_, 1, 1, [ref], true, rfl, rfl, hn1, ht1, hst, fun h => (by cases h), hb2⟩
    case round =>
      obtain ⟨aO, nO, cO, O, y, rfl, rfl, hnO, hT, hQ, hC, hB⟩ := hrel
      obtain ⟨wo, rfl⟩ : ∃ wo, wo = wr := ⟨_, rfl⟩
      have hnl : Hid (nO = O.length) := hT.out.len
      cases y with
      | false =>
        have hR : Hid (RchQ l ref O) := hQ.out.done (hC.out rfl)
        go_wp2
        go_ret
        exact ⟨_, _, _, rfl, O, hR.out, hT.out, hB.out⟩
      | true =>
        clear hC
        go_wp2
        go_loopw [5, 6, 7] (fun o g i wx => ∃ (k : Nat) (aP : Option Addr) (nP cP : Nat) (P : List ByteArray) (y : Bool), k ≤ n ∧ i = .int .i64 k ∧ o = .slice aP nP cP ∧ g = .bool y ∧ nP ≤ n ∧ Hid (Txs wx o P) ∧ Hid (NeQ l ref P) ∧ Hid (y = false → P = O ∧ ∀ i, i < k → i < l.length → CloA l O i) ∧ Hid (y = true → O.length < P.length) ∧ Hid (Below wo.heap.size wo wx)) (fun _ _ i _ => n - (intOf i).toNat)
        case atStart => exact ⟨0, aO, nO, cO, O, false, Nat.zero_le _, rfl, rfl, rfl, hnO, hT, hQ, fun _ => ⟨rfl, fun i h => absurd h (Nat.not_lt_zero _)⟩, fun h => (by cases h), Below.refl _ _⟩
        case round =>
          obtain ⟨k, aP, nP, cP, P, y, hk, rfl, rfl, rfl, hnP, hTP, hQP, hF, hY, hbx⟩ := hrel
          obtain ⟨wx, rfl⟩ : ∃ wx, wx = wr := ⟨_, rfl⟩
          have hBx : Hid (Below w.heap.size w wx) := hB.out.trans (hbx.out.mono hB.out.size)
          by_cases hkn : k < n
          · have hki : (k : Int) < (n : Int) := by omega
            have hkl : k < l.length := by have := hn.out; omega
            obtain ⟨q, o, rfl, c0, c1, c2, c3, c4, c5, c6, c7, c8, c9, c10⟩ := nd_at (hcell.out wx hBx.out) k hkl
            have h27 := in27 aP nP cP P (l.getD k nd0).ref wx hTP.out (by omega)
            have hf37 : Hid (∀ w', Below w.heap.size w w' → Calls Tryz.prog 37 #[.slice (some ⟨q, o, none⟩) n c, .string (l.getD k nd0).ref] w' fun e w'' => e = .returned (.int .i64 (plc (l.map (·.ref)) (l.getD k nd0).ref)) ∧ Below w'.heap.size w' w'') := fun w' h => hfi.out w' _ h
            have hi13 : Hid (∀ w', Below w.heap.size w w' → Calls Tryz.prog 13 #[ndV (l.getD k nd0)] w' fun e w'' => ∃ a n c, e = .returned (.slice a n c) ∧ Hid (Txs w'' (.slice a n c) (inpN (l.getD k nd0)) ∧ Below w'.heap.size w' w'')) := fun w' h => hin.out w' k h hkl
            have hskip : Hid (((l.getD k nd0).ref ∉ P ∨ plc (l.map (·.ref)) (l.getD k nd0).ref ≠ k) → (y = false → P = O ∧ ∀ i, i < k + 1 → i < l.length → CloA l O i)) := fun h hy => by
              obtain ⟨h1, h2⟩ := hF.out hy
              refine ⟨h1, fun i h3 h4 => ?_⟩
              by_cases e : i = k
              · subst e
                intro k1 k2
                rcases h with h | h
                · exact absurd (h1 ▸ k1) h
                · exact absurd k2 h
              · exact h2 i (by omega) h4
            obtain ⟨x, hxe⟩ : ∃ x, Hid (x = l.getD k nd0) := ⟨_, rfl⟩
            rw [← hxe.out] at c0 c1 c2 c3 c4 c5 c6 c7 c8 c9 c10 h27 hf37 hi13 hskip
            by_cases hm : x.ref ∈ P
            case neg =>
              rw [decide_eq_false hm] at h27
              have hF2 : Hid (y = false → P = O ∧ ∀ i, i < k + 1 → i < l.length → CloA l O i) := hskip.out (.inl hm)
              clear hskip hm
              go_wp2_with (first
                | (go_at_call 27; refine h27.mono ?_; clear h27; rintro e w3 ⟨rfl, hb3⟩))
              have hb3' : Hid (Below wo.heap.size wo w3) := hbx.out.trans (hb3.mono hbx.out.size)
              have hT3 : Hid (Txs w3 (.slice aP nP cP) P) := hTP.out.grow hb3
              go_roundw
              case rel => exact ⟨k + 1, aP, nP, cP, P, y, by omega, by go_num, rfl, rfl, hnP, hT3, hQP, hF2, hY, hb3'⟩
              case measure => simp [intOf]; omega
            case pos =>
              rw [decide_eq_true hm] at h27
              replace hm : Hid (x.ref ∈ P) := hm
              cases hpk : (plc (l.map (·.ref)) x.ref == (k : Int)) with
              | false =>
                have hF2 : Hid (y = false → P = O ∧ ∀ i, i < k + 1 → i < l.length → CloA l O i) := hskip.out (.inr (fun e => by rw [e] at hpk; simp at hpk))
                clear hskip
                generalize plc (l.map (·.ref)) x.ref = PL at *
                go_wp2_with (first
                  | (go_at_call 27; refine h27.mono ?_; clear h27; rintro e w3 ⟨rfl, hb3⟩; clear c0 c1 c2 c3 c4 c5 c6 c7 c8 c9 c10; have hb3' := hBx.out.trans (hb3.mono hBx.out.size); obtain ⟨q', o', hqe, c0, c1, c2, c3, c4, c5, c6, c7, c8, c9, c10⟩ := nd_at (hcell.out w3 hb3') k hkl; cases hqe; rw [← hxe.out] at c0 c1 c2 c3 c4 c5 c6 c7 c8 c9 c10; have h38 := hf37.out w3 hb3')
                  | (go_at_call 37; refine h38.mono ?_; clear h38; rintro e w4 ⟨rfl, hb4⟩))
                have hb34 : Hid (Below wx.heap.size wx w4) := hb3.trans (hb4.mono hb3.size)
                have hb4' : Hid (Below wo.heap.size wo w4) := hbx.out.trans (hb34.out.mono hbx.out.size)
                have hT4 : Hid (Txs w4 (.slice aP nP cP) P) := hTP.out.grow hb34.out
                go_roundw
                case rel => exact ⟨k + 1, aP, nP, cP, P, y, by omega, by go_num, rfl, rfl, hnP, hT4, hQP, hF2, hY, hb4'⟩
                case measure => simp [intOf]; omega
              | true =>
                have hpq : Hid (plc (l.map (·.ref)) x.ref = (k : Int)) := eq_of_beq hpk
                clear hskip
                rw [hpq.out] at hf37
                clear hpk
                go_wp2_with (first
                  | (go_at_call 27; refine h27.mono ?_; clear h27; rintro e w3 ⟨rfl, hb3⟩; clear c0 c1 c2 c3 c4 c5 c6 c7 c8 c9 c10; have hb3' := hBx.out.trans (hb3.mono hBx.out.size); obtain ⟨q', o', hqe, c0, c1, c2, c3, c4, c5, c6, c7, c8, c9, c10⟩ := nd_at (hcell.out w3 hb3') k hkl; cases hqe; rw [← hxe.out] at c0 c1 c2 c3 c4 c5 c6 c7 c8 c9 c10; have h38 := hf37.out w3 hb3')
                  | (go_at_call 37; refine h38.mono ?_; clear h38; rintro e w4 ⟨rfl, hb4⟩; clear c0 c1 c2 c3 c4 c5 c6 c7 c8 c9 c10; have hb4' := hb3'.trans (hb4.mono hb3'.size); obtain ⟨q', o', hqe, c0, c1, c2, c3, c4, c5, c6, c7, c8, c9, c10⟩ := nd_at (hcell.out w4 hb4') k hkl; cases hqe; rw [← hxe.out] at c0 c1 c2 c3 c4 c5 c6 c7 c8 c9 c10; have h13 := hi13.out w4 hb4')
                  | (go_at_call 13; refine h13.mono ?_; clear h13; rintro e w5 ⟨a5, n5, cI, rfl, h5⟩))
                have hb35 : Hid (Below wx.heap.size wx w5) := (hb3.trans (hb4.mono hb3.size)).trans (h5.out.2.mono (hb3.trans (hb4.mono hb3.size)).size)
                have hT5 : Hid (Txs w5 (.slice aP nP cP) P) := hTP.out.grow hb35.out
                have hB5 : Hid (Below w.heap.size w w5) := hBx.out.trans (hb35.out.mono hBx.out.size)
                have hbo5 : Hid (Below wo.heap.size wo w5) := hbx.out.trans (hb35.out.mono hbx.out.size)
                have hI5 : Hid (Txs w5 (.slice a5 n5 cI) (inpN x)) := h5.out.1
                have hn5 : Hid (n5 = (inpN x).length) := h5.out.1.len
                have hn5l : n5 ≤ 1024 := by have := hn5.out; have := inpN_len x; omega
                clear c0 c1 c2 c3 c4 c5 c6 c7 c8 c9 c10 h5 hb3' hb4'
                go_loopw [5, 6, 9] (fun o g i wy => ∃ (j : Nat) (aR : Option Addr) (nR cR : Nat) (R : List ByteArray) (z : Bool), j ≤ n5 ∧ i = .int .i64 j ∧ o = .slice aR nR cR ∧ g = .bool z ∧ nR ≤ n ∧ Hid (Txs wy o R) ∧ Hid (NeQ l ref R) ∧ Hid (x.ref ∈ R) ∧ Hid (z = false → R = O ∧ (∀ i, i < k → i < l.length → CloA l O i) ∧ ∀ r ∈ (inpN x).take j, r ∈ l.map (·.ref) → r ∈ O) ∧ Hid (z = true → O.length < R.length) ∧ Hid (Below w5.heap.size w5 wy)) (fun _ _ i _ => n5 - (intOf i).toNat)
                case atStart => exact ⟨0, aP, nP, cP, P, y, Nat.zero_le _, rfl, rfl, rfl, hnP, hT5, hQP, hm, fun hy => ⟨(hF.out hy).1, (hF.out hy).2, fun r hr => by simp at hr⟩, hY, Below.refl _ _⟩
                case round =>
                  obtain ⟨j, aR, nR, cR, R, z, hj, rfl, rfl, rfl, hnR, hTR, hQR, hmR, hFR, hYR, hby⟩ := hrel
                  obtain ⟨wy, rfl⟩ : ∃ wy, wy = wr := ⟨_, rfl⟩
                  have hBy : Hid (Below w.heap.size w wy) := hB5.out.trans (hby.out.mono hB5.out.size)
                  by_cases hjn : j < n5
                  · have hji : (j : Int) < (n5 : Int) := by omega
                    have hjl : j < (inpN x).length := by have := hn5.out; omega
                    obtain ⟨b6, o6, rfl, y0⟩ := tx_at (hI5.out.grow hby.out) j hjl
                    have h37 := hfi.out wy ((inpN x).getD j ⟨#[]⟩) hBy.out
                    have hi27 : Hid (∀ w', Below wy.heap.size wy w' → Calls Tryz.prog 27 #[.slice aR nR cR, .string ((inpN x).getD j ⟨#[]⟩)] w' fun e w'' => e = .returned (.bool (decide ((inpN x).getD j ⟨#[]⟩ ∈ R))) ∧ Below w'.heap.size w' w'') := fun w' h => in27 aR nR cR R _ w' (hTR.out.grow h) (by omega)
                    have ha39 : Hid (∀ w', Below wy.heap.size wy w' → Calls Tryz.prog 39 #[.slice aR nR cR, .string ((inpN x).getD j ⟨#[]⟩)] w' fun e w'' => ∃ a' n' c' out, e = .returned (.slice a' n' c') ∧ Hid (AddQ R ((inpN x).getD j ⟨#[]⟩) out ∧ Txs w'' (.slice a' n' c') out ∧ Below w'.heap.size w' w'')) := fun w' h => add39 aR nR cR R _ w' (hTR.out.grow h) (by omega) hQR.out.rise
                    have hrm : Hid ((inpN x).getD j ⟨#[]⟩ ∈ inpN x) := lgetD_mem (inpN x) ⟨#[]⟩ j hjl
                    have htk : Hid ((((inpN x).getD j ⟨#[]⟩ ∈ l.map (·.ref)) → (inpN x).getD j ⟨#[]⟩ ∈ R) → (z = false → R = O ∧ (∀ i, i < k → i < l.length → CloA l O i) ∧ ∀ r ∈ (inpN x).take (j + 1), r ∈ l.map (·.ref) → r ∈ O)) := fun h hz => by
                      obtain ⟨h1, h2, h3⟩ := hFR.out hz
                      refine ⟨h1, h2, fun r hr hl => ?_⟩
                      rw [ltake_getD (inpN x) ⟨#[]⟩ j hjl] at hr
                      rcases List.mem_append.1 hr with hr | hr
                      · exact h3 r hr hl
                      · rw [List.mem_singleton.1 hr] at hl ⊢
                        exact h1 ▸ h hl
                    have hyt : ∀ w', Below wy.heap.size wy w' → w'.cell? ⟨b6, o6 + j, none⟩ = some (.string ((inpN x).getD j ⟨#[]⟩)) := fun w' h => by
                      obtain ⟨b7, o7, e7, y7⟩ := tx_at (hI5.out.grow (hby.out.trans (h.mono hby.out.size))) j hjl
                      cases e7
                      exact y7
                    replace hyt : Hid (∀ w', Below wy.heap.size wy w' → w'.cell? ⟨b6, o6 + j, none⟩ = some (.string ((inpN x).getD j ⟨#[]⟩))) := hyt
                    generalize (inpN x).getD j ⟨#[]⟩ = rr at *
                    by_cases hmr : rr ∈ l.map (·.ref)
                    case neg =>
                      have htk2 : Hid (z = false → R = O ∧ (∀ i, i < k → i < l.length → CloA l O i) ∧ ∀ r ∈ (inpN x).take (j + 1), r ∈ l.map (·.ref) → r ∈ O) := htk.out (fun h => absurd h hmr)
                      rw [plc_no hmr] at h37
                      clear hmr htk
                      go_wp2_with (first
                        | (go_at_call 37; refine h37.mono ?_; clear h37; rintro e w7 ⟨rfl, hb7⟩))
                      have hT7 : Hid (Txs w7 (.slice aR nR cR) R) := hTR.out.grow hb7
                      have hb7' : Hid (Below w5.heap.size w5 w7) := hby.out.trans (hb7.mono hby.out.size)
                      go_roundw
                      case rel => exact ⟨j + 1, aR, nR, cR, R, z, by omega, by go_num, rfl, rfl, hnR, hT7, hQR, hmR, htk2, hYR, hb7'⟩
                      case measure => simp [intOf]; omega
                    case pos =>
                      have hpl := (plc_in hmr).1
                      replace hmr : Hid (rr ∈ l.map (·.ref)) := hmr
                      generalize plc (l.map (·.ref)) rr = PL at *
                      by_cases hir : rr ∈ R
                      case pos =>
                        have htk2 : Hid (z = false → R = O ∧ (∀ i, i < k → i < l.length → CloA l O i) ∧ ∀ r ∈ (inpN x).take (j + 1), r ∈ l.map (·.ref) → r ∈ O) := htk.out (fun _ => hir)
                        rw [decide_eq_true hir] at hi27
                        clear hir htk
                        go_wp2_with (first
                          | (go_at_call 37; refine h37.mono ?_; clear h37; rintro e w7 ⟨rfl, hb7⟩; have y1 := hyt.out w7 hb7; have h27 := hi27.out w7 hb7)
                          | (go_at_call 27; refine h27.mono ?_; clear h27; rintro e w8 ⟨rfl, hb8⟩))
                        have hb78 : Hid (Below wy.heap.size wy w8) := hb7.trans (hb8.mono hb7.size)
                        have hT8 : Hid (Txs w8 (.slice aR nR cR) R) := hTR.out.grow hb78.out
                        have hb8' : Hid (Below w5.heap.size w5 w8) := hby.out.trans (hb78.out.mono hby.out.size)
                        go_roundw
                        case rel => exact ⟨j + 1, aR, nR, cR, R, z, by omega, by go_num, rfl, rfl, hnR, hT8, hQR, hmR, htk2, hYR, hb8'⟩
                        case measure => simp [intOf]; omega
                      case neg =>
                        have hadd : Hid (∀ U, AddQ R rr U → NeQ l ref U ∧ R.length < U.length ∧ ∀ s ∈ R, s ∈ U) := fun U g => hQR.out.add (i := k) hkl (by rw [← hxe.out]; exact hmR.out) (by rw [← hxe.out]; exact hpq.out) (by rw [← hxe.out]; exact hrm.out) hmr.out hir g
                        rw [decide_eq_false hir] at hi27
                        clear hir htk
                        go_wp2_with (first
                          | (go_at_call 37; refine h37.mono ?_; clear h37; rintro e w7 ⟨rfl, hb7⟩; have y1 := hyt.out w7 hb7; have h27 := hi27.out w7 hb7)
                          | (go_at_call 27; refine h27.mono ?_; clear h27; rintro e w8 ⟨rfl, hb8⟩; have hb78 := hb7.trans (hb8.mono hb7.size); have y2 := hyt.out w8 hb78; have h39 := ha39.out w8 hb78)
                          | (go_at_call 39; refine h39.mono ?_; clear h39; rintro e w9 ⟨a9, n9, c9', U, rfl, h9⟩))
                        have hb79 : Hid (Below wy.heap.size wy w9) := hb78.trans (h9.out.2.2.mono hb78.size)
                        have hb9' : Hid (Below w5.heap.size w5 w9) := hby.out.trans (hb79.out.mono hby.out.size)
                        obtain ⟨u1, u2, u3⟩ := hadd.out U h9.out.1
                        have hn9 : n9 ≤ n := by have := h9.out.2.1.len; have := u1.len; have := hn.out; omega
                        have hY9 : Hid (true = true → O.length < U.length) := fun _ => by
                          cases z with
                          | false => have := (hFR.out rfl).1; rw [← this]; exact u2
                          | true => have := hYR.out rfl; omega
                        have hu1 : Hid (NeQ l ref U) := u1
                        have hu3 : Hid (x.ref ∈ U) := u3 _ hmR.out
                        have hT9 : Hid (Txs w9 (.slice a9 n9 c9') U) := h9.out.2.1
                        clear u1 u2 u3 y0 y1 y2
                        go_roundw
                        case rel => exact ⟨j + 1, a9, n9, c9', U, true, by omega, by go_num, rfl, rfl, hn9, hT9, hu1, hu3, fun h => (by cases h), hY9, hb9'⟩
                        case measure => simp [intOf]; omega
                  · have hji : ¬ (j : Int) < (n5 : Int) := by omega
                    have hF2 : Hid (z = false → R = O ∧ ∀ i, i < k + 1 → i < l.length → CloA l O i) := fun hz => by
                      obtain ⟨h1, h2, h3⟩ := hFR.out hz
                      refine ⟨h1, fun i h4 h5 => ?_⟩
                      by_cases e : i = k
                      · subst e
                        intro _ _ r hr
                        rw [← hxe.out] at hr
                        exact h3 r (by rw [List.take_of_length_le (by have := hn5.out; omega)]; exact hr)
                      · exact h2 i (by omega) h5
                    have hb6 : Hid (Below wo.heap.size wo wy) := hbo5.out.trans (hby.out.mono hbo5.out.size)
                    go_wp2
                    go_roundw
                    case rel => exact ⟨k + 1, aR, nR, cR, R, z, by omega, by go_num, rfl, rfl, hnR, hTR, hQR, hF2, hYR, hb6⟩
                    case measure => simp [intOf]; omega
          · have hki : ¬ (k : Int) < (n : Int) := by omega
            have hC2 : Hid (y = false → ∀ i, i < l.length → CloA l P i) := fun hy i hi => by
              obtain ⟨h1, h2⟩ := hF.out hy
              rw [h1]
              exact h2 i (by have := hn.out; omega) hi
            have hnP2 : Hid (nP = P.length) := hTP.out.len
            have hms : Hid (2 * (n - nP) + gN (.bool y) < 2 * (n - nO) + 1) := by
              show _ < _
              have h1 := hnP2.out
              have h2 := hnl.out
              cases y with
              | false => have := (hF.out rfl).1; rw [this] at h1; simp only [gN]; omega
              | true => have := hY.out rfl; simp only [gN]; omega
            go_wp2
            go_roundw
            case rel => exact ⟨aP, nP, cP, P, y, rfl, rfl, hnP, hTP, hQP, hC2, hBx⟩
            case measure => exact hms.out
  case neg =>
    have hst : Hid (NeQ l ref []) := NeQ.nil hm
    rw [plc_no hm] at h37
    clear hm
    go_enter Tryz.func18, Tryz.ntmps18
    go_wp2_with (first
      | (go_at_call 37; refine h37.mono ?_; clear h37; rintro e w1 ⟨rfl, hb1⟩))
    go_loopw [5, 6] (fun o g wr => ∃ (aO : Option Addr) (nO cO : Nat) (O : List ByteArray) (y : Bool), o = .slice aO nO cO ∧ g = .bool y ∧ nO ≤ n ∧ Hid (Txs wr o O) ∧ Hid (NeQ l ref O) ∧ Hid (y = false → ∀ i, i < l.length → CloA l O i) ∧ Hid (Below w.heap.size w wr)) (fun o g _ => 2 * (n - slen o) + gN g)
    case atStart => exact ⟨none, 0, 0, [], true, rfl, rfl, Nat.zero_le _, sls_nil _, hst, fun h => (by cases h), hb1⟩
    case round =>
      obtain ⟨aO, nO, cO, O, y, rfl, rfl, hnO, hT, hQ, hC, hB⟩ := hrel
      obtain ⟨wo, rfl⟩ : ∃ wo, wo = wr := ⟨_, rfl⟩
      have hnl : Hid (nO = O.length) := hT.out.len
      cases y with
      | false =>
        have hR : Hid (RchQ l ref O) := hQ.out.done (hC.out rfl)
        go_wp2
        go_ret
        exact ⟨_, _, _, rfl, O, hR.out, hT.out, hB.out⟩
      | true =>
        clear hC
        go_wp2
        go_loopw [5, 6, 7] (fun o g i wx => ∃ (k : Nat) (aP : Option Addr) (nP cP : Nat) (P : List ByteArray) (y : Bool), k ≤ n ∧ i = .int .i64 k ∧ o = .slice aP nP cP ∧ g = .bool y ∧ nP ≤ n ∧ Hid (Txs wx o P) ∧ Hid (NeQ l ref P) ∧ Hid (y = false → P = O ∧ ∀ i, i < k → i < l.length → CloA l O i) ∧ Hid (y = true → O.length < P.length) ∧ Hid (Below wo.heap.size wo wx)) (fun _ _ i _ => n - (intOf i).toNat)
        case atStart => exact ⟨0, aO, nO, cO, O, false, Nat.zero_le _, rfl, rfl, rfl, hnO, hT, hQ, fun _ => ⟨rfl, fun i h => absurd h (Nat.not_lt_zero _)⟩, fun h => (by cases h), Below.refl _ _⟩
        case round =>
          obtain ⟨k, aP, nP, cP, P, y, hk, rfl, rfl, rfl, hnP, hTP, hQP, hF, hY, hbx⟩ := hrel
          obtain ⟨wx, rfl⟩ : ∃ wx, wx = wr := ⟨_, rfl⟩
          have hBx : Hid (Below w.heap.size w wx) := hB.out.trans (hbx.out.mono hB.out.size)
          by_cases hkn : k < n
          · have hki : (k : Int) < (n : Int) := by omega
            have hkl : k < l.length := by have := hn.out; omega
            obtain ⟨q, o, rfl, c0, c1, c2, c3, c4, c5, c6, c7, c8, c9, c10⟩ := nd_at (hcell.out wx hBx.out) k hkl
            have h27 := in27 aP nP cP P (l.getD k nd0).ref wx hTP.out (by omega)
            have hf37 : Hid (∀ w', Below w.heap.size w w' → Calls Tryz.prog 37 #[.slice (some ⟨q, o, none⟩) n c, .string (l.getD k nd0).ref] w' fun e w'' => e = .returned (.int .i64 (plc (l.map (·.ref)) (l.getD k nd0).ref)) ∧ Below w'.heap.size w' w'') := fun w' h => hfi.out w' _ h
            have hi13 : Hid (∀ w', Below w.heap.size w w' → Calls Tryz.prog 13 #[ndV (l.getD k nd0)] w' fun e w'' => ∃ a n c, e = .returned (.slice a n c) ∧ Hid (Txs w'' (.slice a n c) (inpN (l.getD k nd0)) ∧ Below w'.heap.size w' w'')) := fun w' h => hin.out w' k h hkl
            have hskip : Hid (((l.getD k nd0).ref ∉ P ∨ plc (l.map (·.ref)) (l.getD k nd0).ref ≠ k) → (y = false → P = O ∧ ∀ i, i < k + 1 → i < l.length → CloA l O i)) := fun h hy => by
              obtain ⟨h1, h2⟩ := hF.out hy
              refine ⟨h1, fun i h3 h4 => ?_⟩
              by_cases e : i = k
              · subst e
                intro k1 k2
                rcases h with h | h
                · exact absurd (h1 ▸ k1) h
                · exact absurd k2 h
              · exact h2 i (by omega) h4
            obtain ⟨x, hxe⟩ : ∃ x, Hid (x = l.getD k nd0) := ⟨_, rfl⟩
            rw [← hxe.out] at c0 c1 c2 c3 c4 c5 c6 c7 c8 c9 c10 h27 hf37 hi13 hskip
            by_cases hm : x.ref ∈ P
            case neg =>
              rw [decide_eq_false hm] at h27
              have hF2 : Hid (y = false → P = O ∧ ∀ i, i < k + 1 → i < l.length → CloA l O i) := hskip.out (.inl hm)
              clear hskip hm
              go_wp2_with (first
                | (go_at_call 27; refine h27.mono ?_; clear h27; rintro e w3 ⟨rfl, hb3⟩))
              have hb3' : Hid (Below wo.heap.size wo w3) := hbx.out.trans (hb3.mono hbx.out.size)
              have hT3 : Hid (Txs w3 (.slice aP nP cP) P) := hTP.out.grow hb3
              go_roundw
              case rel => exact ⟨k + 1, aP, nP, cP, P, y, by omega, by go_num, rfl, rfl, hnP, hT3, hQP, hF2, hY, hb3'⟩
              case measure => simp [intOf]; omega
            case pos =>
              rw [decide_eq_true hm] at h27
              replace hm : Hid (x.ref ∈ P) := hm
              cases hpk : (plc (l.map (·.ref)) x.ref == (k : Int)) with
              | false =>
                have hF2 : Hid (y = false → P = O ∧ ∀ i, i < k + 1 → i < l.length → CloA l O i) := hskip.out (.inr (fun e => by rw [e] at hpk; simp at hpk))
                clear hskip
                generalize plc (l.map (·.ref)) x.ref = PL at *
                go_wp2_with (first
                  | (go_at_call 27; refine h27.mono ?_; clear h27; rintro e w3 ⟨rfl, hb3⟩; clear c0 c1 c2 c3 c4 c5 c6 c7 c8 c9 c10; have hb3' := hBx.out.trans (hb3.mono hBx.out.size); obtain ⟨q', o', hqe, c0, c1, c2, c3, c4, c5, c6, c7, c8, c9, c10⟩ := nd_at (hcell.out w3 hb3') k hkl; cases hqe; rw [← hxe.out] at c0 c1 c2 c3 c4 c5 c6 c7 c8 c9 c10; have h38 := hf37.out w3 hb3')
                  | (go_at_call 37; refine h38.mono ?_; clear h38; rintro e w4 ⟨rfl, hb4⟩))
                have hb34 : Hid (Below wx.heap.size wx w4) := hb3.trans (hb4.mono hb3.size)
                have hb4' : Hid (Below wo.heap.size wo w4) := hbx.out.trans (hb34.out.mono hbx.out.size)
                have hT4 : Hid (Txs w4 (.slice aP nP cP) P) := hTP.out.grow hb34.out
                go_roundw
                case rel => exact ⟨k + 1, aP, nP, cP, P, y, by omega, by go_num, rfl, rfl, hnP, hT4, hQP, hF2, hY, hb4'⟩
                case measure => simp [intOf]; omega
              | true =>
                have hpq : Hid (plc (l.map (·.ref)) x.ref = (k : Int)) := eq_of_beq hpk
                clear hskip
                rw [hpq.out] at hf37
                clear hpk
                go_wp2_with (first
                  | (go_at_call 27; refine h27.mono ?_; clear h27; rintro e w3 ⟨rfl, hb3⟩; clear c0 c1 c2 c3 c4 c5 c6 c7 c8 c9 c10; have hb3' := hBx.out.trans (hb3.mono hBx.out.size); obtain ⟨q', o', hqe, c0, c1, c2, c3, c4, c5, c6, c7, c8, c9, c10⟩ := nd_at (hcell.out w3 hb3') k hkl; cases hqe; rw [← hxe.out] at c0 c1 c2 c3 c4 c5 c6 c7 c8 c9 c10; have h38 := hf37.out w3 hb3')
                  | (go_at_call 37; refine h38.mono ?_; clear h38; rintro e w4 ⟨rfl, hb4⟩; clear c0 c1 c2 c3 c4 c5 c6 c7 c8 c9 c10; have hb4' := hb3'.trans (hb4.mono hb3'.size); obtain ⟨q', o', hqe, c0, c1, c2, c3, c4, c5, c6, c7, c8, c9, c10⟩ := nd_at (hcell.out w4 hb4') k hkl; cases hqe; rw [← hxe.out] at c0 c1 c2 c3 c4 c5 c6 c7 c8 c9 c10; have h13 := hi13.out w4 hb4')
                  | (go_at_call 13; refine h13.mono ?_; clear h13; rintro e w5 ⟨a5, n5, cI, rfl, h5⟩))
                have hb35 : Hid (Below wx.heap.size wx w5) := (hb3.trans (hb4.mono hb3.size)).trans (h5.out.2.mono (hb3.trans (hb4.mono hb3.size)).size)
                have hT5 : Hid (Txs w5 (.slice aP nP cP) P) := hTP.out.grow hb35.out
                have hB5 : Hid (Below w.heap.size w w5) := hBx.out.trans (hb35.out.mono hBx.out.size)
                have hbo5 : Hid (Below wo.heap.size wo w5) := hbx.out.trans (hb35.out.mono hbx.out.size)
                have hI5 : Hid (Txs w5 (.slice a5 n5 cI) (inpN x)) := h5.out.1
                have hn5 : Hid (n5 = (inpN x).length) := h5.out.1.len
                have hn5l : n5 ≤ 1024 := by have := hn5.out; have := inpN_len x; omega
                clear c0 c1 c2 c3 c4 c5 c6 c7 c8 c9 c10 h5 hb3' hb4'
                go_loopw [5, 6, 9] (fun o g i wy => ∃ (j : Nat) (aR : Option Addr) (nR cR : Nat) (R : List ByteArray) (z : Bool), j ≤ n5 ∧ i = .int .i64 j ∧ o = .slice aR nR cR ∧ g = .bool z ∧ nR ≤ n ∧ Hid (Txs wy o R) ∧ Hid (NeQ l ref R) ∧ Hid (x.ref ∈ R) ∧ Hid (z = false → R = O ∧ (∀ i, i < k → i < l.length → CloA l O i) ∧ ∀ r ∈ (inpN x).take j, r ∈ l.map (·.ref) → r ∈ O) ∧ Hid (z = true → O.length < R.length) ∧ Hid (Below w5.heap.size w5 wy)) (fun _ _ i _ => n5 - (intOf i).toNat)
                case atStart => exact ⟨0, aP, nP, cP, P, y, Nat.zero_le _, rfl, rfl, rfl, hnP, hT5, hQP, hm, fun hy => ⟨(hF.out hy).1, (hF.out hy).2, fun r hr => by simp at hr⟩, hY, Below.refl _ _⟩
                case round =>
                  obtain ⟨j, aR, nR, cR, R, z, hj, rfl, rfl, rfl, hnR, hTR, hQR, hmR, hFR, hYR, hby⟩ := hrel
                  obtain ⟨wy, rfl⟩ : ∃ wy, wy = wr := ⟨_, rfl⟩
                  have hBy : Hid (Below w.heap.size w wy) := hB5.out.trans (hby.out.mono hB5.out.size)
                  by_cases hjn : j < n5
                  · have hji : (j : Int) < (n5 : Int) := by omega
                    have hjl : j < (inpN x).length := by have := hn5.out; omega
                    obtain ⟨b6, o6, rfl, y0⟩ := tx_at (hI5.out.grow hby.out) j hjl
                    have h37 := hfi.out wy ((inpN x).getD j ⟨#[]⟩) hBy.out
                    have hi27 : Hid (∀ w', Below wy.heap.size wy w' → Calls Tryz.prog 27 #[.slice aR nR cR, .string ((inpN x).getD j ⟨#[]⟩)] w' fun e w'' => e = .returned (.bool (decide ((inpN x).getD j ⟨#[]⟩ ∈ R))) ∧ Below w'.heap.size w' w'') := fun w' h => in27 aR nR cR R _ w' (hTR.out.grow h) (by omega)
                    have ha39 : Hid (∀ w', Below wy.heap.size wy w' → Calls Tryz.prog 39 #[.slice aR nR cR, .string ((inpN x).getD j ⟨#[]⟩)] w' fun e w'' => ∃ a' n' c' out, e = .returned (.slice a' n' c') ∧ Hid (AddQ R ((inpN x).getD j ⟨#[]⟩) out ∧ Txs w'' (.slice a' n' c') out ∧ Below w'.heap.size w' w'')) := fun w' h => add39 aR nR cR R _ w' (hTR.out.grow h) (by omega) hQR.out.rise
                    have hrm : Hid ((inpN x).getD j ⟨#[]⟩ ∈ inpN x) := lgetD_mem (inpN x) ⟨#[]⟩ j hjl
                    have htk : Hid ((((inpN x).getD j ⟨#[]⟩ ∈ l.map (·.ref)) → (inpN x).getD j ⟨#[]⟩ ∈ R) → (z = false → R = O ∧ (∀ i, i < k → i < l.length → CloA l O i) ∧ ∀ r ∈ (inpN x).take (j + 1), r ∈ l.map (·.ref) → r ∈ O)) := fun h hz => by
                      obtain ⟨h1, h2, h3⟩ := hFR.out hz
                      refine ⟨h1, h2, fun r hr hl => ?_⟩
                      rw [ltake_getD (inpN x) ⟨#[]⟩ j hjl] at hr
                      rcases List.mem_append.1 hr with hr | hr
                      · exact h3 r hr hl
                      · rw [List.mem_singleton.1 hr] at hl ⊢
                        exact h1 ▸ h hl
                    have hyt : ∀ w', Below wy.heap.size wy w' → w'.cell? ⟨b6, o6 + j, none⟩ = some (.string ((inpN x).getD j ⟨#[]⟩)) := fun w' h => by
                      obtain ⟨b7, o7, e7, y7⟩ := tx_at (hI5.out.grow (hby.out.trans (h.mono hby.out.size))) j hjl
                      cases e7
                      exact y7
                    replace hyt : Hid (∀ w', Below wy.heap.size wy w' → w'.cell? ⟨b6, o6 + j, none⟩ = some (.string ((inpN x).getD j ⟨#[]⟩))) := hyt
                    generalize (inpN x).getD j ⟨#[]⟩ = rr at *
                    by_cases hmr : rr ∈ l.map (·.ref)
                    case neg =>
                      have htk2 : Hid (z = false → R = O ∧ (∀ i, i < k → i < l.length → CloA l O i) ∧ ∀ r ∈ (inpN x).take (j + 1), r ∈ l.map (·.ref) → r ∈ O) := htk.out (fun h => absurd h hmr)
                      rw [plc_no hmr] at h37
                      clear hmr htk
                      go_wp2_with (first
                        | (go_at_call 37; refine h37.mono ?_; clear h37; rintro e w7 ⟨rfl, hb7⟩))
                      have hT7 : Hid (Txs w7 (.slice aR nR cR) R) := hTR.out.grow hb7
                      have hb7' : Hid (Below w5.heap.size w5 w7) := hby.out.trans (hb7.mono hby.out.size)
                      go_roundw
                      case rel => exact ⟨j + 1, aR, nR, cR, R, z, by omega, by go_num, rfl, rfl, hnR, hT7, hQR, hmR, htk2, hYR, hb7'⟩
                      case measure => simp [intOf]; omega
                    case pos =>
                      have hpl := (plc_in hmr).1
                      replace hmr : Hid (rr ∈ l.map (·.ref)) := hmr
                      generalize plc (l.map (·.ref)) rr = PL at *
                      by_cases hir : rr ∈ R
                      case pos =>
                        have htk2 : Hid (z = false → R = O ∧ (∀ i, i < k → i < l.length → CloA l O i) ∧ ∀ r ∈ (inpN x).take (j + 1), r ∈ l.map (·.ref) → r ∈ O) := htk.out (fun _ => hir)
                        rw [decide_eq_true hir] at hi27
                        clear hir htk
                        go_wp2_with (first
                          | (go_at_call 37; refine h37.mono ?_; clear h37; rintro e w7 ⟨rfl, hb7⟩; have y1 := hyt.out w7 hb7; have h27 := hi27.out w7 hb7)
                          | (go_at_call 27; refine h27.mono ?_; clear h27; rintro e w8 ⟨rfl, hb8⟩))
                        have hb78 : Hid (Below wy.heap.size wy w8) := hb7.trans (hb8.mono hb7.size)
                        have hT8 : Hid (Txs w8 (.slice aR nR cR) R) := hTR.out.grow hb78.out
                        have hb8' : Hid (Below w5.heap.size w5 w8) := hby.out.trans (hb78.out.mono hby.out.size)
                        go_roundw
                        case rel => exact ⟨j + 1, aR, nR, cR, R, z, by omega, by go_num, rfl, rfl, hnR, hT8, hQR, hmR, htk2, hYR, hb8'⟩
                        case measure => simp [intOf]; omega
                      case neg =>
                        have hadd : Hid (∀ U, AddQ R rr U → NeQ l ref U ∧ R.length < U.length ∧ ∀ s ∈ R, s ∈ U) := fun U g => hQR.out.add (i := k) hkl (by rw [← hxe.out]; exact hmR.out) (by rw [← hxe.out]; exact hpq.out) (by rw [← hxe.out]; exact hrm.out) hmr.out hir g
                        rw [decide_eq_false hir] at hi27
                        clear hir htk
                        go_wp2_with (first
                          | (go_at_call 37; refine h37.mono ?_; clear h37; rintro e w7 ⟨rfl, hb7⟩; have y1 := hyt.out w7 hb7; have h27 := hi27.out w7 hb7)
                          | (go_at_call 27; refine h27.mono ?_; clear h27; rintro e w8 ⟨rfl, hb8⟩; have hb78 := hb7.trans (hb8.mono hb7.size); have y2 := hyt.out w8 hb78; have h39 := ha39.out w8 hb78)
                          | (go_at_call 39; refine h39.mono ?_; clear h39; rintro e w9 ⟨a9, n9, c9', U, rfl, h9⟩))
                        have hb79 : Hid (Below wy.heap.size wy w9) := hb78.trans (h9.out.2.2.mono hb78.size)
                        have hb9' : Hid (Below w5.heap.size w5 w9) := hby.out.trans (hb79.out.mono hby.out.size)
                        obtain ⟨u1, u2, u3⟩ := hadd.out U h9.out.1
                        have hn9 : n9 ≤ n := by have := h9.out.2.1.len; have := u1.len; have := hn.out; omega
                        have hY9 : Hid (true = true → O.length < U.length) := fun _ => by
                          cases z with
                          | false => have := (hFR.out rfl).1; rw [← this]; exact u2
                          | true => have := hYR.out rfl; omega
                        have hu1 : Hid (NeQ l ref U) := u1
                        have hu3 : Hid (x.ref ∈ U) := u3 _ hmR.out
                        have hT9 : Hid (Txs w9 (.slice a9 n9 c9') U) := h9.out.2.1
                        clear u1 u2 u3 y0 y1 y2
                        go_roundw
                        case rel => exact ⟨j + 1, a9, n9, c9', U, true, by omega, by go_num, rfl, rfl, hn9, hT9, hu1, hu3, fun h => (by cases h), hY9, hb9'⟩
                        case measure => simp [intOf]; omega
                  · have hji : ¬ (j : Int) < (n5 : Int) := by omega
                    have hF2 : Hid (z = false → R = O ∧ ∀ i, i < k + 1 → i < l.length → CloA l O i) := fun hz => by
                      obtain ⟨h1, h2, h3⟩ := hFR.out hz
                      refine ⟨h1, fun i h4 h5 => ?_⟩
                      by_cases e : i = k
                      · subst e
                        intro _ _ r hr
                        rw [← hxe.out] at hr
                        exact h3 r (by rw [List.take_of_length_le (by have := hn5.out; omega)]; exact hr)
                      · exact h2 i (by omega) h5
                    have hb6 : Hid (Below wo.heap.size wo wy) := hbo5.out.trans (hby.out.mono hbo5.out.size)
                    go_wp2
                    go_roundw
                    case rel => exact ⟨k + 1, aR, nR, cR, R, z, by omega, by go_num, rfl, rfl, hnR, hTR, hQR, hF2, hYR, hb6⟩
                    case measure => simp [intOf]; omega
          · have hki : ¬ (k : Int) < (n : Int) := by omega
            have hC2 : Hid (y = false → ∀ i, i < l.length → CloA l P i) := fun hy i hi => by
              obtain ⟨h1, h2⟩ := hF.out hy
              rw [h1]
              exact h2 i (by have := hn.out; omega) hi
            have hnP2 : Hid (nP = P.length) := hTP.out.len
            have hms : Hid (2 * (n - nP) + gN (.bool y) < 2 * (n - nO) + 1) := by
              show _ < _
              have h1 := hnP2.out
              have h2 := hnl.out
              cases y with
              | false => have := (hF.out rfl).1; rw [this] at h1; simp only [gN]; omega
              | true => have := hY.out rfl; simp only [gN]; omega
            go_wp2
            go_roundw
            case rel => exact ⟨aP, nP, cP, P, y, rfl, rfl, hnP, hTP, hQP, hC2, hBx⟩
            case measure => exact hms.out
end Go.Proofs.YtaffplmfnincfaaGreatDoor
