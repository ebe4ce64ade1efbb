/- Lists of parts that are read; the contract of Put. -/
import Derived.Test.YtkhnhnaefmcngaaChk
namespace Go.Proofs.Ytkhnhnaefmcngaa
open Go.RowKit
/-- No part. -/
def pt0 : Pt := ⟨0, 0, ⟨#[]⟩⟩
/-- A part in memory, from place o of block b on. -/
def PtAt (w : World) (b o : Nat) (p : Pt) : Prop := w.cell? ⟨b, o, none⟩ = some (.int .i64 p.kind) ∧ w.cell? ⟨b, o + 1, none⟩ = some (.int .i64 p.num) ∧ w.cell? ⟨b, o + 2, none⟩ = some (.string p.text)
/-- A slice value whose elements are the parts l. -/
def Pts (w : World) (v : Value) (l : List Pt) : Prop :=
  ∃ a c, v = .slice a l.length c ∧ ((a = none → c = 0) ∧ l.length ≤ c) ∧ (l = [] ∨ ∃ b o, a = some ⟨b, o, none⟩ ∧ ∀ t, t < l.length → PtAt w b (o + t * 3) (l.getD t pt0))
/-- What is in 64 bits. -/
def Ins (l : List Pt) : Prop := ∀ p ∈ l, I64 p.num
theorem PtAt.grow {w w' : World} {b o : Nat} {p : Pt} (h : PtAt w b o p) (hb : Below w.heap.size w w') : PtAt w' b o p := by
  obtain ⟨h0, h1, h2⟩ := h
  have key : ∀ q u, w.cell? ⟨b, q, none⟩ = some u → w'.cell? ⟨b, q, none⟩ = some u := fun q u h => (hb.cell (p := ⟨b, q, none⟩) (World.block_lt_of_cell? w _ h)).trans h
  exact ⟨key _ _ h0, key _ _ h1, key _ _ h2⟩
theorem Pts.grow {w w' : World} {v : Value} {l : List Pt} (h : Pts w v l) (hb : Below w.heap.size w w') : Pts w' v l := by
  obtain ⟨a, c, rfl, hn, h⟩ := h
  refine ⟨a, c, rfl, hn, ?_⟩
  rcases h with h | ⟨b, o, rfl, h⟩
  · exact .inl h
  · exact .inr ⟨b, o, rfl, fun t ht => (h t ht).grow hb⟩
/-- A struct of three cells that was laid ahead of a call. -/
theorem box3 {W w2 : World} {a b c : Value} {ty : TypeId} (hb : Below (W.alloc (.cells #[a, b, c] ty)).heap.size (W.alloc (.cells #[a, b, c] ty)) w2) :
    w2.cell? ⟨W.heap.size, 0, none⟩ = some a ∧ w2.cell? ⟨W.heap.size, 1, none⟩ = some b ∧ w2.cell? ⟨W.heap.size, 2, none⟩ = some c ∧ Below W.heap.size W w2 := by
  have h := (hb.block W.heap.size (by simp)).trans (heap_new W _)
  refine ⟨?_, ?_, ?_, ((Below.refl _ W).alloc (Nat.le_refl _) _).trans (hb.mono (by simp))⟩ <;> simp [World.cell?, h]
/-- The first error. -/
def firstE : List Pt → Int
  | [] => 0
  | p :: r => if errP p = 0 then firstE r else errP p
/-- Put's error. -/
def putE (l : List Pt) : Int := if 8 < l.length then 6 else firstE l
/-- Put's text. -/
def putS (l : List Pt) : ByteArray := if putE l = 0 then strOfNums (keyB l) else ⟨#[]⟩
theorem errP_in (p : Pt) : 0 ≤ errP p ∧ errP p ≤ 2 := by unfold errP; split <;> (try split) <;> omega
theorem firstE_in (l : List Pt) : 0 ≤ firstE l ∧ firstE l ≤ 2 := by
  induction l with
  | nil => simp [firstE]
  | cons p r ih => unfold firstE; split; exact ih; exact errP_in p
theorem putE_in (l : List Pt) : 0 ≤ putE l ∧ putE l ≤ 6 := by
  have := firstE_in l
  unfold putE; split <;> omega
theorem firstE_ok {l : List Pt} (h : Oks l) : firstE l = 0 := by
  induction l with
  | nil => rfl
  | cons p r ih => rw [firstE, if_pos (errP_ok (h p (by simp)))]; exact ih h.tail
theorem firstE_oks {l : List Pt} (hi : Ins l) (h : firstE l = 0) : Oks l := by
  induction l with
  | nil => intro p hp; cases hp
  | cons p r ih =>
    unfold firstE at h
    split at h
    · next h0 =>
      intro q hq
      rcases List.mem_cons.1 hq with rfl | hq
      · exact okP_of (hi _ (by simp)) h0
      · exact ih (fun x hx => hi x (by simp [hx])) h q hq
    · next h0 => exact absurd h h0
theorem putE_ok {l : List Pt} (h : Ok l) : putE l = 0 := by
  unfold putE; rw [if_neg (by have := h.1; omega)]; exact firstE_ok h.2
theorem putE_oks {l : List Pt} (hi : Ins l) (h : putE l = 0) : Ok l := by
  unfold putE at h
  split at h
  · omega
  · next h8 => exact ⟨by omega, firstE_oks hi h⟩
theorem putS_ok {l : List Pt} (h : Ok l) : putS l = strOfNums (keyB l) := by rw [putS, if_pos (putE_ok h)]
theorem putS_bad {l : List Pt} (h : putE l ≠ 0) : putS l = ⟨#[]⟩ := by rw [putS, if_neg h]
/-- The first part that is wrong. -/
theorem firstE_at (l : List Pt) (k : Nat) (hk : k < l.length) (h : firstE (l.take k) = 0) : (errP (l.getD k pt0) = 0 → firstE (l.take (k + 1)) = 0) ∧ (errP (l.getD k pt0) ≠ 0 → firstE l = errP (l.getD k pt0)) := by
  induction l generalizing k with
  | nil => simp at hk
  | cons p r ih =>
    cases k with
    | zero =>
      refine ⟨fun h0 => ?_, fun h0 => ?_⟩
      · have : errP p = 0 := h0
        simp [firstE, this]
      · have : errP p ≠ 0 := h0
        rw [firstE, if_neg this]; rfl
    | succ k =>
      have hk' : k < r.length := by simpa using hk
      rw [List.take_succ_cons, firstE] at h
      split at h
      · next h0 =>
        obtain ⟨i1, i2⟩ := ih k hk' h
        refine ⟨fun h1 => ?_, fun h1 => ?_⟩
        · rw [List.take_succ_cons, firstE, if_pos h0]; exact i1 h1
        · rw [firstE, if_pos h0]; exact i2 h1
      · next h0 => exact absurd h h0
set_option maxRecDepth 100000 in
set_option maxHeartbeats 2000000 in
theorem put_many (v : Value) (l : List Pt) (w : World) (hv : Pts w v l) (h8 : 8 < l.length) (hl : l.length ≤ 9223372036854775807) :
    Calls Try.prog 10 #[v] w fun e w' => e = .returned (.tuple #[.string ⟨#[]⟩, .int .i64 6]) ∧ w' = w := by
  obtain ⟨a, c, rfl, _, _⟩ := hv
  have h8i : (8 : Int) < (l.length : Int) := by omega
  generalize l.length = n at h8i hl ⊢
  clear h8
  go_enter Try.func10, Try.ntmps10
  go_wp2
  go_ret2
  exact ⟨rfl, rfl⟩
set_option maxRecDepth 100000 in
set_option maxHeartbeats 2000000 in
theorem put_few (v : Value) (l : List Pt) (w : World) (hv : Pts w v l) (hi : Ins l) (h8 : l.length ≤ 8) :
    Calls Try.prog 10 #[v] w fun e w' => e = .returned (.tuple #[.string (putS l), .int .i64 (putE l)]) ∧ Below w.heap.size w w' := by
  have hE : Hid (putE l = firstE l) := by show _ = _; unfold putE; rw [if_neg (by omega)]
  have hg : Hid (∀ W, Below w.heap.size w W → Pts W v l) := fun W hW => hv.grow hW
  obtain ⟨a, c, rfl, hnc, hcs⟩ := hv
  replace hi : Hid _ := hi
  have h8i : ¬ (8 : Int) < (l.length : Int) := by omega
  clear hnc hcs
  go_enter Try.func10, Try.ntmps10
  go_wp2
  go_loopw [4, 13] (fun u i wr => ∃ k : Nat, k ≤ l.length ∧ i = .int .i64 k ∧ Hid (firstE (l.take k) = 0) ∧ Own wr w.heap.size u (keyB (l.take k)) ∧ Below w.heap.size w wr) (fun _ i _ => l.length - (intOf i).toNat)
  case atStart => exact ⟨0, Nat.zero_le _, rfl, rfl, World.ownsRow_nil _ _ _ _, Below.refl _ _⟩
  case round =>
    obtain ⟨k, hk, rfl, hf, ho, hb⟩ := hrel
    have hz := hb.size
    by_cases hltl : k < l.length
    · obtain ⟨a', c', e, _, hcs⟩ := hg.out wr hb
      cases e
      rcases hcs with hcs | ⟨b, o, rfl, hcs⟩
      · rw [hcs] at hltl; simp at hltl
      · obtain ⟨x0, x1, x2⟩ := hcs k hltl
        clear hcs
        have hft := firstE_at l k hltl hf.out
        have hpi := hi.out _ (getD_mem l pt0 k hltl)
        have hkt := keyB_take l pt0 k hltl
        have hoks : Oks (l.take k) := firstE_oks (fun q hq => hi.out q (List.mem_of_mem_take hq)) hf.out
        have hkl := keyB_len hoks
        have htl : (l.take k).length ≤ 8 := by rw [List.length_take]; omega
        have hkl2 : (keyB (l.take k)).length ≤ 10000 := by omega
        generalize l.getD k pt0 = p at *
        have hck := fun W => check_any p W
        by_cases hp : errP p = 0
        · have hok := okP_of hpi hp
          rw [hp] at hck
          have hA := fun u W (h : Own W w.heap.size u (keyB (l.take k))) hb => appendPart_any w.heap.size u _ p W hok h hb (by omega)
          rw [← hkt] at hA
          generalize keyB (l.take k) = xs at *
          have hki : (k : Int) < (l.length : Int) := by omega
          have hft2 : Hid (firstE (l.take (k + 1)) = 0) := hft.1 hp
          obtain ⟨kd, z, t⟩ := p
          simp only [] at x0 x1 x2
          clear hft hkt hp hpi hoks hok hkl hkl2
          go_wp2_with (first
            | (go_at_call 22; refine (hck _).mono ?_; rintro e w2 ⟨rfl, hb2⟩; obtain ⟨y0, y1, y2, hb3⟩ := box3 hb2)
            | (go_at_call 23; refine (hA _ _ (ho.stay hb3) (by have := hb3.size; omega)).mono ?_; rintro e w4 ⟨v4, rfl, ho4, hb4⟩))
          refine ⟨⟨k + 1, by omega, by go_num, hft2.out, ho4, (hb.trans (hb3.mono (by omega))).trans hb4⟩, ?_⟩
          simp [intOf]; omega
        · have hpe : Hid (putE l = errP p) := hE.out.trans (hft.2 hp)
          have hin := errP_in p
          have hpn : (errP p != 0) = true := by simpa using hp
          have hps : Hid (putS l = ⟨#[]⟩) := by
            refine putS_bad ?_
            rw [hpe.out]; exact hp
          generalize errP p = E at *
          obtain ⟨kd, z, t⟩ := p
          simp only [] at x0 x1 x2
          clear hft hkt hp hpi hoks hkl hkl2
          have hki : (k : Int) < (l.length : Int) := by omega
          go_wp2_with (first
            | (go_at_call 22; refine (hck _).mono ?_; rintro e w2 ⟨rfl, hb2⟩; obtain ⟨y0, y1, y2, hb3⟩ := box3 hb2))
          go_ret2
          exact ⟨by rw [hpe.out, hps.out]; rfl, hb.trans (hb3.mono (by omega))⟩
    · obtain rfl : k = l.length := by omega
      have hki : ¬ (l.length : Int) < (l.length : Int) := by omega
      have hf2 := hf.out
      rw [List.take_of_length_le (Nat.le_refl _)] at hf2 ho
      have hpe : Hid (putE l = 0) := hE.out.trans hf2
      have hps : Hid (putS l = strOfNums (keyB l)) := by
        show _ = _
        rw [putS, if_pos hpe.out]
      have hcv := conv_str ho.bts
      clear hf hf2
      go_wp2
      go_ret2
      exact ⟨by rw [hpe.out, hps.out]; rfl, hb⟩
/-- keys.Put. -/
theorem put_any (v : Value) (l : List Pt) (w : World) (hv : Pts w v l) (hi : Ins l) (hl : l.length ≤ 9223372036854775807) :
    Calls Try.prog 10 #[v] w fun e w' => e = .returned (.tuple #[.string (putS l), .int .i64 (putE l)]) ∧ Below w.heap.size w w' := by
  by_cases h8 : 8 < l.length
  · refine (put_many v l w hv h8 hl).mono ?_
    rintro e w' ⟨rfl, rfl⟩
    have he : putE l = 6 := by rw [putE, if_pos h8]
    rw [putS_bad (by omega), he]
    exact ⟨rfl, Below.refl _ _⟩
  · exact put_few v l w hv hi (by omega)
end Go.Proofs.Ytkhnhnaefmcngaa
