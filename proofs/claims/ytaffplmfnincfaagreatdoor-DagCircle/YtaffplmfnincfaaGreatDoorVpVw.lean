/- Vp; Vq; Vw. -/
import Derived.Test.YtaffplmfnincfaaGreatDoorVo
/- Values: lists of values; the contract of Check. -/
namespace Go.Proofs.YtaffplmfnincfaaGreatDoor
set_option linter.unusedVariables false
open Go.RowKit Go.MapKept
/-- A value in memory, from place o of block b on. -/
def VAt (w : World) (b o : Nat) (v : Vl) : Prop := w.cell? ⟨b, o, none⟩ = some (.int .i64 v.kind) ∧ w.cell? ⟨b, o + 1, none⟩ = some (.int .i64 v.n)
/-- A slice value whose elements are the values l. -/
def Vls (w : World) (v : Value) (l : List Vl) : Prop := ∃ a c, v = .slice a l.length c ∧ (l = [] ∨ ∃ b o, a = some ⟨b, o, none⟩ ∧ ∀ t, t < l.length → VAt w b (o + t * 2) (l.getD t zer))
theorem VAt.keep {w w' : World} {b o : Nat} {v : Vl} (h : VAt w b o v) (hb : CellsKept w w') : VAt w' b o v := ⟨hb.cell h.1, hb.cell h.2⟩
theorem Vls.keep {w w' : World} {v : Value} {l : List Vl} (h : Vls w v l) (hb : CellsKept w w') : Vls w' v l := by
  obtain ⟨a, c, rfl, h⟩ := h
  refine ⟨a, c, rfl, ?_⟩
  rcases h with h | ⟨b, o, rfl, h⟩
  · exact .inl h
  · exact .inr ⟨b, o, rfl, fun t ht => (h t ht).keep hb⟩
theorem Vls.grow {w w' : World} {v : Value} {l : List Vl} (h : Vls w v l) (hb : Below w.heap.size w w') : Vls w' v l := h.keep (.of_below hb)
theorem Vls.shape {w : World} {v : Value} {l : List Vl} (h : Vls w v l) : ∃ a c, v = .slice a l.length c := by
  obtain ⟨a, c, h, _⟩ := h
  exact ⟨a, c, h⟩
theorem take_getD (l : List Vl) (k : Nat) (h : k < l.length) : l.take (k + 1) = l.take k ++ [l.getD k zer] := by
  rw [List.take_succ_eq_append_getElem h]; simp [h]
theorem getD_mem (l : List Vl) (k : Nat) (h : k < l.length) : l.getD k zer ∈ l := by simp [h]
set_option maxRecDepth 100000 in
set_option maxHeartbeats 2000000 in
theorem check_any (v : Value) (l : List Vl) (w : World) (hv : Vls w v l) (hl : l.length ≤ 1000000000) : Calls Tryz.prog 142 #[v] w fun e w' => e = .returned (.int .i64 (chkE l)) ∧ Below w.heap.size w w' := by
  have hgl : Hid (∀ W, Below w.heap.size w W → Vls W v l) := fun W h => hv.grow h
  obtain ⟨a, c, hva⟩ := hv.shape
  subst hva
  obtain ⟨n, hn⟩ : ∃ n, Hid (n = l.length) := ⟨_, rfl⟩
  rw [← hn.out] at hl hgl ⊢
  obtain ⟨R, hR⟩ : ∃ R, Hid (R = chkE l) := ⟨_, rfl⟩
  rw [← hR.out]
  clear hv
  go_enter Tryz.func142, Tryz.ntmps142
  go_wp2
  go_loopw [7] (fun i wr => ∃ k : Nat, k ≤ n ∧ i = .int .i64 k ∧ Hid (∀ u ∈ l.take k, IsV u) ∧ Below w.heap.size w wr) (fun i _ => n - (intOf i).toNat)
  case atStart => exact ⟨0, Nat.zero_le _, rfl, (fun u hu => by simp at hu), Below.refl _ _⟩
  case round =>
    obtain ⟨k, hk, rfl, hrk, hb⟩ := hrel
    have hz := hb.size
    by_cases hlt : k < n
    · have hki : (k : Int) < (n : Int) := by omega
      have hltl : k < l.length := by rw [← hn.out]; exact hlt
      obtain ⟨a', c', e, hcs⟩ := hgl.out wr hb
      have ea : a = a' ∧ n = l.length ∧ c = c' := by simpa using e
      obtain ⟨rfl, -, rfl⟩ := ea
      rcases hcs with hcs | ⟨b, o, rfl, hcs⟩
      · rw [hcs] at hltl; simp at hltl
      obtain ⟨x0, x1⟩ := hcs k hltl
      clear hcs e
      have hu := fun W => isValue_b (l.getD k zer) W
      have htk : Hid (l.take (k + 1) = l.take k ++ [l.getD k zer]) := take_getD l k hltl
      have hmem : Hid (l.getD k zer ∈ l) := getD_mem l k hltl
      generalize l.getD k zer = u at *
      clear hgl
      cases hi : isB u
      · have hR2 : Hid (R = 80) := by
          have : ¬ ∀ v ∈ l, IsV v := fun h => by
            have := isB_of (h u hmem.out)
            rw [hi] at this; cases this
          have h2 := hR.out
          rw [chkE, if_neg this] at h2
          exact h2
        rw [hi] at hu
        unfold vlV at hu
        go_wp2_with (go_at_call 160; refine (hu _).mono ?_; rintro e w2 ⟨rfl, hb2⟩)
        have hb3 : Below w.heap.size w w2 := (hb.alloc (by omega) _).trans (hb2.mono (by simp; omega))
        go_ret
        exact ⟨by rw [hR2.out]; rfl, hb3⟩
      · rw [hi] at hu
        have hvu : IsV u := of_decide_eq_true hi
        have hnew : Hid (∀ y ∈ l.take (k + 1), IsV y) := by
          rw [htk.out]
          intro y hy
          rcases List.mem_append.1 hy with h | h
          · exact hrk.out y h
          · rw [List.mem_singleton.1 h]; exact hvu
        clear hvu
        unfold vlV at hu
        go_wp2_with (go_at_call 160; refine (hu _).mono ?_; rintro e w2 ⟨rfl, hb2⟩)
        have hb3 : Below w.heap.size w w2 := (hb.alloc (by omega) _).trans (hb2.mono (by simp; omega))
        go_roundw
        case rel => exact ⟨k + 1, by omega, by go_num, hnew, hb3⟩
        case measure => simp [intOf]; omega
    · obtain rfl : k = n := by omega
      have hki : ¬ (k : Int) < (k : Int) := by omega
      have hR2 : Hid (R = 0) := by
        have h3 := hrk.out
        rw [List.take_of_length_le (by rw [← hn.out]; omega)] at h3
        have h2 := hR.out
        rw [chkE, if_pos h3] at h2
        exact h2
      clear hgl
      go_wp2
      go_ret
      exact ⟨by rw [hR2.out]; rfl, hb⟩
end Go.Proofs.YtaffplmfnincfaaGreatDoor
/- Values: the contract of Do. -/
namespace Go.Proofs.YtaffplmfnincfaaGreatDoor
set_option linter.unusedVariables false
open Go.RowKit Go.MapKept
attribute [local go_sem ↓] Go.wp_at_zero Go.wp_at_succ
theorem ite_map {β γ : Type} {c : Prop} [Decidable c] (f : β → γ) (x : β) (y : Option β) : (if c then some x else y).map f = if c then some (f x) else y.map f := by split <;> rfl
theorem two_asc (op : ByteArray) (a b : Vl) : two op a b = (asc op twosL).map (fun φ => φ a b) := by
  unfold twosL two
  simp only [asc, ite_map, Option.map_none]
theorem one_asc (op : ByteArray) (a : Vl) : one op a = (asc op onesL).map (fun φ => φ a) := by
  unfold onesL one
  simp only [asc, ite_map, Option.map_none, List.contains_cons, List.contains_nil, Bool.or_false]
theorem look_none {β : Type} {I : World → Value → β → Prop} {T E : TypeId} {w : World} {b : Nat} {l : List (ByteArray × β)} (hT : Tryz.prog.underlying T = some (.map 9 E)) (hz : (zeroValue E).run Tryz.prog w = .ok .nilFunc w) (h : Tab I w b l) {op : ByteArray} (ho : asc op l = none) :
    (Instr.lookup T (.map (some b)) (.string op) true).run Tryz.prog w = .ok (.tuple #[.nilFunc, .bool false]) w := by
  rcases look_tab hT hz h op with ⟨_, h⟩ | ⟨φ, v, h, _⟩
  · exact h
  · rw [ho] at h; cases h
theorem look_some {β : Type} {I : World → Value → β → Prop} {T E : TypeId} {w : World} {b : Nat} {l : List (ByteArray × β)} (hT : Tryz.prog.underlying T = some (.map 9 E)) (hz : (zeroValue E).run Tryz.prog w = .ok .nilFunc w) (h : Tab I w b l) {op : ByteArray} {φ : β} (ho : asc op l = some φ) :
    ∃ v, I w v φ ∧ (Instr.lookup T (.map (some b)) (.string op) true).run Tryz.prog w = .ok (.tuple #[v, .bool true]) w := by
  rcases look_tab hT hz h op with ⟨h, _⟩ | ⟨ψ, v, h, h2, h3⟩
  · rw [ho] at h; cases h
  · rw [ho] at h; cases h; exact ⟨v, h2, h3⟩
/-- The end of Do: its value was stored. -/
theorem end_do {tmps : Array Value} {w W0 W : World} {x : Nat} {v u : Vl} {r : Value} (ht : tmps[4]?.getD undef = .pointer (some ⟨x, 0, none⟩)) (hs : tmps[5]?.getD undef = r) (hx : w.heap.size ≤ x)
    (h0 : Below w.heap.size w W0) (hB : Below W0.heap.size W0 W) (hv : VlAt W0 x u) :
    bodyPost Tryz.prog Tryz.f188 (fun e w' => e = .returned (.tuple #[vlV v, r]) ∧ Below w.heap.size w w') .ret { tmps := tmps, defers := [] } ((W.setCell ⟨x, 0, none⟩ (.int .i64 v.kind)).setCell ⟨x, 1, none⟩ (.int .i64 v.n)) :=
  ret_cell2 Tryz.results188 ht (vlSet (hv.grow hB)) hs ⟨rfl, belTwo _ _ (h0.trans (hB.mono h0.size)) hx⟩
/-- What Check tells of it: nothing is wrong, or ErrValue. -/
theorem chk_in (l : List Vl) : chkE l = 0 ∨ chkE l = 80 := by unfold chkE; split; exact .inl rfl; exact .inr rfl
set_option maxRecDepth 100000 in
set_option maxHeartbeats 400000 in
/-- A list with a wrong value. -/
theorem do_bad (op : ByteArray) (a : Option Addr) (n c : Nat) (w : World) (hc : ∀ W, Below w.heap.size w W → Calls Tryz.prog 142 #[.slice a n c] W fun e w' => e = .returned (.int .i64 80) ∧ Below W.heap.size W w') :
    Calls Tryz.prog 188 #[.string op, .slice a n c] w fun e w' => e = .returned (.tuple #[vlV zer, .int .i64 80]) ∧ Below w.heap.size w w' := by
  have hr := vlNew w zer
  have hB : Below (w.alloc (vlO zer)).heap.size (w.alloc (vlO zer)) (w.alloc (vlO zer)) := Below.refl _ _
  replace hc := hc _ (bW0 w (vlO zer))
  go_enter Tryz.func188, Tryz.ntmps188
  go_wp2_with (first | (go_at_call 142; refine (hc).mono ?_; rintro e w2 ⟨rfl, hb2⟩; replace hB := hB.trans (hb2.mono hB.size); obtain ⟨r0, r1⟩ := (hr.grow hB).cells; obtain ⟨rf0, rf1⟩ := (hr.grow hB).frozen))
  exact end_do (v := zer) rfl rfl (Nat.le_refl _) (bW0 w _) hB hr
set_option maxRecDepth 100000 in
set_option maxHeartbeats 400000 in
/-- A list of no operation's length. -/
theorem do_len (op : ByteArray) (a : Option Addr) (n c : Nat) (w : World) (h1 : n ≠ 1) (h2 : n ≠ 2) (hc : ∀ W, Below w.heap.size w W → Calls Tryz.prog 142 #[.slice a n c] W fun e w' => e = .returned (.int .i64 0) ∧ Below W.heap.size W w') :
    Calls Tryz.prog 188 #[.string op, .slice a n c] w fun e w' => e = .returned (.tuple #[vlV zer, .int .i64 2]) ∧ Below w.heap.size w w' := by
  have hr := vlNew w zer
  have hB : Below (w.alloc (vlO zer)).heap.size (w.alloc (vlO zer)) (w.alloc (vlO zer)) := Below.refl _ _
  replace hc := hc _ (bW0 w (vlO zer))
  have g1 : ((n : Int) == 1) = false := by simp; omega
  have g2 : ((n : Int) == 2) = false := by simp; omega
  clear h1 h2
  go_enter Tryz.func188, Tryz.ntmps188
  go_wp2_with (first | (go_at_call 142; refine (hc).mono ?_; rintro e w2 ⟨rfl, hb2⟩; replace hB := hB.trans (hb2.mono hB.size); obtain ⟨r0, r1⟩ := (hr.grow hB).cells; obtain ⟨rf0, rf1⟩ := (hr.grow hB).frozen))
  exact end_do (v := zer) rfl rfl (Nat.le_refl _) (bW0 w _) hB hr
set_option maxRecDepth 100000 in
set_option maxHeartbeats 1000000 in
/-- One operand, no such operation. -/
theorem do_no1 (op : ByteArray) (a : Option Addr) (c : Nat) (w : World) (ho : asc op onesL = none) (hc : ∀ W, Below w.heap.size w W → Calls Tryz.prog 142 #[.slice a 1 c] W fun e w' => e = .returned (.int .i64 0) ∧ Below W.heap.size W w') :
    Calls Tryz.prog 188 #[.string op, .slice a 1 c] w fun e w' => e = .returned (.tuple #[vlV zer, .int .i64 2]) ∧ Below w.heap.size w w' := by
  have hr := vlNew w zer
  have hB : Below (w.alloc (vlO zer)).heap.size (w.alloc (vlO zer)) (w.alloc (vlO zer)) := Below.refl _ _
  replace hc := hc _ (bW0 w (vlO zer))
  replace ho : Hid (asc op onesL = none) := ho
  go_enter Tryz.func188, Tryz.ntmps188
  go_wp2_with (first | (go_at_call 142; refine (hc).mono ?_; rintro e w2 ⟨rfl, hb2⟩; replace hB := hB.trans (hb2.mono hB.size); obtain ⟨r0, r1⟩ := (hr.grow hB).cells; obtain ⟨rf0, rf1⟩ := (hr.grow hB).frozen) | (go_at_call 199; refine (ones_any _).mono ?_; rintro e w2 ⟨mb, rfl, htab, hb2⟩; replace hB := hB.trans (hb2.mono hB.size); obtain ⟨r0, r1⟩ := (hr.grow hB).cells; obtain ⟨rf0, rf1⟩ := (hr.grow hB).frozen; have hlk := look_none map49 (Tryz.zeroValue211 _) htab ho.out))
  exact end_do (v := zer) rfl rfl (Nat.le_refl _) (bW0 w _) hB hr
set_option maxRecDepth 100000 in
set_option maxHeartbeats 1000000 in
/-- Two operands, no such operation. -/
theorem do_no2 (op : ByteArray) (a : Option Addr) (c : Nat) (w : World) (ho : asc op twosL = none) (hc : ∀ W, Below w.heap.size w W → Calls Tryz.prog 142 #[.slice a 2 c] W fun e w' => e = .returned (.int .i64 0) ∧ Below W.heap.size W w') :
    Calls Tryz.prog 188 #[.string op, .slice a 2 c] w fun e w' => e = .returned (.tuple #[vlV zer, .int .i64 2]) ∧ Below w.heap.size w w' := by
  have hr := vlNew w zer
  have hB : Below (w.alloc (vlO zer)).heap.size (w.alloc (vlO zer)) (w.alloc (vlO zer)) := Below.refl _ _
  replace hc := hc _ (bW0 w (vlO zer))
  replace ho : Hid (asc op twosL = none) := ho
  go_enter Tryz.func188, Tryz.ntmps188
  go_wp2_with (first | (go_at_call 142; refine (hc).mono ?_; rintro e w2 ⟨rfl, hb2⟩; replace hB := hB.trans (hb2.mono hB.size); obtain ⟨r0, r1⟩ := (hr.grow hB).cells; obtain ⟨rf0, rf1⟩ := (hr.grow hB).frozen) | (go_at_call 200; refine (twos_any _).mono ?_; rintro e w2 ⟨mb, rfl, htab, hb2⟩; replace hB := hB.trans (hb2.mono hB.size); obtain ⟨r0, r1⟩ := (hr.grow hB).cells; obtain ⟨rf0, rf1⟩ := (hr.grow hB).frozen; have hlk := look_none map54 (Tryz.zeroValue215 _) htab ho.out))
  exact end_do (v := zer) rfl rfl (Nat.le_refl _) (bW0 w _) hB hr
set_option maxRecDepth 100000 in
set_option maxHeartbeats 1000000 in
/-- One operand. -/
theorem do_one1 (op : ByteArray) (b o : Nat) (c : Nat) (a : Vl) (φ : Vl → Vl) (w : World) (hva : IsV a) (hat : VAt w b o a) (ho : asc op onesL = some φ) (hc : ∀ W, Below w.heap.size w W → Calls Tryz.prog 142 #[.slice (some ⟨b, o, none⟩) 1 c] W fun e w' => e = .returned (.int .i64 0) ∧ Below W.heap.size W w') :
    Calls Tryz.prog 188 #[.string op, .slice (some ⟨b, o, none⟩) 1 c] w fun e w' => e = .returned (.tuple #[vlV (φ a), .int .i64 0]) ∧ Below w.heap.size w w' := by
  have hr := vlNew w zer
  have hB : Below (w.alloc (vlO zer)).heap.size (w.alloc (vlO zer)) (w.alloc (vlO zer)) := Below.refl _ _
  replace hc := hc _ (bW0 w (vlO zer))
  replace ho : Hid (asc op onesL = some φ) := ho
  have hcell : Hid (∀ W, Below (w.alloc (vlO zer)).heap.size (w.alloc (vlO zer)) W → VAt W b o a) := fun W h => hat.keep (.of_below ((bW0 w _).trans (h.mono (bW0 w _).size)))
  have h45 := fun W => turned_any a hva W
  have h46 := fun W => unsigned_any a hva W
  have h47 := fun W => floor_any a hva W
  have h48 := fun W => not_any a hva W
  clear hat hva
  unfold vlV at h45 h46 h47 h48
  go_enter Tryz.func188, Tryz.ntmps188
  go_wp2_with (first | (go_at_call 142; refine (hc).mono ?_; rintro e w2 ⟨rfl, hb2⟩; replace hB := hB.trans (hb2.mono hB.size); obtain ⟨r0, r1⟩ := (hr.grow hB).cells; obtain ⟨rf0, rf1⟩ := (hr.grow hB).frozen) | (go_at_call 199; refine (ones_any _).mono ?_; rintro e w2 ⟨mb, rfl, htab, hb2⟩; replace hB := hB.trans (hb2.mono hB.size); obtain ⟨r0, r1⟩ := (hr.grow hB).cells; obtain ⟨rf0, rf1⟩ := (hr.grow hB).frozen; obtain ⟨f, hf, hlk⟩ := look_some map49 (Tryz.zeroValue211 _) htab ho.out; obtain ⟨x0, x1⟩ := hcell.out _ hB; clear ho; rcases hf with (⟨rfl, rfl⟩ | ⟨rfl, rfl⟩ | ⟨rfl, rfl⟩ | ⟨rfl, rfl⟩ | ⟨p, rfl, hk⟩)) | (go_at_call 216; with_reducible refine (h45 _).mono ?_; rintro e w2 ⟨rfl, hb2⟩; replace hB := hB.trans (hb2.mono hB.size); obtain ⟨r0, r1⟩ := (hr.grow hB).cells; obtain ⟨rf0, rf1⟩ := (hr.grow hB).frozen) | (go_at_call 217; with_reducible refine (h46 _).mono ?_; rintro e w2 ⟨rfl, hb2⟩; replace hB := hB.trans (hb2.mono hB.size); obtain ⟨r0, r1⟩ := (hr.grow hB).cells; obtain ⟨rf0, rf1⟩ := (hr.grow hB).frozen) | (go_at_call 218; with_reducible refine (h47 _).mono ?_; rintro e w2 ⟨rfl, hb2⟩; replace hB := hB.trans (hb2.mono hB.size); obtain ⟨r0, r1⟩ := (hr.grow hB).cells; obtain ⟨rf0, rf1⟩ := (hr.grow hB).frozen) | (go_at_call 219; with_reducible refine (h48 _).mono ?_; rintro e w2 ⟨rfl, hb2⟩; replace hB := hB.trans (hb2.mono hB.size); obtain ⟨r0, r1⟩ := (hr.grow hB).cells; obtain ⟨rf0, rf1⟩ := (hr.grow hB).frozen) | (go_at_call 252; refine (hk _ (CellsKept.refl _) a).mono ?_; rintro e w2 ⟨rfl, hb2⟩; replace hB := hB.trans (hb2.mono hB.size); obtain ⟨r0, r1⟩ := (hr.grow hB).cells; obtain ⟨rf0, rf1⟩ := (hr.grow hB).frozen; unfold vlV))
  · exact end_do (v := negV a) rfl rfl (Nat.le_refl _) (bW0 w _) hB hr
  · exact end_do (v := absV a) rfl rfl (Nat.le_refl _) (bW0 w _) hB hr
  · exact end_do (v := floorV a) rfl rfl (Nat.le_refl _) (bW0 w _) hB hr
  · exact end_do (v := notV a) rfl rfl (Nat.le_refl _) (bW0 w _) hB hr
  · exact end_do (v := φ a) rfl rfl (Nat.le_refl _) (bW0 w _) hB hr
set_option maxRecDepth 100000 in
set_option maxHeartbeats 1000000 in
/-- Two operands. -/
theorem do_two2 (op : ByteArray) (b o : Nat) (c : Nat) (x y : Vl) (φ : Vl → Vl → Vl) (w : World) (hvx : IsV x) (hvy : IsV y) (hx : VAt w b o x) (hy : VAt w b (o + 2) y) (ho : asc op twosL = some φ) (hc : ∀ W, Below w.heap.size w W → Calls Tryz.prog 142 #[.slice (some ⟨b, o, none⟩) 2 c] W fun e w' => e = .returned (.int .i64 0) ∧ Below W.heap.size W w') :
    Calls Tryz.prog 188 #[.string op, .slice (some ⟨b, o, none⟩) 2 c] w fun e w' => e = .returned (.tuple #[vlV (φ x y), .int .i64 0]) ∧ Below w.heap.size w w' := by
  have hr := vlNew w zer
  have hB : Below (w.alloc (vlO zer)).heap.size (w.alloc (vlO zer)) (w.alloc (vlO zer)) := Below.refl _ _
  replace hc := hc _ (bW0 w (vlO zer))
  replace ho : Hid (asc op twosL = some φ) := ho
  have hlt : b < w.heap.size := World.block_lt_of_cell? w _ hx.1
  have hcx : Hid (∀ W, Below (w.alloc (vlO zer)).heap.size (w.alloc (vlO zer)) W → VAt W b o x) := fun W h => hx.keep (.of_below ((bW0 w _).trans (h.mono (bW0 w _).size)))
  have hcy : Hid (∀ W, Below (w.alloc (vlO zer)).heap.size (w.alloc (vlO zer)) W → VAt W b (o + 2) y) := fun W h => hy.keep (.of_below ((bW0 w _).trans (h.mono (bW0 w _).size)))
  clear hx hy
  obtain ⟨R, hR⟩ : ∃ R, Hid (R = φ x y) := ⟨_, rfl⟩
  rw [← hR.out]
  go_enter Tryz.func188, Tryz.ntmps188
  go_wp2_with (first | (go_at_call 142; refine (hc).mono ?_; rintro e w2 ⟨rfl, hb2⟩; replace hB := hB.trans (hb2.mono hB.size); obtain ⟨r0, r1⟩ := (hr.grow hB).cells; obtain ⟨rf0, rf1⟩ := (hr.grow hB).frozen) | (go_at_call 200; refine (twos_any _).mono ?_; rintro e w2 ⟨mb, rfl, htab, hb2⟩; replace hB := hB.trans (hb2.mono hB.size); obtain ⟨r0, r1⟩ := (hr.grow hB).cells; obtain ⟨rf0, rf1⟩ := (hr.grow hB).frozen; obtain ⟨f, hf, hlk⟩ := look_some map54 (Tryz.zeroValue215 _) htab ho.out; clear ho; obtain ⟨p, rfl, hk⟩ := hf))
  have hk2 := hk w2.drew (.of_below (Below.refl _ _).drew) x y hvx hvy
  replace hB := hB.drew
  obtain ⟨x0, x1⟩ := hcx.out _ hB
  obtain ⟨y0, y1⟩ := hcy.out _ hB
  obtain ⟨r0, r1⟩ := (hr.grow hB).cells
  obtain ⟨rf0, rf1⟩ := (hr.grow hB).frozen
  clear hk hlk htab hvx hvy hc
  rw [← hR.out] at hk2
  unfold vlV at hk2
  go_region_held3 (fun W => W.cell? ⟨b, o, none⟩ = some (.int .i64 x.kind) ∧ W.cell? ⟨b, o + 1, none⟩ = some (.int .i64 x.n) ∧ W.cell? ⟨b, o + 2, none⟩ = some (.int .i64 y.kind) ∧ W.cell? ⟨b, o + 2 + 1, none⟩ = some (.int .i64 y.n)) (first | exact ⟨x0, x1, y0, y1⟩ | exact ⟨cset x0 (by omega), cset x1 (by omega), cset y0 (by omega), cset y1 (by omega)⟩)
    (first | (go_at_call 259; refine hk2.mono ?_; rintro e w3 ⟨rfl, hb3⟩; replace hB := hB.trans (hb3.mono hB.size); obtain ⟨x0, x1⟩ := hcx.out _ hB; obtain ⟨y0, y1⟩ := hcy.out _ hB; obtain ⟨r0, r1⟩ := (hr.grow hB).cells; obtain ⟨rf0, rf1⟩ := (hr.grow hB).frozen))
  all_goals
    go_wp2
    exact end_do (v := R) rfl rfl (Nat.le_refl _) (bW0 w _) hB hr
set_option maxRecDepth 100000 in
theorem do_any (op : ByteArray) (v : Value) (l : List Vl) (w : World) (hv : Vls w v l) (hl : l.length ≤ 1000000000) :
    Calls Tryz.prog 188 #[.string op, v] w fun e w' => e = .returned (.tuple #[vlV (doV op l), .int .i64 (doE op l)]) ∧ Below w.heap.size w w' := by
  obtain ⟨a', c', hva, hvs⟩ := id hv
  have hc : ∀ W, Below w.heap.size w W → Calls Tryz.prog 142 #[v] W fun e w' => e = .returned (.int .i64 (chkE l)) ∧ Below W.heap.size W w' := fun W h => check_any v l W (hv.grow h) hl
  subst hva
  rcases chk_in l with hz | hz
  · rw [hz] at hc
    have hall : ∀ u ∈ l, IsV u := by
      by_cases h : ∀ u ∈ l, IsV u
      · exact h
      · rw [chkE, if_neg h] at hz; omega
    have e1 : doV op l = (ops op l).getD zer := by rw [doV, if_pos hz]
    have e2 : doE op l = if (ops op l).isSome then 0 else 2 := by rw [doE, if_pos hz]
    rw [e1, e2]
    rcases l with _ | ⟨a, _ | ⟨b, _ | ⟨c, r⟩⟩⟩
    · exact do_len op a' _ c' w (by simp) (by simp) hc
    · have ho1 : ops op [a] = (asc op onesL).map (fun φ => φ a) := one_asc op a
      rw [ho1]
      obtain ⟨b, o, rfl, hcs⟩ : ∃ b o, a' = some ⟨b, o, none⟩ ∧ VAt w b o a := by
        rcases hvs with h | ⟨b, o, h, h2⟩
        · cases h
        · exact ⟨b, o, h, by simpa using h2 0 (by simp)⟩
      have e3 : [a].length = 1 := rfl
      rw [e3] at hc ⊢
      cases ho : asc op onesL with
      | none => exact do_no1 op _ c' w ho hc
      | some φ => exact do_one1 op b o c' a φ w (hall a (by simp)) hcs ho hc
    · have ho1 : ops op [a, b] = (asc op twosL).map (fun φ => φ a b) := two_asc op a b
      rw [ho1]
      obtain ⟨x, o, rfl, hcs, hct⟩ : ∃ x o, a' = some ⟨x, o, none⟩ ∧ VAt w x o a ∧ VAt w x (o + 2) b := by
        rcases hvs with h | ⟨x, o, h, h2⟩
        · cases h
        · exact ⟨x, o, h, by simpa using h2 0 (by simp), by simpa using h2 1 (by simp)⟩
      have e3 : [a, b].length = 2 := rfl
      rw [e3] at hc ⊢
      cases ho : asc op twosL with
      | none => exact do_no2 op _ c' w ho hc
      | some φ => exact do_two2 op x o c' a b φ w (hall a (by simp)) (hall b (by simp)) hcs hct ho hc
    · exact do_len op a' _ c' w (by simp) (by simp) hc
  · rw [hz] at hc
    have e1 : doV op l = zer := by rw [doV, if_neg (by omega)]
    have e2 : doE op l = 80 := by rw [doE, if_neg (by omega)]
    rw [e1, e2]
    exact do_bad op a' l.length c' w hc
end Go.Proofs.YtaffplmfnincfaaGreatDoor
/- The contracts of the document's Num, Null, NaN, Plus, Minus, Truth, Is; of num; live. -/
namespace Go.Proofs.YtaffplmfnincfaaGreatDoor
set_option linter.unusedVariables false
open Go.RowKit
attribute [local go_sem ↓] Go.wp_at_zero Go.wp_at_succ
set_option maxRecDepth 100000 in
theorem rnull_b (w : World) : Calls Tryz.prog 82 #[] w fun e w' => e = .returned (vlV nul) ∧ Below w.heap.size w w' := by
  go_enter Tryz.func82, Tryz.ntmps82
  go_wp2
  exact ret_cell Tryz.results82 rfl (vlNew w nul) ⟨rfl, bW0 w _⟩
set_option maxRecDepth 100000 in
theorem rnan_b (w : World) : Calls Tryz.prog 83 #[] w fun e w' => e = .returned (vlV nan) ∧ Below w.heap.size w w' := by
  go_enter Tryz.func83, Tryz.ntmps83
  go_wp2
  exact ret_cell Tryz.results83 rfl (vlNew w nan) ⟨rfl, bW0 w _⟩
set_option maxRecDepth 100000 in
theorem rplus_b (w : World) : Calls Tryz.prog 40 #[] w fun e w' => e = .returned (vlV pls) ∧ Below w.heap.size w w' := by
  go_enter Tryz.func40, Tryz.ntmps40
  go_wp2
  exact ret_cell Tryz.results40 rfl (vlNew w pls) ⟨rfl, bW0 w _⟩
set_option maxRecDepth 100000 in
theorem rminus_b (w : World) : Calls Tryz.prog 41 #[] w fun e w' => e = .returned (vlV mns) ∧ Below w.heap.size w w' := by
  go_enter Tryz.func41, Tryz.ntmps41
  go_wp2
  exact ret_cell Tryz.results41 rfl (vlNew w mns) ⟨rfl, bW0 w _⟩
set_option maxRecDepth 100000 in
theorem rnum_any (n : Int) (w : World) : Calls Tryz.prog 20 #[.int .i64 n] w fun e w' => e = .returned (vlV (num n)) ∧ Below w.heap.size w w' := by
  have hr := vlNew w zer
  have hB : Below (w.alloc (vlO zer)).heap.size (w.alloc (vlO zer)) (w.alloc (vlO zer)) := Below.refl _ _
  have hp := fun W => rplus_b W
  have hm := fun W => rminus_b W
  unfold vlV at hp hm
  by_cases h1 : 1000000000000000 < n
  · have e : num n = pls := by rw [num, if_pos h1]
    rw [e]; clear e
    go_enter Tryz.func20, Tryz.ntmps20
    go_wp2_with (first | (go_at_call 40; with_reducible refine (hp _).mono ?_; rintro e w2 ⟨rfl, hb2⟩; replace hB := hB.trans (hb2.mono hB.size); obtain ⟨r0, r1⟩ := (hr.grow hB).cells; obtain ⟨rf0, rf1⟩ := (hr.grow hB).frozen))
    exact end_set (v := pls) Tryz.results20 rfl (Nat.le_refl _) (bW0 w _) hB hr
  · by_cases h2 : n < -1000000000000000
    · have e : num n = mns := by rw [num, if_neg h1, if_pos h2]
      rw [e]; clear e
      go_enter Tryz.func20, Tryz.ntmps20
      go_wp2_with (first | (go_at_call 41; with_reducible refine (hm _).mono ?_; rintro e w2 ⟨rfl, hb2⟩; replace hB := hB.trans (hb2.mono hB.size); obtain ⟨r0, r1⟩ := (hr.grow hB).cells; obtain ⟨rf0, rf1⟩ := (hr.grow hB).frozen))
      exact end_set (v := mns) Tryz.results20 rfl (Nat.le_refl _) (bW0 w _) hB hr
    · have e : num n = ⟨1, n⟩ := by rw [num, if_neg h1, if_neg h2]
      rw [e]; clear e
      go_enter Tryz.func20, Tryz.ntmps20
      go_wp2
      exact ret_cell Tryz.results20 rfl (vlNew w ⟨1, n⟩) ⟨rfl, bW0 w _⟩
set_option maxRecDepth 100000 in
theorem rtruth_any (b : Bool) (w : World) : Calls Tryz.prog 170 #[.bool b] w fun e w' => e = .returned (vlV (tru b)) ∧ Below w.heap.size w w' := by
  have hr := vlNew w zer
  have hB : Below (w.alloc (vlO zer)).heap.size (w.alloc (vlO zer)) (w.alloc (vlO zer)) := Below.refl _ _
  cases b
  · go_enter Tryz.func170, Tryz.ntmps170
    go_wp2_with (go_at_call 20; refine (rnum_any _ _).mono ?_; rintro e w2 ⟨rfl, hb2⟩; replace hB := hB.trans (hb2.mono hB.size); obtain ⟨r0, r1⟩ := (hr.grow hB).cells; obtain ⟨rf0, rf1⟩ := (hr.grow hB).frozen; unfold vlV)
    exact end_set (v := tru false) Tryz.results170 rfl (Nat.le_refl _) (bW0 w _) hB hr
  · go_enter Tryz.func170, Tryz.ntmps170
    go_wp2_with (go_at_call 20; refine (rnum_any _ _).mono ?_; rintro e w2 ⟨rfl, hb2⟩; replace hB := hB.trans (hb2.mono hB.size); obtain ⟨r0, r1⟩ := (hr.grow hB).cells; obtain ⟨rf0, rf1⟩ := (hr.grow hB).frozen; unfold vlV)
    exact end_set (v := tru true) Tryz.results170 rfl (Nat.le_refl _) (bW0 w _) hB hr
set_option maxRecDepth 100000 in
theorem ris_any (v : Vl) (w : World) : Calls Tryz.prog 80 #[vlV v] w fun e w' => e = .returned (.bool (isB v)) ∧ Below w.heap.size w w' := by
  obtain ⟨k, n⟩ := v
  unfold vlV
  obtain ⟨R, hR⟩ : ∃ R, Hid (R = isB ⟨k, n⟩) := ⟨_, rfl⟩
  rw [← hR.out]
  have hR2 : Hid (R = decide ((k = 1 ∧ -1000000000000000 ≤ n ∧ n ≤ 1000000000000000) ∨ (2 ≤ k ∧ k ≤ 5 ∧ n = 0))) := hR.out
  clear hR
  go_enter Tryz.func80, Tryz.ntmps80
  go_wp2
  all_goals
    go_ret
    refine ⟨?_, bW0 w _⟩
    rw [hR2.out]
    refine ret_bool ?_
    clear hR2
    rw [Bool.eq_iff_iff]
    simp_all
    try omega
set_option maxRecDepth 100000 in
theorem enum_any (n : Int) (w : World) : Calls Tryz.prog 14 #[.int .i64 n] w fun e w' => e = .returned (.int .i64 n) ∧ Below w.heap.size w w' := by
  go_enter Tryz.func14, Tryz.ntmps14
  go_wp2
  go_ret
  exact ⟨rfl, Below.refl _ _⟩
end Go.Proofs.YtaffplmfnincfaaGreatDoor
