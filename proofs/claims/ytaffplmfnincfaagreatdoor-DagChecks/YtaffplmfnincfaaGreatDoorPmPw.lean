/- Pm; Pn; Po; Pq; Pr; Ps; Pu; Pv; Pw. -/
import Derived.Test.YtaffplmfnincfaaGreatDoorNmQb
import Derived.Test.YtaffplmfnincfaaGreatDoorVmVt
import Derived.Test.YtaffplmfnincfaaGreatDoorVrVv
import Derived.Laws.Rows
/- The grammar of P11.1 and P11.2: tokens, and what a text is read as: mathematics. -/
namespace Go.Proofs.YtaffplmfnincfaaGreatDoor
set_option linter.unusedVariables false
/-- A tree. -/
inductive Ex where
  | mk (kind : Int) (name : ByteArray) (v : Vl) (kids : List Ex)
def Ex.kind : Ex → Int | .mk k _ _ _ => k
def Ex.name : Ex → ByteArray | .mk _ n _ _ => n
def Ex.v : Ex → Vl | .mk _ _ v _ => v
def Ex.kids : Ex → List Ex | .mk _ _ _ l => l
def exN (v : Vl) : Ex := .mk 1 ⟨#[]⟩ v []
def exR (n : ByteArray) : Ex := .mk 2 n zer []
def exC (n : ByteArray) (l : List Ex) : Ex := .mk 3 n zer l
/-- A token. -/
structure Tk where
  kind : Int
  size : Nat
  text : ByteArray
  v : Vl
deriving DecidableEq
def tk0 : Tk := ⟨0, 0, ⟨#[]⟩, zer⟩
def isCap (c : Int) : Bool := decide (65 ≤ c) && decide (c ≤ 90)
def isDig (c : Int) : Bool := decide (48 ≤ c) && decide (c ≤ 57)
def isLow (c : Int) : Bool := decide (97 ≤ c) && decide (c ≤ 122)
def isWrd (c : Int) : Bool := isCap c || isLow c || isDig c || decide (c = 95)
/-- How many bytes s begins with that belong to it. -/
def runN (p : Int → Bool) (s : ByteArray) : Nat := ((numsS s).takeWhile p).length
theorem runN_le (p : Int → Bool) (s : ByteArray) : runN p s ≤ s.size := by
  unfold runN
  rw [← numsS_length]
  exact (List.takeWhile_prefix p).length_le
theorem takeWhile_all {α : Type} (p : α → Bool) : ∀ l : List α, ∀ x ∈ l.takeWhile p, p x = true
  | [], x, hx => by cases hx
  | a :: l, x, hx => by
    rw [List.takeWhile_cons] at hx
    split at hx
    · rename_i h
      rcases List.mem_cons.1 hx with rfl | hx
      · exact h
      · exact takeWhile_all p l x hx
    · cases hx
theorem takeWhile_len {α : Type} (p : α → Bool) (d : α) : ∀ (l : List α) (k : Nat), k ≤ l.length → (∀ j, j < k → p (l.getD j d) = true) → (k < l.length → p (l.getD k d) = false) → (l.takeWhile p).length = k
  | [], k, hk, _, _ => by simp at hk; simp [hk]
  | a :: l, 0, _, _, h2 => by
    have := h2 (by simp)
    rw [List.takeWhile_cons]
    simp only [List.getD_cons_zero] at this
    simp [this]
  | a :: l, k + 1, hk, h1, h2 => by
    have h0 := h1 0 (by omega)
    simp only [List.getD_cons_zero] at h0
    rw [List.takeWhile_cons, if_pos h0, List.length_cons, takeWhile_len p d l k (by simpa using hk) (fun j hj => by have := h1 (j + 1) (by omega); simpa using this) (fun h => by have := h2 (by simpa using h); simpa using this)]
/-- What tells it. -/
theorem runN_is (p : Int → Bool) (s : ByteArray) (k : Nat) (hk : k ≤ s.size) (h1 : ∀ j, j < k → p (byteAt s j) = true) (h2 : k < s.size → p (byteAt s k) = false) : runN p s = k :=
  takeWhile_len p 0 (numsS s) k (by rw [numsS_length]; exact hk) h1 (fun h => h2 (by rw [numsS_length] at h; exact h))
/-- A ref's name. -/
def refB (s : ByteArray) : Bool := decide (1 ≤ s.size) && decide (s.size ≤ 16) && isCap (byteAt s 0) && decide (runN isWrd s = s.size)
/-- The signs and their levels. -/
def signL : List (ByteArray × Int) := [(⟨#[124, 124]⟩, 0), (⟨#[38, 38]⟩, 1), (⟨#[61, 61]⟩, 2), (⟨#[33, 61]⟩, 2), (⟨#[60, 61]⟩, 2), (⟨#[62, 61]⟩, 2), (⟨#[60]⟩, 2), (⟨#[62]⟩, 2), (⟨#[43]⟩, 3), (⟨#[45]⟩, 3), (⟨#[42]⟩, 4), (⟨#[47]⟩, 4), (⟨#[33]⟩, 6), (⟨#[40]⟩, 6), (⟨#[41]⟩, 6)]
def preS (s p : ByteArray) : Bool := p.data.toList.isPrefixOf s.data.toList
def firstSign (s : ByteArray) : Tk := match signL.find? (fun x => preS s x.1) with
  | some x => ⟨2, x.1.size, x.1, zer⟩
  | none => tk0
def levOf (t : ByteArray) : Int := match signL.find? (fun x => decide (t = x.1)) with
  | some x => x.2
  | none => 6
def firstRef (s : ByteArray) : Tk :=
  let n := runN isWrd (s.extract 1 s.size)
  let name := s.extract 1 (1 + n)
  if refB name then ⟨4, 1 + name.size, name, zer⟩ else tk0
def numSize (s : ByteArray) : Nat :=
  let whole := runN isDig s
  let rest := s.extract whole s.size
  if preS rest ⟨#[46]⟩ then
    let part := runN isDig (rest.extract 1 rest.size)
    if 0 < part then whole + 1 + part else whole
  else whole
def ofWord (t : ByteArray) : Tk :=
  if t = ⟨#[110, 117, 108, 108]⟩ then ⟨3, 4, ⟨#[]⟩, nul⟩ else if t = ⟨#[110, 97, 110]⟩ then ⟨3, 3, ⟨#[]⟩, nan⟩ else if t = ⟨#[105, 110, 102]⟩ then ⟨3, 3, ⟨#[]⟩, pls⟩
  else if t = ⟨#[97, 98, 115]⟩ ∨ t = ⟨#[102, 108, 111, 111, 114]⟩ ∨ t = ⟨#[105, 115, 95, 110, 117, 108, 108]⟩ ∨ t = ⟨#[105, 115, 95, 110, 97, 110]⟩ ∨ t = ⟨#[105, 115, 95, 105, 110, 102]⟩ ∨ t = ⟨#[105, 115, 95, 110, 117, 109, 98, 101, 114]⟩ then ⟨5, t.size, t, zer⟩ else tk0
section
variable (par : ByteArray → Option Vl)
def firstNum (s : ByteArray) : Tk := match par (s.extract 0 (numSize s)) with
  | some v => ⟨3, numSize s, ⟨#[]⟩, v⟩
  | none => tk0
def firstTok (s : ByteArray) : Tk :=
  if s.size = 0 then ⟨1, 0, ⟨#[]⟩, zer⟩ else if byteAt s 0 = 36 then firstRef s else if isDig (byteAt s 0) then firstNum par s else if isWrd (byteAt s 0) then ofWord (s.extract 0 (runN isWrd s)) else firstSign s
def opens (t : Tk) : Bool := decide (t.kind = 3) || decide (t.kind = 4) || decide (t.kind = 5) || decide (t.text = ⟨#[40]⟩) || decide (t.text = ⟨#[45]⟩) || decide (t.text = ⟨#[33]⟩)
def tokAt (s : ByteArray) (i : Nat) : Tk := firstTok par (s.extract i s.size)
/-- Past the blanks. -/
def skipB (s : ByteArray) (i : Nat) : Nat := i + runN (fun c => decide (c = 32)) (s.extract i s.size)
def nxt (s : ByteArray) (i : Nat) : Nat := skipB s (i + (tokAt par s i).size)
inductive Job where
  | op (l n i : Nat)
  | lp (l n : Nat) (x : Ex) (i : Nat)
  | od (n i : Nat)
  | br (n i : Nat)
/-- Reading, with so much breath. -/
def go (s : ByteArray) : Nat → Job → Option (Except Int Ex × Nat)
  | 0, _ => none
  | F + 1, .op l n i => if l = 5 then go s F (.od n i) else match go s F (.op (l + 1) n i) with
    | none => none
    | some (.error e, j) => some (.error e, j)
    | some (.ok x, j) => go s F (.lp l n x j)
  | F + 1, .lp l n x i => if levOf (tokAt par s i).text = (l : Int) then match go s F (.op (l + 1) n (nxt par s i)) with
      | none => none
      | some (.error e, j) => some (.error e, j)
      | some (.ok y, j) => if l = 2 then some (.ok (exC (tokAt par s i).text [x, y]), j) else go s F (.lp l n (exC (tokAt par s i).text [x, y]) j)
    else some (.ok x, i)
  | F + 1, .od n i => if opens (tokAt par s i) = false then some (.error 110, i) else if 32 < n then some (.error 111, i) else if (tokAt par s i).text = ⟨#[40]⟩ then go s F (.br n i)
    else if (tokAt par s i).kind = 3 then some (.ok (exN (tokAt par s i).v), nxt par s i) else if (tokAt par s i).kind = 4 then some (.ok (exR (tokAt par s i).text), nxt par s i)
    else if (tokAt par s i).kind = 5 then match go s F (.br n (nxt par s i)) with
      | none => none
      | some (.error e, j) => some (.error e, j)
      | some (.ok x, j) => some (.ok (exC (tokAt par s i).text [x]), j)
    else match go s F (.od (n + 1) (nxt par s i)) with
      | none => none
      | some (.error e, j) => some (.error e, j)
      | some (.ok x, j) => some (.ok (exC (tokAt par s i).text [x]), j)
  | F + 1, .br n i => if (tokAt par s i).text = ⟨#[40]⟩ then match go s F (.op 0 (n + 1) (nxt par s i)) with
      | none => none
      | some (.error e, j) => some (.error e, j)
      | some (.ok x, j) => if (tokAt par s j).text = ⟨#[41]⟩ then some (.ok x, nxt par s j) else some (.error 110, j)
    else some (.error 110, i)
/-- More breath, the same answer. -/
theorem go_more (s : ByteArray) : ∀ (F : Nat) (J : Job) (r : Except Int Ex × Nat), go par s F J = some r → go par s (F + 1) J = some r := by
  intro F
  induction F with
  | zero => intro J r h; cases J <;> simp [go] at h
  | succ F ih =>
    intro J r h
    cases J with
    | op l n i =>
      rw [go] at h ⊢
      by_cases h5 : l = 5
      · rw [if_pos h5] at h ⊢; exact ih _ _ h
      · rw [if_neg h5] at h ⊢
        cases h1 : go par s F (.op (l + 1) n i) with
        | none => rw [h1] at h; cases h
        | some q =>
          rw [h1] at h
          rw [ih _ _ h1]
          obtain ⟨e | x, j⟩ := q
          · exact h
          · exact ih _ _ h
    | lp l n x i =>
      rw [go] at h ⊢
      by_cases h5 : levOf (tokAt par s i).text = (l : Int)
      · rw [if_pos h5] at h ⊢
        cases h1 : go par s F (.op (l + 1) n (nxt par s i)) with
        | none => rw [h1] at h; cases h
        | some q =>
          rw [h1] at h
          rw [ih _ _ h1]
          obtain ⟨e | y, j⟩ := q
          · exact h
          · simp only at h ⊢
            by_cases h2 : l = 2
            · rw [if_pos h2] at h ⊢; exact h
            · rw [if_neg h2] at h ⊢; exact ih _ _ h
      · rw [if_neg h5] at h ⊢; exact h
    | od n i =>
      rw [go] at h ⊢
      split at h
      · rename_i h1; rw [if_pos h1]; exact h
      rename_i h1; rw [if_neg h1]
      split at h
      · rename_i h2; rw [if_pos h2]; exact h
      rename_i h2; rw [if_neg h2]
      split at h
      · rename_i h3; rw [if_pos h3]; exact ih _ _ h
      rename_i h3; rw [if_neg h3]
      split at h
      · rename_i h4; rw [if_pos h4]; exact h
      rename_i h4; rw [if_neg h4]
      split at h
      · rename_i h5; rw [if_pos h5]; exact h
      rename_i h5; rw [if_neg h5]
      split at h
      · rename_i h6; rw [if_pos h6]
        cases h1 : go par s F (.br n (nxt par s i)) with
        | none => rw [h1] at h; cases h
        | some q =>
          rw [h1] at h
          rw [ih _ _ h1]
          obtain ⟨e | y, j⟩ := q <;> exact h
      · rename_i h6; rw [if_neg h6]
        cases h1 : go par s F (.od (n + 1) (nxt par s i)) with
        | none => rw [h1] at h; cases h
        | some q =>
          rw [h1] at h
          rw [ih _ _ h1]
          obtain ⟨e | y, j⟩ := q <;> exact h
    | br n i =>
      rw [go] at h ⊢
      by_cases h5 : (tokAt par s i).text = ⟨#[40]⟩
      · rw [if_pos h5] at h ⊢
        cases h1 : go par s F (.op 0 (n + 1) (nxt par s i)) with
        | none => rw [h1] at h; cases h
        | some q =>
          rw [h1] at h
          rw [ih _ _ h1]
          obtain ⟨e | y, j⟩ := q <;> exact h
      · rw [if_neg h5] at h ⊢; exact h
theorem go_le (s : ByteArray) {F G : Nat} (h : F ≤ G) {J : Job} {r : Except Int Ex × Nat} (hr : go par s F J = some r) : go par s G J = some r := by
  induction G with
  | zero => obtain rfl : F = 0 := by omega
            exact hr
  | succ G ih =>
    by_cases e : F = G + 1
    · rw [← e]; exact hr
    · exact go_more par s G J r (ih (by omega))
/-- The reading of a job. -/
def Rd (s : ByteArray) (J : Job) (r : Except Int Ex) (j : Nat) : Prop := ∃ F, go par s F J = some (r, j)
theorem Rd.one {s : ByteArray} {J : Job} {r r' : Except Int Ex} {j j' : Nat} (h : Rd par s J r j) (g : Rd par s J r' j') : r = r' ∧ j = j' := by
  obtain ⟨F, h⟩ := h
  obtain ⟨G, g⟩ := g
  have h1 := go_le par s (Nat.le_max_left F G) h
  have h2 := go_le par s (Nat.le_max_right F G) g
  rw [h1] at h2
  injection h2 with h2
  injection h2 with h3 h4
  exact ⟨h3, h4⟩
theorem Rd.opTop {s : ByteArray} {n i j : Nat} {r : Except Int Ex} (h : Rd par s (.od n i) r j) : Rd par s (.op 5 n i) r j := by
  obtain ⟨F, h⟩ := h
  exact ⟨F + 1, by rw [go, if_pos rfl]; exact h⟩
theorem Rd.opErr {s : ByteArray} {l n i j : Nat} {e : Int} (hl : l ≠ 5) (h : Rd par s (.op (l + 1) n i) (.error e) j) : Rd par s (.op l n i) (.error e) j := by
  obtain ⟨F, h⟩ := h
  exact ⟨F + 1, by rw [go, if_neg hl, h]⟩
theorem Rd.opLp {s : ByteArray} {l n i j k : Nat} {x : Ex} {r : Except Int Ex} (hl : l ≠ 5) (h : Rd par s (.op (l + 1) n i) (.ok x) j) (g : Rd par s (.lp l n x j) r k) : Rd par s (.op l n i) r k := by
  obtain ⟨F, h⟩ := h
  obtain ⟨G, g⟩ := g
  refine ⟨max F G + 1, ?_⟩
  rw [go, if_neg hl, go_le par s (Nat.le_max_left F G) h]
  exact go_le par s (Nat.le_max_right F G) g
theorem Rd.lpEnd {s : ByteArray} {l n i : Nat} {x : Ex} (h : levOf (tokAt par s i).text ≠ (l : Int)) : Rd par s (.lp l n x i) (.ok x) i := ⟨1, by rw [go, if_neg h]⟩
theorem Rd.lpErr {s : ByteArray} {l n i j : Nat} {x : Ex} {e : Int} (h : levOf (tokAt par s i).text = (l : Int)) (g : Rd par s (.op (l + 1) n (nxt par s i)) (.error e) j) : Rd par s (.lp l n x i) (.error e) j := by
  obtain ⟨F, g⟩ := g
  exact ⟨F + 1, by rw [go, if_pos h, g]⟩
theorem Rd.lpRel {s : ByteArray} {n i j : Nat} {x y : Ex} (h : levOf (tokAt par s i).text = ((2 : Nat) : Int)) (g : Rd par s (.op 3 n (nxt par s i)) (.ok y) j) : Rd par s (.lp 2 n x i) (.ok (exC (tokAt par s i).text [x, y])) j := by
  obtain ⟨F, g⟩ := g
  exact ⟨F + 1, by rw [go, if_pos h, g]; rfl⟩
theorem Rd.lpMore {s : ByteArray} {l n i j k : Nat} {x y : Ex} {r : Except Int Ex} (h : levOf (tokAt par s i).text = (l : Int)) (h2 : l ≠ 2) (g : Rd par s (.op (l + 1) n (nxt par s i)) (.ok y) j) (g2 : Rd par s (.lp l n (exC (tokAt par s i).text [x, y]) j) r k) : Rd par s (.lp l n x i) r k := by
  obtain ⟨F, g⟩ := g
  obtain ⟨G, g2⟩ := g2
  refine ⟨max F G + 1, ?_⟩
  rw [go, if_pos h, go_le par s (Nat.le_max_left F G) g]
  simp only
  rw [if_neg h2]
  exact go_le par s (Nat.le_max_right F G) g2
end
end Go.Proofs.YtaffplmfnincfaaGreatDoor
/- Bytes of tokens, runs of bytes, refs; value.Parse as a function that can be reckoned. -/
namespace Go.Proofs.YtaffplmfnincfaaGreatDoor
set_option linter.unusedVariables false
open Go.RowKit
/-- What value.Parse takes. -/
def parC (s : ByteArray) : Option Vl := (parL s).find? fun v => decide (txtS v = s)
theorem parC_yes {s : ByteArray} {v : Vl} (h : parC s = some v) : IsV v ∧ parV s = v ∧ parE s = 0 := by
  have h1 := List.find?_some h
  have h2 := List.mem_of_find?_eq_some h
  have hv := parL_isV s v h2
  exact ⟨hv, par_yes hv (of_decide_eq_true h1)⟩
theorem parC_no {s : ByteArray} (h : parC s = none) : parV s = zer ∧ parE s = 80 := by
  refine par_no fun v hv e => ?_
  have h1 := List.find?_eq_none.1 h v (parL_all s v hv e)
  exact h1 (decide_eq_true e)
set_option maxRecDepth 100000 in
theorem cap_any (c : Int) (w : World) (h0 : 0 ≤ c) (h1 : c < 256) : Calls Tryz.prog 72 #[.int .u8 c] w fun e w' => e = .returned (.bool (isCap c)) ∧ w' = w := by
  by_cases a : 65 ≤ c <;> by_cases b : c ≤ 90
  all_goals
    have hd : Hid (isCap c = isCap c) := rfl
    unfold isCap at hd ⊢
    go_enter Tryz.func72, Tryz.ntmps72
    go_wp2
    go_ret
    exact ⟨by simp [a, b], rfl⟩
set_option maxRecDepth 100000 in
theorem dig_any (c : Int) (w : World) (h0 : 0 ≤ c) (h1 : c < 256) : Calls Tryz.prog 110 #[.int .u8 c] w fun e w' => e = .returned (.bool (isDig c)) ∧ w' = w := by
  by_cases a : 48 ≤ c <;> by_cases b : c ≤ 57
  all_goals
    unfold isDig
    go_enter Tryz.func110, Tryz.ntmps110
    go_wp2
    go_ret
    exact ⟨by simp [a, b], rfl⟩
set_option maxRecDepth 100000 in
set_option maxHeartbeats 2000000 in
theorem wrd_any (c : Int) (w : World) (h0 : 0 ≤ c) (h1 : c < 256) : Calls Tryz.prog 74 #[.int .u8 c] w fun e w' => e = .returned (.bool (isWrd c)) ∧ w' = w := by
  have hc := fun W => cap_any c W h0 h1
  have hd := fun W => dig_any c W h0 h1
  obtain ⟨R, hR⟩ : ∃ R, Hid (R = isWrd c) := ⟨_, rfl⟩
  rw [← hR.out]
  cases h2 : isCap c with
  | true =>
    have : R = true := by rw [hR.out]; unfold isWrd; rw [h2]; rfl
    subst this
    rw [h2] at hc
    clear h2 hR
    go_enter Tryz.func74, Tryz.ntmps74
    go_wp2_with (first | (go_at_call 72; refine (hc _).mono ?_; rintro e wx ⟨rfl, hwx⟩; subst wx) | (go_at_call 110; refine (hd _).mono ?_; rintro e wx ⟨rfl, hwx⟩; subst wx))
    go_ret
    exact ⟨rfl, rfl⟩
  | false =>
    rw [h2] at hc
    cases h3 : isDig c with
    | true =>
      have hR1 : R = true := by rw [hR.out]; unfold isWrd; rw [h3]; simp
      have a : ¬ (97 : Int) ≤ c := by unfold isDig at h3; simp at h3; omega
      subst hR1
      rw [h3] at hd
      clear h2 h3 hR
      go_enter Tryz.func74, Tryz.ntmps74
      go_wp2_with (first | (go_at_call 72; refine (hc _).mono ?_; rintro e wx ⟨rfl, hwx⟩; subst wx) | (go_at_call 110; refine (hd _).mono ?_; rintro e wx ⟨rfl, hwx⟩; subst wx))
      go_ret
      exact ⟨rfl, rfl⟩
    | false =>
      rw [h3] at hd
      have hR1 : Hid (R = (isLow c || decide (c = 95))) := by show _ = _; rw [hR.out]; unfold isWrd; rw [h2, h3]; simp
      clear h2 h3 hR
      by_cases a : 97 ≤ c <;> by_cases b : c ≤ 122 <;> by_cases g : c = 95
      all_goals first
        | (exfalso; omega)
        | (have hR2 : Hid (R = true) := by (show _ = _; rw [hR1.out]; unfold isLow; simp [a, b, g])
           have gb : (c == 95) = false := by simpa using g
           clear g hR1
           go_enter Tryz.func74, Tryz.ntmps74
           go_wp2_with (first | (go_at_call 72; refine (hc _).mono ?_; rintro e wx ⟨rfl, hwx⟩; subst wx) | (go_at_call 110; refine (hd _).mono ?_; rintro e wx ⟨rfl, hwx⟩; subst wx))
           go_ret
           exact ⟨by rw [hR2.out]; try (simp [*]), rfl⟩)
        | (have hR2 : Hid (R = true) := by (show _ = _; rw [hR1.out]; unfold isLow; simp [a, b, g])
           have gb : (c == 95) = true := by simpa using g
           clear g hR1
           go_enter Tryz.func74, Tryz.ntmps74
           go_wp2_with (first | (go_at_call 72; refine (hc _).mono ?_; rintro e wx ⟨rfl, hwx⟩; subst wx) | (go_at_call 110; refine (hd _).mono ?_; rintro e wx ⟨rfl, hwx⟩; subst wx))
           go_ret
           exact ⟨by rw [hR2.out]; try (simp [*]), rfl⟩)
        | (have hR2 : Hid (R = false) := by (show _ = _; rw [hR1.out]; unfold isLow; simp [a, b, g])
           have gb : (c == 95) = false := by simpa using g
           clear g hR1
           go_enter Tryz.func74, Tryz.ntmps74
           go_wp2_with (first | (go_at_call 72; refine (hc _).mono ?_; rintro e wx ⟨rfl, hwx⟩; subst wx) | (go_at_call 110; refine (hd _).mono ?_; rintro e wx ⟨rfl, hwx⟩; subst wx))
           go_ret
           exact ⟨by rw [hR2.out]; try (simp [*]), rfl⟩)
set_option maxRecDepth 100000 in
set_option maxHeartbeats 2000000 in
theorem runW_any (s : ByteArray) (w : World) (hs : s.size ≤ 9223372036854775807) : Calls Tryz.prog 73 #[.string s, .func (.func 74) #[] #[]] w fun e w' => e = .returned (.int .i64 (runN isWrd s : Nat)) ∧ w' = w := by
  have hD : Hid (∀ k (h : k < s.size) W, Calls Tryz.prog 74 #[.int .u8 ((s[k].toNat : Nat) : Int)] W fun e w' => e = .returned (.bool (isWrd (byteAt s k))) ∧ w' = W) := fun k h W => by
    rw [byteAt_get]; exact wrd_any (byteAt s k) W (byteAt_in s k).1 (byteAt_in s k).2
  obtain ⟨N, hN⟩ : ∃ N : Nat, Hid (N = runN isWrd s) := ⟨_, rfl⟩
  rw [← hN.out]
  go_enter Tryz.func73, Tryz.ntmps73
  go_wp2
  go_loop [8] (fun i => ∃ k : Nat, k ≤ s.size ∧ i = .int .i64 k ∧ Hid (∀ j, j < k → isWrd (byteAt s j) = true)) (fun i => s.size - (intOf i).toNat)
  case atStart => exact ⟨0, Nat.zero_le _, rfl, fun j hj => absurd hj (Nat.not_lt_zero _)⟩
  case round =>
    obtain ⟨k, hk, rfl, hto⟩ := hrel
    by_cases hlt : k < s.size
    · have hki : (k : Int) < (s.size : Int) := by omega
      have hDk := hD.out k hlt
      cases hl : isWrd (byteAt s k) with
      | true =>
        rw [hl] at hDk
        have hst : Hid (∀ j, j < k + 1 → isWrd (byteAt s j) = true) := fun j hj => by
          by_cases e : j = k
          · rw [e]; exact hl
          · exact hto.out j (by omega)
        clear hl
        go_wp2_with (first | (go_at_call 74; refine (hDk _).mono ?_; rintro e wx ⟨rfl, hwx⟩; subst wx))
        refine ⟨⟨k + 1, by omega, by go_num, hst⟩, ?_⟩
        simp [intOf]; omega
      | false =>
        rw [hl] at hDk
        have hk2 : Hid (N = k) := hN.out.trans (runN_is isWrd s k (by omega) hto.out (fun _ => hl))
        clear hl
        go_wp2_with (first | (go_at_call 74; refine (hDk _).mono ?_; rintro e wx ⟨rfl, hwx⟩; subst wx))
        go_ret
        exact ⟨by rw [hk2.out]; rfl, rfl⟩
    · obtain rfl : k = s.size := by omega
      have hki : ¬ (s.size : Int) < (s.size : Int) := by omega
      have hk2 : Hid (N = s.size) := hN.out.trans (runN_is isWrd s s.size (Nat.le_refl _) hto.out (fun h => absurd h (Nat.lt_irrefl _)))
      go_wp2
      go_ret
      exact ⟨by rw [hk2.out]; rfl, rfl⟩
set_option maxRecDepth 100000 in
set_option maxHeartbeats 2000000 in
theorem runD_any (s : ByteArray) (w : World) (hs : s.size ≤ 9223372036854775807) : Calls Tryz.prog 73 #[.string s, .func (.func 110) #[] #[]] w fun e w' => e = .returned (.int .i64 (runN isDig s : Nat)) ∧ w' = w := by
  have hD : Hid (∀ k (h : k < s.size) W, Calls Tryz.prog 110 #[.int .u8 ((s[k].toNat : Nat) : Int)] W fun e w' => e = .returned (.bool (isDig (byteAt s k))) ∧ w' = W) := fun k h W => by
    rw [byteAt_get]; exact dig_any (byteAt s k) W (byteAt_in s k).1 (byteAt_in s k).2
  obtain ⟨N, hN⟩ : ∃ N : Nat, Hid (N = runN isDig s) := ⟨_, rfl⟩
  rw [← hN.out]
  go_enter Tryz.func73, Tryz.ntmps73
  go_wp2
  go_loop [8] (fun i => ∃ k : Nat, k ≤ s.size ∧ i = .int .i64 k ∧ Hid (∀ j, j < k → isDig (byteAt s j) = true)) (fun i => s.size - (intOf i).toNat)
  case atStart => exact ⟨0, Nat.zero_le _, rfl, fun j hj => absurd hj (Nat.not_lt_zero _)⟩
  case round =>
    obtain ⟨k, hk, rfl, hto⟩ := hrel
    by_cases hlt : k < s.size
    · have hki : (k : Int) < (s.size : Int) := by omega
      have hDk := hD.out k hlt
      cases hl : isDig (byteAt s k) with
      | true =>
        rw [hl] at hDk
        have hst : Hid (∀ j, j < k + 1 → isDig (byteAt s j) = true) := fun j hj => by
          by_cases e : j = k
          · rw [e]; exact hl
          · exact hto.out j (by omega)
        clear hl
        go_wp2_with (first | (go_at_call 110; refine (hDk _).mono ?_; rintro e wx ⟨rfl, hwx⟩; subst wx))
        refine ⟨⟨k + 1, by omega, by go_num, hst⟩, ?_⟩
        simp [intOf]; omega
      | false =>
        rw [hl] at hDk
        have hk2 : Hid (N = k) := hN.out.trans (runN_is isDig s k (by omega) hto.out (fun _ => hl))
        clear hl
        go_wp2_with (first | (go_at_call 110; refine (hDk _).mono ?_; rintro e wx ⟨rfl, hwx⟩; subst wx))
        go_ret
        exact ⟨by rw [hk2.out]; rfl, rfl⟩
    · obtain rfl : k = s.size := by omega
      have hki : ¬ (s.size : Int) < (s.size : Int) := by omega
      have hk2 : Hid (N = s.size) := hN.out.trans (runN_is isDig s s.size (Nat.le_refl _) hto.out (fun h => absurd h (Nat.lt_irrefl _)))
      go_wp2
      go_ret
      exact ⟨by rw [hk2.out]; rfl, rfl⟩
theorem str_ne0 {s : ByteArray} (h : s.size ≠ 0) : (s.toList == []) = false := by
  have e : (⟨#[]⟩ : ByteArray).toList = [] := by decide +kernel
  rw [← e, beq_str]
  exact decide_eq_false fun h2 => h (by rw [h2]; rfl)
set_option maxRecDepth 100000 in
set_option maxHeartbeats 2000000 in
/-- math.Ref. -/
theorem ref_any (s : ByteArray) (w : World) (hs : s.size ≤ 9223372036854775807) : Calls Tryz.prog 54 #[.string s] w fun e w' => e = .returned (.bool (refB s)) ∧ w' = w := by
  obtain ⟨R, hR⟩ : ∃ R, Hid (R = refB s) := ⟨_, rfl⟩
  rw [← hR.out]
  by_cases h0 : s.size = 0
  · have hem : s = ⟨#[]⟩ := by
      cases s with | mk d => cases d with | mk l => cases l with | nil => rfl | cons a l => simp [ByteArray.size] at h0
    have : R = false := by rw [hR.out]; unfold refB; simp [h0]
    subst this
    clear hR
    subst hem
    go_enter Tryz.func54, Tryz.ntmps54
    go_wp2
    go_ret
    exact ⟨rfl, rfl⟩
  · have hne2 : (s.toList == []) = false := str_ne0 h0
    have hne : s.toList.isEmpty = false := by
      cases h : s.toList with
      | nil => rw [h] at hne2; cases hne2
      | cons a l => rfl
    by_cases h16 : 16 < s.size
    · have h16i : (16 : Int) < (s.size : Int) := by omega
      have : R = false := by rw [hR.out]; unfold refB; simp [show ¬ s.size ≤ 16 by omega]
      subst this
      clear hR
      go_enter Tryz.func54, Tryz.ntmps54
      go_wp2
      go_ret
      exact ⟨rfl, rfl⟩
    · have h16i : ¬ (16 : Int) < (s.size : Int) := by omega
      have hz : (0 : Int) < (s.size : Int) := by omega
      have hC : ∀ W, Calls Tryz.prog 72 #[.int .u8 ((s[0].toNat : Nat) : Int)] W fun e w' => e = .returned (.bool (isCap (byteAt s 0))) ∧ w' = W := fun W => by
        rw [byteAt_get]; exact cap_any (byteAt s 0) W (byteAt_in s 0).1 (byteAt_in s 0).2
      have hr := fun W => runW_any s W hs
      have hle := runN_le isWrd s
      have hR1 : Hid (R = (isCap (byteAt s 0) && decide (runN isWrd s = s.size))) := by
        show _ = _
        rw [hR.out]; unfold refB
        simp [show 1 ≤ s.size by omega, show s.size ≤ 16 by omega]
      generalize isCap (byteAt s 0) = B at *
      generalize runN isWrd s = N at *
      clear hR
      cases B with
      | false =>
        have : R = false := by rw [hR1.out]; rfl
        subst this
        go_enter Tryz.func54, Tryz.ntmps54
        go_wp2_with (first | (go_at_call 72; refine (hC _).mono ?_; rintro e wx ⟨rfl, hwx⟩; subst wx) | (go_at_call 73; refine (hr _).mono ?_; rintro e wx ⟨rfl, hwx⟩; subst wx))
        go_ret
        exact ⟨rfl, rfl⟩
      | true =>
        by_cases hNs : N = s.size
        · have : R = true := by rw [hR1.out, decide_eq_true hNs]; rfl
          subst this
          rw [hNs] at hr
          clear hNs hR1 hle
          go_enter Tryz.func54, Tryz.ntmps54
          go_wp2_with (first | (go_at_call 72; refine (hC _).mono ?_; rintro e wx ⟨rfl, hwx⟩; subst wx) | (go_at_call 73; refine (hr _).mono ?_; rintro e wx ⟨rfl, hwx⟩; subst wx))
          go_ret
          exact ⟨by simp, rfl⟩
        · have : R = false := by rw [hR1.out, decide_eq_false hNs]; rfl
          subst this
          have hb : ((N : Int) == (s.size : Int)) = false := by simp; omega
          clear hNs hR1
          go_enter Tryz.func54, Tryz.ntmps54
          go_wp2_with (first | (go_at_call 72; refine (hC _).mono ?_; rintro e wx ⟨rfl, hwx⟩; subst wx) | (go_at_call 73; refine (hr _).mono ?_; rintro e wx ⟨rfl, hwx⟩; subst wx))
          go_ret
          exact ⟨by first | rfl | simp [hb], rfl⟩
end Go.Proofs.YtaffplmfnincfaaGreatDoor
/- Tokens: signs. -/
namespace Go.Proofs.YtaffplmfnincfaaGreatDoor
set_option linter.unusedVariables false
open Go.RowKit
/-- The variable signs holds the signs. -/
def SignsAt (w : World) : Prop := ∃ fr, w.heap[0]? = some (.cells (signL.flatMap fun p => [Value.string p.1, .int .i64 p.2]).toArray 145 fr)
theorem SignsAt.grow {w w' : World} (h : SignsAt w) (hb : Below w.heap.size w w') : SignsAt w' := by
  obtain ⟨fr, h⟩ := h
  exact ⟨fr, (hb.block 0 (Array.getElem?_eq_some_iff.1 h).1).trans h⟩
def tkV (t : Tk) : Value := .agg #[.int .i64 t.kind, .int .i64 t.size, .string t.text, .int .i64 t.v.kind, .int .i64 t.v.n]
def tkO (t : Tk) : Obj := .cells #[.int .i64 t.kind, .int .i64 t.size, .string t.text, .int .i64 t.v.kind, .int .i64 t.v.n] 82
theorem pre_any (s p : ByteArray) (w : World) : Calls Tryz.prog 138 #[.string s, .string p] w fun e w' => e = .returned (.bool (preS s p)) ∧ w' = w := Tryz.strings_HasPrefix s p w

/-- The signs as an array. -/
def signV : Value := .agg (signL.flatMap fun p => [Value.string p.1, .int .i64 p.2]).toArray
def sg (k : Nat) : ByteArray × Int := signL.getD k (⟨#[]⟩, 6)
/-! ### Boxes of five cells -/
def Bx (w : World) (x : Nat) (T : TypeId) (a b c d e : Value) : Prop := w.heap[x]? = some (.cells #[a, b, c, d, e] T (0, 0))
section
variable {w w' : World} {x : Nat} {T : TypeId} {a b c d e : Value}
theorem Bx.cells (h : Bx w x T a b c d e) : w.cell? ⟨x, 0, none⟩ = some a ∧ w.cell? ⟨x, 1, none⟩ = some b ∧ w.cell? ⟨x, 2, none⟩ = some c ∧ w.cell? ⟨x, 3, none⟩ = some d ∧ w.cell? ⟨x, 4, none⟩ = some e := by
  unfold Bx at h
  simp [World.cell?, h]
theorem Bx.frozen (h : Bx w x T a b c d e) : w.frozen? ⟨x, 0, none⟩ = false ∧ w.frozen? ⟨x, 1, none⟩ = false ∧ w.frozen? ⟨x, 2, none⟩ = false ∧ w.frozen? ⟨x, 3, none⟩ = false ∧ w.frozen? ⟨x, 4, none⟩ = false := by
  unfold Bx at h
  simp [World.frozen?, h]
theorem Bx.lt (h : Bx w x T a b c d e) : x < w.heap.size := (Array.getElem?_eq_some_iff.1 h).1
theorem Bx.grow (h : Bx w x T a b c d e) (hb : Below w.heap.size w w') : Bx w' x T a b c d e := (hb.block x h.lt).trans h
theorem bxNew (w : World) (T : TypeId) (a b c d e : Value) : Bx (w.alloc (.cells #[a, b, c, d, e] T)) w.heap.size T a b c d e := by
  show (w.heap.push _)[w.heap.size]? = _
  simp
def set5 (w : World) (x : Nat) (a b c d e : Value) : World := ((((w.setCell ⟨x, 0, none⟩ a).setCell ⟨x, 1, none⟩ b).setCell ⟨x, 2, none⟩ c).setCell ⟨x, 3, none⟩ d).setCell ⟨x, 4, none⟩ e
theorem Bx.set {a' b' c' d' e' : Value} (h : Bx w x T a b c d e) : Bx (set5 w x a' b' c' d' e') x T a' b' c' d' e' := by
  have h1 := block_setCell (i := 0) (u := a') h
  have h2 := block_setCell (i := 1) (u := b') h1
  have h3 := block_setCell (i := 2) (u := c') h2
  have h4 := block_setCell (i := 3) (u := d') h3
  have h5 := block_setCell (i := 4) (u := e') h4
  unfold Bx set5
  rw [h5]
  simp
theorem bel5 {W : World} {n : Nat} (a b c d e : Value) (h : Below n w W) (hx : n ≤ x) : Below n w (set5 W x a b c d e) :=
  ((((h.setCell (p := ⟨x, 0, none⟩) hx a).setCell (p := ⟨x, 1, none⟩) hx b).setCell (p := ⟨x, 2, none⟩) hx c).setCell (p := ⟨x, 3, none⟩) hx d).setCell (p := ⟨x, 4, none⟩) hx e
end
theorem ret60 {fn : Func} {p : Tmp} {tmps : Array Value} {w' : World} {x : Nat} {a b c d e : Value} {Q : Ending → World → Prop} (hr : fn.results = #[.cell p 82]) (ht : tmps[p]?.getD undef = .pointer (some ⟨x, 0, none⟩)) (hv : Bx w' x 82 a b c d e)
    (hq : Q (.returned (.agg #[a, b, c, d, e])) w') : bodyPost Tryz.prog fn Q .ret { tmps := tmps, defers := [] } w' := by
  obtain ⟨c0, c1, c2, c3, c4⟩ := hv.cells
  refine bodyPost_ret (v := .agg #[a, b, c, d, e]) ?_ rfl hq
  simp [results, hr, ht, go_sem, c0, c1, c2, c3, c4]
abbrev TkAt (w : World) (x : Nat) (t : Tk) : Prop := Bx w x 82 (.int .i64 t.kind) (.int .i64 t.size) (.string t.text) (.int .i64 t.v.kind) (.int .i64 t.v.n)
def signA : Array Value := (signL.flatMap fun p => [Value.string p.1, .int .i64 p.2]).toArray
theorem sign_at : ∀ k : Nat, k < 15 → ∀ W : World, (Instr.index 145 (.agg signA) (.int .i64 (k : Int))).run Tryz.prog W = .ok (.agg #[.string (sg k).1, .int .i64 (sg k).2]) W
  | 0, _, W => by kernel_rfl
  | 1, _, W => by kernel_rfl
  | 2, _, W => by kernel_rfl
  | 3, _, W => by kernel_rfl
  | 4, _, W => by kernel_rfl
  | 5, _, W => by kernel_rfl
  | 6, _, W => by kernel_rfl
  | 7, _, W => by kernel_rfl
  | 8, _, W => by kernel_rfl
  | 9, _, W => by kernel_rfl
  | 10, _, W => by kernel_rfl
  | 11, _, W => by kernel_rfl
  | 12, _, W => by kernel_rfl
  | 13, _, W => by kernel_rfl
  | 14, _, W => by kernel_rfl
  | k + 15, h, W => absurd h (by omega)
theorem find_at {p : ByteArray × Int → Bool} {k : Nat} (hk : k < 15) (h1 : ∀ j, j < k → p (sg j) = false) (h2 : p (sg k) = true) : signL.find? p = some (sg k) := by
  have hl : signL.length = 15 := rfl
  rw [List.find?_eq_some_iff_getElem]
  refine ⟨h2, k, by rw [hl]; exact hk, ?_, fun j hj => ?_⟩
  · unfold sg; rw [List.getD_eq_getElem?_getD, List.getElem?_eq_getElem (by rw [hl]; exact hk)]; rfl
  · have := h1 j hj
    unfold sg at this
    rw [List.getD_eq_getElem?_getD, List.getElem?_eq_getElem (by rw [hl]; omega)] at this
    simpa using this
theorem find_no {p : ByteArray × Int → Bool} (h1 : ∀ j, j < 15 → p (sg j) = false) : signL.find? p = none := by
  have hl : signL.length = 15 := rfl
  rw [List.find?_eq_none]
  intro x hx
  obtain ⟨j, hj, rfl⟩ := List.getElem_of_mem hx
  have := h1 j (by rw [← hl]; exact hj)
  unfold sg at this
  rw [List.getD_eq_getElem?_getD, List.getElem?_eq_getElem hj] at this
  simpa using this
set_option maxRecDepth 100000 in
set_option maxHeartbeats 8000000 in
/-- math.firstSign. -/
theorem fsign_any (s : ByteArray) (w : World) (hw : SignsAt w) : Calls Tryz.prog 113 #[.string s] w fun e w' => e = .returned (tkV (firstSign s)) ∧ Below w.heap.size w w' := by
  obtain ⟨fr, hg1⟩ := hw.grow (bW0 w (.cells #[.int .i64 0, .int .i64 0, .string ⟨#[]⟩, .int .i64 0, .int .i64 0] 82))
  have hp := fun p W => pre_any s p W
  obtain ⟨R, hR⟩ : ∃ R, Hid (R = firstSign s) := ⟨_, rfl⟩
  rw [← hR.out]
  have hyes : Hid (∀ k, k < 15 → (∀ j, j < k → preS s (sg j).1 = false) → preS s (sg k).1 = true → R = ⟨2, (sg k).1.size, (sg k).1, zer⟩) := fun k hk h1 h2 => by
    rw [hR.out]; unfold firstSign; rw [find_at (p := fun x => preS s x.1) hk h1 h2]
  have hno : Hid ((∀ j, j < 15 → preS s (sg j).1 = false) → R = tk0) := fun h1 => by
    rw [hR.out]; unfold firstSign; rw [find_no (p := fun x => preS s x.1) h1]
  have hi : (Tryz.prog.info? 145).map (·.size) = some signA.size := by kernel_rfl
  have hix := sign_at
  change (w.alloc _).heap[0]? = some (.cells signA 145 fr) at hg1
  have hb0 := bW0 w (.cells #[.int .i64 0, .int .i64 0, .string ⟨#[]⟩, .int .i64 0, .int .i64 0] 82)
  have hx0 := bxNew w 82 (.int .i64 0) (.int .i64 0) (.string ⟨#[]⟩) (.int .i64 0) (.int .i64 0)
  generalize signA = A at *
  clear hw hR
  replace hix : Hid _ := hix
  go_enter Tryz.func113, Tryz.ntmps113
  go_wp2_with (refine wpList_load_row rfl 145 _ rfl 0 rfl 145 _ fr _ hg1 Tryz.underlying145 rfl hi ?_)
  clear hg1 hi
  generalize w.alloc (.cells #[.int .i64 0, .int .i64 0, .string ⟨#[]⟩, .int .i64 0, .int .i64 0] 82) = W0 at *
  go_loopw [6] (fun i wr => ∃ k : Nat, k ≤ 15 ∧ i = .int .i64 k ∧ Hid (∀ j, j < k → preS s (sg j).1 = false) ∧ Hid (Below W0.heap.size W0 wr)) (fun i _ => 15 - (intOf i).toNat)
  case atStart => exact ⟨0, Nat.zero_le _, rfl, fun j hj => absurd hj (Nat.not_lt_zero _), Below.refl _ _⟩
  case round =>
    obtain ⟨k, hk, rfl, hall, hB⟩ := hrel
    have hBd := hB.out
    have hz := hx0.grow hBd
    by_cases hlt : k < 15
    · have hki : (k : Int) < 15 := by omega
      have hxk := hix.out k hlt
      have hpk := hp (sg k).1
      have hy := hyes.out k hlt hall.out
      have hst : preS s (sg k).1 = false → ∀ j, j < k + 1 → preS s (sg j).1 = false := fun h j hj => by
        by_cases e : j = k
        · rw [e]; exact h
        · exact hall.out j (by omega)
      generalize sg k = g at *
      obtain ⟨gt, gl⟩ := g
      simp only at hxk hpk hy hst
      generalize preS s gt = B at *
      have hb1 := bW0 wr (.cells #[.string gt, .int .i64 gl] 144)
      have hz1 := hz.grow hb1
      obtain ⟨z0, z1, z2, z3, z4⟩ := hz1.cells
      obtain ⟨y0, y1, y2, y3, y4⟩ := hz1.frozen
      cases B with
      | true =>
        have hRk : Hid (R = ⟨2, gt.size, gt, zer⟩) := hy rfl
        go_wp2_with (first | (go_at_call 138; refine (hpk _).mono ?_; rintro e wx ⟨rfl, hwx⟩; subst wx))
        have hB1 := hb0.trans ((hBd.alloc hBd.size (.cells #[.string gt, .int .i64 gl] 144)).mono hb0.size)
        have hBt := bel5 (.int .i64 2) (.int .i64 (gt.size : Int)) (.string gt) (.int .i64 0) (.int .i64 0) hB1 (Nat.le_refl w.heap.size)
        exact ret60 Tryz.results113 rfl (hz1.set) ⟨by rw [hRk.out]; rfl, hBt⟩
      | false =>
        have hst2 : Hid (∀ j, j < k + 1 → preS s (sg j).1 = false) := hst rfl
        go_wp2_with (first | (go_at_call 138; refine (hpk _).mono ?_; rintro e wx ⟨rfl, hwx⟩; subst wx))
        refine ⟨⟨k + 1, by omega, by go_num, hst2, hBd.alloc hBd.size _⟩, ?_⟩
        simp [intOf]; omega
    · obtain rfl : k = 15 := by omega
      have hRn := hno.out hall.out
      subst hRn
      obtain ⟨z0, z1, z2, z3, z4⟩ := hz.cells
      obtain ⟨y0, y1, y2, y3, y4⟩ := hz.frozen
      go_wp2
      exact ret60 Tryz.results113 rfl (hz.set) ⟨rfl, bel5 _ _ _ _ _ (hb0.trans (hBd.mono hb0.size)) (Nat.le_refl _)⟩
set_option maxRecDepth 100000 in
set_option maxHeartbeats 8000000 in
/-- token.level. -/
theorem level_any (t : Tk) (w : World) (hw : SignsAt w) : Calls Tryz.prog 67 #[tkV t] w fun e w' => e = .returned (.int .i64 (levOf t.text)) ∧ Below w.heap.size w w' := by
  obtain ⟨fr, hg1⟩ := hw.grow (bW0 w (tkO t))
  obtain ⟨R, hR⟩ : ∃ R, Hid (R = levOf t.text) := ⟨_, rfl⟩
  rw [← hR.out]
  have hyes : Hid (∀ k, k < 15 → (∀ j, j < k → (t.text.toList == (sg j).1.toList) = false) → (t.text.toList == (sg k).1.toList) = true → R = (sg k).2) := fun k hk h1 h2 => by
    rw [hR.out]; unfold levOf; rw [find_at (p := fun x => decide (t.text = x.1)) hk (fun j hj => by have := h1 j hj; rw [beq_str] at this; exact this) (by rw [beq_str] at h2; exact h2)]
  have hno : Hid ((∀ j, j < 15 → (t.text.toList == (sg j).1.toList) = false) → R = 6) := fun h1 => by
    rw [hR.out]; unfold levOf; rw [find_no (p := fun x => decide (t.text = x.1)) (fun j hj => by have := h1 j hj; rw [beq_str] at this; exact this)]
  have hi : (Tryz.prog.info? 145).map (·.size) = some signA.size := by kernel_rfl
  have hix := sign_at
  change (w.alloc _).heap[0]? = some (.cells signA 145 fr) at hg1
  have hb0 := bW0 w (tkO t)
  have hx0 : TkAt (w.alloc (tkO t)) w.heap.size t := bxNew w 82 _ _ _ _ _
  generalize signA = A at *
  clear hw hR
  replace hix : Hid _ := hix
  obtain ⟨tk, ts, tt, tv⟩ := t
  unfold tkV tkO at *
  simp only at *
  go_enter Tryz.func67, Tryz.ntmps67
  go_wp2_with (refine wpList_load_row rfl 145 _ rfl 0 rfl 145 _ fr _ hg1 Tryz.underlying145 rfl hi ?_)
  clear hg1 hi
  generalize w.alloc (.cells #[.int .i64 tk, .int .i64 (ts : Int), .string tt, .int .i64 tv.kind, .int .i64 tv.n] 82) = W0 at *
  go_loopw [6] (fun i wr => ∃ k : Nat, k ≤ 15 ∧ i = .int .i64 k ∧ Hid (∀ j, j < k → (tt.toList == (sg j).1.toList) = false) ∧ Hid (Below W0.heap.size W0 wr)) (fun i _ => 15 - (intOf i).toNat)
  case atStart => exact ⟨0, Nat.zero_le _, rfl, fun j hj => absurd hj (Nat.not_lt_zero _), Below.refl _ _⟩
  case round =>
    obtain ⟨k, hk, rfl, hall, hB⟩ := hrel
    have hBd := hB.out
    have hz := Bx.grow hx0 hBd
    by_cases hlt : k < 15
    · have hki : (k : Int) < 15 := by omega
      have hxk := hix.out k hlt
      have hy := hyes.out k hlt hall.out
      have hst : (tt.toList == (sg k).1.toList) = false → ∀ j, j < k + 1 → (tt.toList == (sg j).1.toList) = false := fun h j hj => by
        by_cases e : j = k
        · rw [e]; exact h
        · exact hall.out j (by omega)
      generalize sg k = g at *
      obtain ⟨gt, gl⟩ := g
      simp only at hxk hy hst
      have hb1 := bW0 wr (.cells #[.string gt, .int .i64 gl] 144)
      obtain ⟨z0, z1, z2, z3, z4⟩ := (hz.grow hb1).cells
      simp only at z0 z1 z2 z3 z4
      have hBe := hb0.trans ((hBd.alloc hBd.size (.cells #[.string gt, .int .i64 gl] 144)).mono hb0.size)
      cases hq : tt.toList == gt.toList with
      | true =>
        have hRk : Hid (R = gl) := hy hq
        go_wp2
        go_ret
        exact ⟨by first | rfl | (rw [hRk.out]; rfl) | (rw [← hRk.out]; rfl), hBe⟩
      | false =>
        have hst2 : Hid (∀ j, j < k + 1 → (tt.toList == (sg j).1.toList) = false) := hst hq
        go_wp2
        refine ⟨⟨k + 1, by omega, by go_num, hst2, hBd.alloc hBd.size _⟩, ?_⟩
        simp [intOf]; omega
    · obtain rfl : k = 15 := by omega
      have hRn : Hid (R = 6) := hno.out hall.out
      go_wp2
      go_ret
      exact ⟨by first | rfl | (rw [hRn.out]; rfl), hb0.trans (hBd.mono hb0.size)⟩
end Go.Proofs.YtaffplmfnincfaaGreatDoor
/- Tokens: words, refs, numbers. -/
namespace Go.Proofs.YtaffplmfnincfaaGreatDoor
set_option linter.unusedVariables false
open Go.RowKit
set_option maxRecDepth 100000 in
set_option maxHeartbeats 2000000 in
theorem word_null (w : World) : Calls Tryz.prog 112 #[.string ⟨#[110, 117, 108, 108]⟩] w fun e w' => e = .returned (tkV ⟨3, 4, ⟨#[]⟩, nul⟩) ∧ Below w.heap.size w w' := by
  have hx0 := bxNew w 82 (.int .i64 0) (.int .i64 0) (.string ⟨#[]⟩) (.int .i64 0) (.int .i64 0)
  have hb0 := bW0 w (.cells #[.int .i64 0, .int .i64 0, .string ⟨#[]⟩, .int .i64 0, .int .i64 0] 82)
  have hv := fun W => null_any W
  have hz1 := hx0.grow (bW0 (w.alloc (.cells #[.int .i64 0, .int .i64 0, .string ⟨#[]⟩, .int .i64 0, .int .i64 0] 82)) (vlO nul))
  have hb1 := hb0.trans ((bW0 (w.alloc (.cells #[.int .i64 0, .int .i64 0, .string ⟨#[]⟩, .int .i64 0, .int .i64 0] 82)) (vlO nul)).mono hb0.size)
  obtain ⟨z0, z1, z2, z3, z4⟩ := hz1.cells
  obtain ⟨y0, y1, y2, y3, y4⟩ := hz1.frozen
  unfold vlV vlO at *
  go_enter Tryz.func112, Tryz.ntmps112
  go_wp2_with (first | (go_at_call 135; refine (hv _).mono ?_; rintro e wx ⟨rfl, hwx⟩; subst wx))
  exact ret60 Tryz.results112 rfl ((bxNew w 82 _ _ _ _ _).grow (bW0 _ _)) ⟨rfl, (bW0 w _).alloc (bW0 w _).size _⟩
set_option maxRecDepth 100000 in
set_option maxHeartbeats 2000000 in
theorem word_nan (w : World) : Calls Tryz.prog 112 #[.string ⟨#[110, 97, 110]⟩] w fun e w' => e = .returned (tkV ⟨3, 3, ⟨#[]⟩, nan⟩) ∧ Below w.heap.size w w' := by
  have hx0 := bxNew w 82 (.int .i64 0) (.int .i64 0) (.string ⟨#[]⟩) (.int .i64 0) (.int .i64 0)
  have hb0 := bW0 w (.cells #[.int .i64 0, .int .i64 0, .string ⟨#[]⟩, .int .i64 0, .int .i64 0] 82)
  have hv := fun W => nan_any W
  have hz1 := hx0.grow (bW0 (w.alloc (.cells #[.int .i64 0, .int .i64 0, .string ⟨#[]⟩, .int .i64 0, .int .i64 0] 82)) (vlO nan))
  have hb1 := hb0.trans ((bW0 (w.alloc (.cells #[.int .i64 0, .int .i64 0, .string ⟨#[]⟩, .int .i64 0, .int .i64 0] 82)) (vlO nan)).mono hb0.size)
  obtain ⟨z0, z1, z2, z3, z4⟩ := hz1.cells
  obtain ⟨y0, y1, y2, y3, y4⟩ := hz1.frozen
  unfold vlV vlO at *
  go_enter Tryz.func112, Tryz.ntmps112
  go_wp2_with (first | (go_at_call 136; refine (hv _).mono ?_; rintro e wx ⟨rfl, hwx⟩; subst wx))
  exact ret60 Tryz.results112 rfl ((bxNew w 82 _ _ _ _ _).grow (bW0 _ _)) ⟨rfl, (bW0 w _).alloc (bW0 w _).size _⟩
set_option maxRecDepth 100000 in
set_option maxHeartbeats 2000000 in
theorem word_inf (w : World) : Calls Tryz.prog 112 #[.string ⟨#[105, 110, 102]⟩] w fun e w' => e = .returned (tkV ⟨3, 3, ⟨#[]⟩, pls⟩) ∧ Below w.heap.size w w' := by
  have hx0 := bxNew w 82 (.int .i64 0) (.int .i64 0) (.string ⟨#[]⟩) (.int .i64 0) (.int .i64 0)
  have hb0 := bW0 w (.cells #[.int .i64 0, .int .i64 0, .string ⟨#[]⟩, .int .i64 0, .int .i64 0] 82)
  have hv := fun W => plus_any W
  have hz1 := hx0.grow (bW0 (w.alloc (.cells #[.int .i64 0, .int .i64 0, .string ⟨#[]⟩, .int .i64 0, .int .i64 0] 82)) (vlO pls))
  have hb1 := hb0.trans ((bW0 (w.alloc (.cells #[.int .i64 0, .int .i64 0, .string ⟨#[]⟩, .int .i64 0, .int .i64 0] 82)) (vlO pls)).mono hb0.size)
  obtain ⟨z0, z1, z2, z3, z4⟩ := hz1.cells
  obtain ⟨y0, y1, y2, y3, y4⟩ := hz1.frozen
  unfold vlV vlO at *
  go_enter Tryz.func112, Tryz.ntmps112
  go_wp2_with (first | (go_at_call 137; refine (hv _).mono ?_; rintro e wx ⟨rfl, hwx⟩; subst wx))
  exact ret60 Tryz.results112 rfl ((bxNew w 82 _ _ _ _ _).grow (bW0 _ _)) ⟨rfl, (bW0 w _).alloc (bW0 w _).size _⟩
set_option maxRecDepth 100000 in
set_option maxHeartbeats 2000000 in
theorem word_abs (w : World) : Calls Tryz.prog 112 #[.string ⟨#[97, 98, 115]⟩] w fun e w' => e = .returned (tkV ⟨5, 3, ⟨#[97, 98, 115]⟩, zer⟩) ∧ Below w.heap.size w w' := by
  go_enter Tryz.func112, Tryz.ntmps112
  go_wp2
  exact ret60 Tryz.results112 rfl (bxNew w 82 _ _ _ _ _) ⟨rfl, bW0 w _⟩
set_option maxRecDepth 100000 in
set_option maxHeartbeats 2000000 in
theorem word_floor (w : World) : Calls Tryz.prog 112 #[.string ⟨#[102, 108, 111, 111, 114]⟩] w fun e w' => e = .returned (tkV ⟨5, 5, ⟨#[102, 108, 111, 111, 114]⟩, zer⟩) ∧ Below w.heap.size w w' := by
  go_enter Tryz.func112, Tryz.ntmps112
  go_wp2
  exact ret60 Tryz.results112 rfl (bxNew w 82 _ _ _ _ _) ⟨rfl, bW0 w _⟩
set_option maxRecDepth 100000 in
set_option maxHeartbeats 2000000 in
theorem word_is_null (w : World) : Calls Tryz.prog 112 #[.string ⟨#[105, 115, 95, 110, 117, 108, 108]⟩] w fun e w' => e = .returned (tkV ⟨5, 7, ⟨#[105, 115, 95, 110, 117, 108, 108]⟩, zer⟩) ∧ Below w.heap.size w w' := by
  go_enter Tryz.func112, Tryz.ntmps112
  go_wp2
  exact ret60 Tryz.results112 rfl (bxNew w 82 _ _ _ _ _) ⟨rfl, bW0 w _⟩
set_option maxRecDepth 100000 in
set_option maxHeartbeats 2000000 in
theorem word_is_nan (w : World) : Calls Tryz.prog 112 #[.string ⟨#[105, 115, 95, 110, 97, 110]⟩] w fun e w' => e = .returned (tkV ⟨5, 6, ⟨#[105, 115, 95, 110, 97, 110]⟩, zer⟩) ∧ Below w.heap.size w w' := by
  go_enter Tryz.func112, Tryz.ntmps112
  go_wp2
  exact ret60 Tryz.results112 rfl (bxNew w 82 _ _ _ _ _) ⟨rfl, bW0 w _⟩
set_option maxRecDepth 100000 in
set_option maxHeartbeats 2000000 in
theorem word_is_inf (w : World) : Calls Tryz.prog 112 #[.string ⟨#[105, 115, 95, 105, 110, 102]⟩] w fun e w' => e = .returned (tkV ⟨5, 6, ⟨#[105, 115, 95, 105, 110, 102]⟩, zer⟩) ∧ Below w.heap.size w w' := by
  go_enter Tryz.func112, Tryz.ntmps112
  go_wp2
  exact ret60 Tryz.results112 rfl (bxNew w 82 _ _ _ _ _) ⟨rfl, bW0 w _⟩
set_option maxRecDepth 100000 in
set_option maxHeartbeats 2000000 in
theorem word_is_number (w : World) : Calls Tryz.prog 112 #[.string ⟨#[105, 115, 95, 110, 117, 109, 98, 101, 114]⟩] w fun e w' => e = .returned (tkV ⟨5, 9, ⟨#[105, 115, 95, 110, 117, 109, 98, 101, 114]⟩, zer⟩) ∧ Below w.heap.size w w' := by
  go_enter Tryz.func112, Tryz.ntmps112
  go_wp2
  exact ret60 Tryz.results112 rfl (bxNew w 82 _ _ _ _ _) ⟨rfl, bW0 w _⟩
set_option maxRecDepth 100000 in
set_option maxHeartbeats 2000000 in
theorem word_none (t : ByteArray) (w : World) (h : ofWord t = tk0) (hs : t.size ≤ 9223372036854775807) : Calls Tryz.prog 112 #[.string t] w fun e w' => e = .returned (tkV tk0) ∧ Below w.heap.size w w' := by
  have q0 : (t.toList == [110, 117, 108, 108]) = false := by
    have e : (⟨#[110, 117, 108, 108]⟩ : ByteArray).toList = [110, 117, 108, 108] := by decide +kernel
    rw [← e, beq_str]
    refine decide_eq_false fun h2 => ?_
    rw [h2] at h
    exact absurd h (by decide +kernel)
  have q1 : (t.toList == [110, 97, 110]) = false := by
    have e : (⟨#[110, 97, 110]⟩ : ByteArray).toList = [110, 97, 110] := by decide +kernel
    rw [← e, beq_str]
    refine decide_eq_false fun h2 => ?_
    rw [h2] at h
    exact absurd h (by decide +kernel)
  have q2 : (t.toList == [105, 110, 102]) = false := by
    have e : (⟨#[105, 110, 102]⟩ : ByteArray).toList = [105, 110, 102] := by decide +kernel
    rw [← e, beq_str]
    refine decide_eq_false fun h2 => ?_
    rw [h2] at h
    exact absurd h (by decide +kernel)
  have q3 : (t.toList == [97, 98, 115]) = false := by
    have e : (⟨#[97, 98, 115]⟩ : ByteArray).toList = [97, 98, 115] := by decide +kernel
    rw [← e, beq_str]
    refine decide_eq_false fun h2 => ?_
    rw [h2] at h
    exact absurd h (by decide +kernel)
  have q4 : (t.toList == [102, 108, 111, 111, 114]) = false := by
    have e : (⟨#[102, 108, 111, 111, 114]⟩ : ByteArray).toList = [102, 108, 111, 111, 114] := by decide +kernel
    rw [← e, beq_str]
    refine decide_eq_false fun h2 => ?_
    rw [h2] at h
    exact absurd h (by decide +kernel)
  have q5 : (t.toList == [105, 115, 95, 110, 117, 108, 108]) = false := by
    have e : (⟨#[105, 115, 95, 110, 117, 108, 108]⟩ : ByteArray).toList = [105, 115, 95, 110, 117, 108, 108] := by decide +kernel
    rw [← e, beq_str]
    refine decide_eq_false fun h2 => ?_
    rw [h2] at h
    exact absurd h (by decide +kernel)
  have q6 : (t.toList == [105, 115, 95, 110, 97, 110]) = false := by
    have e : (⟨#[105, 115, 95, 110, 97, 110]⟩ : ByteArray).toList = [105, 115, 95, 110, 97, 110] := by decide +kernel
    rw [← e, beq_str]
    refine decide_eq_false fun h2 => ?_
    rw [h2] at h
    exact absurd h (by decide +kernel)
  have q7 : (t.toList == [105, 115, 95, 105, 110, 102]) = false := by
    have e : (⟨#[105, 115, 95, 105, 110, 102]⟩ : ByteArray).toList = [105, 115, 95, 105, 110, 102] := by decide +kernel
    rw [← e, beq_str]
    refine decide_eq_false fun h2 => ?_
    rw [h2] at h
    exact absurd h (by decide +kernel)
  have q8 : (t.toList == [105, 115, 95, 110, 117, 109, 98, 101, 114]) = false := by
    have e : (⟨#[105, 115, 95, 110, 117, 109, 98, 101, 114]⟩ : ByteArray).toList = [105, 115, 95, 110, 117, 109, 98, 101, 114] := by decide +kernel
    rw [← e, beq_str]
    refine decide_eq_false fun h2 => ?_
    rw [h2] at h
    exact absurd h (by decide +kernel)
  clear h
  go_enter Tryz.func112, Tryz.ntmps112
  go_wp2
  exact ret60 Tryz.results112 rfl (bxNew w 82 _ _ _ _ _) ⟨rfl, bW0 w _⟩
/-- math.ofWord. -/
theorem word_any (t : ByteArray) (w : World) (hs : t.size ≤ 9223372036854775807) : Calls Tryz.prog 112 #[.string t] w fun e w' => e = .returned (tkV (ofWord t)) ∧ Below w.heap.size w w' := by
  by_cases h_null : t = ⟨#[110, 117, 108, 108]⟩
  · subst h_null
    exact word_null w
  by_cases h_nan : t = ⟨#[110, 97, 110]⟩
  · subst h_nan
    exact word_nan w
  by_cases h_inf : t = ⟨#[105, 110, 102]⟩
  · subst h_inf
    exact word_inf w
  by_cases h_abs : t = ⟨#[97, 98, 115]⟩
  · subst h_abs
    exact word_abs w
  by_cases h_floor : t = ⟨#[102, 108, 111, 111, 114]⟩
  · subst h_floor
    exact word_floor w
  by_cases h_is_null : t = ⟨#[105, 115, 95, 110, 117, 108, 108]⟩
  · subst h_is_null
    exact word_is_null w
  by_cases h_is_nan : t = ⟨#[105, 115, 95, 110, 97, 110]⟩
  · subst h_is_nan
    exact word_is_nan w
  by_cases h_is_inf : t = ⟨#[105, 115, 95, 105, 110, 102]⟩
  · subst h_is_inf
    exact word_is_inf w
  by_cases h_is_number : t = ⟨#[105, 115, 95, 110, 117, 109, 98, 101, 114]⟩
  · subst h_is_number
    exact word_is_number w
  have h : ofWord t = tk0 := by
    unfold ofWord
    simp [h_null, h_nan, h_inf, h_abs, h_floor, h_is_null, h_is_nan, h_is_inf, h_is_number]
  rw [h]
  exact word_none t w h hs
end Go.Proofs.YtaffplmfnincfaaGreatDoor
/- Tokens: refs, numbers. -/
namespace Go.Proofs.YtaffplmfnincfaaGreatDoor
set_option linter.unusedVariables false
open Go.RowKit
theorem ext_size (s : ByteArray) (a b : Nat) (h : b ≤ s.size) : (s.extract a b).size = b - a := by
  rw [ByteArray.size_extract]; omega
theorem ext_list (s : ByteArray) (a : Nat) : (s.extract a s.size).data.toList = s.data.toList.drop a := by
  rw [ByteArray.data_extract, Array.toList_extract, List.extract_eq_take_drop]
  rw [List.take_of_length_le]
  rw [List.length_drop, Array.length_toList]
  exact Nat.le_refl _
theorem ba_ext {s t : ByteArray} (h : s.data.toList = t.data.toList) : s = t := by
  cases s; cases t
  congr 1
  exact Array.toList_inj.1 h
theorem drop_ext (s : ByteArray) (k : Nat) : (⟨(s.data.toList.drop k).toArray⟩ : ByteArray) = s.extract k s.size := ba_ext (by rw [ext_list])
theorem ext_ext (s : ByteArray) (j k : Nat) : (s.extract j s.size).extract k (s.extract j s.size).size = s.extract (j + k) s.size := ba_ext (by rw [ext_list, ext_list, ext_list, List.drop_drop])
theorem dropWhile_drop {α : Type} (p : α → Bool) : ∀ l : List α, l.dropWhile p = l.drop (l.takeWhile p).length
  | [] => rfl
  | a :: l => by
    rw [List.dropWhile_cons, List.takeWhile_cons]
    split
    · rw [List.length_cons, List.drop_succ_cons]; exact dropWhile_drop p l
    · rfl
theorem runN_u8 (c : UInt8) (s : ByteArray) : runN (fun x => decide (x = (c.toNat : Int))) s = (s.data.toList.takeWhile (· == c)).length := by
  unfold runN numsS
  rw [List.takeWhile_map, List.length_map]
  congr 1
  congr 1
  funext b
  show decide (((b.toNat : Nat) : Int) = ((c.toNat : Nat) : Int)) = (b == c)
  by_cases h : b = c
  · subst h; simp
  · have : ¬ ((b.toNat : Nat) : Int) = ((c.toNat : Nat) : Int) := fun e => h (UInt8.toNat_inj.1 (by omega))
    simp [h, this]
/-- Blanks ahead are cut off. -/
theorem trim_ext (s : ByteArray) : (⟨(Lib.trimLeftB s.data.toList 32).toArray⟩ : ByteArray) = s.extract (runN (fun x => decide (x = 32)) s) s.size := by
  unfold Lib.trimLeftB
  rw [dropWhile_drop, ← runN_u8 32 s]
  exact drop_ext s _
theorem point_cut {s : ByteArray} (h : preS s ⟨#[46]⟩ = true) : (⟨(Lib.trimPrefix s.data.toList [46]).toArray⟩ : ByteArray) = s.extract 1 s.size := by
  have h2 : Lib.hasPrefix s.data.toList [46] = true := h
  rw [← drop_ext]
  congr 2
  unfold Lib.trimPrefix
  rw [if_pos h2]
  rfl
set_option maxRecDepth 100000 in
set_option maxHeartbeats 2000000 in
/-- math.firstRef. -/
theorem fref_any (s : ByteArray) (w : World) (h1 : 1 ≤ s.size) (hs : s.size ≤ 1000000) : Calls Tryz.prog 109 #[.string s] w fun e w' => e = .returned (tkV (firstRef s)) ∧ Below w.heap.size w w' := by
  have hrs := ext_size s 1 s.size (Nat.le_refl _)
  have hr := fun W => runW_any (s.extract 1 s.size) W (by omega)
  have hle := runN_le isWrd (s.extract 1 s.size)
  rw [hrs] at hle
  have hns := ext_size s 1 (1 + runN isWrd (s.extract 1 s.size)) (by omega)
  have hrf := fun W => ref_any (s.extract 1 (1 + runN isWrd (s.extract 1 s.size))) W (by omega)
  have hT : Hid (firstRef s = if refB (s.extract 1 (1 + runN isWrd (s.extract 1 s.size))) = true then ⟨4, 1 + (s.extract 1 (1 + runN isWrd (s.extract 1 s.size))).size, s.extract 1 (1 + runN isWrd (s.extract 1 s.size)), zer⟩ else tk0) := by
    show _ = _
    unfold firstRef; rfl
  have hc1 : (1 : Int) ≤ (s.size : Int) := by omega
  generalize runN isWrd (s.extract 1 s.size) = N at *
  rw [hT.out]
  clear hT hrs
  have hN1 : (1 : Int) + (N : Int) ≤ (s.size : Int) := by omega
  have hN2 : (1 : Int) ≤ (1 : Int) + (N : Int) := by omega
  generalize hB : refB (s.extract 1 (1 + N)) = B at *
  clear hB
  rw [show 1 + (s.extract 1 (1 + N)).size = 1 + N by omega]
  have hsz : ((s.extract 1 (1 + N)).size : Int) = (N : Int) := by omega
  clear hns
  cases B with
  | true =>
    go_enter Tryz.func109, Tryz.ntmps109
    go_wp2_with (first | (go_at_call 73; refine (hr _).mono ?_; rintro e wx ⟨rfl, hwx⟩; subst wx) | (go_at_call 54; refine (hrf _).mono ?_; rintro e wx ⟨rfl, hwx⟩; subst wx))
    refine ret60 Tryz.results109 rfl (bxNew w 82 _ _ _ _ _) ⟨?_, bW0 w _⟩
    unfold tkV
    simp
    exact ⟨by omega, rfl, rfl⟩
  | false =>
    go_enter Tryz.func109, Tryz.ntmps109
    go_wp2_with (first | (go_at_call 73; refine (hr _).mono ?_; rintro e wx ⟨rfl, hwx⟩; subst wx) | (go_at_call 54; refine (hrf _).mono ?_; rintro e wx ⟨rfl, hwx⟩; subst wx))
    exact ret60 Tryz.results109 rfl (bxNew w 82 _ _ _ _ _) ⟨rfl, bW0 w _⟩
set_option maxRecDepth 100000 in
set_option maxHeartbeats 2000000 in
/-- math.numberSize. -/
theorem nsize_any (s : ByteArray) (w : World) (hs : s.size ≤ 1000000) : Calls Tryz.prog 133 #[.string s] w fun e w' => e = .returned (.int .i64 (numSize s : Nat)) ∧ w' = w := by
  have hr := fun W => runD_any s W (by omega)
  have hle := runN_le isDig s
  have hrs := ext_size s (runN isDig s) s.size (Nat.le_refl _)
  have hT : Hid (numSize s = if preS (s.extract (runN isDig s) s.size) ⟨#[46]⟩ = true then (if 0 < runN isDig ((s.extract (runN isDig s) s.size).extract 1 (s.extract (runN isDig s) s.size).size) then runN isDig s + 1 + runN isDig ((s.extract (runN isDig s) s.size).extract 1 (s.extract (runN isDig s) s.size).size) else runN isDig s) else runN isDig s) := by
    show _ = _
    unfold numSize; rfl
  generalize runN isDig s = N at *
  have hN1 : (N : Int) ≤ (s.size : Int) := by omega
  have hcp := fun W => Tryz.strings_CutPrefix (s.extract N s.size) ⟨#[46]⟩ W
  have hpre : Lib.hasPrefix (s.extract N s.size).data.toList [46] = preS (s.extract N s.size) ⟨#[46]⟩ := rfl
  have hcp2 : ∀ W, Calls Tryz.prog 153 #[.string (s.extract N s.size), .string ⟨#[46]⟩] W fun e w' => e = .returned (.tuple #[.string ⟨(Lib.trimPrefix (s.extract N s.size).data.toList [46]).toArray⟩, .bool (preS (s.extract N s.size) ⟨#[46]⟩)]) ∧ w' = W := hcp
  have hpt := fun h => point_cut (s := s.extract N s.size) h
  have hbl : (Lib.trimPrefix (s.extract N s.size).data.toList [46]).length ≤ s.size := by
    have h1 : (s.extract N s.size).data.toList.length ≤ s.size := by rw [ext_list, List.length_drop, Array.length_toList]; exact Nat.sub_le _ _
    unfold Lib.trimPrefix
    split
    · rw [List.length_drop]; omega
    · exact h1
  clear hcp hpre
  rw [hT.out]
  clear hT
  obtain ⟨T, hTe⟩ : ∃ T : ByteArray, Hid (T = ⟨(Lib.trimPrefix (s.extract N s.size).data.toList [46]).toArray⟩) := ⟨_, rfl⟩
  have hTs : T.size ≤ s.size := by rw [hTe.out, ba_of]; exact hbl
  have hr2 := fun W => runD_any T W (by omega)
  have hle2 := runN_le isDig T
  rw [← hTe.out] at hcp2 hpt
  clear hTe hbl
  cases hB : preS (s.extract N s.size) ⟨#[46]⟩ with
  | true =>
    rw [if_pos rfl, ← hpt hB]
    rw [hB] at hcp2
    clear hB hpt
    generalize runN isDig T = M at *
    by_cases hM : 0 < M
    · have hMi : (0 : Int) < (M : Int) := by omega
      rw [if_pos hM]
      have hsum : ((N + 1 + M : Nat) : Int) = (N : Int) + 1 + (M : Int) := by omega
      rw [hsum]
      clear hsum
      go_enter Tryz.func133, Tryz.ntmps133
      go_wp2_with (first | (go_at_call 73; (with_reducible refine (hr _).mono ?_); rintro e wx ⟨rfl, hwx⟩; subst wx) | (go_at_call 73; (with_reducible refine (hr2 _).mono ?_); rintro e wx ⟨rfl, hwx⟩; subst wx) | (go_at_call 153; refine (hcp2 _).mono ?_; rintro e wx ⟨rfl, hwx⟩; subst wx))
      go_ret
      exact ⟨by first | rfl | simp, rfl⟩
    · have hMi : ¬ (0 : Int) < (M : Int) := by omega
      rw [if_neg hM]
      go_enter Tryz.func133, Tryz.ntmps133
      go_wp2_with (first | (go_at_call 73; (with_reducible refine (hr _).mono ?_); rintro e wx ⟨rfl, hwx⟩; subst wx) | (go_at_call 73; (with_reducible refine (hr2 _).mono ?_); rintro e wx ⟨rfl, hwx⟩; subst wx) | (go_at_call 153; refine (hcp2 _).mono ?_; rintro e wx ⟨rfl, hwx⟩; subst wx))
      go_ret
      exact ⟨rfl, rfl⟩
  | false =>
    rw [if_neg (by decide)]
    rw [hB] at hcp2
    clear hB hpt
    generalize runN isDig T = M at *
    go_enter Tryz.func133, Tryz.ntmps133
    go_wp2_with (first | (go_at_call 73; (with_reducible refine (hr _).mono ?_); rintro e wx ⟨rfl, hwx⟩; subst wx) | (go_at_call 73; (with_reducible refine (hr2 _).mono ?_); rintro e wx ⟨rfl, hwx⟩; subst wx) | (go_at_call 153; refine (hcp2 _).mono ?_; rintro e wx ⟨rfl, hwx⟩; subst wx))
    go_ret
    exact ⟨rfl, rfl⟩
end Go.Proofs.YtaffplmfnincfaaGreatDoor
/- Tokens: numbers, and the first token of a text. -/
namespace Go.Proofs.YtaffplmfnincfaaGreatDoor
set_option linter.unusedVariables false
open Go.RowKit
theorem numSize_le (s : ByteArray) : numSize s ≤ s.size := by
  unfold numSize
  have h1 := runN_le isDig s
  simp only
  split
  · rename_i h
    have h2 := runN_le isDig ((s.extract (runN isDig s) s.size).extract 1 (s.extract (runN isDig s) s.size).size)
    have h3 := ext_size (s.extract (runN isDig s) s.size) 1 _ (Nat.le_refl _)
    have h4 := ext_size s (runN isDig s) _ (Nat.le_refl _)
    split
    · omega
    · exact h1
  · exact h1
set_option maxRecDepth 100000 in
set_option maxHeartbeats 2000000 in
/-- math.firstNumber. -/
theorem fnum_any (s : ByteArray) (w : World) (hG : G w) (hs : s.size ≤ 1000000) : Calls Tryz.prog 111 #[.string s] w fun e w' => e = .returned (tkV (firstNum parC s)) ∧ Below w.heap.size w w' := by
  have hns := fun W => nsize_any s W hs
  have hle := numSize_le s
  obtain ⟨T, hT⟩ : ∃ T, Hid (T = firstNum parC s) := ⟨_, rfl⟩
  rw [← hT.out]
  unfold firstNum at hT
  have hb0 := bW0 w (.cells #[.int .i64 0, .int .i64 0, .string ⟨#[]⟩, .int .i64 0, .int .i64 0] 82)
  have hx0 := bxNew w 82 (.int .i64 0) (.int .i64 0) (.string ⟨#[]⟩) (.int .i64 0) (.int .i64 0)
  generalize numSize s = N at *
  have hp := parse_any (s.extract 0 N) _ (hG.grow hb0) (by rw [ext_size s 0 N hle]; omega)
  have hN1 : (N : Int) ≤ (s.size : Int) := by omega
  clear hG
  cases hC : parC (s.extract 0 N) with
  | some v =>
    obtain ⟨_, h2, h3⟩ := parC_yes hC
    rw [hC] at hT
    rw [h2, h3] at hp
    have hTe : Hid (T = ⟨3, N, ⟨#[]⟩, v⟩) := hT.out
    clear hC h2 h3 hT
    unfold vlV at hp
    go_enter Tryz.func111, Tryz.ntmps111
    go_wp2_with (first | (go_at_call 133; refine (hns _).mono ?_; rintro e wx ⟨rfl, hwx⟩; subst wx) | (go_at_call 134; refine hp.mono ?_; rintro e w2 ⟨rfl, hb2⟩; have hz := hx0.grow hb2; have hz1 := hz.grow (bW0 w2 (.cells #[.int .i64 v.kind, .int .i64 v.n] 34)); obtain ⟨z0, z1, z2, z3, z4⟩ := hz1.cells; obtain ⟨y0, y1, y2, y3, y4⟩ := hz1.frozen; have hB2 := hb0.trans (hb2.mono hb0.size)))
    exact ret60 Tryz.results111 rfl (hz1.set) ⟨by rw [hTe.out]; rfl, bel5 _ _ _ _ _ (hB2.alloc hB2.size _) (Nat.le_refl _)⟩
  | none =>
    obtain ⟨h2, h3⟩ := parC_no hC
    rw [hC] at hT
    rw [h2, h3] at hp
    have hTe : Hid (T = tk0) := hT.out
    clear hC h2 h3 hT
    unfold vlV at hp
    go_enter Tryz.func111, Tryz.ntmps111
    go_wp2_with (first | (go_at_call 133; refine (hns _).mono ?_; rintro e wx ⟨rfl, hwx⟩; subst wx) | (go_at_call 134; refine hp.mono ?_; rintro e w2 ⟨rfl, hb2⟩; have hz := hx0.grow hb2; have hz1 := hz.grow (bW0 w2 (.cells #[.int .i64 zer.kind, .int .i64 zer.n] 34)); obtain ⟨z0, z1, z2, z3, z4⟩ := hz1.cells; obtain ⟨y0, y1, y2, y3, y4⟩ := hz1.frozen; have hB2 := hb0.trans (hb2.mono hb0.size)))
    exact ret60 Tryz.results111 rfl (hz1.set) ⟨by rw [hTe.out]; rfl, bel5 _ _ _ _ _ (hB2.alloc hB2.size _) (Nat.le_refl _)⟩
set_option maxRecDepth 100000 in
set_option maxHeartbeats 2000000 in
/-- math.turns. -/
theorem turns_any (t : ByteArray) (w : World) : Calls Tryz.prog 139 #[.string t] w fun e w' => e = .returned (.bool (decide (t = ⟨#[45]⟩) || decide (t = ⟨#[33]⟩))) ∧ w' = w := by
  have e1 : (t.toList == [45]) = decide (t = ⟨#[45]⟩) := by rw [← beq_str]; congr 1; decide +kernel
  have e2 : (t.toList == [33]) = decide (t = ⟨#[33]⟩) := by rw [← beq_str]; congr 1; decide +kernel
  generalize decide (t = ⟨#[45]⟩) = A at *
  generalize decide (t = ⟨#[33]⟩) = B at *
  cases A <;> cases B
  all_goals
    go_enter Tryz.func139, Tryz.ntmps139
    go_wp2
    go_ret
    exact ⟨rfl, rfl⟩
set_option maxRecDepth 100000 in
set_option maxHeartbeats 4000000 in
/-- token.opens. -/
theorem opens_any (t : Tk) (w : World) : Calls Tryz.prog 114 #[tkV t] w fun e w' => e = .returned (.bool (opens t)) ∧ Below w.heap.size w w' := by
  have hb0 := bW0 w (tkO t)
  have hx0 : TkAt (w.alloc (tkO t)) w.heap.size t := bxNew w 82 _ _ _ _ _
  have ht := fun W => turns_any t.text W
  obtain ⟨R, hR⟩ : ∃ R, Hid (R = opens t) := ⟨_, rfl⟩
  rw [← hR.out]
  unfold opens at hR
  have e1 : (t.text.toList == [40]) = decide (t.text = ⟨#[40]⟩) := by rw [← beq_str]; congr 1; decide +kernel
  obtain ⟨c0, c1, c2, c3, c4⟩ := hx0.cells
  obtain ⟨tk, ts, tt, tv⟩ := t
  unfold tkV tkO at *
  simp only at *
  generalize decide (tt = ⟨#[40]⟩) = A at *
  have hk3 : (tk == 3) = decide (tk = 3) := by by_cases h : tk = 3 <;> simp [h]
  have hk4 : (tk == 4) = decide (tk = 4) := by by_cases h : tk = 4 <;> simp [h]
  have hk5 : (tk == 5) = decide (tk = 5) := by by_cases h : tk = 5 <;> simp [h]
  generalize decide (tk = 3) = K3 at *
  generalize decide (tk = 4) = K4 at *
  generalize decide (tk = 5) = K5 at *
  generalize hY : (decide (tt = ⟨#[45]⟩) || decide (tt = ⟨#[33]⟩)) = Y at *
  have hR2 : Hid (R = (K3 || K4 || K5 || A || Y)) := by
    show _ = _
    rw [hR.out, ← hY]
    simp only [Bool.or_assoc]
  clear hR hY hx0
  cases K3 with
  | true =>
    have : R = true := hR2.out
    subst this
    go_enter Tryz.func114, Tryz.ntmps114
    go_wp2
    go_ret
    exact ⟨rfl, hb0⟩
  | false =>
    cases K4 with
    | true =>
      have : R = true := hR2.out
      subst this
      go_enter Tryz.func114, Tryz.ntmps114
      go_wp2
      go_ret
      exact ⟨rfl, hb0⟩
    | false =>
      cases K5 with
      | true =>
        have : R = true := hR2.out
        subst this
        go_enter Tryz.func114, Tryz.ntmps114
        go_wp2
        go_ret
        exact ⟨rfl, hb0⟩
      | false =>
        cases A with
        | true =>
          have : R = true := hR2.out
          subst this
          go_enter Tryz.func114, Tryz.ntmps114
          go_wp2_with (first | (go_at_call 139; refine (ht _).mono ?_; rintro e wx ⟨rfl, hwx⟩; subst wx))
          go_ret
          exact ⟨rfl, hb0⟩
        | false =>
          have : R = Y := hR2.out
          subst this
          go_enter Tryz.func114, Tryz.ntmps114
          go_wp2_with (first | (go_at_call 139; refine (ht _).mono ?_; rintro e wx ⟨rfl, hwx⟩; subst wx))
          go_ret
          exact ⟨rfl, hb0⟩
set_option maxRecDepth 100000 in
set_option maxHeartbeats 4000000 in
/-- math.firstToken. -/
theorem ftok_any (s : ByteArray) (w : World) (hG : G w) (hw : SignsAt w) (hs : s.size ≤ 1000000) : Calls Tryz.prog 65 #[.string s] w fun e w' => e = .returned (tkV (firstTok parC s)) ∧ Below w.heap.size w w' := by
  have hb0 := bW0 w (.cells #[.int .i64 0, .int .i64 0, .string ⟨#[]⟩, .int .i64 0, .int .i64 0] 82)
  have hx0 := bxNew w 82 (.int .i64 0) (.int .i64 0) (.string ⟨#[]⟩) (.int .i64 0) (.int .i64 0)
  unfold firstTok
  by_cases h0 : s.size = 0
  · have hem : s = ⟨#[]⟩ := by
      cases s with | mk d => cases d with | mk l => cases l with | nil => rfl | cons a l => simp [ByteArray.size] at h0
    rw [if_pos h0]
    clear hG hw
    subst hem
    go_enter Tryz.func65, Tryz.ntmps65
    go_wp2
    exact ret60 Tryz.results65 rfl (bxNew w 82 _ _ _ _ _) ⟨rfl, bW0 w _⟩
  · rw [if_neg h0]
    have hne2 : (s.toList == []) = false := str_ne0 h0
    have hne : s.toList.isEmpty = false := by
      cases h : s.toList with
      | nil => rw [h] at hne2; cases hne2
      | cons a l => rfl
    have hz : (0 : Int) < (s.size : Int) := by omega
    have hget : (s[0].toNat : Int) = byteAt s 0 := byteAt_get s 0 (by omega)
    have hD : ∀ W, Calls Tryz.prog 110 #[.int .u8 ((s[0].toNat : Nat) : Int)] W fun e w' => e = .returned (.bool (isDig (byteAt s 0))) ∧ w' = W := fun W => by
      rw [hget]; exact dig_any (byteAt s 0) W (byteAt_in s 0).1 (byteAt_in s 0).2
    have hWd : ∀ W, Calls Tryz.prog 74 #[.int .u8 ((s[0].toNat : Nat) : Int)] W fun e w' => e = .returned (.bool (isWrd (byteAt s 0))) ∧ w' = W := fun W => by
      rw [hget]; exact wrd_any (byteAt s 0) W (byteAt_in s 0).1 (byteAt_in s 0).2
    by_cases h36 : byteAt s 0 = 36
    · rw [if_pos h36]
      have h36b : ((s[0].toNat : Int) == 36) = true := by rw [hget, h36]; rfl
      have hf := fref_any s (w.alloc (.cells #[.int .i64 0, .int .i64 0, .string ⟨#[]⟩, .int .i64 0, .int .i64 0] 82)) (by omega) hs
      clear h36 hget hD hWd
      generalize firstRef s = T at *
      unfold tkV at *
      go_enter Tryz.func65, Tryz.ntmps65
      go_wp2_with (first | (go_at_call 109; refine hf.mono ?_; rintro e w2 ⟨rfl, hb2⟩; have hz2 := hx0.grow hb2; obtain ⟨z0, z1, z2, z3, z4⟩ := hz2.cells; obtain ⟨y0, y1, y2, y3, y4⟩ := hz2.frozen; have hB2 := hb0.trans (hb2.mono hb0.size)))
      exact ret60 Tryz.results65 rfl (hz2.set) ⟨rfl, bel5 _ _ _ _ _ hB2 (Nat.le_refl _)⟩
    · rw [if_neg h36]
      have h36b : ((s[0].toNat : Int) == 36) = false := by rw [hget]; simpa using h36
      clear h36 hget
      cases hd : isDig (byteAt s 0) with
      | true =>
        rw [if_pos rfl]
        rw [hd] at hD
        have hf := fnum_any s _ (hG.grow hb0) hs
        clear hd hWd
        generalize firstNum parC s = T at *
        unfold tkV at *
        go_enter Tryz.func65, Tryz.ntmps65
        go_wp2_with (first | (go_at_call 110; refine (hD _).mono ?_; rintro e wx ⟨rfl, hwx⟩; subst wx) | (go_at_call 111; refine hf.mono ?_; rintro e w2 ⟨rfl, hb2⟩; have hz2 := hx0.grow hb2; obtain ⟨z0, z1, z2, z3, z4⟩ := hz2.cells; obtain ⟨y0, y1, y2, y3, y4⟩ := hz2.frozen; have hB2 := hb0.trans (hb2.mono hb0.size)))
        exact ret60 Tryz.results65 rfl (hz2.set) ⟨rfl, bel5 _ _ _ _ _ hB2 (Nat.le_refl _)⟩
      | false =>
        rw [if_neg (by decide)]
        rw [hd] at hD
        clear hd
        cases hwd : isWrd (byteAt s 0) with
        | true =>
          rw [if_pos rfl]
          rw [hwd] at hWd
          have hle := runN_le isWrd s
          have hr := fun W => runW_any s W (by omega)
          clear hwd
          generalize runN isWrd s = N at *
          have hN1 : (N : Int) ≤ (s.size : Int) := by omega
          have hf := word_any (s.extract 0 N) (w.alloc (.cells #[.int .i64 0, .int .i64 0, .string ⟨#[]⟩, .int .i64 0, .int .i64 0] 82)) (by rw [ext_size s 0 N hle]; omega)
          generalize ofWord (s.extract 0 N) = T at *
          unfold tkV at *
          go_enter Tryz.func65, Tryz.ntmps65
          go_wp2_with (first | (go_at_call 110; refine (hD _).mono ?_; rintro e wx ⟨rfl, hwx⟩; subst wx) | (go_at_call 74; refine (hWd _).mono ?_; rintro e wx ⟨rfl, hwx⟩; subst wx) | (go_at_call 73; refine (hr _).mono ?_; rintro e wx ⟨rfl, hwx⟩; subst wx) | (go_at_call 112; refine hf.mono ?_; rintro e w2 ⟨rfl, hb2⟩; have hz2 := hx0.grow hb2; obtain ⟨z0, z1, z2, z3, z4⟩ := hz2.cells; obtain ⟨y0, y1, y2, y3, y4⟩ := hz2.frozen; have hB2 := hb0.trans (hb2.mono hb0.size)))
          exact ret60 Tryz.results65 rfl (hz2.set) ⟨rfl, bel5 _ _ _ _ _ hB2 (Nat.le_refl _)⟩
        | false =>
          rw [if_neg (by decide)]
          rw [hwd] at hWd
          clear hwd
          have hf := fsign_any s _ (hw.grow hb0)
          generalize firstSign s = T at *
          unfold tkV at *
          go_enter Tryz.func65, Tryz.ntmps65
          go_wp2_with (first | (go_at_call 110; refine (hD _).mono ?_; rintro e wx ⟨rfl, hwx⟩; subst wx) | (go_at_call 74; refine (hWd _).mono ?_; rintro e wx ⟨rfl, hwx⟩; subst wx) | (go_at_call 113; refine hf.mono ?_; rintro e w2 ⟨rfl, hb2⟩; have hz2 := hx0.grow hb2; obtain ⟨z0, z1, z2, z3, z4⟩ := hz2.cells; obtain ⟨y0, y1, y2, y3, y4⟩ := hz2.frozen; have hB2 := hb0.trans (hb2.mono hb0.size)))
          exact ret60 Tryz.results65 rfl (hz2.set) ⟨rfl, bel5 _ _ _ _ _ hB2 (Nat.le_refl _)⟩
end Go.Proofs.YtaffplmfnincfaaGreatDoor
/- The parser's place: next. -/
namespace Go.Proofs.YtaffplmfnincfaaGreatDoor
set_option linter.unusedVariables false
open Go.RowKit
/-! ### Only block p turns, and what is new -/
structure Fp (p : Nat) (w w' : World) : Prop where
  os : w'.os = w.os
  tape : w'.tape = w.tape
  output : w'.output = w.output
  size : w.heap.size ≤ w'.heap.size
  block : ∀ k, k < w.heap.size → k ≠ p → w'.heap[k]? = w.heap[k]?
theorem Fp.refl (p : Nat) (w : World) : Fp p w w := ⟨rfl, rfl, rfl, Nat.le_refl _, fun _ _ _ => rfl⟩
theorem Fp.trans {p : Nat} {a b c : World} (h : Fp p a b) (k : Fp p b c) : Fp p a c :=
  ⟨k.os.trans h.os, k.tape.trans h.tape, k.output.trans h.output, Nat.le_trans h.size k.size, fun i hi hp => (k.block i (Nat.lt_of_lt_of_le hi h.size) hp).trans (h.block i hi hp)⟩
theorem Fp.of {p : Nat} {w w' : World} (h : Below w.heap.size w w') : Fp p w w' := ⟨h.os, h.tape, h.output, h.size, fun k hk _ => h.block k hk⟩
theorem Fp.below {p B : Nat} {w w' : World} (h : Fp p w w') (hp : p < w.heap.size) (hB : B ≤ p) : Below B w w' := ⟨h.os, h.tape, h.output, h.size, fun k hk => h.block k (by omega) (by omega)⟩
theorem Fp.drew {p : Nat} {a w : World} (h : Fp p a w) : Fp p a w.drew := ⟨h.os, h.tape, h.output, h.size, h.block⟩
theorem Fp.set {p : Nat} {a w : World} (h : Fp p a w) (i : Nat) (u : Value) : Fp p a (w.setCell ⟨p, i, none⟩ u) :=
  h.trans ⟨rfl, rfl, rfl, by simp [World.setCell], fun k _ hk => by
    unfold World.setCell
    rw [Array.getElem?_modify, if_neg (fun e => hk e.symm)]⟩
/-! ### Where a parser stands -/
/-- Block p is a parser of s at the place i, with the token t. -/
def PsT (w : World) (p : Nat) (s : ByteArray) (i : Nat) (t : Tk) : Prop := w.heap[p]? = some (.cells #[.string s, .int .i64 (i : Int), .int .i64 t.kind, .int .i64 (t.size : Int), .string t.text, .int .i64 t.v.kind, .int .i64 t.v.n] 84 (0, 0))
abbrev PsAt (w : World) (p : Nat) (s : ByteArray) (i : Nat) : Prop := PsT w p s i (tokAt parC s i)
section
variable {w w' : World} {p i : Nat} {s : ByteArray} {t : Tk}
theorem PsT.cells (h : PsT w p s i t) : w.cell? ⟨p, 0, none⟩ = some (.string s) ∧ w.cell? ⟨p, 1, none⟩ = some (.int .i64 (i : Int)) ∧ w.cell? ⟨p, 2, none⟩ = some (.int .i64 t.kind) ∧ w.cell? ⟨p, 3, none⟩ = some (.int .i64 (t.size : Int)) ∧ w.cell? ⟨p, 4, none⟩ = some (.string t.text) ∧ w.cell? ⟨p, 5, none⟩ = some (.int .i64 t.v.kind) ∧ w.cell? ⟨p, 6, none⟩ = some (.int .i64 t.v.n) := by
  unfold PsT at h
  simp [World.cell?, h]
theorem PsT.frozen (h : PsT w p s i t) (j : Nat) : w.frozen? ⟨p, j, none⟩ = false := by
  unfold PsT at h
  simp [World.frozen?, h]
theorem PsT.lt (h : PsT w p s i t) : p < w.heap.size := (Array.getElem?_eq_some_iff.1 h).1
theorem PsT.grow (h : PsT w p s i t) (hb : Below w.heap.size w w') : PsT w' p s i t := (hb.block p h.lt).trans h
end
/-! ### How long a token is -/
theorem pre_len {s p : ByteArray} (h : preS s p = true) : p.size ≤ s.size := by
  unfold preS at h
  have := (List.isPrefixOf_iff_prefix.1 h).length_le
  rw [Array.length_toList, Array.length_toList] at this
  exact this
theorem tok_size (s : ByteArray) : (firstTok parC s).size ≤ s.size := by
  unfold firstTok
  split
  · exact Nat.zero_le _
  · rename_i h0
    split
    · unfold firstRef
      simp only
      split
      · show 1 + _ ≤ _
        have h1 := runN_le isWrd (s.extract 1 s.size)
        rw [ext_size s 1 _ (Nat.le_refl _)] at h1
        rw [ext_size s 1 _ (by omega)]
        omega
      · exact Nat.zero_le _
    · split
      · unfold firstNum
        split
        · exact numSize_le s
        · exact Nat.zero_le _
      · split
        · have h1 := runN_le isWrd s
          have h2 := ext_size s 0 (runN isWrd s) h1
          generalize s.extract 0 (runN isWrd s) = t at *
          have h3 : (ofWord t).size ≤ t.size := by
            unfold ofWord
            split
            · rename_i e; subst e; decide
            · split
              · rename_i e; subst e; decide
              · split
                · rename_i e; subst e; decide
                · split
                  · exact Nat.le_refl _
                  · exact Nat.zero_le _
          omega
        · unfold firstSign
          cases hf : signL.find? (fun x => preS s x.1) with
          | none => exact Nat.zero_le _
          | some x =>
            have := List.find?_some hf
            exact pre_len this
theorem tokAt_size (s : ByteArray) (i : Nat) (hi : i ≤ s.size) : i + (tokAt parC s i).size ≤ s.size := by
  unfold tokAt
  have := tok_size (s.extract i s.size)
  rw [ext_size s i _ (Nat.le_refl _)] at this
  omega
theorem skipB_le (s : ByteArray) (i : Nat) (hi : i ≤ s.size) : i ≤ skipB s i ∧ skipB s i ≤ s.size := by
  unfold skipB
  have := runN_le (fun c => decide (c = 32)) (s.extract i s.size)
  rw [ext_size s i _ (Nat.le_refl _)] at this
  omega
theorem nxt_le (s : ByteArray) (i : Nat) (hi : i ≤ s.size) : i + (tokAt parC s i).size ≤ nxt parC s i ∧ nxt parC s i ≤ s.size := skipB_le s _ (tokAt_size s i hi)
def set5b (w : World) (x : Nat) (a b c d e : Value) : World := ((((w.setCell ⟨x, 2, none⟩ a).setCell ⟨x, 3, none⟩ b).setCell ⟨x, 4, none⟩ c).setCell ⟨x, 5, none⟩ d).setCell ⟨x, 6, none⟩ e
/-- What all of it leans on: a world ahead, that holds the variables. -/
structure Env (w0 w : World) (p : Nat) : Prop where
  g : G w0
  sg : SignsAt w0
  low : Below w0.heap.size w0 w
  le : w0.heap.size ≤ p
theorem Env.fp {w0 w w' : World} {p : Nat} (h : Env w0 w p) (hp : p < w.heap.size) (hf : Fp p w w') : Env w0 w' p := ⟨h.g, h.sg, h.low.trans (hf.below hp h.le), h.le⟩
theorem Env.grow {w0 w w' : World} {p : Nat} (h : Env w0 w p) (hb : Below w.heap.size w w') : Env w0 w' p := ⟨h.g, h.sg, h.low.trans (hb.mono h.low.size), h.le⟩
set_option maxRecDepth 100000 in
set_option maxHeartbeats 4000000 in
/-- parser.next. -/
theorem next_any (w0 w : World) (p : Nat) (s : ByteArray) (i : Nat) (t : Tk) (he : Env w0 w p) (hp : PsT w p s i t) (hi : i + t.size ≤ s.size) (hs : s.size ≤ 1000000) :
    Calls Tryz.prog 46 #[.pointer (some ⟨p, 0, none⟩)] w fun e w' => e = .returned (.tuple #[]) ∧ PsAt w' p s (skipB s (i + t.size)) ∧ Fp p w w' := by
  obtain ⟨c0, c1, c2, c3, c4, c5, c6⟩ := hp.cells
  have f := hp.frozen
  have f1 := f 1
  have hj : Hid (skipB s (i + t.size) = i + t.size + runN (fun c => decide (c = 32)) (s.extract (i + t.size) s.size)) := rfl
  have htr := fun W => Tryz.strings_TrimLeft_one (s.extract (i + t.size) s.size) 32 (by decide) W
  rw [trim_ext, ext_ext] at htr
  have hle := skipB_le s (i + t.size) hi
  rw [hj.out] at hle
  obtain ⟨J, hJ⟩ : ∃ J, Hid (J = i + t.size + runN (fun c => decide (c = 32)) (s.extract (i + t.size) s.size)) := ⟨_, rfl⟩
  rw [hj.out, ← hJ.out]
  rw [← hJ.out] at htr hle
  have hsz := ext_size s J s.size (Nat.le_refl _)
  have hft := fun W (h : Below w0.heap.size w0 W) => ftok_any (s.extract J s.size) W (he.g.grow h) (he.sg.grow h) (by omega)
  have hT : Hid (tokAt parC s J = firstTok parC (s.extract J s.size)) := rfl
  unfold PsAt
  rw [hT.out]
  generalize firstTok parC (s.extract J s.size) = T at *
  have hplc : (s.size : Int) - ((s.extract J s.size).size : Int) = (J : Int) := by omega
  have hrl : (s.extract J s.size).size ≤ 1000000 := by omega
  have hsum : (i : Int) + (t.size : Int) ≤ (s.size : Int) := by omega
  obtain ⟨tk, ts, tt, tv⟩ := t
  simp only at *
  clear hj hJ hT hsz
  generalize s.extract J s.size = REST at *
  unfold tkV at hft
  have d0 : ∀ q : Bel w, q.W.cell? ⟨p, 0, none⟩ = some (.string s) := fun q => q.cell c0
  have d1 : ∀ q : Bel w, q.W.cell? ⟨p, 1, none⟩ = some (.int .i64 (i : Int)) := fun q => q.cell c1
  have d3 : ∀ q : Bel w, q.W.cell? ⟨p, 3, none⟩ = some (.int .i64 (ts : Int)) := fun q => q.cell c3
  have hcl := fun W => calls_same (htr W)
  go_enter Tryz.func46, Tryz.ntmps46
  go_wp2
  refine wp_region_bel (by kernel_rfl) (by kernel_rfl) ?_
  repeat (go_big_quiet_step (exact Calls.bel (hcl _)))
  refine wpQuiet_nil ?_
  rintro W ⟨q, rfl⟩
  have hq := q.h
  have hpq := hp.grow hq
  have heq := he.grow hq
  generalize q.W = W1 at *
  obtain ⟨a0, a1, a2, a3, a4, a5, a6⟩ := hpq.cells
  have fz := hpq.frozen
  have z0 := fz 0
  have z1 := fz 1
  have z2 := fz 2
  have z3 := fz 3
  have z4 := fz 4
  have z5 := fz 5
  have z6 := fz 6
  clear d0 d1 d3 hcl htr c0 c1 c2 c3 c4 c5 c6 f f1 fz
  have hl2 : Below w0.heap.size w0 (W1.setCell ⟨p, 1, none⟩ (.int .i64 (J : Int))) := heq.low.setCell (p := ⟨p, 1, none⟩) he.le _
  have hct := hft _ hl2
  have hp2 : PsT (W1.setCell ⟨p, 1, none⟩ (.int .i64 (J : Int))) p s J ⟨tk, ts, tt, tv⟩ := by
    have := block_setCell (i := 1) (u := .int .i64 (J : Int)) hpq
    unfold PsT
    rw [this]
    simp
  have hF2 : Fp p w (W1.setCell ⟨p, 1, none⟩ (.int .i64 (J : Int))) := (Fp.of hq).set 1 _
  generalize hWW : W1.setCell ⟨p, 1, none⟩ (.int .i64 (J : Int)) = W2 at *
  go_wp2_with (first | (go_at_call 65; (first | (rw [hWW]) | skip); refine hct.mono ?_; rintro e w3 ⟨rfl, hb3⟩; have hp3 := hp2.grow hb3; have g := hp3.frozen; have g2 := g 2; have g3 := g 3; have g4 := g 4; have g5 := g 5; have g6 := g 6; obtain ⟨b0, b1, b2, b3, b4, b5, b6⟩ := hp3.cells; have hF3 := hF2.trans (Fp.of (p := p) hb3)))
  have hp4 : PsT (set5b w3 p (.int .i64 T.kind) (.int .i64 (T.size : Int)) (.string T.text) (.int .i64 T.v.kind) (.int .i64 T.v.n)) p s J T := by
    have h1 := block_setCell (i := 2) (u := .int .i64 T.kind) hp3
    have h2 := block_setCell (i := 3) (u := .int .i64 (T.size : Int)) h1
    have h3 := block_setCell (i := 4) (u := .string T.text) h2
    have h4 := block_setCell (i := 5) (u := .int .i64 T.v.kind) h3
    have h5 := block_setCell (i := 6) (u := .int .i64 T.v.n) h4
    unfold PsT set5b
    rw [h5]
    simp
  have hF4 : Fp p w (set5b w3 p (.int .i64 T.kind) (.int .i64 (T.size : Int)) (.string T.text) (.int .i64 T.v.kind) (.int .i64 T.v.n)) := ((((hF3.set 2 _).set 3 _).set 4 _).set 5 _).set 6 _
  go_end0
  exact ⟨rfl, hp4, hF4⟩
end Go.Proofs.YtaffplmfnincfaaGreatDoor
/- Trees in memory; math.call. -/
namespace Go.Proofs.YtaffplmfnincfaaGreatDoor
set_option linter.unusedVariables false
open Go.RowKit
mutual
/-- A tree at five cells. -/
def exAt (w : World) (A : Nat → Prop) : Ex → Nat → Nat → Prop
  | .mk k n v l, b, o => w.cell? ⟨b, o, none⟩ = some (.int .i64 k) ∧ w.cell? ⟨b, o + 1, none⟩ = some (.string n) ∧ w.cell? ⟨b, o + 2, none⟩ = some (.int .i64 v.kind) ∧ w.cell? ⟨b, o + 3, none⟩ = some (.int .i64 v.n) ∧ ∃ K, w.cell? ⟨b, o + 4, none⟩ = some K ∧ kidsV w A l K
/-- The slice of a tree's kids. -/
def kidsV (w : World) (A : Nat → Prop) : List Ex → Value → Prop
  | [], K => K = .slice none 0 0
  | t :: r, K => ∃ b o c, K = .slice (some ⟨b, o, none⟩) (r.length + 1) c ∧ A b ∧ b < w.heap.size ∧ exAt w A t b o ∧ kidsF w A r b (o + 5)
def kidsF (w : World) (A : Nat → Prop) : List Ex → Nat → Nat → Prop
  | [], _, _ => True
  | t :: r, b, o => exAt w A t b o ∧ kidsF w A r b (o + 5)
end
section
variable {w w' : World} {A A' : Nat → Prop}
mutual
theorem exAt.keep (hk : ∀ b, A b → b < w.heap.size → w'.heap[b]? = w.heap[b]?) (hs : w.heap.size ≤ w'.heap.size) (hA : ∀ b, A b → b < w.heap.size → A' b) : ∀ (t : Ex) (b o : Nat), A b → b < w.heap.size → exAt w A t b o → exAt w' A' t b o
  | .mk k n v l, b, o, ha, hb, h => by
    unfold exAt at h ⊢
    obtain ⟨h0, h1, h2, h3, K, h4, h5⟩ := h
    have e : ∀ i, w'.cell? ⟨b, i, none⟩ = w.cell? ⟨b, i, none⟩ := fun i => by simp only [World.cell?, hk b ha hb]
    refine ⟨by rw [e]; exact h0, by rw [e]; exact h1, by rw [e]; exact h2, by rw [e]; exact h3, K, by rw [e]; exact h4, kidsV.keep hk hs hA l K h5⟩
theorem kidsV.keep (hk : ∀ b, A b → b < w.heap.size → w'.heap[b]? = w.heap[b]?) (hs : w.heap.size ≤ w'.heap.size) (hA : ∀ b, A b → b < w.heap.size → A' b) : ∀ (l : List Ex) (K : Value), kidsV w A l K → kidsV w' A' l K
  | [], K, h => by unfold kidsV at h ⊢; exact h
  | t :: r, K, h => by
    unfold kidsV at h ⊢
    obtain ⟨b, o, c, e, ha, hb, h1, h2⟩ := h
    exact ⟨b, o, c, e, hA b ha hb, Nat.lt_of_lt_of_le hb hs, exAt.keep hk hs hA t b o ha hb h1, kidsF.keep hk hs hA r b (o + 5) ha hb h2⟩
theorem kidsF.keep (hk : ∀ b, A b → b < w.heap.size → w'.heap[b]? = w.heap[b]?) (hs : w.heap.size ≤ w'.heap.size) (hA : ∀ b, A b → b < w.heap.size → A' b) : ∀ (l : List Ex) (b o : Nat), A b → b < w.heap.size → kidsF w A l b o → kidsF w' A' l b o
  | [], b, o, _, _, h => by unfold kidsF; trivial
  | t :: r, b, o, ha, hb, h => by
    unfold kidsF at h ⊢
    exact ⟨exAt.keep hk hs hA t b o ha hb h.1, kidsF.keep hk hs hA r b (o + 5) ha hb h.2⟩
end
end
/-- A tree as a value. -/
def ExV (w : World) (A : Nat → Prop) (t : Ex) (u : Value) : Prop := ∃ K, u = .agg #[.int .i64 t.kind, .string t.name, .int .i64 t.v.kind, .int .i64 t.v.n, K] ∧ kidsV w A t.kids K
/-- Any five values of their kinds. -/
def AnyE (u : Value) : Prop := ∃ (k : Int) (n : ByteArray) (x y : Int) (a : Option Addr) (m c : Nat), u = .agg #[.int .i64 k, .string n, .int .i64 x, .int .i64 y, .slice a m c]
theorem kidsV.shape {w : World} {A : Nat → Prop} {l : List Ex} {K : Value} (h : kidsV w A l K) : ∃ a c, K = .slice a l.length c := by
  cases l with
  | nil => unfold kidsV at h; exact ⟨_, _, h⟩
  | cons t r =>
    unfold kidsV at h
    obtain ⟨b, o, c, e, _⟩ := h
    exact ⟨_, _, e⟩
theorem ExV.grow {w w' : World} {A : Nat → Prop} {t : Ex} {u : Value} (h : ExV w A t u) (hb : Below w.heap.size w w') : ExV w' A t u := by
  obtain ⟨K, h1, h2⟩ := h
  exact ⟨K, h1, kidsV.keep (fun b _ hb2 => hb.block b hb2) hb.size (fun _ h _ => h) _ _ h2⟩
/-- What turns is no row of the tree. -/
theorem ExV.fp {w w' : World} {A : Nat → Prop} {p : Nat} {t : Ex} {u : Value} (h : ExV w A t u) (hf : Fp p w w') (hp : ∀ b, A b → b ≠ p) : ExV w' A t u := by
  obtain ⟨K, h1, h2⟩ := h
  exact ⟨K, h1, kidsV.keep (fun b hb hb2 => hf.block b hb2 (hp b hb)) hf.size (fun _ h _ => h) _ _ h2⟩
theorem ExV.more {w : World} {A A' : Nat → Prop} {t : Ex} {u : Value} (h : ExV w A t u) (hA : ∀ b, A b → A' b) : ExV w A' t u := by
  obtain ⟨K, h1, h2⟩ := h
  exact ⟨K, h1, kidsV.keep (fun _ _ _ => rfl) (Nat.le_refl _) (fun b h _ => hA b h) _ _ h2⟩
theorem exN_V (w : World) (A : Nat → Prop) (v : Vl) : ExV w A (exN v) (.agg #[.int .i64 1, .string ⟨#[]⟩, .int .i64 v.kind, .int .i64 v.n, .slice none 0 0]) := ⟨_, rfl, by unfold exN Ex.kids kidsV; rfl⟩
theorem exR_V (w : World) (A : Nat → Prop) (n : ByteArray) : ExV w A (exR n) (.agg #[.int .i64 2, .string n, .int .i64 0, .int .i64 0, .slice none 0 0]) := ⟨_, rfl, by unfold exR Ex.kids kidsV; rfl⟩
/-- A call of one: its kid in a new row. -/
theorem exC1_V {w : World} {A : Nat → Prop} (x : Ex) (n : ByteArray) (c0 c1 c2 c3 c4 : Value) (h : ExV w A x (.agg #[c0, c1, c2, c3, c4])) (hA : A w.heap.size) :
    ExV (w.alloc (.cells #[c0, c1, c2, c3, c4] 62)) A (exC n [x]) (.agg #[.int .i64 3, .string n, .int .i64 0, .int .i64 0, .slice (some ⟨w.heap.size, 0, none⟩) 1 1]) := by
  have hb := bW0 w (.cells #[c0, c1, c2, c3, c4] 62)
  obtain ⟨K, e, hK⟩ := h.grow hb
  injection e with e
  have e2 := congrArg Array.toList e
  simp only [List.cons.injEq, and_true] at e2
  obtain ⟨rfl, rfl, rfl, rfl, rfl⟩ := e2
  refine ⟨_, rfl, ?_⟩
  unfold exC Ex.kids kidsV
  refine ⟨w.heap.size, 0, 1, rfl, hA, by simp, ?_, by unfold kidsF; trivial⟩
  obtain ⟨k, m, v, l⟩ := x
  unfold exAt
  exact ⟨by simp [go_sem, Ex.kind], by simp [go_sem, Ex.name], by simp [go_sem, Ex.v], by simp [go_sem, Ex.v], c4, by simp [go_sem], hK⟩
/-- A call of two. -/
theorem exC2_V {w : World} {A : Nat → Prop} (x y : Ex) (n : ByteArray) (c0 c1 c2 c3 c4 d0 d1 d2 d3 d4 : Value) (h : ExV w A x (.agg #[c0, c1, c2, c3, c4])) (g : ExV w A y (.agg #[d0, d1, d2, d3, d4])) (hA : A w.heap.size) :
    ExV (w.alloc (.cells #[c0, c1, c2, c3, c4, d0, d1, d2, d3, d4] 62)) A (exC n [x, y]) (.agg #[.int .i64 3, .string n, .int .i64 0, .int .i64 0, .slice (some ⟨w.heap.size, 0, none⟩) 2 2]) := by
  have hb := bW0 w (.cells #[c0, c1, c2, c3, c4, d0, d1, d2, d3, d4] 62)
  obtain ⟨K, e, hK⟩ := h.grow hb
  injection e with e
  have e2 := congrArg Array.toList e
  simp only [List.cons.injEq, and_true] at e2
  obtain ⟨rfl, rfl, rfl, rfl, rfl⟩ := e2
  obtain ⟨K2, e, hK2⟩ := g.grow hb
  injection e with e
  have e2 := congrArg Array.toList e
  simp only [List.cons.injEq, and_true] at e2
  obtain ⟨rfl, rfl, rfl, rfl, rfl⟩ := e2
  refine ⟨_, rfl, ?_⟩
  unfold exC Ex.kids kidsV
  refine ⟨w.heap.size, 0, 2, rfl, hA, by simp, ?_, ?_⟩
  · obtain ⟨k, m, v, l⟩ := x
    unfold exAt
    exact ⟨by simp [go_sem, Ex.kind], by simp [go_sem, Ex.name], by simp [go_sem, Ex.v], by simp [go_sem, Ex.v], c4, by simp [go_sem], hK⟩
  · unfold kidsF
    refine ⟨?_, by unfold kidsF; trivial⟩
    obtain ⟨k, m, v, l⟩ := y
    unfold exAt
    exact ⟨by simp [go_sem, Ex.kind], by simp [go_sem, Ex.name], by simp [go_sem, Ex.v], by simp [go_sem, Ex.v], d4, by simp [go_sem], hK2⟩
theorem ret27 {fn : Func} {p : Tmp} {tmps : Array Value} {w' : World} {x : Nat} {a b c d e : Value} {Q : Ending → World → Prop} (hr : fn.results = #[.cell p 62]) (ht : tmps[p]?.getD undef = .pointer (some ⟨x, 0, none⟩)) (hv : Bx w' x 62 a b c d e)
    (hq : Q (.returned (.agg #[a, b, c, d, e])) w') : bodyPost Tryz.prog fn Q .ret { tmps := tmps, defers := [] } w' := by
  obtain ⟨c0, c1, c2, c3, c4⟩ := hv.cells
  refine bodyPost_ret (v := .agg #[a, b, c, d, e]) ?_ rfl hq
  simp [results, hr, ht, go_sem, c0, c1, c2, c3, c4]
theorem ret27t {fn : Func} {p q : Tmp} {tmps : Array Value} {w' : World} {x : Nat} {a b c d e r : Value} {Q : Ending → World → Prop} (hr : fn.results = #[.cell p 62, .tmp q]) (ht : tmps[p]?.getD undef = .pointer (some ⟨x, 0, none⟩)) (hv : Bx w' x 62 a b c d e) (hs : tmps[q]?.getD undef = r)
    (hq : Q (.returned (.tuple #[.agg #[a, b, c, d, e], r])) w') : bodyPost Tryz.prog fn Q .ret { tmps := tmps, defers := [] } w' := by
  obtain ⟨c0, c1, c2, c3, c4⟩ := hv.cells
  refine bodyPost_ret (v := .tuple #[.agg #[a, b, c, d, e], r]) ?_ rfl hq
  simp [results, hr, ht, hs, go_sem, c0, c1, c2, c3, c4]
set_option maxRecDepth 100000 in
set_option maxHeartbeats 2000000 in
/-- math.call. -/
theorem call_any (n : ByteArray) (a : Option Addr) (m c : Nat) (w : World) : Calls Tryz.prog 68 #[.string n, .slice a m c] w fun e w' => e = .returned (.agg #[.int .i64 3, .string n, .int .i64 0, .int .i64 0, .slice a m c]) ∧ Below w.heap.size w w' := by
  go_enter Tryz.func68, Tryz.ntmps68
  go_wp2
  exact ret27 Tryz.results68 rfl (bxNew w 62 _ _ _ _ _) ⟨rfl, bW0 w _⟩
end Go.Proofs.YtaffplmfnincfaaGreatDoor
/- The parser: what its functions tell; bracketed. -/
namespace Go.Proofs.YtaffplmfnincfaaGreatDoor
set_option linter.unusedVariables false
open Go.RowKit
section
variable {par : ByteArray → Option Vl} {s : ByteArray} {n i j k : Nat} {x : Ex} {e : Int} {r : Except Int Ex}
theorem Rd.brNo (h : (tokAt par s i).text ≠ ⟨#[40]⟩) : Rd par s (.br n i) (.error 110) i := ⟨1, by rw [go, if_neg h]⟩
theorem Rd.brErr (h : (tokAt par s i).text = ⟨#[40]⟩) (g : Rd par s (.op 0 (n + 1) (nxt par s i)) (.error e) j) : Rd par s (.br n i) (.error e) j := by
  obtain ⟨F, g⟩ := g
  exact ⟨F + 1, by rw [go, if_pos h, g]⟩
theorem Rd.brOpen (h : (tokAt par s i).text = ⟨#[40]⟩) (g : Rd par s (.op 0 (n + 1) (nxt par s i)) (.ok x) j) (h2 : (tokAt par s j).text ≠ ⟨#[41]⟩) : Rd par s (.br n i) (.error 110) j := by
  obtain ⟨F, g⟩ := g
  exact ⟨F + 1, by rw [go, if_pos h, g]; simp only; rw [if_neg h2]⟩
theorem Rd.brOk (h : (tokAt par s i).text = ⟨#[40]⟩) (g : Rd par s (.op 0 (n + 1) (nxt par s i)) (.ok x) j) (h2 : (tokAt par s j).text = ⟨#[41]⟩) : Rd par s (.br n i) (.ok x) (nxt par s j) := by
  obtain ⟨F, g⟩ := g
  exact ⟨F + 1, by rw [go, if_pos h, g]; simp only; rw [if_pos h2]⟩
theorem Rd.odNo (h : opens (tokAt par s i) = false) : Rd par s (.od n i) (.error 110) i := ⟨1, by rw [go, if_pos h]⟩
theorem Rd.odDeep (h : opens (tokAt par s i) = true) (h2 : 32 < n) : Rd par s (.od n i) (.error 111) i := ⟨1, by rw [go, if_neg (by rw [h]; decide), if_pos h2]⟩
theorem Rd.odBr (h : opens (tokAt par s i) = true) (h2 : ¬ 32 < n) (h3 : (tokAt par s i).text = ⟨#[40]⟩) (g : Rd par s (.br n i) r j) : Rd par s (.od n i) r j := by
  obtain ⟨F, g⟩ := g
  exact ⟨F + 1, by rw [go, if_neg (by rw [h]; decide), if_neg h2, if_pos h3]; exact g⟩
theorem Rd.odNum (h : opens (tokAt par s i) = true) (h2 : ¬ 32 < n) (h3 : (tokAt par s i).text ≠ ⟨#[40]⟩) (h4 : (tokAt par s i).kind = 3) : Rd par s (.od n i) (.ok (exN (tokAt par s i).v)) (nxt par s i) :=
  ⟨1, by rw [go, if_neg (by rw [h]; decide), if_neg h2, if_neg h3, if_pos h4]⟩
theorem Rd.odRef (h : opens (tokAt par s i) = true) (h2 : ¬ 32 < n) (h3 : (tokAt par s i).text ≠ ⟨#[40]⟩) (h4 : (tokAt par s i).kind = 4) : Rd par s (.od n i) (.ok (exR (tokAt par s i).text)) (nxt par s i) :=
  ⟨1, by rw [go, if_neg (by rw [h]; decide), if_neg h2, if_neg h3, if_neg (by rw [h4]; decide), if_pos h4]⟩
theorem Rd.odFnE (h : opens (tokAt par s i) = true) (h2 : ¬ 32 < n) (h3 : (tokAt par s i).text ≠ ⟨#[40]⟩) (h4 : (tokAt par s i).kind = 5) (g : Rd par s (.br n (nxt par s i)) (.error e) j) : Rd par s (.od n i) (.error e) j := by
  obtain ⟨F, g⟩ := g
  exact ⟨F + 1, by rw [go, if_neg (by rw [h]; decide), if_neg h2, if_neg h3, if_neg (by rw [h4]; decide), if_neg (by rw [h4]; decide), if_pos h4, g]⟩
theorem Rd.odFn (h : opens (tokAt par s i) = true) (h2 : ¬ 32 < n) (h3 : (tokAt par s i).text ≠ ⟨#[40]⟩) (h4 : (tokAt par s i).kind = 5) (g : Rd par s (.br n (nxt par s i)) (.ok x) j) : Rd par s (.od n i) (.ok (exC (tokAt par s i).text [x])) j := by
  obtain ⟨F, g⟩ := g
  exact ⟨F + 1, by rw [go, if_neg (by rw [h]; decide), if_neg h2, if_neg h3, if_neg (by rw [h4]; decide), if_neg (by rw [h4]; decide), if_pos h4, g]⟩
theorem Rd.odSgE (h : opens (tokAt par s i) = true) (h2 : ¬ 32 < n) (h3 : (tokAt par s i).text ≠ ⟨#[40]⟩) (h4 : (tokAt par s i).kind ≠ 3) (h5 : (tokAt par s i).kind ≠ 4) (h6 : (tokAt par s i).kind ≠ 5) (g : Rd par s (.od (n + 1) (nxt par s i)) (.error e) j) : Rd par s (.od n i) (.error e) j := by
  obtain ⟨F, g⟩ := g
  exact ⟨F + 1, by rw [go, if_neg (by rw [h]; decide), if_neg h2, if_neg h3, if_neg h4, if_neg h5, if_neg h6, g]⟩
theorem Rd.odSg (h : opens (tokAt par s i) = true) (h2 : ¬ 32 < n) (h3 : (tokAt par s i).text ≠ ⟨#[40]⟩) (h4 : (tokAt par s i).kind ≠ 3) (h5 : (tokAt par s i).kind ≠ 4) (h6 : (tokAt par s i).kind ≠ 5) (g : Rd par s (.od (n + 1) (nxt par s i)) (.ok x) j) : Rd par s (.od n i) (.ok (exC (tokAt par s i).text [x])) j := by
  obtain ⟨F, g⟩ := g
  exact ⟨F + 1, by rw [go, if_neg (by rw [h]; decide), if_neg h2, if_neg h3, if_neg h4, if_neg h5, if_neg h6, g]⟩
end
/-! ### A token that says something has a byte -/
theorem runN_pos {q : Int → Bool} {s : ByteArray} (h0 : s.size ≠ 0) (h : q (byteAt s 0) = true) : 1 ≤ runN q s := by
  rcases Nat.eq_zero_or_pos (runN q s) with h1 | h1
  · exfalso
    unfold runN at h1
    unfold byteAt at h
    cases hn : numsS s with
    | nil => exact h0 (by rw [← numsS_length, hn]; rfl)
    | cons a l =>
      rw [hn] at h h1
      simp only [List.getD_cons_zero] at h
      rw [List.takeWhile_cons, if_pos h] at h1
      simp at h1
  · exact h1
theorem tok_pos (s : ByteArray) (h : (firstTok parC s).kind = 3 ∨ (firstTok parC s).text ≠ ⟨#[]⟩) : 1 ≤ (firstTok parC s).size := by
  unfold firstTok at h ⊢
  split at h
  · rcases h with h | h
    · cases h
    · exact absurd rfl h
  · rename_i h0
    rw [if_neg h0]
    split at h
    · rename_i h1
      rw [if_pos h1]
      unfold firstRef at h ⊢
      simp only at h ⊢
      split at h
      · rename_i h2; rw [if_pos h2]; exact Nat.le_add_right 1 _
      · rcases h with h | h
        · cases h
        · exact absurd rfl h
    · rename_i h1
      rw [if_neg h1]
      split at h
      · rename_i h2
        rw [if_pos h2]
        unfold firstNum at h ⊢
        split at h
        · rename_i v hv
          simp only
          have := runN_pos (q := isDig) h0 h2
          unfold numSize
          simp only
          split
          · split
            · omega
            · exact this
          · exact this
        · rcases h with h | h
          · cases h
          · exact absurd rfl h
      · rename_i h2
        rw [if_neg h2]
        split at h
        · rename_i h3
          rw [if_pos h3]
          generalize s.extract 0 (runN isWrd s) = t at *
          unfold ofWord at h ⊢
          split
          · exact (by decide : 1 ≤ 4)
          · split
            · exact (by decide : 1 ≤ 3)
            · split
              · exact (by decide : 1 ≤ 3)
              · rename_i a b c
                rw [if_neg a, if_neg b, if_neg c] at h
                split
                · rename_i hf
                  rcases hf with rfl | rfl | rfl | rfl | rfl | rfl <;> decide
                · rename_i hf
                  rw [if_neg hf] at h
                  rcases h with h | h
                  · cases h
                  · exact absurd rfl h
        · rename_i h3
          rw [if_neg h3]
          unfold firstSign at h ⊢
          cases hf : signL.find? (fun x => preS s x.1) with
          | none =>
            rw [hf] at h
            rcases h with h | h
            · cases h
            · exact absurd rfl h
          | some x =>
            have hm := List.mem_of_find?_eq_some hf
            have : ∀ y ∈ signL, 1 ≤ y.1.size := by decide
            exact this x hm
theorem nxt_more (s : ByteArray) (i : Nat) (hi : i ≤ s.size) (h : (tokAt parC s i).kind = 3 ∨ (tokAt parC s i).text ≠ ⟨#[]⟩) : i < nxt parC s i ∧ nxt parC s i ≤ s.size := by
  have h1 := nxt_le s i hi
  have h2 : 1 ≤ (tokAt parC s i).size := tok_pos _ h
  omega
/-! ### What a parser's function tells -/
def jobAt : Job → Nat
  | .op _ _ i => i
  | .lp _ _ _ i => i
  | .od _ i => i
  | .br _ i => i
/-- The error, or the tree. -/
def ResV (w w' : World) (u : Value) (er : Int) : Except Int Ex → Prop
  | .error x => er = x ∧ x ≠ 0
  | .ok t => er = 0 ∧ ExV w' (fun b => w.heap.size ≤ b) t u
structure Read (s : ByteArray) (p : Nat) (J : Job) (w w' : World) (u : Value) (er : Int) (r : Except Int Ex) (j : Nat) : Prop where
  rd : Rd parC s J r j
  ps : PsAt w' p s j
  fp : Fp p w w'
  le : j ≤ s.size
  ge : jobAt J ≤ j
  res : ResV w w' u er r
def PQ (s : ByteArray) (p : Nat) (J : Job) (w : World) (e : Ending) (w' : World) : Prop :=
  ∃ (k : Int) (n : ByteArray) (x y : Int) (a : Option Addr) (m c : Nat) (er : Int), e = .returned (.tuple #[.agg #[.int .i64 k, .string n, .int .i64 x, .int .i64 y, .slice a m c], .int .i64 er]) ∧ ∃ r j, Hid (Read s p J w w' (.agg #[.int .i64 k, .string n, .int .i64 x, .int .i64 y, .slice a m c]) er r j)
/-- What the contract of a job is: at every world that has the parser there. -/
def JobC (f : Nat) (args : Array Value) (s : ByteArray) (p : Nat) (J : Job) (w0 : World) : Prop := ∀ W, Env w0 W p → PsAt W p s (jobAt J) → Calls Tryz.prog f (#[.pointer (some ⟨p, 0, none⟩)] ++ args) W fun e w' => PQ s p J W e w'
end Go.Proofs.YtaffplmfnincfaaGreatDoor
