/- Qm; Qn; Qp; Qq. -/
import Derived.Test.YtaffplmfnincfaaGreatDoorPmPw
/- Reading by tokens: a text's tokens settle what is read of it: mathematics. -/
namespace Go.Proofs.YtaffplmfnincfaaGreatDoor
set_option linter.unusedVariables false
inductive JK where
  | op (l : Nat)
  | lp (l : Nat) (x : Ex)
  | od
  | br
def JK.job (n i : Nat) : JK → Job
  | .op l => .op l n i
  | .lp l x => .lp l n x i
  | .od => .od n i
  | .br => .br n i
/-- A list of tokens, read: what is read, and what is left. -/
inductive RL : JK → List Tk → Ex → List Tk → Prop
  | top {L : List Tk} {x : Ex} {L' : List Tk} : RL .od L x L' → RL (.op 5) L x L'
  | opLp {l : Nat} {L M L' : List Tk} {x y : Ex} : l < 5 → RL (.op (l + 1)) L x M → RL (.lp l x) M y L' → RL (.op l) L y L'
  | lpEnd {l : Nat} {x : Ex} {t : Tk} {L : List Tk} : levOf t.text ≠ (l : Int) → RL (.lp l x) (t :: L) x (t :: L)
  | lpRel {x y : Ex} {t : Tk} {L L' : List Tk} : levOf t.text = 2 → RL (.op 3) L y L' → RL (.lp 2 x) (t :: L) (exC t.text [x, y]) L'
  | lpMore {l : Nat} {x y z : Ex} {t : Tk} {L M L' : List Tk} : l < 5 → levOf t.text = (l : Int) → l ≠ 2 → RL (.op (l + 1)) L y M → RL (.lp l (exC t.text [x, y])) M z L' → RL (.lp l x) (t :: L) z L'
  | odBr {t : Tk} {L L' : List Tk} {x : Ex} : t.text = ⟨#[40]⟩ → RL .br (t :: L) x L' → RL .od (t :: L) x L'
  | odNum {t u : Tk} {L : List Tk} : t.text ≠ ⟨#[40]⟩ → t.kind = 3 → RL .od (t :: u :: L) (exN t.v) (u :: L)
  | odRef {t u : Tk} {L : List Tk} : t.text ≠ ⟨#[40]⟩ → t.kind = 4 → t.text ≠ ⟨#[]⟩ → RL .od (t :: u :: L) (exR t.text) (u :: L)
  | odFn {t : Tk} {L L' : List Tk} {x : Ex} : t.text ≠ ⟨#[40]⟩ → t.kind = 5 → t.text ≠ ⟨#[]⟩ → RL .br L x L' → RL .od (t :: L) (exC t.text [x]) L'
  | odSg {t : Tk} {L L' : List Tk} {x : Ex} : t.text ≠ ⟨#[40]⟩ → t.text = ⟨#[45]⟩ ∨ t.text = ⟨#[33]⟩ → t.kind ≠ 3 → t.kind ≠ 4 → t.kind ≠ 5 → RL .od L x L' → RL .od (t :: L) (exC t.text [x]) L'
  | br {t u v : Tk} {L L' : List Tk} {x : Ex} : t.text = ⟨#[40]⟩ → RL (.op 0) L x (u :: v :: L') → u.text = ⟨#[41]⟩ → RL .br (t :: L) x (v :: L')
theorem RL.ne {J : JK} {L L' : List Tk} {x : Ex} (h : RL J L x L') : L ≠ [] ∧ L' ≠ [] := by
  induction h with
  | top h ih => exact ih
  | opLp _ _ _ ih1 ih2 => exact ⟨ih1.1, ih2.2⟩
  | lpEnd => exact ⟨by simp, by simp⟩
  | lpRel _ _ ih => exact ⟨by simp, ih.2⟩
  | lpMore _ _ _ _ _ _ ih => exact ⟨by simp, ih.2⟩
  | odBr _ _ ih => exact ih
  | odNum => exact ⟨by simp, by simp⟩
  | odRef => exact ⟨by simp, by simp⟩
  | odFn _ _ _ _ ih => exact ⟨by simp, ih.2⟩
  | odSg _ _ _ _ _ _ ih => exact ⟨by simp, ih.2⟩
  | br => exact ⟨by simp, by simp⟩
section
variable (par : ByteArray → Option Vl) (s : ByteArray)
/-- The tokens from a place on, as far as the list goes. -/
inductive TkSt : Nat → List Tk → Prop
  | one (i : Nat) : TkSt i [tokAt par s i]
  | cons {i : Nat} {L : List Tk} : TkSt (nxt par s i) L → TkSt i (tokAt par s i :: L)
end
section
variable {par : ByteArray → Option Vl} {s : ByteArray}
theorem TkSt.head {i : Nat} {t : Tk} {L : List Tk} (h : TkSt par s i (t :: L)) : tokAt par s i = t := by cases h <;> rfl
theorem TkSt.tail {i : Nat} {t : Tk} {L : List Tk} (h : TkSt par s i (t :: L)) (hn : L ≠ []) : TkSt par s (nxt par s i) L := by
  cases h with
  | one => exact absurd rfl hn
  | cons h => exact h
theorem opens_iff (t : Tk) : opens t = true ↔ t.kind = 3 ∨ t.kind = 4 ∨ t.kind = 5 ∨ t.text = ⟨#[40]⟩ ∨ t.text = ⟨#[45]⟩ ∨ t.text = ⟨#[33]⟩ := by
  unfold opens
  simp only [Bool.or_eq_true, decide_eq_true_eq, or_assoc]
/-- What is read of the text is read of its tokens. -/
theorem rl_of (F : Nat) : ∀ (J : JK) (n i j : Nat) (x : Ex) (L' : List Tk), (∀ l, J = .op l → l ≤ 5) → (∀ l y, J = .lp l y → l < 5) → (∀ k, (tokAt par s k).kind = 4 ∨ (tokAt par s k).kind = 5 → (tokAt par s k).text ≠ ⟨#[]⟩) → go par s F (J.job n i) = some (.ok x, j) → TkSt par s j L' → ∃ L, TkSt par s i L ∧ RL J L x L' := by
  induction F with
  | zero => intro J n i j x L' _ _ _ h; cases J <;> simp [go] at h
  | succ F ih =>
    intro J n i j x L' hJ1 hJ2 hTk h hL'
    have hLn : L' ≠ [] := by cases hL' <;> simp
    cases J with
    | op l =>
      have hl := hJ1 l rfl
      change go par s (F + 1) (.op l n i) = _ at h
      rw [go] at h
      by_cases h5 : l = 5
      · subst h5
        rw [if_pos rfl] at h
        obtain ⟨L, h1, h2⟩ := ih .od n i j x L' (by intro l h; cases h) (by intro l y h; cases h) hTk h hL'
        exact ⟨L, h1, .top h2⟩
      · rw [if_neg h5] at h
        cases h1 : go par s F (.op (l + 1) n i) with
        | none => rw [h1] at h; cases h
        | some q =>
          rw [h1] at h
          obtain ⟨e | y, k⟩ := q
          · cases h
          · obtain ⟨M, g1, g2⟩ := ih (.lp l y) n k j x L' (by intro l h; cases h) (by intro m z h; injection h with h _; omega) hTk h hL'
            obtain ⟨L, g3, g4⟩ := ih (.op (l + 1)) n i k y M (by intro m h; injection h with h; omega) (by intro l y h; cases h) hTk h1 g1
            exact ⟨L, g3, .opLp (by omega) g4 g2⟩
    | lp l y =>
      have hl := hJ2 l y rfl
      change go par s (F + 1) (.lp l n y i) = _ at h
      rw [go] at h
      by_cases hv : levOf (tokAt par s i).text = (l : Int)
      · rw [if_pos hv] at h
        cases h1 : go par s F (.op (l + 1) n (nxt par s i)) with
        | none => rw [h1] at h; cases h
        | some q =>
          rw [h1] at h
          obtain ⟨e | z, k⟩ := q
          · cases h
          · simp only at h
            by_cases h2 : l = 2
            · rw [if_pos h2] at h
              injection h with h
              injection h with h3 h4
              injection h3 with h3
              subst h3 h4 h2
              obtain ⟨M, g1, g2⟩ := ih (.op 3) n _ k z L' (by intro m h; injection h with h; omega) (by intro l y h; cases h) hTk h1 hL'
              exact ⟨_, .cons g1, .lpRel hv g2⟩
            · rw [if_neg h2] at h
              obtain ⟨M, g1, g2⟩ := ih (.lp l _) n k j x L' (by intro l h; cases h) (by intro m z h; injection h with h _; omega) hTk h hL'
              obtain ⟨L, g3, g4⟩ := ih (.op (l + 1)) n _ k z M (by intro m h; injection h with h; omega) (by intro l y h; cases h) hTk h1 g1
              exact ⟨_, .cons g3, .lpMore hl hv h2 g4 g2⟩
      · rw [if_neg hv] at h
        injection h with h
        injection h with h3 h4
        injection h3 with h3
        subst h3 h4
        cases hL' with
        | one => exact ⟨_, .one _, .lpEnd hv⟩
        | cons h => exact ⟨_, .cons h, .lpEnd hv⟩
    | od =>
      change go par s (F + 1) (.od n i) = _ at h
      rw [go] at h
      split at h
      · cases h
      rename_i ho
      have ho := (opens_iff _).1 (by simpa using ho)
      split at h
      · cases h
      split at h
      · rename_i h40
        obtain ⟨L, g1, g2⟩ := ih .br n i j x L' (by intro l h; cases h) (by intro l y h; cases h) hTk h hL'
        cases L with
        | nil => exact absurd rfl g2.ne.1
        | cons t L => exact ⟨_, g1, .odBr (by rw [← g1.head]; exact h40) g2⟩
      rename_i h40
      split at h
      · rename_i h3
        injection h with h
        injection h with h4 h5
        injection h4 with h4
        subst h4 h5
        cases L' with
        | nil => exact absurd rfl hLn
        | cons u L => exact ⟨_, .cons hL', .odNum h40 h3⟩
      rename_i h3
      split at h
      · rename_i h4
        injection h with h
        injection h with h5 h6
        injection h5 with h5
        subst h5 h6
        cases L' with
        | nil => exact absurd rfl hLn
        | cons u L => exact ⟨_, .cons hL', .odRef h40 h4 (hTk i (.inl h4))⟩
      rename_i h4
      split at h
      · rename_i h5
        cases h1 : go par s F (.br n (nxt par s i)) with
        | none => rw [h1] at h; cases h
        | some q =>
          rw [h1] at h
          obtain ⟨e | y, k⟩ := q
          · cases h
          · injection h with h
            injection h with h6 h7
            injection h6 with h6
            subst h6 h7
            obtain ⟨L, g1, g2⟩ := ih .br n _ k y L' (by intro l h; cases h) (by intro l y h; cases h) hTk h1 hL'
            exact ⟨_, .cons g1, .odFn h40 h5 (hTk i (.inr h5)) g2⟩
      · rename_i h5
        cases h1 : go par s F (.od (n + 1) (nxt par s i)) with
        | none => rw [h1] at h; cases h
        | some q =>
          rw [h1] at h
          obtain ⟨e | y, k⟩ := q
          · cases h
          · injection h with h
            injection h with h6 h7
            injection h6 with h6
            subst h6 h7
            obtain ⟨L, g1, g2⟩ := ih .od (n + 1) _ k y L' (by intro l h; cases h) (by intro l y h; cases h) hTk h1 hL'
            refine ⟨_, .cons g1, .odSg h40 ?_ h3 h4 h5 g2⟩
            rcases ho with h | h | h | h | h | h
            · exact absurd h h3
            · exact absurd h h4
            · exact absurd h h5
            · exact absurd h h40
            · exact .inl h
            · exact .inr h
    | br =>
      change go par s (F + 1) (.br n i) = _ at h
      rw [go] at h
      by_cases h40 : (tokAt par s i).text = ⟨#[40]⟩
      · rw [if_pos h40] at h
        cases h1 : go par s F (.op 0 (n + 1) (nxt par s i)) with
        | none => rw [h1] at h; cases h
        | some q =>
          rw [h1] at h
          obtain ⟨e | y, k⟩ := q
          · cases h
          · simp only at h
            split at h
            · rename_i h41
              injection h with h
              injection h with h6 h7
              injection h6 with h6
              subst h6 h7
              obtain ⟨L, g1, g2⟩ := ih (.op 0) (n + 1) _ k y (tokAt par s k :: L') (by intro m h; injection h with h; omega) (by intro l y h; cases h) hTk h1 (.cons hL')
              cases L' with
              | nil => exact absurd rfl hLn
              | cons v L' => exact ⟨_, .cons g1, .br h40 g2 h41⟩
            · cases h
      · rw [if_neg h40] at h; cases h
end
/-- The level of the token at hand. -/
def lvl : List Tk → Int
  | [] => 7
  | t :: _ => levOf t.text
theorem lvl_app (C : List Tk) {R R' : List Tk} (h : lvl R = lvl R') : lvl (C ++ R) = lvl (C ++ R') := by cases C with | nil => exact h | cons t C => rfl
/-- A token that says something. -/
def Says (t : Tk) : Prop := t.kind = 3 ∨ t.text ≠ ⟨#[]⟩
theorem says_lev {t : Tk} {l : Nat} (hl : l < 5) (h : levOf t.text = (l : Int)) : Says t := by
  refine .inr fun e => ?_
  rw [e] at h
  have : levOf ⟨#[]⟩ = 6 := by decide
  omega
/-- What is left may be other tokens of the same level. -/
theorem RL.turn {J : JK} {L L' : List Tk} {x : Ex} (h : RL J L x L') : (∀ l y, J = .lp l y → l < 5) → ∃ C, L = C ++ L' ∧ ((∀ l y, J ≠ .lp l y) → C ≠ []) ∧ (∀ t ∈ C, Says t) ∧ ∀ R, R ≠ [] → lvl R = lvl L' → RL J (C ++ R) x R := by
  induction h with
  | top h ih =>
    intro _
    obtain ⟨C, h1, h0, h2, h3⟩ := ih (by intro l y h; cases h)
    exact ⟨C, h1, fun _ => h0 (by intro l y h; cases h), h2, fun R hn hR => .top (h3 R hn hR)⟩
  | @opLp l L M L' x y hl _ _ ih1 ih2 =>
    intro _
    obtain ⟨C, h1, h0, h2, h3⟩ := ih1 (by intro l y h; cases h)
    obtain ⟨D, g1, _, g2, g3⟩ := ih2 (by intro l y h; injection h with h _; omega)
    subst h1 g1
    refine ⟨C ++ D, by simp, fun _ => by have := h0 (by intro l y h; cases h); simp [this], fun t ht => (List.mem_append.1 ht).elim (h2 t) (g2 t), fun R hn hR => ?_⟩
    rw [List.append_assoc]
    exact .opLp hl (h3 _ (by simp [hn]) (lvl_app D hR)) (g3 R hn hR)
  | @lpEnd l x t L hl =>
    intro _
    refine ⟨[], rfl, fun h => absurd rfl (h l x), by simp, fun R hn hR => ?_⟩
    cases R with
    | nil => exact absurd rfl hn
    | cons u R => exact .lpEnd (by change levOf u.text = levOf t.text at hR; rw [hR]; exact hl)
  | @lpRel x y t L L' hl h ih =>
    intro _
    obtain ⟨C, h1, _, h2, h3⟩ := ih (by intro l y h; cases h)
    subst h1
    exact ⟨t :: C, rfl, fun _ => by simp, fun u hu => (List.mem_cons.1 hu).elim (fun e => e ▸ says_lev (l := 2) (by omega) hl) (h2 u), fun R hn hR => .lpRel hl (h3 R hn hR)⟩
  | @lpMore l x y z t L M L' hl hv h2 h g ih1 ih2 =>
    intro _
    obtain ⟨C, h1, _, h4, h3⟩ := ih1 (by intro l y h; cases h)
    obtain ⟨D, g1, _, g2, g3⟩ := ih2 (by intro l y h; injection h with h _; omega)
    subst h1 g1
    refine ⟨t :: (C ++ D), by simp, fun _ => by simp, fun u hu => (List.mem_cons.1 hu).elim (fun e => e ▸ says_lev hl hv) (fun hu => (List.mem_append.1 hu).elim (h4 u) (g2 u)), fun R hn hR => ?_⟩
    rw [List.cons_append, List.append_assoc]
    exact .lpMore hl hv h2 (h3 _ (by simp [hn]) (lvl_app D hR)) (g3 R hn hR)
  | @odBr t L L' x h40 h ih =>
    intro _
    obtain ⟨C, h1, h0, h2, h3⟩ := ih (by intro l y h; cases h)
    cases C with
    | nil => exact absurd rfl (h0 (by intro l y h; cases h))
    | cons u C =>
      simp only [List.cons_append, List.cons.injEq] at h1
      obtain ⟨rfl, rfl⟩ := h1
      exact ⟨t :: C, rfl, fun _ => by simp, h2, fun R hn hR => .odBr h40 (h3 R hn hR)⟩
  | @odNum t u L h40 h3 =>
    intro _
    refine ⟨[t], rfl, fun _ => by simp, fun v hv => by rw [List.mem_singleton.1 hv]; exact .inl h3, fun R hn hR => ?_⟩
    cases R with
    | nil => exact absurd rfl hn
    | cons v R => exact .odNum h40 h3
  | @odRef t u L h40 h3 h4 =>
    intro _
    refine ⟨[t], rfl, fun _ => by simp, fun v hv => by rw [List.mem_singleton.1 hv]; exact .inr h4, fun R hn hR => ?_⟩
    cases R with
    | nil => exact absurd rfl hn
    | cons v R => exact .odRef h40 h3 h4
  | @odFn t L L' x h40 h3 h4 h ih =>
    intro _
    obtain ⟨C, h1, _, h2, h5⟩ := ih (by intro l y h; cases h)
    subst h1
    exact ⟨t :: C, rfl, fun _ => by simp, fun u hu => (List.mem_cons.1 hu).elim (fun e => e ▸ .inr h4) (h2 u), fun R hn hR => .odFn h40 h3 h4 (h5 R hn hR)⟩
  | @odSg t L L' x h40 hs h3 h4 h5 h ih =>
    intro _
    obtain ⟨C, h1, _, h2, h6⟩ := ih (by intro l y h; cases h)
    subst h1
    exact ⟨t :: C, rfl, fun _ => by simp, fun u hu => (List.mem_cons.1 hu).elim (fun e => e ▸ .inr (by rcases hs with hs | hs <;> rw [hs] <;> decide)) (h2 u), fun R hn hR => .odSg h40 hs h3 h4 h5 (h6 R hn hR)⟩
  | @br t u v L L' x h40 h h41 ih =>
    intro _
    obtain ⟨C, h1, _, h2, h6⟩ := ih (by intro l y h; cases h)
    subst h1
    refine ⟨t :: (C ++ [u]), by simp, fun _ => by simp, fun w hw => ?_, fun R hn hR => ?_⟩
    · rcases List.mem_cons.1 hw with rfl | hw
      · exact .inr (by rw [h40]; decide)
      · rcases List.mem_append.1 hw with hw | hw
        · exact h2 w hw
        · rw [List.mem_singleton.1 hw]
          exact .inr (by rw [h41]; decide)
    · cases R with
      | nil => exact absurd rfl hn
      | cons r R =>
        rw [List.cons_append, List.append_assoc]
        exact .br h40 (h6 (u :: r :: R) (by simp) rfl) h41
end Go.Proofs.YtaffplmfnincfaaGreatDoor
/- Texts and their tokens: mathematics. -/
namespace Go.Proofs.YtaffplmfnincfaaGreatDoor
set_option linter.unusedVariables false
/-! ### Tokens of lists of bytes -/
def bB (l : List UInt8) : ByteArray := ⟨l.toArray⟩
theorem bB_list (s : ByteArray) : bB s.data.toList = s := rfl
theorem bB_inj {a b : List UInt8} (h : bB a = bB b) : a = b := by
  have := congrArg (fun x : ByteArray => x.data.toList) h
  exact this
theorem bB_size (l : List UInt8) : (bB l).size = l.length := by show l.toArray.size = _; simp
theorem bB_drop (l : List UInt8) (k : Nat) : (bB l).extract k (bB l).size = bB (l.drop k) := (drop_ext (bB l) k).symm
theorem bB_take (l : List UInt8) (a b : Nat) (h : a ≤ b) : (bB l).extract a b = bB ((l.drop a).take (b - a)) := by
  refine ba_ext ?_
  show ((bB l).extract a b).data.toList = (l.drop a).take (b - a)
  rw [ByteArray.data_extract, Array.toList_extract, List.extract_eq_take_drop]
  rfl
def toI (c : UInt8) : Int := (c.toNat : Int)
def wd (c : UInt8) : Bool := isWrd (toI c)
def dg (c : UInt8) : Bool := isDig (toI c)
theorem runN_B (p : Int → Bool) (l : List UInt8) : runN p (bB l) = (l.takeWhile (fun c => p (toI c))).length := by
  unfold runN numsS
  rw [List.takeWhile_map, List.length_map]
  rfl
theorem take_run {α : Type} (p : α → Bool) : ∀ l : List α, l.take (l.takeWhile p).length = l.takeWhile p
  | [] => rfl
  | a :: l => by
    rw [List.takeWhile_cons]
    split
    · rw [List.length_cons, List.take_succ_cons, take_run p l]
    · rfl
def refL (r : List UInt8) : Tk := if refB (bB (r.takeWhile wd)) then ⟨4, 1 + (r.takeWhile wd).length, bB (r.takeWhile wd), zer⟩ else tk0
/-- A point with digits behind. -/
def tailN : List UInt8 → List UInt8
  | [] => []
  | c :: r => if c = 46 then (if (r.takeWhile dg).length = 0 then [] else 46 :: r.takeWhile dg) else []
def numT (l : List UInt8) : List UInt8 := l.takeWhile dg ++ tailN (l.dropWhile dg)
def sgnL (l : List UInt8) : Tk := match signL.find? (fun x => x.1.data.toList.isPrefixOf l) with
  | some x => ⟨2, x.1.size, x.1, zer⟩
  | none => tk0
section
variable (par : ByteArray → Option Vl)
def numL (l : List UInt8) : Tk := match par (bB (numT l)) with
  | some v => ⟨3, (numT l).length, ⟨#[]⟩, v⟩
  | none => tk0
def tkL : List UInt8 → Tk
  | [] => ⟨1, 0, ⟨#[]⟩, zer⟩
  | c :: r => if c = 36 then refL r else if dg c then numL par (c :: r) else if wd c then ofWord (bB ((c :: r).takeWhile wd)) else sgnL (c :: r)
theorem numSize_B (l : List UInt8) : numSize (bB l) = (numT l).length ∧ (bB l).extract 0 (numSize (bB l)) = bB (numT l) := by
  have h1 : runN isDig (bB l) = (l.takeWhile dg).length := runN_B isDig l
  have h2 : l.drop (l.takeWhile dg).length = l.dropWhile dg := (dropWhile_drop dg l).symm
  have hl : l = l.takeWhile dg ++ l.dropWhile dg := (List.takeWhile_append_dropWhile).symm
  unfold numSize
  simp only
  rw [h1, bB_drop, h2]
  unfold numT
  cases hr : l.dropWhile dg with
  | nil =>
    have : preS (bB []) ⟨#[46]⟩ = false := by decide
    rw [this, if_neg (by decide), tailN, List.append_nil]
    exact ⟨rfl, by rw [bB_take _ _ _ (Nat.zero_le _), List.drop_zero, Nat.sub_zero, take_run]⟩
  | cons c r =>
    have hp : preS (bB (c :: r)) ⟨#[46]⟩ = decide (c = 46) := by
      show ([46] : List UInt8).isPrefixOf (c :: r) = _
      simp only [List.isPrefixOf, Bool.and_true]
      by_cases e : c = 46
      · subst e; simp
      · simp [e, Ne.symm e]
    rw [hp, tailN]
    by_cases e : c = 46
    · subst e
      rw [if_pos (by simp), if_pos rfl]
      have hrr : runN isDig ((bB (46 :: r)).extract 1 (bB (46 :: r)).size) = (r.takeWhile dg).length := by
        rw [bB_drop, runN_B]; rfl
      rw [hrr]
      by_cases h0 : (r.takeWhile dg).length = 0
      · rw [if_pos h0, if_neg (by omega), List.append_nil]
        exact ⟨rfl, by rw [bB_take _ _ _ (Nat.zero_le _), List.drop_zero, Nat.sub_zero, take_run]⟩
      · rw [if_neg h0, if_pos (by omega)]
        refine ⟨by simp; omega, ?_⟩
        rw [bB_take _ _ _ (Nat.zero_le _), List.drop_zero, Nat.sub_zero]
        congr 1
        have h3 : l = l.takeWhile dg ++ 46 :: r := by rw [← hr]; exact hl
        generalize l.takeWhile dg = D at *
        subst h3
        rw [Nat.add_assoc, List.take_length_add_append, Nat.add_comm 1, List.take_succ_cons, take_run]
    · rw [if_neg (by simp [e]), if_neg e, List.append_nil]
      exact ⟨rfl, by rw [bB_take _ _ _ (Nat.zero_le _), List.drop_zero, Nat.sub_zero, take_run]⟩
theorem tk_list (l : List UInt8) : firstTok par (bB l) = tkL par l := by
  unfold firstTok
  rw [bB_size]
  cases l with
  | nil => rfl
  | cons c r =>
    rw [if_neg (by simp), tkL]
    have h0 : byteAt (bB (c :: r)) 0 = toI c := rfl
    rw [h0]
    have e36 : (toI c = 36) = (c = 36) := by
      refine propext ⟨fun h => UInt8.toNat_inj.1 ?_, fun h => by rw [h]; rfl⟩
      unfold toI at h
      show c.toNat = 36
      omega
    simp only [e36]
    by_cases h : c = 36
    · rw [if_pos h, if_pos h]
      unfold firstRef refL
      simp only
      rw [bB_drop, List.drop_succ_cons, List.drop_zero, runN_B]
      show (if refB ((bB (c :: r)).extract 1 (1 + (r.takeWhile wd).length)) then (_ : Tk) else _) = _
      have : (bB (c :: r)).extract 1 (1 + (r.takeWhile wd).length) = bB (r.takeWhile wd) := by
        rw [bB_take _ _ _ (by omega), List.drop_succ_cons, List.drop_zero, Nat.add_sub_cancel_left, take_run]
      show (if refB ((bB (c :: r)).extract 1 (1 + (r.takeWhile wd).length)) then (⟨4, 1 + ((bB (c :: r)).extract 1 (1 + (r.takeWhile wd).length)).size, (bB (c :: r)).extract 1 (1 + (r.takeWhile wd).length), zer⟩ : Tk) else tk0) = _
      rw [this, bB_size]
    · rw [if_neg h, if_neg h]
      show (if dg c = true then _ else _) = _
      by_cases hd : dg c = true
      · rw [if_pos hd, if_pos hd]
        unfold firstNum numL
        obtain ⟨a, b⟩ := numSize_B (c :: r)
        rw [b, a]
        cases par (bB (numT (c :: r))) <;> rfl
      · rw [if_neg hd, if_neg hd]
        show (if wd c = true then _ else _) = _
        by_cases hw : wd c = true
        · rw [if_pos hw, if_pos hw, runN_B, bB_take _ _ _ (Nat.zero_le _), List.drop_zero, Nat.sub_zero]
          show ofWord (bB (List.take ((c :: r).takeWhile wd).length (c :: r))) = _
          rw [take_run]
        · rw [if_neg hw, if_neg hw]
          rfl
end
/-! ### What comes behind -/
/-- A byte that goes on with no token. -/
def brk (c : UInt8) : Bool := !wd c && decide (c ≠ 46) && decide (c ≠ 61) && decide (c ≠ 124) && decide (c ≠ 38)
def StopB (v : List UInt8) : Prop := v = [] ∨ ∃ c r, v = c :: r ∧ brk c = true
theorem takeWhile_stop {α : Type} (p : α → Bool) (v : List α) (hv : v.takeWhile p = []) : ∀ u : List α, (u ++ v).takeWhile p = u.takeWhile p ∧ (u ++ v).dropWhile p = u.dropWhile p ++ v
  | [] => by
    refine ⟨hv, ?_⟩
    rw [dropWhile_drop]
    show v.drop (v.takeWhile p).length = v
    rw [hv]; rfl
  | a :: u => by
    have ih := takeWhile_stop p v hv u
    simp only [List.cons_append, List.takeWhile_cons, List.dropWhile_cons]
    split
    · exact ⟨by rw [ih.1], ih.2⟩
    · exact ⟨rfl, rfl⟩
theorem brk_wd {v : List UInt8} (h : StopB v) : v.takeWhile wd = [] := by
  rcases h with rfl | ⟨c, r, rfl, h⟩
  · rfl
  · simp only [brk, Bool.and_eq_true, Bool.not_eq_true'] at h
    rw [List.takeWhile_cons, h.1.1.1.1]
    rfl
theorem dg_wd {c : UInt8} (h : dg c = true) : wd c = true := by
  unfold dg at h; unfold wd isWrd; rw [h]; simp
theorem brk_dg {v : List UInt8} (h : StopB v) : v.takeWhile dg = [] := by
  rcases h with rfl | ⟨c, r, rfl, h⟩
  · rfl
  · simp only [brk, Bool.and_eq_true, Bool.not_eq_true'] at h
    rw [List.takeWhile_cons]
    split
    · rename_i hd; rw [dg_wd hd] at h; exact absurd h.1.1.1.1 (by decide)
    · rfl
theorem numT_app (u v : List UInt8) (hv : StopB v) : numT (u ++ v) = numT u := by
  obtain ⟨h1, h2⟩ := takeWhile_stop dg v (brk_dg hv) u
  unfold numT
  rw [h1, h2]
  congr 1
  cases hd : u.dropWhile dg with
  | nil =>
    rw [List.nil_append]
    rcases hv with rfl | ⟨c, r, rfl, h⟩
    · rfl
    · simp only [brk, Bool.and_eq_true, decide_eq_true_eq] at h
      show (if c = 46 then _ else []) = tailN []
      rw [if_neg h.1.1.1.2]
      rfl
  | cons c r =>
    rw [List.cons_append, tailN, tailN, (takeWhile_stop dg v (brk_dg hv) r).1]
theorem sgn_app (u v : List UInt8) (hu : u ≠ []) (hv : StopB v) : sgnL (u ++ v) = sgnL u := by
  have key : ∀ x ∈ signL, x.1.data.toList.isPrefixOf (u ++ v) = x.1.data.toList.isPrefixOf u := by
    have two : ∀ (a b : UInt8), brk b = false → ([a, b] : List UInt8).isPrefixOf (u ++ v) = ([a, b] : List UInt8).isPrefixOf u := fun a b hb => by
      cases u with
      | nil => exact absurd rfl hu
      | cons c u =>
        cases u with
        | cons d u => rfl
        | nil =>
          rcases hv with rfl | ⟨e, r, rfl, h⟩
          · rfl
          · simp only [List.cons_append, List.nil_append, List.isPrefixOf, Bool.and_true, Bool.and_false]
            have : (b == e) = false := by
              rw [beq_eq_false_iff_ne]
              rintro rfl
              rw [hb] at h; cases h
            rw [this, Bool.and_false]
    have one : ∀ (a : UInt8), ([a] : List UInt8).isPrefixOf (u ++ v) = ([a] : List UInt8).isPrefixOf u := fun a => by
      cases u with
      | nil => exact absurd rfl hu
      | cons c u => rfl
    intro x hx
    simp only [signL, List.mem_cons, List.not_mem_nil, or_false] at hx
    rcases hx with rfl | rfl | rfl | rfl | rfl | rfl | rfl | rfl | rfl | rfl | rfl | rfl | rfl | rfl | rfl
    · exact two 124 124 (by decide)
    · exact two 38 38 (by decide)
    · exact two 61 61 (by decide)
    · exact two 33 61 (by decide)
    · exact two 60 61 (by decide)
    · exact two 62 61 (by decide)
    all_goals exact one _
  have : ∀ l : List (ByteArray × Int), (∀ x ∈ l, x.1.data.toList.isPrefixOf (u ++ v) = x.1.data.toList.isPrefixOf u) → l.find? (fun x => x.1.data.toList.isPrefixOf (u ++ v)) = l.find? (fun x => x.1.data.toList.isPrefixOf u) := by
    intro l
    induction l with
    | nil => intro _; rfl
    | cons a l ih =>
      intro h
      rw [List.find?_cons, List.find?_cons, h a (by simp), ih (fun x hx => h x (by simp [hx]))]
  unfold sgnL
  rw [this signL key]
section
variable (par : ByteArray → Option Vl)
/-- What stops a token has no part of it. -/
theorem tk_app (u v : List UInt8) (hu : u ≠ []) (hv : StopB v) : tkL par (u ++ v) = tkL par u := by
  cases u with
  | nil => exact absurd rfl hu
  | cons c r =>
    rw [List.cons_append, tkL, tkL]
    unfold refL numL
    rw [(takeWhile_stop wd v (brk_wd hv) r).1]
    have h1 := numT_app (c :: r) v hv
    have h2 := sgn_app (c :: r) v hu hv
    have h3 := (takeWhile_stop wd v (brk_wd hv) (c :: r)).1
    rw [List.cons_append] at h1 h2 h3
    rw [h1, h2, h3]
def strip (l : List UInt8) : List UInt8 := l.dropWhile (· == 32)
/-- The tokens of a list of bytes, as far as the list of tokens goes. -/
inductive Ts : List UInt8 → List Tk → Prop
  | one (u : List UInt8) : Ts u [tkL par u]
  | cons {u : List UInt8} {L : List Tk} : Ts (strip (u.drop (tkL par u).size)) L → Ts u (tkL par u :: L)
variable {par}
theorem tokAt_L (s : ByteArray) (i : Nat) : tokAt par s i = tkL par (s.data.toList.drop i) := by
  rw [← tk_list]
  unfold tokAt
  rw [← drop_ext]
  rfl
end
end Go.Proofs.YtaffplmfnincfaaGreatDoor
/- A tree's text, and what is read of it: mathematics. -/
namespace Go.Proofs.YtaffplmfnincfaaGreatDoor
set_option linter.unusedVariables false
/-- A value as the grammar has it. -/
def txtE (v : Vl) : List UInt8 := if v = nul then [110, 117, 108, 108] else if v = nan then [110, 97, 110] else if v = pls then [105, 110, 102] else (prS v).data.toList
def isTwo (x : Ex) : Bool := decide (x.kind = 3) && decide (x.kids.length = 2)
def inBr (t : List UInt8) : List UInt8 := 40 :: (t ++ [41])
def opT (x : Ex) (t : List UInt8) : List UInt8 := if isTwo x then inBr t else t
def turnB (n : ByteArray) : Bool := decide (n = ⟨#[45]⟩) || decide (n = ⟨#[33]⟩)
mutual
/-- A tree's text. -/
def prL : Ex → List UInt8
  | .mk k n v l => if k = 1 then txtE v else if k = 2 then 36 :: n.data.toList else if k = 3 then prK n l else []
def prK (n : ByteArray) : List Ex → List UInt8
  | [] => []
  | a :: l => prK1 n a (prL a) l
def prK1 (n : ByteArray) (a : Ex) (ta : List UInt8) : List Ex → List UInt8
  | [] => if turnB n then n.data.toList ++ opT a ta else n.data.toList ++ inBr ta
  | b :: l => if l.length = 0 then opT a ta ++ 32 :: (n.data.toList ++ 32 :: opT b (prL b)) else []
end
def fnL : List ByteArray := [⟨#[97, 98, 115]⟩, ⟨#[102, 108, 111, 111, 114]⟩, ⟨#[105, 115, 95, 110, 117, 108, 108]⟩, ⟨#[105, 115, 95, 110, 97, 110]⟩, ⟨#[105, 115, 95, 105, 110, 102]⟩, ⟨#[105, 115, 95, 110, 117, 109, 98, 101, 114]⟩]
section
variable (par : ByteArray → Option Vl)
/-- A number that may stand there. -/
def WV (v : Vl) : Prop := v = nul ∨ v = nan ∨ v = pls ∨ ∃ c r, dg c = true ∧ numT (c :: r) = c :: r ∧ par (bB (c :: r)) = some v
/-- A tree of the grammar. -/
inductive WF : Ex → Prop
  | n {v : Vl} : WV par v → WF (exN v)
  | r {n : ByteArray} : refB n = true → WF (exR n)
  | t {n : ByteArray} {x : Ex} : turnB n = true → WF x → WF (exC n [x])
  | f {n : ByteArray} {x : Ex} : n ∈ fnL → WF x → WF (exC n [x])
  | o {n : ByteArray} {x y : Ex} (l : Nat) : l < 5 → levOf n = (l : Int) → WF x → WF y → WF (exC n [x, y])
variable {par}
theorem numT_numT (l : List UInt8) : numT (numT l) = numT l := by
  have hD : ∀ x ∈ l.takeWhile dg, dg x = true := takeWhile_all dg l
  have tw : ∀ (D R : List UInt8), (∀ x ∈ D, dg x = true) → R.takeWhile dg = [] → (D ++ R).takeWhile dg = D ∧ (D ++ R).dropWhile dg = R := by
    intro D R h hR
    induction D with
    | nil =>
      obtain ⟨a, b⟩ := takeWhile_stop dg R hR []
      exact ⟨hR, by rw [List.nil_append] at b ⊢; rw [b]; rfl⟩
    | cons a D ih =>
      obtain ⟨h1, h2⟩ := ih (fun x hx => h x (by simp [hx]))
      rw [List.cons_append, List.takeWhile_cons, List.dropWhile_cons, if_pos (h a (by simp)), if_pos (h a (by simp)), h1]
      exact ⟨rfl, h2⟩
  have fin : ∀ D : List UInt8, (∀ x ∈ D, dg x = true) → D.takeWhile dg = D := fun D h => by
    have := (tw D [] h rfl).1
    rwa [List.append_nil] at this
  unfold numT
  generalize l.takeWhile dg = D at *
  cases hr : l.dropWhile dg with
  | nil =>
    obtain ⟨a, b⟩ := tw D [] hD rfl
    rw [tailN, a, b, tailN]
  | cons c r =>
    rw [tailN]
    split
    · split
      · obtain ⟨a, b⟩ := tw D [] hD rfl
        rw [a, b, tailN]
      · rename_i h0
        obtain ⟨a, b⟩ := tw D (46 :: r.takeWhile dg) hD (by rw [List.takeWhile_cons, if_neg (by decide)])
        rw [a, b, tailN, if_pos rfl, fin _ (takeWhile_all dg r), if_neg h0]
    · obtain ⟨a, b⟩ := tw D [] hD rfl
      rw [a, b, tailN]
/-- What a token is. -/
structure TkOk (t : Tk) : Prop where
  num : t.kind = 3 → WV par t.v
  ref : t.kind = 4 → refB t.text = true
  fn : t.kind = 5 → t.text ∈ fnL
theorem numT_head {c : UInt8} {r : List UInt8} (h : dg c = true) : ∃ r', numT (c :: r) = c :: r' := by
  unfold numT
  rw [List.takeWhile_cons, if_pos h]
  exact ⟨_, rfl⟩
theorem tkL_ok (u : List UInt8) : TkOk (par := par) (tkL par u) := by
  cases u with
  | nil => exact ⟨fun h => (by cases h), fun h => (by cases h), fun h => (by cases h)⟩
  | cons c r =>
    rw [tkL]
    split
    · unfold refL
      split
      · rename_i h; exact ⟨fun h => (by cases h), fun _ => h, fun h => (by cases h)⟩
      · exact ⟨fun h => (by cases h), fun h => (by cases h), fun h => (by cases h)⟩
    · split
      · rename_i hd
        unfold numL
        split
        · rename_i v hv
          refine ⟨fun _ => .inr (.inr (.inr ?_)), fun h => (by cases h), fun h => (by cases h)⟩
          obtain ⟨r', h1⟩ := numT_head (r := r) hd
          have h2 := numT_numT (c :: r)
          rw [h1] at hv h2
          exact ⟨c, r', hd, h2, hv⟩
        · exact ⟨fun h => (by cases h), fun h => (by cases h), fun h => (by cases h)⟩
      · split
        · unfold ofWord
          split
          · exact ⟨fun _ => .inl rfl, fun h => (by cases h), fun h => (by cases h)⟩
          · split
            · exact ⟨fun _ => .inr (.inl rfl), fun h => (by cases h), fun h => (by cases h)⟩
            · split
              · exact ⟨fun _ => .inr (.inr (.inl rfl)), fun h => (by cases h), fun h => (by cases h)⟩
              · split
                · rename_i h; refine ⟨fun h => (by cases h), fun h => (by cases h), fun _ => ?_⟩
                  simp only [fnL, List.mem_cons, List.not_mem_nil, or_false]
                  exact h
                · exact ⟨fun h => (by cases h), fun h => (by cases h), fun h => (by cases h)⟩
        · unfold sgnL
          split
          · exact ⟨fun h => (by cases h), fun h => (by cases h), fun h => (by cases h)⟩
          · exact ⟨fun h => (by cases h), fun h => (by cases h), fun h => (by cases h)⟩
theorem TkSt.ok {s : ByteArray} {i : Nat} {L : List Tk} (h : TkSt par s i L) : ∀ t ∈ L, TkOk (par := par) t := by
  induction h with
  | one i => intro t ht; rw [List.mem_singleton.1 ht, tokAt_L]; exact tkL_ok _
  | cons h ih =>
    intro t ht
    rcases List.mem_cons.1 ht with rfl | ht
    · rw [tokAt_L]; exact tkL_ok _
    · exact ih t ht
/-- What is read is a tree of the grammar. -/
theorem RL.wf {J : JK} {L L' : List Tk} {x : Ex} (h : RL J L x L') : (∀ l y, J = .lp l y → l < 5 ∧ WF par y) → (∀ t ∈ L, TkOk (par := par) t) → WF par x ∧ ∀ t ∈ L', TkOk (par := par) t := by
  have hno : ∀ {J : JK}, (∀ l y, J ≠ .lp l y) → ∀ l y, J = .lp l y → l < 5 ∧ WF par y := fun h l y e => absurd e (h l y)
  induction h with
  | top h ih => intro _ ht; exact ih (hno (by intro l y h; cases h)) ht
  | @opLp l L M L' x y hl _ _ ih1 ih2 =>
    intro _ ht
    obtain ⟨h1, h2⟩ := ih1 (hno (by intro l y h; cases h)) ht
    exact ih2 (fun l y e => by injection e with e1 e2; subst e1 e2; exact ⟨hl, h1⟩) h2
  | @lpEnd l x t L hl => intro h ht; exact ⟨(h l x rfl).2, ht⟩
  | @lpRel x y t L L' hl h ih =>
    intro hJ ht
    obtain ⟨h1, h2⟩ := ih (hno (by intro l y h; cases h)) (fun u hu => ht u (by simp [hu]))
    exact ⟨.o 2 (by omega) hl (hJ 2 x rfl).2 h1, h2⟩
  | @lpMore l x y z t L M L' hl hv h2 h g ih1 ih2 =>
    intro hJ ht
    obtain ⟨h1, h3⟩ := ih1 (hno (by intro l y h; cases h)) (fun u hu => ht u (by simp [hu]))
    exact ih2 (fun m w e => by injection e with e1 e2; subst e1 e2; exact ⟨hl, .o l hl hv (hJ l x rfl).2 h1⟩) h3
  | @odBr t L L' x h40 h ih => intro _ ht; exact ih (hno (by intro l y h; cases h)) ht
  | @odNum t u L h40 h3 => intro _ ht; exact ⟨.n ((ht t (by simp)).num h3), fun v hv => ht v (by simp only [List.mem_cons] at hv ⊢; exact .inr hv)⟩
  | @odRef t u L h40 h3 h4 => intro _ ht; exact ⟨.r ((ht t (by simp)).ref h3), fun v hv => ht v (by simp only [List.mem_cons] at hv ⊢; exact .inr hv)⟩
  | @odFn t L L' x h40 h3 h4 h ih =>
    intro _ ht
    obtain ⟨h1, h2⟩ := ih (hno (by intro l y h; cases h)) (fun u hu => ht u (by simp [hu]))
    exact ⟨.f ((ht t (by simp)).fn h3) h1, h2⟩
  | @odSg t L L' x h40 hs h3 h4 h5 h ih =>
    intro _ ht
    obtain ⟨h1, h2⟩ := ih (hno (by intro l y h; cases h)) (fun u hu => ht u (by simp [hu]))
    refine ⟨.t ?_ h1, h2⟩
    unfold turnB
    rcases hs with hs | hs <;> rw [hs] <;> rfl
  | @br t u v L L' x h40 h h41 ih =>
    intro _ ht
    obtain ⟨h1, h2⟩ := ih (hno (by intro l y h; cases h)) (fun u hu => ht u (by simp [hu]))
    exact ⟨h1, fun w hw => h2 w (by simp only [List.mem_cons] at hw ⊢; exact .inr hw)⟩
/-! ### The text is read as the tree -/
/-- A text with its tokens, whatever stops it. -/
structure Str (u : List UInt8) (C : List Tk) : Prop where
  head : ∃ c r, u = c :: r ∧ c ≠ 32
  ts : ∀ v R, StopB v → Ts par (strip v) R → Ts par (u ++ v) (C ++ R)
/-- One token. -/
theorem Str.one {u : List UInt8} {t : Tk} (hu : ∃ c r, u = c :: r ∧ c ≠ 32) (ht : tkL par u = t) (hs : t.size = u.length) : Str (par := par) u [t] := by
  refine ⟨hu, fun v R hv hR => ?_⟩
  obtain ⟨c, r, rfl, _⟩ := hu
  have h1 := tk_app par (c :: r) v (by simp) hv
  rw [ht] at h1
  rw [List.singleton_append, ← h1]
  refine .cons ?_
  rw [h1, hs, List.drop_append_of_le_length (Nat.le_refl _), List.drop_length, List.nil_append]
  exact hR
def tk40 : Tk := ⟨2, 1, ⟨#[40]⟩, zer⟩
def tk41 : Tk := ⟨2, 1, ⟨#[41]⟩, zer⟩
end
end Go.Proofs.YtaffplmfnincfaaGreatDoor
/- A tree's text is read as the tree: mathematics. -/
namespace Go.Proofs.YtaffplmfnincfaaGreatDoor
set_option linter.unusedVariables false
section
variable {par : ByteArray → Option Vl}
/-- A tree, its text, its tokens. -/
structure Back (x : Ex) (u : List UInt8) (C : List Tk) : Prop where
  str : Str (par := par) u C
  h61 : ∀ d r, u = d :: r → d ≠ 61
  od : isTwo x = false → ∀ R, R ≠ [] → RL .od (C ++ R) x R
  op : ∀ R, R ≠ [] → lvl R = 6 → RL (.op 0) (C ++ R) x R
theorem wd_all {n : ByteArray} (h : refB n = true) : n.data.toList.takeWhile wd = n.data.toList ∧ n ≠ ⟨#[]⟩ ∧ n ≠ ⟨#[40]⟩ := by
  refine ⟨?_, fun e => by subst e; revert h; decide, fun e => by subst e; revert h; decide⟩
  unfold refB at h
  simp only [Bool.and_eq_true, decide_eq_true_eq] at h
  have h1 := h.2
  rw [← bB_list n, runN_B] at h1
  have h2 : (n.data.toList.takeWhile wd).length = n.data.toList.length := by rw [show n.data.toList.length = (bB n.data.toList).size from (bB_size _).symm]; exact h1
  exact (List.takeWhile_prefix wd).eq_of_length h2
theorem fn_str {n : ByteArray} (h : n ∈ fnL) : Str (par := par) n.data.toList [⟨5, n.size, n, zer⟩] ∧ turnB n = false ∧ n ≠ ⟨#[]⟩ ∧ n ≠ ⟨#[40]⟩ ∧ ∀ d r w, n.data.toList ++ w = d :: r → d ≠ 61 := by
  simp only [fnL, List.mem_cons, List.not_mem_nil, or_false] at h
  rcases h with rfl | rfl | rfl | rfl | rfl | rfl
  all_goals exact ⟨Str.one ⟨_, _, rfl, by decide⟩ rfl rfl, by decide, by decide, by decide, fun d r w e => by injection e with e _; rw [← e]; decide⟩
/-! ### What Parse tells -/
/-- The whole of a text is read so. -/
def Whole (s : ByteArray) (x : Ex) : Prop := ∃ j, Rd par s (.op 0 0 (skipB s 0)) (.ok x) j ∧ (tokAt par s j).kind = 1
def DeepT (s : ByteArray) : Prop := ∃ j, Rd par s (.op 0 0 (skipB s 0)) (.error 111) j
theorem tok_text (u : List UInt8) : (tkL par u).kind = 4 ∨ (tkL par u).kind = 5 → (tkL par u).text ≠ ⟨#[]⟩ := by
  have h := tkL_ok (par := par) u
  rintro (h1 | h1)
  · exact (wd_all (h.ref h1)).2.1
  · exact (fn_str (par := par) (h.fn h1)).2.2.1
theorem end_text (u : List UInt8) (h : (tkL par u).kind = 1) : tkL par u = ⟨1, 0, ⟨#[]⟩, zer⟩ ∧ u = [] := by
  cases u with
  | nil => exact ⟨rfl, rfl⟩
  | cons c r =>
    exfalso
    revert h
    rw [tkL]
    split
    · unfold refL; split <;> intro h <;> cases h
    · split
      · unfold numL; split <;> intro h <;> cases h
      · split
        · unfold ofWord; repeat' split
          all_goals intro h; cases h
        · unfold sgnL; split <;> intro h <;> cases h
/-- Its tokens. -/
theorem Whole.toks {s : ByteArray} {x : Ex} (h : Whole (par := par) s x) : ∃ C e, TkSt par s (skipB s 0) (C ++ [e]) ∧ e.kind = 1 ∧ lvl [e] = 6 ∧ (∀ t ∈ C, Says t) ∧ (∀ R, R ≠ [] → lvl R = 6 → RL (.op 0) (C ++ R) x R) ∧ WF par x := by
  obtain ⟨j, ⟨F, h1⟩, h2⟩ := h
  obtain ⟨L, h3, h4⟩ := rl_of F (.op 0) 0 _ j x [tokAt par s j] (by intro l h; injection h with h; omega) (by intro l y h; cases h) (fun k => by rw [tokAt_L]; exact tok_text _) h1 (.one j)
  obtain ⟨C, h5, _, h6, h7⟩ := h4.turn (by intro l y h; cases h)
  subst h5
  have he : lvl [tokAt par s j] = 6 := by
    rw [tokAt_L] at h2 ⊢
    rw [(end_text _ h2).1]
    decide
  exact ⟨C, _, h3, h2, he, h6, fun R hn hR => h7 R hn (hR.trans he.symm), (h4.wf (by intro l y h; cases h) h3.ok).1⟩
end
end Go.Proofs.YtaffplmfnincfaaGreatDoor
