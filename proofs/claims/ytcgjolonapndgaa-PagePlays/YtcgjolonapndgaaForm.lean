/- A page's bytes, and the page of bytes: the mathematics. -/
import Derived.Test.YtcgjolonapndgaaSums
namespace Go.Proofs.Ytcgjolonapndgaa
open Go.RowKit
/-- A number's n bytes, the highest first. -/
def be : Nat → Nat → List Int
  | 0, _ => []
  | k + 1, n => be k (n / 256) ++ [((n % 256 : Nat) : Int)]
theorem be_len (k n : Nat) : (be k n).length = k := by
  induction k generalizing n with
  | zero => rfl
  | succ k ih => simp [be, ih]
theorem be_bytes (k n : Nat) : IsBytes (be k n) := by
  induction k generalizing n with
  | zero => intro c h; cases h
  | succ k ih =>
    intro c h
    rw [be, List.mem_append] at h
    rcases h with h | h
    · exact ih _ c h
    · simp at h; omega
/-- Bytes, the highest first, as a number. -/
def ofBe (l : List Int) : Nat := l.foldl (fun n c => 256 * n + c.toNat) 0
theorem ofBe_snoc (l : List Int) (c : Int) : ofBe (l ++ [c]) = 256 * ofBe l + c.toNat := by simp [ofBe]
theorem ofBe_be (k n : Nat) : ofBe (be k n) = n % 256 ^ k := by
  induction k generalizing n with
  | zero => simp [be, ofBe]; omega
  | succ k ih =>
    rw [be, ofBe_snoc, ih, Int.toNat_natCast, Nat.pow_succ, Nat.mul_comm _ 256, Nat.mod_mul]; omega
theorem be_inj (k a b : Nat) (ha : a < 256 ^ k) (hb : b < 256 ^ k) (h : be k a = be k b) : a = b := by
  have h1 := congrArg ofBe h
  rwa [ofBe_be, ofBe_be, Nat.mod_eq_of_lt ha, Nat.mod_eq_of_lt hb] at h1
theorem be_ofBe (l : List Int) (h : IsBytes l) : be l.length (ofBe l) = l := by
  induction hn : l.length generalizing l with
  | zero => rw [List.length_eq_zero_iff.1 hn]; rfl
  | succ k ih =>
    obtain ⟨r, c, rfl⟩ : ∃ r c, l = r ++ [c] := ⟨l.dropLast, l.getLast (by intro e; subst e; simp at hn), (List.dropLast_concat_getLast _).symm⟩
    have hc := h c (by simp)
    have hr : IsBytes r := fun z hz => h z (by simp [hz])
    have hl : r.length = k := by simpa using hn
    rw [be, ofBe_snoc]
    rw [show (256 * ofBe r + c.toNat) / 256 = ofBe r by omega, ih r hr hl]
    congr 2
    omega
theorem ofBe_lt (l : List Int) (h : IsBytes l) : ofBe l < 256 ^ l.length := by
  have h1 := ofBe_be l.length (ofBe l)
  rw [be_ofBe l h] at h1
  rw [h1]
  exact Nat.mod_lt _ (Nat.pow_pos (by omega))

def zs (n : Nat) : List Int := List.replicate n 0
/-- What stands ahead of the mark. -/
def laid (size : Nat) (kind : Int) (id : Nat) (load : List Int) : List Int := kind :: (be 4 id ++ be 2 load.length ++ load ++ zs (size - 11 - load.length))
/-- The mark. -/
def mk (l : List Int) : List Int := be 4 (mfold 4294967295 l)
/-- A page's bytes. -/
def pageB (size : Nat) (kind : Int) (id : Nat) (load : List Int) : List Int := laid size kind id load ++ mk (laid size kind id load)
theorem laid_len (size : Nat) (kind : Int) (id : Nat) (load : List Int) (h : load.length + 11 ≤ size) : (laid size kind id load).length = size - 4 := by
  simp [laid, be_len, zs]; omega
theorem mk_len (l : List Int) : (mk l).length = 4 := be_len _ _
theorem pageB_len (size : Nat) (kind : Int) (id : Nat) (load : List Int) (h : load.length + 11 ≤ size) : (pageB size kind id load).length = size := by
  rw [pageB, List.length_append, laid_len _ _ _ _ h, mk_len]; omega
theorem isBytes_append {a b : List Int} (ha : IsBytes a) (hb : IsBytes b) : IsBytes (a ++ b) := by
  intro c h
  rcases List.mem_append.1 h with h | h
  · exact ha c h
  · exact hb c h
theorem zs_bytes (n : Nat) : IsBytes (zs n) := by
  intro c h
  rw [List.eq_of_mem_replicate h]; omega
theorem laid_bytes (size : Nat) (kind : Int) (id : Nat) (load : List Int) (hk : 0 ≤ kind ∧ kind < 256) (hl : IsBytes load) : IsBytes (laid size kind id load) := by
  intro c h
  rw [laid, List.mem_cons] at h
  rcases h with rfl | h
  · exact hk
  · exact isBytes_append (isBytes_append (isBytes_append (be_bytes _ _) (be_bytes _ _)) hl) (zs_bytes _) c h
theorem pageB_bytes (size : Nat) (kind : Int) (id : Nat) (load : List Int) (hk : 0 ≤ kind ∧ kind < 256) (hl : IsBytes load) : IsBytes (pageB size kind id load) :=
  isBytes_append (laid_bytes _ _ _ _ hk hl) (be_bytes _ _)

/-- The parts of bytes, taken for a page's. -/
def kindOf (bs : List Int) : Int := bs.getD 0 0
def idOf (bs : List Int) : Nat := ofBe ((bs.drop 1).take 4)
def lenOf (bs : List Int) : Nat := ofBe ((bs.drop 5).take 2)
def loadOf (bs : List Int) : List Int := (bs.drop 7).take (lenOf bs)
/-- Are bytes a page's? -/
def isPage (bs : List Int) : Bool := decide (64 ≤ bs.length ∧ bs.length ≤ 8192 ∧ lenOf bs + 11 ≤ bs.length ∧ kindOf bs ≠ 0 ∧ pageB bs.length (kindOf bs) (idOf bs) (loadOf bs) = bs)

section
variable (size : Nat) (kind : Int) (id : Nat) (load : List Int)
theorem kindOf_page : kindOf (pageB size kind id load) = kind := rfl
theorem page_split : pageB size kind id load = [kind] ++ (be 4 id ++ (be 2 load.length ++ (load ++ (zs (size - 11 - load.length) ++ mk (laid size kind id load))))) := by
  simp [pageB, laid]
theorem idOf_page (hi : id < 2 ^ 32) : idOf (pageB size kind id load) = id := by
  unfold idOf
  rw [page_split, List.drop_left' (by rfl), List.take_left' (be_len _ _), ofBe_be]
  exact Nat.mod_eq_of_lt hi
theorem lenOf_page (hl : load.length < 65536) : lenOf (pageB size kind id load) = load.length := by
  unfold lenOf
  rw [page_split, ← List.append_assoc, List.drop_left' (by simp [be_len]), List.take_left' (be_len _ _), ofBe_be]
  exact Nat.mod_eq_of_lt hl
theorem loadOf_page (hl : load.length < 65536) : loadOf (pageB size kind id load) = load := by
  unfold loadOf
  rw [lenOf_page _ _ _ _ hl, page_split, ← List.append_assoc, ← List.append_assoc, List.drop_left' (by simp [be_len]), List.take_left' rfl]
theorem isPage_page (h1 : 64 ≤ size) (h2 : size ≤ 8192) (hk : kind ≠ 0) (hi : id < 2 ^ 32) (hl : load.length + 11 ≤ size) : isPage (pageB size kind id load) = true := by
  have h := pageB_len size kind id load hl
  simp only [isPage, decide_eq_true_eq]
  rw [h, kindOf_page, idOf_page _ _ _ _ hi, lenOf_page _ _ _ _ (by omega), loadOf_page _ _ _ _ (by omega)]
  exact ⟨h1, h2, hl, hk, rfl⟩
end
/-- Unlike pages are unlike bytes. -/
theorem page_inj {size : Nat} {k1 k2 : Int} {i1 i2 : Nat} {l1 l2 : List Int} (hi1 : i1 < 2 ^ 32) (hi2 : i2 < 2 ^ 32) (hl1 : l1.length < 65536) (hl2 : l2.length < 65536) : pageB size k1 i1 l1 = pageB size k2 i2 l2 ↔ k1 = k2 ∧ i1 = i2 ∧ l1 = l2 := by
  constructor
  · intro h
    refine ⟨by rw [← kindOf_page size k1 i1 l1, h, kindOf_page], ?_, ?_⟩
    · rw [← idOf_page size k1 i1 l1 hi1, h, idOf_page _ _ _ _ hi2]
    · rw [← loadOf_page size k1 i1 l1 hl1, h, loadOf_page _ _ _ _ hl2]
  · rintro ⟨rfl, rfl, rfl⟩; rfl
/-- Bytes of a page with another one's mark are none. -/
theorem not_page (p q : List Int) (hp : IsBytes p) (hq : IsBytes q) (hne : mfold 4294967295 q ≠ mfold 4294967295 p) : isPage (q ++ mk p) = false := by
  have hq4 := mfold_lt q hq 4294967295 (by decide)
  have hp4 := mfold_lt p hp 4294967295 (by decide)
  by_cases h : isPage (q ++ mk p) = true
  · exfalso
    simp only [isPage, decide_eq_true_eq] at h
    obtain ⟨h1, _, h3, _, h5⟩ := h
    generalize kindOf (q ++ mk p) = k at h5
    generalize idOf (q ++ mk p) = i at h5
    have hll : (loadOf (q ++ mk p)).length ≤ lenOf (q ++ mk p) := by unfold loadOf; exact List.length_take_le _ _
    generalize loadOf (q ++ mk p) = l at h5 hll
    generalize lenOf (q ++ mk p) = n at h3 hll
    have hlen : (q ++ mk p).length = q.length + 4 := by rw [List.length_append, mk_len]
    rw [hlen] at h5 h3
    unfold pageB at h5
    have hL := laid_len (q.length + 4) k i l (by omega)
    have := List.append_inj h5 (by rw [hL]; omega)
    obtain ⟨e1, e2⟩ := this
    rw [e1] at e2
    exact hne (be_inj 4 _ _ (by omega) (by omega) e2)
  · simpa using h
end Go.Proofs.Ytcgjolonapndgaa
