/- What nodeCells reads; its contract. -/
import Derived.Test.YtdobleekjiehdaaGreatNdC
namespace Go.Proofs.YtdobleekjiehdaaGreat
set_option linter.unusedVariables false
open Go.RowKit
theorem rdN_pos (bs : List Int) : ∀ (f : Bool) (n i : Nat), (rdN f n i bs).2.2 = 0 → i < (rdN f n i bs).2.1 := by
  induction bs with
  | nil => intro f n i h; simp [rdN] at h
  | cons c r ih =>
    intro f n i h
    unfold rdN at h ⊢
    split
    · rename_i h1; rw [if_pos h1] at h; simp at h
    · rename_i h1
      rw [if_neg h1] at h
      split
      · show i < i + 1; omega
      · rename_i h2
        rw [if_neg h2] at h
        split
        · rename_i h3; rw [if_pos h3] at h; simp at h
        · rename_i h3
          rw [if_neg h3] at h
          have := ih false _ (i + 1) h
          omega
theorem At.text_err (s : At) (most : Nat) (bs : List Int) (h : (s.text most bs).2.err = 0) : s.err = 0 ∧ (rdT most (bs.drop s.pl)).2.2 = 0 := by
  unfold At.text nextE at h
  simp only at h
  by_cases he : s.err = 0
  · rw [if_pos he] at h; exact ⟨he, h⟩
  · rw [if_neg he] at h; exact absurd h he
theorem At.num_err (s : At) (bs : List Int) (h : (s.num bs).2.err = 0) : s.err = 0 ∧ (rdN true 0 0 (bs.drop s.pl)).2.2 = 0 := by
  unfold At.num nextE at h
  simp only at h
  by_cases he : s.err = 0
  · rw [if_pos he] at h; exact ⟨he, h⟩
  · rw [if_neg he] at h; exact absurd h he
theorem At.num_pl (s : At) (bs : List Int) (h : (s.num bs).2.err = 0) : s.pl < (s.num bs).2.pl := by
  obtain ⟨h1, h2⟩ := s.num_err bs h
  have := rdN_pos (bs.drop s.pl) true 0 0 h2
  unfold At.num nextP
  simp only
  rw [if_pos h1, if_pos h2]
  omega
theorem At.text_pl (s : At) (most : Nat) (bs : List Int) (h : (s.text most bs).2.err = 0) : s.pl < (s.text most bs).2.pl := by
  obtain ⟨h1, h2⟩ := s.text_err most bs h
  unfold At.text nextP
  simp only
  rw [if_pos h1, if_pos h2]
  unfold rdT at h2 ⊢
  split
  · rename_i h3
    rw [if_pos h3] at h2
    have := rdN_pos (bs.drop s.pl) true 0 0 h3
    split
    · rename_i h4; rw [if_pos h4] at h2; simp at h2
    · rename_i h4
      rw [if_neg h4] at h2
      split
      · rename_i h5; rw [if_pos h5] at h2; simp at h2
      · simp only; omega
  · rename_i h3; rw [if_neg h3] at h2; exact absurd h2 h3
theorem At.cell_pl (s : At) (bs : List Int) (h : s.good bs = true) : s.pl < (s.cell bs).2.pl := by
  unfold At.good at h
  obtain ⟨h, _⟩ := of_decide_eq_true h
  unfold At.cell at h ⊢
  split
  · rename_i h1
    rw [if_pos h1] at h
    have a := At.text_pl _ _ _ h
    have b := (At.text_err _ _ _ h).1
    have c := At.num_pl _ _ b
    have d := (At.num_err _ _ b).1
    have e := At.text_pl _ _ _ d
    simp only
    omega
  · rename_i h1
    rw [if_neg h1] at h
    have a := At.num_pl _ _ h
    have b := (At.num_err _ _ h).1
    have c := At.num_pl _ _ b
    have d := (At.num_err _ _ b).1
    have e := At.text_pl _ _ _ d
    simp only
    omega
/-- All cells from there on. -/
def rdCells (bs : List Int) : Nat → At → Option (List Cl)
  | 0, _ => none
  | n + 1, s => if bs.length ≤ s.pl then some [] else if s.good bs then (rdCells bs n (s.cell bs).2).map ((s.cell bs).1 :: ·) else none
/-- The cells of a node's bytes, if they are one of that level. -/
def nodeC (level : Nat) (bs : List Int) : Option (List Cl) := if ((⟨0, 0⟩ : At).num bs).1 = level then rdCells bs (bs.length + 1) ((⟨0, 0⟩ : At).num bs).2 else none
section
variable {w W : World} {lo g : Nat} {bs : List Int} {s : At}
theorem St.drewN (hs : St w lo g bs s) (m : Nat) : St (w.drewN m) lo g bs s := hs.grow (below_draw w m)
theorem St.more (hs : St w lo g bs s) (hlen : bs.length ≤ 1000000000) : Calls Tryz.prog 82 #[.pointer (some ⟨g, 0, none⟩)] w fun e w' => e = .returned (.int .i64 ((bs.length : Int) - s.pl)) ∧ ∃ m, w' = w.drewN m := more_any lo g bs s.pl s.err w hs hlen
theorem St.pl_le (hs : St w lo g bs s) : s.pl ≤ bs.length := by obtain ⟨a, n, c, _, _, _, h⟩ := hs; exact h
theorem OwnC.kept {base : Nat} {v : Value} {l : List Cl} (h : OwnC w base v l) (hg : w.grownBy W (some g)) (hb : g < base) : OwnC W base v l :=
  World.ownsRow.kept h hg (by
    cases hv : v.ownBlock with
    | none => exact .inl rfl
    | some k => exact .inr (fun e => by have := (h.lt k hv).1; cases e; omega))
theorem OwnC.drewN {base : Nat} {v : Value} {l : List Cl} (h : OwnC w base v l) (m : Nat) : OwnC (w.drewN m) base v l := World.ownsRow.kept (row := none) h ⟨rfl, rfl, rfl, Nat.le_refl _, fun _ _ _ => rfl⟩ (by cases v.ownBlock <;> simp)
theorem St.below {B : Nat} (hs : St w lo g bs s) (hb : Below B w W) (hB : g < B) : St W lo g bs s := by
  obtain ⟨a, n, c, hg, hbt, hk, hpl⟩ := hs
  exact ⟨a, n, c, (hb.block g hB).trans hg, hbt.below hb (fun k h => by have := (hk.2 k h).2; omega), hk, hpl⟩
/-- Where a strip stands, read off the world. -/
def plOf (g : Nat) (W : World) : Nat := match W.cell? ⟨g, 1, none⟩ with | some (.int _ n) => n.toNat | _ => 0
theorem St.plOf (hs : St w lo g bs s) : plOf g w = s.pl := by
  obtain ⟨a, n, c, hg, _⟩ := hs
  have := (strip_cells hg 1 _ rfl).1
  unfold Go.Proofs.YtdobleekjiehdaaGreat.plOf
  rw [this]
  simp
/-- What nodeCells answers. -/
def NodeQ (w : World) (R : Option (List Cl)) (e : Ending) (w' : World) : Prop :=
  (∃ v, e = .returned (.tuple #[v, .bool R.isSome]) ∧ (match R with | some l => OwnC w' w.heap.size v l | none => v = .slice none 0 0)) ∧ Below w.heap.size w w'
set_option maxRecDepth 100000 in
set_option maxHeartbeats 4000000 in
theorem nodeCells_any (level : Nat) (hlv : level < 9223372036854775808) (v : Value) (hb : Bts w v bs) (hby : IsBytes bs) (hlen : bs.length ≤ 1000000) :
    Calls Tryz.prog 68 #[.int .i64 level, v] w fun e w' => NodeQ w (nodeC level bs) e w' := by
  have hu := u64_of level hlv
  have hun := unroll_any bs v w (by omega) hb
  obtain ⟨L, s1, hL⟩ : ∃ L s1, (⟨0, 0⟩ : At).num bs = (L, s1) := ⟨_, _, rfl⟩
  have hnum : ∀ W g, St W w.heap.size g bs ⟨0, 0⟩ → Calls Tryz.prog 81 #[.pointer (some ⟨g, 0, none⟩)] W fun e w' => e = .returned (.int .u64 (L : Nat)) ∧ St w' w.heap.size g bs s1 ∧ W.grownBy w' (some g) := fun W g hW => by
    have := hW.num_any hby (by omega)
    rw [hL] at this
    exact this
  have hnc : nodeC level bs = if L = level then rdCells bs (bs.length + 1) s1 else none := by unfold nodeC; rw [hL]
  by_cases hll : L = level
  · rw [hnc, if_pos hll]
    have hbe : ((L : Int) != (level : Int)) = false := by simp [hll]
    clear hll hnc
    obtain ⟨R, hR⟩ : ∃ R, rdCells bs (bs.length + 1) s1 = R := ⟨_, rfl⟩
    rw [hR]
    replace hR : Hid _ := hR
    replace hby : Hid _ := hby
    replace hL : Hid _ := hL
    replace hnum : Hid _ := hnum
    go_enter Tryz.func68, Tryz.ntmps68
    go_wp2_with (first | (go_at_call 80; refine hun.mono ?_; rintro e w1 ⟨g, rfl, hg1, hs1, hb1⟩) | (go_at_call 81; refine Calls.mono (hnum.out _ _ hs1) ?_; rintro e w2 ⟨rfl, hs2, hg2⟩))
    have hgl := hs2.lt
    have hb2 : Below w.heap.size w w2 := hb1.grown hg2 hb1.size (fun k hk => by cases hk; exact hg1)
    go_loopw [7] (fun u wr => ∃ (f : Nat) (done : List Cl) (s' : At), OwnC wr (g + 1) u done ∧ St wr w.heap.size g bs s' ∧ Below w.heap.size w wr ∧ Hid (R = (rdCells bs f s').map (done ++ ·)) ∧ bs.length - s'.pl < f ∧ done.length ≤ s'.pl) (fun _ wr => bs.length - plOf g wr)
    case atStart => exact ⟨bs.length + 1, [], s1, World.ownsRow_nil _ _ _ _, hs2, hb2, (by show _ = _; rw [← hR.out]; simp), by omega, by simp⟩
    case round =>
      clear hs2 hb2 hun hnum
      obtain ⟨f, done, s', ho, hs, hbw, hRf, hf, hdl⟩ := hrel
      have hpl := hs.pl_le
      have hgl2 := hs.lt
      have hmo := hs.more (by omega)
      obtain ⟨f', rfl⟩ : ∃ f', f = f' + 1 := ⟨f - 1, by omega⟩
      have hRf' := hRf.out
      rw [rdCells] at hRf'
      by_cases hm : s'.pl < bs.length
      · rw [if_neg (by omega)] at hRf'
        have hmi : (0 : Int) < (bs.length : Int) - (s'.pl : Int) := by omega
        cases hgd : s'.good bs with
        | true =>
          rw [hgd, if_pos rfl] at hRf'
          have hpl2 := s'.cell_pl bs hgd
          have hrc : ∀ W, St W w.heap.size g bs s' → Calls Tryz.prog 83 #[.pointer (some ⟨g, 0, none⟩)] W fun e w' => e = .returned (.tuple #[.agg #[.string (s'.cell bs).1.key, .string (s'.cell bs).1.val, .int .i64 (s'.cell bs).1.page, .int .i64 (s'.cell bs).1.count], .bool true]) ∧ St w' w.heap.size g bs (s'.cell bs).2 ∧ W.grownBy w' (some g) := fun W hW => by
            have := readCell_any hW hby.out (by omega)
            rw [hgd, if_pos rfl] at this
            exact this
          generalize (s'.cell bs).1 = c at *
          generalize (s'.cell bs).2 = s3 at *
          replace hRf' : Hid _ := hRf'
          replace hrc : Hid _ := hrc
          replace hRf : Hid _ := hRf
          have hfin : ∀ m w3, St w3 w.heap.size g bs s3 → (wr.drewN m).grownBy w3 (some g) → OwnC w3 (g + 1) (.slice none 0 0) [] ∧ Below w.heap.size w w3 := fun m w3 _ hg3 => ⟨World.ownsRow_nil _ _ _ _, (below_drewN hbw m).grown hg3 hbw.size (fun k hk => by cases hk; omega)⟩
          go_wp2_with (first
            | (go_at_call 82; refine hmo.mono ?_; rintro e w3 ⟨rfl, m3, rfl⟩; clear hmo)
            | (go_at_call 83; refine Calls.mono (hrc.out _ (hs.drewN m3)) ?_; rintro e w4 ⟨rfl, hs4, hg4⟩)
            | (at_builtin; refine appC rfl (.tmp 27) (.tmp 29) rfl (g + 1) _ done c (w4.heap.size + 1) (by simp) rfl rfl (((ho.drewN m3).kept hg4 (by omega)).alloc _) (by have := hs4.lt; simp; omega) (by omega) ?_; intro v5 w5 ho5 hb5))
          have hgl4 := hs4.lt
          have hb4 := (hfin m3 w4 hs4 hg4).2
          have hb4' := hb4.alloc hb4.size (.cells #[.string c.key, .string c.val, .int .i64 c.page, .int .i64 c.count] 90)
          have hs4' := hs4.grow ((Below.refl _ w4).alloc (Nat.le_refl _) (.cells #[.string c.key, .string c.val, .int .i64 c.page, .int .i64 c.count] 90))
          refine ⟨⟨f', done ++ [c], s3, ho5, hs4'.below hb5 (by omega), hb4'.trans (hb5.mono (by omega)), ?_, by omega, by simp; omega⟩, ?_⟩
          · show _ = _
            rw [hRf'.out]
            cases rdCells bs f' s3 <;> simp
          · rw [(hs4'.below hb5 (by omega)).plOf, hs.plOf]; omega
        | false =>
          rw [hgd, if_neg (by simp)] at hRf'
          have hrc : ∀ W, St W w.heap.size g bs s' → Calls Tryz.prog 83 #[.pointer (some ⟨g, 0, none⟩)] W fun e w' => e = .returned (.tuple #[.agg #[.string ⟨#[]⟩, .string ⟨#[]⟩, .int .i64 0, .int .i64 0], .bool false]) ∧ St w' w.heap.size g bs (s'.cell bs).2 ∧ W.grownBy w' (some g) := fun W hW => by
            have := readCell_any hW hby.out (by omega)
            rw [hgd, if_neg (by simp)] at this
            exact this
          replace hRf' : Hid _ := hRf'
          replace hrc : Hid _ := hrc
          replace hRf : Hid _ := hRf
          go_wp2_with (first
            | (go_at_call 82; refine hmo.mono ?_; rintro e w3 ⟨rfl, m3, rfl⟩; clear hmo)
            | (go_at_call 83; refine Calls.mono (hrc.out _ (hs.drewN m3)) ?_; rintro e w4 ⟨rfl, hs4, hg4⟩))
          go_ret2
          have hRn : R = none := by rw [hRf'.out]; rfl
          have hb4 := (below_drewN hbw m3).grown hg4 hbw.size (fun k hk => by cases hk; omega)
          refine ⟨⟨.slice none 0 0, by rw [hRn]; rfl, by rw [hRn]⟩, hb4.alloc hb4.size _⟩
      · rw [if_pos (by omega)] at hRf'
        have hmi : decide ((0 : Int) < (bs.length : Int) - (s'.pl : Int)) = false := by simp; omega
        replace hRf' : Hid _ := hRf'
        replace hRf : Hid _ := hRf
        go_wp2_with (first | (go_at_call 82; refine hmo.mono ?_; rintro e w3 ⟨rfl, m3, rfl⟩; clear hmo))
        go_ret2
        have hRn : R = some done := by rw [hRf'.out]; simp
        refine ⟨⟨_, by rw [hRn]; rfl, ?_⟩, below_drewN hbw m3⟩
        rw [hRn]
        exact (ho.drewN m3).wide (by omega)
  · have hnn : nodeC level bs = none := by rw [hnc, if_neg hll]
    rw [hnn]
    have hbe : ((L : Int) != (level : Int)) = true := by simp; omega
    clear hll hnc hnn
    replace hby : Hid _ := hby
    replace hL : Hid _ := hL
    replace hnum : Hid _ := hnum
    go_enter Tryz.func68, Tryz.ntmps68
    go_wp2_with (first | (go_at_call 80; refine hun.mono ?_; rintro e w1 ⟨g, rfl, hg1, hs1, hb1⟩) | (go_at_call 81; refine Calls.mono (hnum.out _ _ hs1) ?_; rintro e w2 ⟨rfl, hs2, hg2⟩))
    go_ret2
    exact ⟨⟨_, rfl, rfl⟩, hb1.grown hg2 hb1.size (fun k hk => by cases hk; exact hg1)⟩
end
end Go.Proofs.YtdobleekjiehdaaGreat
