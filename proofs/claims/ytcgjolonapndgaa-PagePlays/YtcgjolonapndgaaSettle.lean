/- The contract of settle. -/
import Derived.Test.YtcgjolonapndgaaLay
namespace Go.Proofs.Ytcgjolonapndgaa
open Go.RowKit Go.Maps Go.ChangeMaps Go.MapKept

theorem slR_at {s : Nat} {v : Value} {y : DataW Unit × List MemPlace} (h : slR s v = some y) : ∃ o, v = slAt s o := by
  obtain ⟨o, e⟩ := slR_shape h
  cases o with
  | none => exact ⟨none, e⟩
  | some g => exact ⟨some g, e⟩
/-- A range over a map of the disk: its next step. -/
theorem next_disk {w : World} {ops : Array Oper} {rest : List Oper} {o : Oper} {a : Act} {Q : Exit → Act → World → Prop} (hg : o.guard = none) (it : Operand) (hop : o.op = Op.next it false) (s b r n : Nat) (D : DataW Unit) (gf : Int → Option Nat)
    (hD : ∀ k, Maps.has D (.int .i64 k) = (gf k).isSome ∧ ∀ x, gf k = some x → ∀ z, D.atKey (.int .i64 k) z = blkD x) (left : Lit → Bool) (cnt : Nat)
    (hit : a.eval it = .pointer (some ⟨r, 0, none⟩)) (h : w.ranges Try.prog 3 (slR s) b r n D left cnt)
    (hDone : (∀ k : Int, left (.int .i64 k) = false) → wpList Try.prog ops Q rest (a.put o.dst (.tuple #[.bool false])) w)
    (hMore : ∀ (x : Int) (g : Nat) (w' : World) (cnt' : Nat), -9223372036854775808 ≤ x → x ≤ 9223372036854775807 → gf x = some g → left (.int .i64 x) = true → w'.ranges Try.prog 3 (slR s) b r n D (fun z => left z && !z.sameKey (.int .i64 x)) cnt' → cnt' < cnt →
      w.grownBy w' (some r) → w'.heap.size = w.heap.size → (Instr.entry (.pointer (some ⟨r, 0, none⟩))).run Try.prog w' = .ok (.tuple #[.int .i64 x, slV s g]) w' → wpList Try.prog ops Q rest (a.put o.dst (.tuple #[.bool true, .int .i64 x, slV s g])) w') :
    wpList Try.prog ops Q (o :: rest) a w := by
  refine wpList_next_ranges w hg it hop 3 law (slR s) (Value.int .i64) (slAt s)
    (fun key kl hkey => by obtain ⟨x, rfl, _⟩ := Maps.keyOf_int_inv Try.underlying3 hkey; exact ⟨x, rfl⟩) (fun v y hv => slR_at hv) b r n D left cnt hit h (fun _ hl => hDone fun k => hl _) ?_
  intro x c kl y w' cnt' hkey hlk hv hat hrg hlt hgr hsz hen
  obtain ⟨x', ex, rfl, hwx⟩ := Maps.keyOf_int_inv Try.underlying3 hkey
  cases ex
  have hh : (gf x).isSome = true := by rw [← (hD x).1]; exact has_true_of_atKey hat
  obtain ⟨g, hgx⟩ := Option.isSome_iff_exists.1 hh
  have e1 := (hD x).2 g hgx .nil
  rw [hat] at e1
  have hsh : slAt s c = slV s g := by
    obtain ⟨y1, y2⟩ := y
    simp only at e1
    subst e1
    exact slR_blk hv
  rw [hsh] at hen ⊢
  have hb : -9223372036854775808 ≤ x ∧ x ≤ 9223372036854775807 := by
    simp only [Lit.wf, Bool.and_eq_true, decide_eq_true_eq] at hwx
    exact hwx
  exact hMore x g w' cnt' hb.1 hb.2 hgx hlk hrg hlt hgr hsz hen

theorem ranges_keep {w w' : World} {s b r n cnt : Nat} {D : DataW Unit} {left : Lit → Bool} (h : w.ranges Try.prog 3 (slR s) b r n D left cnt) (e1 : w'.heap[b]? = w.heap[b]?) (e2 : w'.heap[r]? = w.heap[r]?) : w'.ranges Try.prog 3 (slR s) b r n D left cnt := by
  obtain ⟨es, clock, since, seen, c0, hb, F, hs, hD, hr, rest⟩ := h
  exact ⟨es, clock, since, seen, c0, e1.trans hb, F, hs, hD, e2.trans hr, rest⟩
theorem ranges_iter {w : World} {s b r n cnt : Nat} {D : DataW Unit} {left : Lit → Bool} (h : w.ranges Try.prog 3 (slR s) b r n D left cnt) : ∃ x y z u, w.heap[r]? = some (.mapIter x y z u) := by
  obtain ⟨es, clock, since, seen, c0, hb, F, hs, hD, hr, rest⟩ := h
  exact ⟨_, _, _, _, hr⟩
theorem ranges_size {w : World} {s b r n cnt : Nat} {D : DataW Unit} {left : Lit → Bool} (h : w.ranges Try.prog 3 (slR s) b r n D left cnt) : w.ownsMap Try.prog 3 (slR s) b n D := h.owns
theorem same_int (a b : Int) : (Lit.int .i64 a).sameKey (.int .i64 b) = (a == b) := by
  by_cases h : a = b
  · subst h; rw [WideAt.sameKey_self (show WideAt.IsKeyLit (.int .i64 a) from trivial)]; simp
  · rw [sameKey_ne (i64_ne h)]; simp [h]

section
variable {w : World} {p : Nat} {F : Nat → Prop} {s : St} {bs bf ns nf : Nat} {gs gf : Int → Option Nat}

/-- The disk stays while an iterator turns. -/
theorem IsDisk.iter {W : World} {r : Nat} (h : IsDisk w p F s bs bf ns nf gs gf) (hk : ∀ k, k < w.heap.size → k ≠ r → W.heap[k]? = w.heap[k]?) (hr : ∃ x y z u, w.heap[r]? = some (.mapIter x y z u)) : IsDisk W p F s bs bf ns nf gs gf := by
  obtain ⟨x, y, z, u, hr⟩ := hr
  have hrow : ∀ g x, Row w g x → W.heap[g]? = w.heap[g]? := fun g x h1 => hk g h1.lt (fun e => by unfold Row at h1; rw [e, hr] at h1; cases h1)
  have hmap : ∀ b n' m', SMap s.size w b n' m' → W.heap[b]? = w.heap[b]? := fun b n' m' h1 => hk b (MapG.lt h1) (fun e => by
    obtain ⟨es, c, h2⟩ := MapG.isMap h1
    rw [e, hr] at h2; cases h2)
  exact { h with
    cells := (hk p h.lt (fun e => by have := h.cells; rw [e, hr] at this; cases this)).trans h.cells
    safe := MapG.keep h.safe (hmap bs _ _ h.safe)
    fresh := MapG.keep h.fresh (hmap bf _ _ h.fresh)
    safeRow := fun n g hg => (h.safeRow n g hg).keep (hrow g _ (h.safeRow n g hg))
    freshRow := fun n g hg => by
      obtain ⟨x, h1, h2, h3⟩ := h.freshRow n g hg
      exact ⟨x, h1, h2, h3.keep (hrow g _ h3)⟩ }

/-- Sector n when the first L n bytes of what was written last have lasted. -/
def St.settled (s : St) (L : Int → Nat) (n : Int) : List Int := match s.fresh n with | some x => over (x.take (L n)) (s.safe n) | none => s.safe n
def St.settle (s : St) (L : Int → Nat) : St := { s with safe := s.settled L, fresh := fun _ => none }
/-- .. under way. -/
def St.mid (s : St) (L : Int → Nat) (left : Lit → Bool) : St := { s with safe := fun n => if left (.int .i64 n) then s.safe n else s.settled L n }
theorem mid_start (s : St) (L : Int → Nat) (left : Lit → Bool) (h : ∀ n, left (.int .i64 n) = false → s.fresh n = none) : s.mid L left = s := by
  unfold St.mid
  have : (fun n => if left (.int .i64 n) then s.safe n else s.settled L n) = s.safe := by
    funext n
    cases hl : left (.int .i64 n)
    · simp [St.settled, h n hl]
    · simp
  rw [this]
theorem mid_end (s : St) (L : Int → Nat) (left : Lit → Bool) (h : ∀ n, left (.int .i64 n) = false) : (s.mid L left).safe = s.settled L := by
  unfold St.mid
  funext n
  simp [h n]
theorem mid_step (s : St) (L : Int → Nat) (left : Lit → Bool) (x : Int) (y : List Int) (hl : left (.int .i64 x) = true) (hf : s.fresh x = some y) : (s.mid L left).lay x (y.take (L x)) = s.mid L (fun z => left z && !z.sameKey (.int .i64 x)) := by
  unfold St.lay St.mid
  simp only
  congr 1
  funext n
  unfold upd
  simp only [same_int]
  by_cases e : n = x
  · subst e
    rw [if_pos rfl]
    simp [hl, St.settled, hf]
  · rw [if_neg e]
    have : (n == x) = false := by simp [e]
    simp [this]

/-- Blocks that may turn: the map of the safe ones, and theirs. -/
def SafeF (bs : Nat) (gs : Int → Option Nat) : Nat → Prop := fun k => k = bs ∨ ∃ m, gs m = some k
theorem SafeF.of (h : IsDisk w p F s bs bf ns nf gs gf) {k : Nat} (hk : SafeF bs gs k) : F k := by
  rcases hk with rfl | ⟨m, hm⟩
  · exact h.inS
  · exact h.inG m k hm
theorem not_safeF (h : IsDisk w p F s bs bf ns nf gs gf) {k : Nat} (h1 : ∀ es c, w.heap[k]? ≠ some (.map es c)) (h2 : ∀ C, w.heap[k]? ≠ some (.cells C 5 (0, 0))) : ¬ SafeF bs gs k := fun hk => by
  rcases hk with rfl | ⟨m, hm⟩
  · obtain ⟨es, c, h3⟩ := MapG.isMap h.safe
    exact h1 _ _ h3
  · exact h2 _ (h.safeRow m k hm)

/-- Behind clear: nothing is unsafe. -/
theorem IsDisk.cleared {W : World} (h : IsDisk w p F s bs bf ns nf gs gf) (hm : SMap s.size W bf 0 (fun _ => none)) (ht : w.mapTurned W bf) : IsDisk W p F { s with fresh := fun _ => none } bs bf ns 0 gs (fun _ => none) := by
  have hg := ht.grown
  have hrow : ∀ g x, Row w g x → W.heap[g]? = w.heap[g]? := fun g x h1 => hg.block g h1.lt (fun e => by
    cases e
    obtain ⟨es, c, h2⟩ := MapG.isMap h.fresh
    unfold Row at h1; rw [h2] at h1; cases h1)
  exact {
    cells := (hg.block p h.lt (fun e => by
      cases e
      obtain ⟨es, c, h2⟩ := MapG.isMap h.fresh
      have := h.cells; rw [h2] at this; cases this)).trans h.cells
    safe := MapG.keep h.safe (hg.block bs (MapG.lt h.safe) (fun e => h.apart (by cases e; rfl)))
    fresh := hm
    apart := h.apart
    safeNone := h.safeNone
    safeRow := fun n g hg => (h.safeRow n g hg).keep (hrow g _ (h.safeRow n g hg))
    safeLen := h.safeLen
    safeInj := h.safeInj
    freshNone := fun _ _ => rfl
    freshRow := fun _ _ h => (by cases h)
    freshIn := fun _ _ h => (by cases h)
    unlike := fun _ _ _ _ h => (by cases h)
    inP := h.inP
    inS := h.inS
    inF := h.inF
    inG := h.inG
    inH := fun _ _ h => (by cases h)
    sec1 := h.sec1
    sec2 := h.sec2
    size1 := h.size1
    size2 := h.size2
    left1 := h.left1
    left2 := h.left2 }

/-- What settle leaves. -/
def Settled (w : World) (p : Nat) (F : Nat → Prop) (s : St) (L : Int → Nat) (bs bf ns nf : Nat) (w' : World) : Prop :=
  ∃ ns' gs', ns' ≤ ns + nf ∧ IsDisk w' p (fun k => F k ∨ w.heap.size ≤ k) (s.settle L) bs bf ns' 0 gs' (fun _ => none) ∧ Frm F w w'

set_option maxRecDepth 100000 in
set_option maxHeartbeats 4000000 in
theorem settle_41 (cb : Nat) (L : Int → Nat) (h : IsDisk w p F s bs bf ns nf gs gf) (hroom : ns + nf < 4611686018427387904) (hL : ∀ n, L n ≤ s.size)
    (hcall : ∀ W, Frm (SafeF bs gs) w W → ∀ n : Int, -9223372036854775808 ≤ n → n ≤ 9223372036854775807 → Calls Try.prog 59 #[.int .i64 n, .pointer (some ⟨cb, 0, none⟩)] W fun e w' => e = .returned (.int .i64 (L n)) ∧ w' = W) :
    Calls Try.prog 48 #[.pointer (some ⟨p, 0, none⟩), .func (.func 59) #[] #[.pointer (some ⟨cb, 0, none⟩)]] w fun e w' => e = .returned (.tuple #[]) ∧ Settled w p F s L bs bf ns nf w' := by
  have c3 := h.c3
  obtain ⟨D, hown, hD⟩ := h.fresh
  go_enter Try.func48, Try.ntmps48
  go_wp2_with (first | (at_range; refine wpList_range_own _ rfl _ 82 rfl 3 23 law Try.underlying82 (slR s.size) bf nf D rfl hown ?_; intro w0 hrg0 hg0 hs0))
  go_frame
  have hst : s.mid L (Maps.has D) = s := mid_start s L _ (fun n hn => by
    rw [(hD n).1] at hn
    exact h.freshNone n (by simpa using hn))
  have hszD := hown.size_le
  have hit0 : IsDisk w0 p (fun k => F k ∨ w.heap.size ≤ k) (s.mid L (Maps.has D)) bs bf ns nf gs gf := by
    rw [hst]
    exact (h.keep (fun k _ hk => hg0.block k hk (by simp))).wide (fun k hk => .inl hk)
  have hf0 : Frm (SafeF bs gs) w w0 := Frm.of_grown hg0 (fun j e => by cases e)
  clear hst hg0
  go_loopw [4] (fun _ wr => ∃ left cnt ns' gs', wr.ranges Try.prog 3 (slR s.size) bf w.heap.size nf D left cnt ∧ Hid (IsDisk wr p (fun k => F k ∨ w.heap.size ≤ k) (s.mid L left) bs bf ns' nf gs' gf) ∧ ns' + cnt ≤ ns + nf ∧ Frm (SafeF bs gs) w wr ∧ Hid (∀ m q, gs' m = some q → gs m = some q ∨ w.heap.size ≤ q)) (fun _ wr => wr.rangeLeft bf w.heap.size)
  case atStart => exact ⟨_, _, ns, gs, hrg0, hit0, by omega, hf0, fun m q hq => .inl hq⟩
  case round =>
    obtain ⟨left, cnt, ns', gs', hrg, hdk, hrm, hfr, hgs⟩ := hrel
    clear hrg0 hit0 hf0
    go_wp2_with (first | (at_next; refine next_disk rfl _ rfl s.size bf w.heap.size nf D gf hD left cnt rfl hrg ?_ ?_))
    · intro hl0
      have hd0 := hdk.out
      have c3r := hd0.c3
      obtain ⟨W3, hcl, hm3, ht3⟩ := MapG.clear hd0.fresh Try.underlying82
      have hfin : Settled w p F s L bs bf ns nf W3 := by
        refine ⟨ns', gs', by omega, ?_, ?_⟩
        · have := hd0.cleared hm3 ht3
          have e : ({ s.mid L left with fresh := fun _ => none } : St) = s.settle L := by
            have := mid_end s L left hl0
            unfold St.settle
            rw [← this]; rfl
          rw [e] at this
          exact this
        · refine (hfr.mono (fun k hk => .inl (SafeF.of h hk))).trans (Frm.of_grown (F := F) ht3.grown (fun j e => by cases e; exact .inl h.inF)) (fun j hj => .inl hj)
      replace hfin : Hid _ := hfin
      clear hm3 ht3 hd0
      go_wp2
      go_end0
      exact ⟨rfl, hfin.out⟩
    · intro x g w1 cnt1 hx1 hx2 hgx hlx hrg1 hlt hgr1 hsz1 hen
      have hd1 := hdk.out.iter (fun k hk hne => hgr1.block k hk (fun e => hne (by cases e; rfl))) (ranges_iter hrg)
      have hf1 : Frm (SafeF bs gs) w w1 := hfr.trans (Frm.of_grown (F := fun k => w.heap.size ≤ k) hgr1 (fun j e => by cases e; exact .inl (Nat.le_refl _))) (fun j hj => .inr hj)
      obtain ⟨y, hy1, hy2, hrow⟩ := hd1.freshRow x g hgx
      have hLx := hL x
      have hsz := h.size1
      have hct := cut_to s.size g (L x) hLx (by omega)
      have hcl := hcall w1 hf1 x hx1 hx2
      have hyl : (y.take (L x)).length = L x := by
        have : y.length = s.size := hy2
        simp; omega
      have hlay := lay_any x (y.take (L x)) (some ⟨g, 0, none⟩) s.size (by rw [hyl]; exact hLx) (.inr ⟨g, 0, rfl, fun t _ ht => by
        rw [hyl] at ht
        have : y.length = s.size := hy2
        rw [Nat.zero_add, hrow.cell t (by omega)]
        simp [ht]⟩) hd1 (by omega) hx1 hx2
      rw [hyl] at hlay
      have hms := mid_step s L left x y hlx hy1
      replace hms : Hid _ := hms
      replace hlay : Hid _ := hlay
      clear hct hrow hyl hy2 hy1
      have hct := cut_to s.size g (L x) hLx (by omega)
      replace hD : Hid _ := hD
      have hkp : Hid (∀ w2, Laid w1 p (fun k => F k ∨ w.heap.size ≤ k) (s.mid L left) bs bf ns' nf gs' gf x (y.take (L x)) w2 → w2.ranges Try.prog 3 (slR s.size) bf w.heap.size nf D (fun z => left z && !z.sameKey (.int .i64 x)) cnt1) := by
        show ∀ w2, _ → _
        rintro w2 ⟨ns2, gs2, hn2, hd2, hf2, hg2⟩
        obtain ⟨xa, ya, za, ua, hri⟩ := ranges_iter hrg1
        obtain ⟨es, c, hm⟩ := MapG.isMap hd1.fresh
        refine ranges_keep hrg1 (hf2.block bf (MapG.lt hd1.fresh) ?_) (hf2.block _ hrg1.lt (not_safeF hd1 (fun es c e => ?_) (fun C e => ?_)))
        · rintro (e | ⟨m, hm2⟩)
          · exact h.apart e.symm
          · have := hd1.safeRow m bf hm2
            unfold Row at this; rw [hm] at this; cases this
        · rw [hri] at e; cases e
        · rw [hri] at e; cases e
      go_wp2_with (first | (go_at_call 59; refine hcl.mono ?_; rintro e w2 ⟨rfl, hw2⟩; subst w2) | (go_at_call 58; refine Calls.mono hlay.out ?_; rintro e w2 ⟨rfl, hlaid⟩; replace hlaid : Hid _ := hlaid))
      go_roundw
      case rel =>
        obtain ⟨ns2, gs2, hn2, hd2, hf2, hg2⟩ := hlaid.out
        rw [hms.out] at hd2
        have hgs' := hgs.out
        refine ⟨_, cnt1, ns2, gs2, hkp.out _ hlaid.out, hd2.wide (fun k hk => ?_), by omega, hf1.trans hf2 (fun j hj => ?_), ?_⟩
        · rcases hk with hk | hk
          · exact hk
          · exact .inr (Nat.le_trans hf1.size hk)
        · rcases hj with hj | ⟨m, hm⟩
          · exact .inl (.inl hj)
          · rcases hgs' m j hm with h1 | h1
            · exact .inl (.inr ⟨m, h1⟩)
            · exact .inr h1
        · show ∀ m q, _ → _
          intro m q hq
          rcases hg2 m q hq with h1 | h1
          · exact hgs' m q h1
          · exact .inr (Nat.le_trans hf1.size h1)
      case measure =>
        have := (hkp.out _ hlaid.out).left_eq
        rw [this, hrg.left_eq]; exact hlt
set_option maxRecDepth 100000 in
set_option maxHeartbeats 4000000 in
theorem settle_36 (cb : Nat) (L : Int → Nat) (h : IsDisk w p F s bs bf ns nf gs gf) (hroom : ns + nf < 4611686018427387904) (hL : ∀ n, L n ≤ s.size)
    (hcall : ∀ W, Frm (SafeF bs gs) w W → ∀ n : Int, -9223372036854775808 ≤ n → n ≤ 9223372036854775807 → Calls Try.prog 49 #[.int .i64 n, .pointer (some ⟨cb, 0, none⟩)] W fun e w' => e = .returned (.int .i64 (L n)) ∧ w' = W) :
    Calls Try.prog 48 #[.pointer (some ⟨p, 0, none⟩), .func (.func 49) #[] #[.pointer (some ⟨cb, 0, none⟩)]] w fun e w' => e = .returned (.tuple #[]) ∧ Settled w p F s L bs bf ns nf w' := by
  have c3 := h.c3
  obtain ⟨D, hown, hD⟩ := h.fresh
  go_enter Try.func48, Try.ntmps48
  go_wp2_with (first | (at_range; refine wpList_range_own _ rfl _ 82 rfl 3 23 law Try.underlying82 (slR s.size) bf nf D rfl hown ?_; intro w0 hrg0 hg0 hs0))
  go_frame
  have hst : s.mid L (Maps.has D) = s := mid_start s L _ (fun n hn => by
    rw [(hD n).1] at hn
    exact h.freshNone n (by simpa using hn))
  have hszD := hown.size_le
  have hit0 : IsDisk w0 p (fun k => F k ∨ w.heap.size ≤ k) (s.mid L (Maps.has D)) bs bf ns nf gs gf := by
    rw [hst]
    exact (h.keep (fun k _ hk => hg0.block k hk (by simp))).wide (fun k hk => .inl hk)
  have hf0 : Frm (SafeF bs gs) w w0 := Frm.of_grown hg0 (fun j e => by cases e)
  clear hst hg0
  go_loopw [4] (fun _ wr => ∃ left cnt ns' gs', wr.ranges Try.prog 3 (slR s.size) bf w.heap.size nf D left cnt ∧ Hid (IsDisk wr p (fun k => F k ∨ w.heap.size ≤ k) (s.mid L left) bs bf ns' nf gs' gf) ∧ ns' + cnt ≤ ns + nf ∧ Frm (SafeF bs gs) w wr ∧ Hid (∀ m q, gs' m = some q → gs m = some q ∨ w.heap.size ≤ q)) (fun _ wr => wr.rangeLeft bf w.heap.size)
  case atStart => exact ⟨_, _, ns, gs, hrg0, hit0, by omega, hf0, fun m q hq => .inl hq⟩
  case round =>
    obtain ⟨left, cnt, ns', gs', hrg, hdk, hrm, hfr, hgs⟩ := hrel
    clear hrg0 hit0 hf0
    go_wp2_with (first | (at_next; refine next_disk rfl _ rfl s.size bf w.heap.size nf D gf hD left cnt rfl hrg ?_ ?_))
    · intro hl0
      have hd0 := hdk.out
      have c3r := hd0.c3
      obtain ⟨W3, hcl, hm3, ht3⟩ := MapG.clear hd0.fresh Try.underlying82
      have hfin : Settled w p F s L bs bf ns nf W3 := by
        refine ⟨ns', gs', by omega, ?_, ?_⟩
        · have := hd0.cleared hm3 ht3
          have e : ({ s.mid L left with fresh := fun _ => none } : St) = s.settle L := by
            have := mid_end s L left hl0
            unfold St.settle
            rw [← this]; rfl
          rw [e] at this
          exact this
        · refine (hfr.mono (fun k hk => .inl (SafeF.of h hk))).trans (Frm.of_grown (F := F) ht3.grown (fun j e => by cases e; exact .inl h.inF)) (fun j hj => .inl hj)
      replace hfin : Hid _ := hfin
      clear hm3 ht3 hd0
      go_wp2
      go_end0
      exact ⟨rfl, hfin.out⟩
    · intro x g w1 cnt1 hx1 hx2 hgx hlx hrg1 hlt hgr1 hsz1 hen
      have hd1 := hdk.out.iter (fun k hk hne => hgr1.block k hk (fun e => hne (by cases e; rfl))) (ranges_iter hrg)
      have hf1 : Frm (SafeF bs gs) w w1 := hfr.trans (Frm.of_grown (F := fun k => w.heap.size ≤ k) hgr1 (fun j e => by cases e; exact .inl (Nat.le_refl _))) (fun j hj => .inr hj)
      obtain ⟨y, hy1, hy2, hrow⟩ := hd1.freshRow x g hgx
      have hLx := hL x
      have hsz := h.size1
      have hct := cut_to s.size g (L x) hLx (by omega)
      have hcl := hcall w1 hf1 x hx1 hx2
      have hyl : (y.take (L x)).length = L x := by
        have : y.length = s.size := hy2
        simp; omega
      have hlay := lay_any x (y.take (L x)) (some ⟨g, 0, none⟩) s.size (by rw [hyl]; exact hLx) (.inr ⟨g, 0, rfl, fun t _ ht => by
        rw [hyl] at ht
        have : y.length = s.size := hy2
        rw [Nat.zero_add, hrow.cell t (by omega)]
        simp [ht]⟩) hd1 (by omega) hx1 hx2
      rw [hyl] at hlay
      have hms := mid_step s L left x y hlx hy1
      replace hms : Hid _ := hms
      replace hlay : Hid _ := hlay
      clear hct hrow hyl hy2 hy1
      have hct := cut_to s.size g (L x) hLx (by omega)
      replace hD : Hid _ := hD
      have hkp : Hid (∀ w2, Laid w1 p (fun k => F k ∨ w.heap.size ≤ k) (s.mid L left) bs bf ns' nf gs' gf x (y.take (L x)) w2 → w2.ranges Try.prog 3 (slR s.size) bf w.heap.size nf D (fun z => left z && !z.sameKey (.int .i64 x)) cnt1) := by
        show ∀ w2, _ → _
        rintro w2 ⟨ns2, gs2, hn2, hd2, hf2, hg2⟩
        obtain ⟨xa, ya, za, ua, hri⟩ := ranges_iter hrg1
        obtain ⟨es, c, hm⟩ := MapG.isMap hd1.fresh
        refine ranges_keep hrg1 (hf2.block bf (MapG.lt hd1.fresh) ?_) (hf2.block _ hrg1.lt (not_safeF hd1 (fun es c e => ?_) (fun C e => ?_)))
        · rintro (e | ⟨m, hm2⟩)
          · exact h.apart e.symm
          · have := hd1.safeRow m bf hm2
            unfold Row at this; rw [hm] at this; cases this
        · rw [hri] at e; cases e
        · rw [hri] at e; cases e
      go_wp2_with (first | (go_at_call 49; refine hcl.mono ?_; rintro e w2 ⟨rfl, hw2⟩; subst w2) | (go_at_call 58; refine Calls.mono hlay.out ?_; rintro e w2 ⟨rfl, hlaid⟩; replace hlaid : Hid _ := hlaid))
      go_roundw
      case rel =>
        obtain ⟨ns2, gs2, hn2, hd2, hf2, hg2⟩ := hlaid.out
        rw [hms.out] at hd2
        have hgs' := hgs.out
        refine ⟨_, cnt1, ns2, gs2, hkp.out _ hlaid.out, hd2.wide (fun k hk => ?_), by omega, hf1.trans hf2 (fun j hj => ?_), ?_⟩
        · rcases hk with hk | hk
          · exact hk
          · exact .inr (Nat.le_trans hf1.size hk)
        · rcases hj with hj | ⟨m, hm⟩
          · exact .inl (.inl hj)
          · rcases hgs' m j hm with h1 | h1
            · exact .inl (.inr ⟨m, h1⟩)
            · exact .inr h1
        · show ∀ m q, _ → _
          intro m q hq
          rcases hg2 m q hq with h1 | h1
          · exact hgs' m q h1
          · exact .inr (Nat.le_trans hf1.size h1)
      case measure =>
        have := (hkp.out _ hlaid.out).left_eq
        rw [this, hrg.left_eq]; exact hlt
end
end Go.Proofs.Ytcgjolonapndgaa
