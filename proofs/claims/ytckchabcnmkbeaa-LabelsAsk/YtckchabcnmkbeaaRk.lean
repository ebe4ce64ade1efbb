/- The document's Get, Check, Match; append in an operation that is guarded. -/
import Derived.Test.YtckchabcnmkbeaaRn
namespace Go.Proofs.Ytckchabcnmkbeaa
set_option linter.unusedVariables false
open Go.RowKit
/-- append(s, x...), x nil or not, the operation's guard true. -/
theorem appW {α : Type} {E : Enc α} (T : RowTy E) {w : World} {ops : Array Oper} {rest : List Oper} {o : Oper} {a : Act} {Q : Exit → Act → World → Prop} (hw : Region.wanted o (yielded ops a.tmps) = true) (s x : Operand)
    (hop : o.op = Op.call { callee := Callee.builtin Builtin.append, args := #[s, x], argTypes := #[T.st, T.st] }) (base : Nat) (v u : Value) (l m : List α) (hs : a.eval s = v) (hx : a.eval x = u)
    (hown : OwnS T w base v l) (hm : Sls E w u m) (hbase : base ≤ w.heap.size) (hlen : l.length + m.length ≤ 1000000000)
    (h : ∀ v' w', OwnS T w' base v' (l ++ m) → w.grownBy w' v.ownBlock → wpList Try.prog ops Q rest (a.put o.dst v') w') : wpList Try.prog ops Q (o :: rest) a w := by
  refine BigFrame.wpList_want hw fun K hK => ?_
  have hP : ∀ (o2 : Oper), o2.op = o.op → o2.dst = o.dst → o2.type = o.type → o2.guard = none → (if Region.wanted o2 (yielded ops a.tmps) = true then Oper.wp Try.prog o2 a w K Q else True) := fun o2 h1 h2 _ h4 =>
    stepN T h4 s x (h1.trans hop) base v u l m hs hx hown hm hbase hlen (fun v' w' a1 a2 => by rw [h2]; exact hK _ _ (h v' w' a1 a2))
  have := hP { o with guard := none } rfl rfl rfl rfl
  rw [if_pos (by simp [Region.wanted])] at this
  exact this
set_option maxRecDepth 100000 in
set_option maxHeartbeats 2000000 in
/-- The document's Get. -/
theorem rget_any (v : Value) (l : List Lb) (n : ByteArray) (w : World) (hv : Lbs w v l) (hl : l.length ≤ 1000000) : Calls Try.prog 22 #[v, .string n] w fun e w' => e = .returned (.string (getL l n)) ∧ w' = w := by
  obtain ⟨a, c, rfl⟩ := hv.shape
  replace hv : Hid (Lbs w (.slice a l.length c) l) := hv
  go_enter Try.func22, Try.ntmps22
  go_wp2
  go_loop [5] (fun i => ∃ k : Nat, k ≤ l.length ∧ i = .int .i64 k ∧ noTo l n k) (fun i => l.length - (intOf i).toNat)
  case atStart => exact ⟨0, Nat.zero_le _, rfl, fun j hj => absurd hj (Nat.not_lt_zero _)⟩
  case round =>
    obtain ⟨k, hk, rfl, hno⟩ := hrel
    by_cases hlt : k < l.length
    · have hki : (k : Int) < (l.length : Int) := by omega
      obtain ⟨b, o, rfl, x0, x1⟩ := lb_at hv.out k hlt
      by_cases he : (l.getD k lb0).name = n
      · have hg : Hid (getL l n = (l.getD k lb0).value) := getL_at hlt hno he
        rw [he] at x0
        clear he
        generalize (l.getD k lb0).value = u at *
        go_wp2
        go_ret
        exact ⟨by rw [hg.out]; rfl, rfl⟩
      · have hst := noTo_succ hno he
        have hne := toList_ne he
        clear he
        generalize (l.getD k lb0).value = u at *
        generalize (l.getD k lb0).name = m at *
        go_wp2
        go_round
        case rel => exact ⟨k + 1, by omega, by go_num, hst⟩
        case measure => simp [intOf]; omega
    · obtain rfl : k = l.length := by omega
      have hki : ¬ (l.length : Int) < (l.length : Int) := by omega
      have hg : Hid (getL l n = ⟨#[]⟩) := getL_no hno
      go_wp2
      go_ret
      exact ⟨by rw [hg.out]; rfl, rfl⟩
set_option maxRecDepth 100000 in
set_option maxHeartbeats 4000000 in
/-- The document's Match. -/
theorem rmatch_any (v u : Value) (l : List Lb) (ms : List Mt) (w : World) (hv : Lbs w v l) (hu : Mts w u ms) (hl : l.length ≤ 1000000) (hm : ms.length ≤ 1000000) (rl : LbsR l) (rm : MtsR ms) :
    Calls Try.prog 34 #[v, u] w fun e w' => e = .returned (.bool (matchB l ms)) ∧ Below w.heap.size w w' := by
  obtain ⟨a, c, rfl⟩ := hv.shape
  obtain ⟨a2, c2, rfl⟩ := hu.shape
  replace hv : Hid (Lbs w (.slice a l.length c) l) := hv
  replace hu : Hid (Mts w (.slice a2 ms.length c2) ms) := hu
  replace rl : Hid (LbsR l) := rl
  replace rm : Hid (MtsR ms) := rm
  go_enter Try.func34, Try.ntmps34
  go_wp2
  go_loopw [5] (fun i wr => ∃ k : Nat, k ≤ ms.length ∧ i = .int .i64 k ∧ Hid (matchB l (ms.take k) = true) ∧ Below w.heap.size w wr) (fun i _ => ms.length - (intOf i).toNat)
  case atStart => exact ⟨0, Nat.zero_le _, rfl, rfl, Below.refl _ _⟩
  case round =>
    obtain ⟨k, hk, rfl, hto, hB⟩ := hrel
    have hbz := hB.size
    by_cases hlt : k < ms.length
    · have hki : (k : Int) < (ms.length : Int) := by omega
      obtain ⟨b, o, rfl, x0, x1, x2⟩ := mt_at (Sls.grow hu.out hB) k hlt
      have hG : ∀ p : Bel wr, Calls Try.prog 22 #[.slice a l.length c, .string (ms.getD k mt0).name] p.W fun e w' => e = .returned (.string (getL l (ms.getD k mt0).name)) ∧ Below p.W.heap.size p.W w' := fun p => calls_same (rget_any _ l _ p.W (Sls.grow hv.out (hB.trans (p.h.mono hbz))) hl)
      have hgr := getL_reach rl.out (ms.getD k mt0).name
      have hmr := rm.out _ (getD_mem ms mt0 k hlt)
      have hyes : Hid (holdsB (ms.getD k mt0).op (ms.getD k mt0).value (getL l (ms.getD k mt0).name) = true → matchB l (ms.take (k + 1)) = true) := fun h => matchB_take hlt hto.out h
      have hnot : Hid (holdsB (ms.getD k mt0).op (ms.getD k mt0).value (getL l (ms.getD k mt0).name) = false → matchB l ms = false) := fun h => matchB_no hlt h
      have c0 : ∀ p : Bel wr, p.W.cell? ⟨b, o + k * 3, none⟩ = some (.string (ms.getD k mt0).name) := fun p => p.cell x0
      have c1 : ∀ p : Bel wr, p.W.cell? ⟨b, o + k * 3 + 1, none⟩ = some (.string (ms.getD k mt0).op) := fun p => p.cell x1
      have c2 : ∀ p : Bel wr, p.W.cell? ⟨b, o + k * 3 + 2, none⟩ = some (.string (ms.getD k mt0).value) := fun p => p.cell x2
      unfold MtR reachBytes at hmr
      unfold reachBytes at hgr
      generalize ms.getD k mt0 = x at *
      obtain ⟨n, op, val⟩ := x
      simp only at x0 x1 x2 c0 c1 c2 hG hyes hnot hmr hgr
      generalize getL l n = g at *
      have hR : Hid (holdsB op val g = if op.toList == [61] then g.toList == val.toList else if op.toList == [33, 61] then !(g.toList == val.toList) else if op.toList == [94, 61] then preB g val else if op.toList == [33, 94] then !preB g val else false) := rfl
      have hvs := hmr.2.2
      clear x0 x2 hmr
      go_wp2
      refine wp_region_bel (by kernel_rfl) (by kernel_rfl) ?_
      repeat (go_big_quiet_step ((first | (go_at_call 22; exact Calls.bel (hG _)))))
      refine wpQuiet_nil ?_
      rintro wq ⟨⟨_, hq⟩, rfl⟩
      have hBq := hB.trans (hq.mono hbz)
      have x1q : wq.cell? ⟨b, o + k * 3 + 1, none⟩ = some (.string op) := c1 ⟨wq, hq⟩
      clear hG c0 c1 c2 x1
      have hpre : Hid (preB g val = (decide (val.size ≤ g.size) && ((g.extract 0 val.size).toList == val.toList))) := rfl
      have hE : (g.toList == val.toList) = true ∨ (g.toList == val.toList) = false := by cases (g.toList == val.toList) <;> simp
      by_cases hle : val.size ≤ g.size
      · have hli : (val.size : Int) ≤ (g.size : Int) := by omega
        have hmin : min (val.size : Int) (g.size : Int) = (val.size : Int) := by omega
        rw [decide_eq_true hle, Bool.true_and] at hpre
        have hX : ((g.extract 0 val.size).toList == val.toList) = true ∨ ((g.extract 0 val.size).toList == val.toList) = false := by cases ((g.extract 0 val.size).toList == val.toList) <;> simp
        rcases opCase op with e1 | ⟨e1, e2⟩ | ⟨e1, e2, e3⟩ | ⟨e1, e2, e3, e4⟩ | ⟨e1, e2, e3, e4⟩
        · rcases hE with hE | hE
          · have hH : holdsB op val g = true := by rw [hR.out, e1, hE]; rfl
            have hst : Hid (matchB l (ms.take (k + 1)) = true) := hyes.out hH
            clear hyes hnot hR hH
            go_wp2
            refine ⟨⟨k + 1, by omega, by go_num, hst, hBq⟩, ?_⟩
            simp [intOf]; omega
          · have hH : holdsB op val g = false := by rw [hR.out, e1, hE]; rfl
            have hst : Hid (matchB l ms = false) := hnot.out hH
            clear hyes hnot hR hH
            go_wp2
            go_ret
            exact ⟨by rw [hst.out]; rfl, hBq⟩
        · rcases hE with hE | hE
          · have hH : holdsB op val g = false := by rw [hR.out, e1, e2, hE]; rfl
            have hst : Hid (matchB l ms = false) := hnot.out hH
            clear hyes hnot hR hH
            go_wp2
            go_ret
            exact ⟨by rw [hst.out]; rfl, hBq⟩
          · have hH : holdsB op val g = true := by rw [hR.out, e1, e2, hE]; rfl
            have hst : Hid (matchB l (ms.take (k + 1)) = true) := hyes.out hH
            clear hyes hnot hR hH
            go_wp2
            refine ⟨⟨k + 1, by omega, by go_num, hst, hBq⟩, ?_⟩
            simp [intOf]; omega
        · rcases hX with hX | hX
          · have hH : holdsB op val g = true := by rw [hR.out, e1, e2, e3, hpre.out, hX]; rfl
            have hst : Hid (matchB l (ms.take (k + 1)) = true) := hyes.out hH
            clear hyes hnot hR hH
            go_wp2
            refine ⟨⟨k + 1, by omega, by go_num, hst, hBq⟩, ?_⟩
            simp [intOf]; omega
          · have hH : holdsB op val g = false := by rw [hR.out, e1, e2, e3, hpre.out, hX]; rfl
            have hst : Hid (matchB l ms = false) := hnot.out hH
            clear hyes hnot hR hH
            go_wp2
            go_ret
            exact ⟨by rw [hst.out]; rfl, hBq⟩
        · rcases hX with hX | hX
          · have hH : holdsB op val g = false := by rw [hR.out, e1, e2, e3, e4, hpre.out, hX]; rfl
            have hst : Hid (matchB l ms = false) := hnot.out hH
            clear hyes hnot hR hH
            go_wp2
            go_ret
            exact ⟨by rw [hst.out]; rfl, hBq⟩
          · have hH : holdsB op val g = true := by rw [hR.out, e1, e2, e3, e4, hpre.out, hX]; rfl
            have hst : Hid (matchB l (ms.take (k + 1)) = true) := hyes.out hH
            clear hyes hnot hR hH
            go_wp2
            refine ⟨⟨k + 1, by omega, by go_num, hst, hBq⟩, ?_⟩
            simp [intOf]; omega
        · have hH : holdsB op val g = false := by rw [hR.out, e1, e2, e3, e4]; rfl
          have hst : Hid (matchB l ms = false) := hnot.out hH
          clear hyes hnot hR hH
          go_wp2
          go_ret
          exact ⟨by rw [hst.out]; rfl, hBq⟩
      · have hli : ¬ (val.size : Int) ≤ (g.size : Int) := by omega
        have hld : decide ((val.size : Int) ≤ (g.size : Int)) = false := by simp; omega
        rw [decide_eq_false hle, Bool.false_and] at hpre
        rcases opCase op with e1 | ⟨e1, e2⟩ | ⟨e1, e2, e3⟩ | ⟨e1, e2, e3, e4⟩ | ⟨e1, e2, e3, e4⟩
        · rcases hE with hE | hE
          · have hH : holdsB op val g = true := by rw [hR.out, e1, hE]; rfl
            have hst : Hid (matchB l (ms.take (k + 1)) = true) := hyes.out hH
            clear hyes hnot hR hH
            go_wp2
            refine ⟨⟨k + 1, by omega, by go_num, hst, hBq⟩, ?_⟩
            simp [intOf]; omega
          · have hH : holdsB op val g = false := by rw [hR.out, e1, hE]; rfl
            have hst : Hid (matchB l ms = false) := hnot.out hH
            clear hyes hnot hR hH
            go_wp2
            go_ret
            exact ⟨by rw [hst.out]; rfl, hBq⟩
        · rcases hE with hE | hE
          · have hH : holdsB op val g = false := by rw [hR.out, e1, e2, hE]; rfl
            have hst : Hid (matchB l ms = false) := hnot.out hH
            clear hyes hnot hR hH
            go_wp2
            go_ret
            exact ⟨by rw [hst.out]; rfl, hBq⟩
          · have hH : holdsB op val g = true := by rw [hR.out, e1, e2, hE]; rfl
            have hst : Hid (matchB l (ms.take (k + 1)) = true) := hyes.out hH
            clear hyes hnot hR hH
            go_wp2
            refine ⟨⟨k + 1, by omega, by go_num, hst, hBq⟩, ?_⟩
            simp [intOf]; omega
        · have hH : holdsB op val g = false := by rw [hR.out, e1, e2, e3, hpre.out]; rfl
          have hst : Hid (matchB l ms = false) := hnot.out hH
          clear hyes hnot hR hH
          go_wp2
          go_ret
          exact ⟨by rw [hst.out]; rfl, hBq⟩
        · have hH : holdsB op val g = true := by rw [hR.out, e1, e2, e3, e4, hpre.out]; rfl
          have hst : Hid (matchB l (ms.take (k + 1)) = true) := hyes.out hH
          clear hyes hnot hR hH
          go_wp2
          refine ⟨⟨k + 1, by omega, by go_num, hst, hBq⟩, ?_⟩
          simp [intOf]; omega
        · have hH : holdsB op val g = false := by rw [hR.out, e1, e2, e3, e4]; rfl
          have hst : Hid (matchB l ms = false) := hnot.out hH
          clear hyes hnot hR hH
          go_wp2
          go_ret
          exact ⟨by rw [hst.out]; rfl, hBq⟩
    · obtain rfl : k = ms.length := by omega
      have hki : ¬ (ms.length : Int) < (ms.length : Int) := by omega
      have hR : Hid (matchB l ms = true) := by
        have := hto.out
        rw [List.take_of_length_le (Nat.le_refl _)] at this
        exact this
      go_wp2
      go_ret
      exact ⟨by rw [hR.out]; rfl, hB⟩
set_option maxRecDepth 100000 in
set_option maxHeartbeats 4000000 in
/-- The document's Check. -/
theorem rcheck_any (u : Value) (ms : List Mt) (w : World) (hu : Mts w u ms) (hm : ms.length ≤ 1000000) (rm : MtsR ms) :
    Calls Try.prog 32 #[u] w fun e w' => e = .returned (.int .i64 (chkE ms)) ∧ Below w.heap.size w w' := by
  obtain ⟨a2, c2, rfl⟩ := hu.shape
  by_cases h16 : 16 < ms.length
  · have hR : Hid (chkE ms = 6) := by show _ = _; unfold chkE; rw [if_pos h16]
    have h16i : (16 : Int) < (ms.length : Int) := by omega
    go_enter Try.func32, Try.ntmps32
    go_wp2
    go_ret
    exact ⟨by rw [hR.out]; rfl, Below.refl _ _⟩
  · have h16i : ¬ (16 : Int) < (ms.length : Int) := by omega
    replace hu : Hid (Mts w (.slice a2 ms.length c2) ms) := hu
    replace rm : Hid (MtsR ms) := rm
    go_enter Try.func32, Try.ntmps32
    go_wp2
    go_loopw [3] (fun i wr => ∃ k : Nat, k ≤ ms.length ∧ i = .int .i64 k ∧ Hid ((ms.take k).all okM = true) ∧ Below w.heap.size w wr) (fun i _ => ms.length - (intOf i).toNat)
    case atStart => exact ⟨0, Nat.zero_le _, rfl, rfl, Below.refl _ _⟩
    case round =>
      obtain ⟨k, hk, rfl, hto, hB⟩ := hrel
      have hbz := hB.size
      by_cases hlt : k < ms.length
      · have hki : (k : Int) < (ms.length : Int) := by omega
        obtain ⟨b, o, rfl, x0, x1, x2⟩ := mt_at (Sls.grow hu.out hB) k hlt
        have hrm := rm.out _ (getD_mem ms mt0 k hlt)
        unfold MtR reachBytes at hrm
        have hN := fun W => rname_any (ms.getD k mt0).name W (by omega)
        have hyes : Hid (okM (ms.getD k mt0) = true → (ms.take (k + 1)).all okM = true) := fun h => okM_take hlt hto.out h
        have hnot : Hid (okM (ms.getD k mt0) = false → chkE ms = 90) := fun h => chkE_no (by omega) hlt h
        have hok : Hid (okM (ms.getD k mt0) = (nameB (ms.getD k mt0).name && (opB (ms.getD k mt0).op && decide ((ms.getD k mt0).value.size ≤ 128)))) := rfl
        generalize ms.getD k mt0 = x at *
        obtain ⟨n, op, val⟩ := x
        simp only at x0 x1 x2 hN hyes hnot hok hrm
        have h3 := hrm.2.2
        clear hrm
        generalize nameB n = B1 at *
        cases B1
        · have hst : Hid (chkE ms = 90) := hnot.out hok.out
          go_wp2_with (first | (go_at_call 48; refine (hN _).mono ?_; rintro e wx ⟨rfl, hwx⟩; subst wx))
          go_ret
          exact ⟨by rw [hst.out]; rfl, hB.alloc hbz _⟩
        · have hop : Hid (opB op = (op.toList == [61] || (op.toList == [33, 61] || (op.toList == [94, 61] || op.toList == [33, 94])))) := rfl
          have hvs : val.size ≤ 128 ∨ 128 < val.size := by omega
          rcases opCase op with e1 | ⟨e1, e2⟩ | ⟨e1, e2, e3⟩ | ⟨e1, e2, e3, e4⟩ | ⟨e1, e2, e3, e4⟩
          · rw [e1, Bool.true_or] at hop
            rw [hop.out, Bool.true_and, Bool.true_and] at hok
            rcases hvs with hvs | hvs
            · have hst : Hid ((ms.take (k + 1)).all okM = true) := hyes.out (by rw [hok.out, decide_eq_true hvs])
              have hvi : ¬ (128 : Int) < (val.size : Int) := by omega
              go_wp2_with (first | (go_at_call 48; refine (hN _).mono ?_; rintro e wx ⟨rfl, hwx⟩; subst wx))
              refine ⟨⟨k + 1, by omega, by go_num, hst, hB.alloc hbz _⟩, ?_⟩
              simp [intOf]; omega
            · have hst : Hid (chkE ms = 90) := hnot.out (by rw [hok.out, decide_eq_false (by omega)])
              have hvi : (128 : Int) < (val.size : Int) := by omega
              go_wp2_with (first | (go_at_call 48; refine (hN _).mono ?_; rintro e wx ⟨rfl, hwx⟩; subst wx))
              go_ret
              exact ⟨by rw [hst.out]; rfl, hB.alloc hbz _⟩
          · rw [e2, Bool.true_or, Bool.or_true] at hop
            rw [hop.out, Bool.true_and, Bool.true_and] at hok
            rcases hvs with hvs | hvs
            · have hst : Hid ((ms.take (k + 1)).all okM = true) := hyes.out (by rw [hok.out, decide_eq_true hvs])
              have hvi : ¬ (128 : Int) < (val.size : Int) := by omega
              go_wp2_with (first | (go_at_call 48; refine (hN _).mono ?_; rintro e wx ⟨rfl, hwx⟩; subst wx))
              refine ⟨⟨k + 1, by omega, by go_num, hst, hB.alloc hbz _⟩, ?_⟩
              simp [intOf]; omega
            · have hst : Hid (chkE ms = 90) := hnot.out (by rw [hok.out, decide_eq_false (by omega)])
              have hvi : (128 : Int) < (val.size : Int) := by omega
              go_wp2_with (first | (go_at_call 48; refine (hN _).mono ?_; rintro e wx ⟨rfl, hwx⟩; subst wx))
              go_ret
              exact ⟨by rw [hst.out]; rfl, hB.alloc hbz _⟩
          · rw [e3, Bool.true_or, Bool.or_true, Bool.or_true] at hop
            rw [hop.out, Bool.true_and, Bool.true_and] at hok
            rcases hvs with hvs | hvs
            · have hst : Hid ((ms.take (k + 1)).all okM = true) := hyes.out (by rw [hok.out, decide_eq_true hvs])
              have hvi : ¬ (128 : Int) < (val.size : Int) := by omega
              go_wp2_with (first | (go_at_call 48; refine (hN _).mono ?_; rintro e wx ⟨rfl, hwx⟩; subst wx))
              refine ⟨⟨k + 1, by omega, by go_num, hst, hB.alloc hbz _⟩, ?_⟩
              simp [intOf]; omega
            · have hst : Hid (chkE ms = 90) := hnot.out (by rw [hok.out, decide_eq_false (by omega)])
              have hvi : (128 : Int) < (val.size : Int) := by omega
              go_wp2_with (first | (go_at_call 48; refine (hN _).mono ?_; rintro e wx ⟨rfl, hwx⟩; subst wx))
              go_ret
              exact ⟨by rw [hst.out]; rfl, hB.alloc hbz _⟩
          · rw [e4, Bool.or_true, Bool.or_true, Bool.or_true] at hop
            rw [hop.out, Bool.true_and, Bool.true_and] at hok
            rcases hvs with hvs | hvs
            · have hst : Hid ((ms.take (k + 1)).all okM = true) := hyes.out (by rw [hok.out, decide_eq_true hvs])
              have hvi : ¬ (128 : Int) < (val.size : Int) := by omega
              go_wp2_with (first | (go_at_call 48; refine (hN _).mono ?_; rintro e wx ⟨rfl, hwx⟩; subst wx))
              refine ⟨⟨k + 1, by omega, by go_num, hst, hB.alloc hbz _⟩, ?_⟩
              simp [intOf]; omega
            · have hst : Hid (chkE ms = 90) := hnot.out (by rw [hok.out, decide_eq_false (by omega)])
              have hvi : (128 : Int) < (val.size : Int) := by omega
              go_wp2_with (first | (go_at_call 48; refine (hN _).mono ?_; rintro e wx ⟨rfl, hwx⟩; subst wx))
              go_ret
              exact ⟨by rw [hst.out]; rfl, hB.alloc hbz _⟩
          · rw [e1, e2, e3, e4] at hop
            have hst : Hid (chkE ms = 90) := hnot.out (by rw [hok.out, hop.out]; rfl)
            go_wp2_with (first | (go_at_call 48; refine (hN _).mono ?_; rintro e wx ⟨rfl, hwx⟩; subst wx))
            go_ret
            exact ⟨by rw [hst.out]; rfl, hB.alloc hbz _⟩
      · obtain rfl : k = ms.length := by omega
        have hki : ¬ (ms.length : Int) < (ms.length : Int) := by omega
        have hR : Hid (chkE ms = 0) := by
          have := hto.out
          rw [List.take_of_length_le (Nat.le_refl _)] at this
          show _ = _
          unfold chkE
          rw [if_neg h16, if_pos this]
        go_wp2
        go_ret
        exact ⟨by rw [hR.out]; rfl, hB⟩
end Go.Proofs.Ytckchabcnmkbeaa
