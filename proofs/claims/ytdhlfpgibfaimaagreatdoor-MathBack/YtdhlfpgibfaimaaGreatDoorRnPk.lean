/- Rn; Rk; Pk. -/
import Derived.Test.YtdhlfpgibfaimaaGreatDoorRm
/- The document's Make: the walk. -/
namespace Go.Proofs.YtdhlfpgibfaimaaGreatDoor
set_option linter.unusedVariables false
open Go.RowKit
theorem mk_len {l out : List Lb} {e : Int} (h : MkQ l out e) : out.length ≤ l.length := by
  rcases h with ⟨_, _, rfl⟩ | ⟨_, _, _, rfl⟩ | ⟨_, _, _, _, rfl⟩ | ⟨_, _, _, _, h4⟩
  · simp
  · simp
  · simp
  · exact Nat.le_of_eq h4.length_eq
theorem mk_er {l out : List Lb} {e : Int} (h : MkQ l out e) : 0 ≤ e ∧ e ≤ 90 := by
  rcases h with ⟨_, rfl, _⟩ | ⟨_, _, rfl, _⟩ | ⟨_, _, _, rfl, _⟩ | ⟨_, _, rfl, _, _⟩ <;> omega
end Go.Proofs.YtdhlfpgibfaimaaGreatDoor
/- The document's Get, Check, Match; append in an operation that is guarded. -/
namespace Go.Proofs.YtdhlfpgibfaimaaGreatDoor
set_option linter.unusedVariables false
open Go.RowKit
/-- append(s, x...), x nil or not, the operation's guard true. -/
theorem appW {α : Type} {E : Enc α} (T : RowTy E) {w : World} {ops : Array Oper} {rest : List Oper} {o : Oper} {a : Act} {Q : Exit → Act → World → Prop} (hw : Region.wanted o (yielded ops a.tmps) = true) (s x : Operand)
    (hop : o.op = Op.call { callee := Callee.builtin Builtin.append, args := #[s, x], argTypes := #[T.st, T.st] }) (base : Nat) (v u : Value) (l m : List α) (hs : a.eval s = v) (hx : a.eval x = u)
    (hown : OwnS T w base v l) (hm : Sls E w u m) (hbase : base ≤ w.heap.size) (hlen : l.length + m.length ≤ 1000000000)
    (h : ∀ v' w', OwnS T w' base v' (l ++ m) → w.grownBy w' v.ownBlock → wpList Tryz.prog ops Q rest (a.put o.dst v') w') : wpList Tryz.prog ops Q (o :: rest) a w := by
  refine BigFrame.wpList_want hw fun K hK => ?_
  have hP : ∀ (o2 : Oper), o2.op = o.op → o2.dst = o.dst → o2.type = o.type → o2.guard = none → (if Region.wanted o2 (yielded ops a.tmps) = true then Oper.wp Tryz.prog o2 a w K Q else True) := fun o2 h1 h2 _ h4 =>
    stepN T h4 s x (h1.trans hop) base v u l m hs hx hown hm hbase hlen (fun v' w' a1 a2 => by rw [h2]; exact hK _ _ (h v' w' a1 a2))
  have := hP { o with guard := none } rfl rfl rfl rfl
  rw [if_pos (by simp [Region.wanted])] at this
  exact this
set_option maxRecDepth 100000 in
set_option maxHeartbeats 2000000 in
/-- The document's Get. -/
theorem rget_any (v : Value) (l : List Lb) (n : ByteArray) (w : World) (hv : Lbs w v l) (hl : l.length ≤ 1000000) : Calls Tryz.prog 122 #[v, .string n] w fun e w' => e = .returned (.string (getL l n)) ∧ w' = w := by
  obtain ⟨a, c, rfl⟩ := hv.shape
  replace hv : Hid (Lbs w (.slice a l.length c) l) := hv
  go_enter Tryz.func122, Tryz.ntmps122
  go_wp2
  go_loop [5] (fun i => ∃ k : Nat, k ≤ l.length ∧ i = .int .i64 k ∧ noTo l n k) (fun i => l.length - (intOf i).toNat)
  case atStart => exact ⟨0, Nat.zero_le _, rfl, fun j hj => absurd hj (Nat.not_lt_zero _)⟩
  case round =>
    obtain ⟨k, hk, rfl, hno⟩ := hrel
    by_cases hlt : k < l.length
    · have hki : (k : Int) < (l.length : Int) := by omega
      obtain ⟨b, o, rfl, x0, x1⟩ := lb_at hv.out k hlt
      by_cases he : (l.getD k lb0).name = n
      · have hg : Hid (getL l n = (l.getD k lb0).value) := getL_at hlt hno he
        rw [he] at x0
        clear he
        generalize (l.getD k lb0).value = u at *
        go_wp2
        go_ret
        exact ⟨by rw [hg.out]; rfl, rfl⟩
      · have hst := noTo_succ hno he
        have hne := toList_ne he
        clear he
        generalize (l.getD k lb0).value = u at *
        generalize (l.getD k lb0).name = m at *
        go_wp2
        go_round
        case rel => exact ⟨k + 1, by omega, by go_num, hst⟩
        case measure => simp [intOf]; omega
    · obtain rfl : k = l.length := by omega
      have hki : ¬ (l.length : Int) < (l.length : Int) := by omega
      have hg : Hid (getL l n = ⟨#[]⟩) := getL_no hno
      go_wp2
      go_ret
      exact ⟨by rw [hg.out]; rfl, rfl⟩
end Go.Proofs.YtdhlfpgibfaimaaGreatDoor
/- slices.Contains at texts, pick, Without, Only; cmp.Compare, Compare. -/
namespace Go.Proofs.YtdhlfpgibfaimaaGreatDoor
set_option linter.unusedVariables false
open Go.RowKit
theorem contains_inB (ns : List ByteArray) (x : ByteArray) : Lib.containsS ns x = inB ns x := by
  rw [Bool.eq_iff_iff, Lib.containsS_iff]
  unfold inB
  simp
/-- The labels whose names are among names, or are not. -/
def pickL (l : List Lb) (ns : List ByteArray) (b : Bool) : List Lb := l.filter fun a => inB ns a.name == b
theorem pickL_only (l : List Lb) (ns : List ByteArray) : pickL l ns true = onlyL l ns := by
  unfold pickL onlyL
  refine List.filter_congr fun a _ => ?_
  cases inB ns a.name <;> rfl
theorem pickL_without (l : List Lb) (ns : List ByteArray) : pickL l ns false = withoutL l ns := by
  unfold pickL withoutL
  refine List.filter_congr fun a _ => ?_
  cases inB ns a.name <;> rfl
theorem pickL_take (l : List Lb) (ns : List ByteArray) (b : Bool) (k : Nat) (hk : k < l.length) : pickL (l.take (k + 1)) ns b = pickL (l.take k) ns b ++ (if (inB ns (l.getD k lb0).name == b) = true then [l.getD k lb0] else []) := by
  rw [ltake_getD l lb0 k hk]
  unfold pickL
  rw [List.filter_append, List.filter_cons, List.filter_nil]
theorem pickL_len (l : List Lb) (ns : List ByteArray) (b : Bool) : (pickL l ns b).length ≤ l.length := List.length_filter_le _ _
/-! ### Compare -/
def cmpN (a b : Int) : Int := if a < b then -1 else if b < a then 1 else 0
set_option maxRecDepth 100000 in
set_option maxHeartbeats 1000000 in
theorem isNaN_any (x : Int) (w : World) : Calls Tryz.prog 229 #[.int .i64 x] w fun e w' => e = .returned (.bool false) ∧ w' = w := by
  have h : (x != x) = false := by simp
  go_enter Tryz.func229, Tryz.ntmps229
  go_wp2
  go_ret
  exact ⟨rfl, rfl⟩
set_option maxRecDepth 100000 in
set_option maxHeartbeats 1000000 in
theorem icmp_any (x y : Int) (w : World) : Calls Tryz.prog 180 #[.int .i64 x, .int .i64 y] w fun e w' => e = .returned (.int .i64 (cmpN x y)) ∧ w' = w := by
  have h := fun z W => isNaN_any z W
  by_cases h1 : x < y
  · have hR : Hid (cmpN x y = -1) := by show _ = _; unfold cmpN; rw [if_pos h1]
    go_enter Tryz.func180, Tryz.ntmps180
    go_wp2_with (first | (go_at_call 229; refine (h _ _).mono ?_; rintro e wx ⟨rfl, hwx⟩; subst wx))
    go_ret
    exact ⟨by rw [hR.out]; rfl, rfl⟩
  · by_cases h2 : y < x
    · have hR : Hid (cmpN x y = 1) := by show _ = _; unfold cmpN; rw [if_neg h1, if_pos h2]
      go_enter Tryz.func180, Tryz.ntmps180
      go_wp2_with (first | (go_at_call 229; refine (h _ _).mono ?_; rintro e wx ⟨rfl, hwx⟩; subst wx))
      go_ret
      exact ⟨by rw [hR.out]; rfl, rfl⟩
    · have hR : Hid (cmpN x y = 0) := by show _ = _; unfold cmpN; rw [if_neg h1, if_neg h2]
      go_enter Tryz.func180, Tryz.ntmps180
      go_wp2_with (first | (go_at_call 229; refine (h _ _).mono ?_; rintro e wx ⟨rfl, hwx⟩; subst wx))
      go_ret
      exact ⟨by rw [hR.out]; rfl, rfl⟩
theorem cmpS_app (p x y : List Lb) : cmpS (p ++ x) (p ++ y) = cmpS x y := by
  induction p with
  | nil => rfl
  | cons a p ih =>
    rw [List.cons_append, List.cons_append, cmpS, if_pos (cmpB_eq.2 rfl), ih]
theorem cmpS_drop {a b : List Lb} {k : Nat} (h : a.take k = b.take k) : cmpS a b = cmpS (a.drop k) (b.drop k) := by
  have e1 : a = a.take k ++ a.drop k := (List.take_append_drop k a).symm
  have e2 : b = a.take k ++ b.drop k := by rw [h]; exact (List.take_append_drop k b).symm
  calc cmpS a b = cmpS (a.take k ++ a.drop k) (a.take k ++ b.drop k) := by rw [← e1, ← e2]
    _ = _ := cmpS_app _ _ _
theorem drop_getD (l : List Lb) (k : Nat) (h : k < l.length) : l.drop k = l.getD k lb0 :: l.drop (k + 1) := by
  rw [List.drop_eq_getElem_cons h]; simp [h]
theorem cmpS_at {a b : List Lb} {k : Nat} (h : a.take k = b.take k) (ha : k < a.length) (hb : k < b.length) (hne : a.getD k lb0 ≠ b.getD k lb0) : cmpS a b = cmpB (a.getD k lb0) (b.getD k lb0) := by
  rw [cmpS_drop h, drop_getD a k ha, drop_getD b k hb, cmpS, if_neg (fun e => hne (cmpB_eq.1 e))]
theorem cmpS_end {a b : List Lb} {k : Nat} (h : a.take k = b.take k) (hk : k = min a.length b.length) : cmpS a b = cmpN a.length b.length := by
  rw [cmpS_drop h]
  unfold cmpN
  by_cases h1 : a.length < b.length
  · have ha : a.drop k = [] := List.drop_eq_nil_iff.2 (by omega)
    rw [ha, drop_getD b k (by omega), cmpS, if_pos (by omega)]
  · rw [if_neg (by omega)]
    have hb : b.drop k = [] := List.drop_eq_nil_iff.2 (by omega)
    by_cases h2 : b.length < a.length
    · rw [hb, drop_getD a k (by omega), cmpS, if_pos (by omega)]
    · have ha : a.drop k = [] := List.drop_eq_nil_iff.2 (by omega)
      rw [ha, hb, cmpS, if_neg (by omega)]
set_option maxRecDepth 100000 in
set_option maxHeartbeats 2000000 in
/-- labels.Compare. -/
theorem compare_any (v u : Value) (a b : List Lb) (w : World) (hv : Lbs w v a) (hu : Lbs w u b) (hla : a.length ≤ 1000000) (hlb : b.length ≤ 1000000) :
    Calls Tryz.prog 154 #[v, u] w fun e w' => e = .returned (.int .i64 (cmpS a b)) ∧ Below w.heap.size w w' := by
  obtain ⟨a1, c1, rfl⟩ := hv.shape
  obtain ⟨a2, c2, rfl⟩ := hu.shape
  replace hv : Hid (Lbs w (.slice a1 a.length c1) a) := hv
  replace hu : Hid (Lbs w (.slice a2 b.length c2) b) := hu
  obtain ⟨M, hM⟩ : ∃ M : Nat, Hid (M = min a.length b.length) := ⟨_, rfl⟩
  have hmin : min (a.length : Int) (b.length : Int) = (M : Int) := by rw [hM.out]; omega
  have hMa : M ≤ a.length := by rw [hM.out]; omega
  have hMb : M ≤ b.length := by rw [hM.out]; omega
  go_enter Tryz.func154, Tryz.ntmps154
  go_wp2
  clear hmin
  go_loopw [11] (fun i wr => ∃ k d : Nat, k ≤ M ∧ i = .int .i64 k ∧ Hid (a.take k = b.take k) ∧ wr = w.drewN d) (fun i _ => M - (intOf i).toNat)
  case atStart => exact ⟨0, 0, Nat.zero_le _, rfl, rfl, rfl⟩
  case round =>
    obtain ⟨k, d, hk, rfl, htk, rfl⟩ := hrel
    by_cases hlt : k < M
    · have hki : (k : Int) < (M : Int) := by omega
      have hka : (k : Int) < (a.length : Int) := by omega
      have hkb : (k : Int) < (b.length : Int) := by omega
      obtain ⟨b1, o1, rfl, x0, x1⟩ := lb_at hv.out k (by omega)
      obtain ⟨b2, o2, rfl, y0, y1⟩ := lb_at hu.out k (by omega)
      by_cases hpq : a.getD k lb0 = b.getD k lb0
      · have hst : Hid (a.take (k + 1) = b.take (k + 1)) := by
          show _ = _
          rw [ltake_getD a lb0 k (by omega), ltake_getD b lb0 k (by omega), htk.out, hpq]
        rw [hpq] at x0 x1
        clear hpq
        generalize b.getD k lb0 = x at *
        obtain ⟨nx, vx⟩ := x
        simp only at x0 x1 y0 y1
        go_wp2
        go_quiet (fail)
        go_wp2
        refine ⟨⟨k + 1, _, by omega, by go_num, hst, rfl⟩, ?_⟩
        simp [intOf]; omega
      · have hR : Hid (cmpS a b = cmpB (a.getD k lb0) (b.getD k lb0)) := cmpS_at htk.out (by omega) (by omega) hpq
        have hc := fun W => compareLabel_bel (a.getD k lb0) (b.getD k lb0) W
        have hb3 : (((a.getD k lb0).name.toList == (b.getD k lb0).name.toList) = false) ∨ (((a.getD k lb0).name.toList == (b.getD k lb0).name.toList) = true ∧ ((a.getD k lb0).value.toList == (b.getD k lb0).value.toList) = false) := by
          cases e2 : ((a.getD k lb0).name.toList == (b.getD k lb0).name.toList) with
          | false => exact .inl rfl
          | true =>
            cases e3 : ((a.getD k lb0).value.toList == (b.getD k lb0).value.toList) with
            | false => exact .inr ⟨rfl, rfl⟩
            | true =>
              exfalso
              exact hpq (lb_ext (toList_eq e2) (toList_eq e3))
        clear hpq
        generalize a.getD k lb0 = x at *
        generalize b.getD k lb0 = y at *
        generalize cmpB x y = C at *
        obtain ⟨nx, vx⟩ := x
        obtain ⟨ny, vy⟩ := y
        unfold lbV at hc
        simp only at x0 x1 y0 y1 hb3 hc
        rcases hb3 with e1 | ⟨e1, e2⟩
        all_goals
          go_wp2
          go_quiet (fail)
          go_wp2
          have hBd : Below w.heap.size w ((w.drewN d).drewN nq) := below_drewN (below_drewN (Below.refl _ _) _) _
          generalize (w.drewN d).drewN nq = wz at hBd ⊢
          have c0 : ∀ p : Bel wz, p.W.cell? ⟨b1, o1 + k * 2, none⟩ = some (.string nx) := fun p => p.cell ((hBd.cell (p := ⟨b1, o1 + k * 2, none⟩) (World.block_lt_of_cell? w _ x0)).trans x0)
          have d0 : ∀ p : Bel wz, p.W.cell? ⟨b1, o1 + k * 2 + 1, none⟩ = some (.string vx) := fun p => p.cell ((hBd.cell (p := ⟨b1, o1 + k * 2 + 1, none⟩) (World.block_lt_of_cell? w _ x1)).trans x1)
          have c1' : ∀ p : Bel wz, p.W.cell? ⟨b2, o2 + k * 2, none⟩ = some (.string ny) := fun p => p.cell ((hBd.cell (p := ⟨b2, o2 + k * 2, none⟩) (World.block_lt_of_cell? w _ y0)).trans y0)
          have d1' : ∀ p : Bel wz, p.W.cell? ⟨b2, o2 + k * 2 + 1, none⟩ = some (.string vy) := fun p => p.cell ((hBd.cell (p := ⟨b2, o2 + k * 2 + 1, none⟩) (World.block_lt_of_cell? w _ y1)).trans y1)
          refine wp_region_bel (by kernel_rfl) (by kernel_rfl) ?_
          repeat (go_big_quiet_step ((first | (go_at_call 179; exact Calls.bel (hc _)))))
          refine wpQuiet_nil ?_
          rintro wq ⟨⟨_, hq⟩, rfl⟩
          go_wp2
          go_ret
          exact ⟨by rw [hR.out]; rfl, hBd.trans (hq.mono hBd.size)⟩
    · obtain rfl : k = M := by omega
      have hki : ¬ (k : Int) < (k : Int) := by omega
      have hR : Hid (cmpS a b = cmpN a.length b.length) := cmpS_end htk.out hM.out
      have hc := fun W => icmp_any a.length b.length W
      generalize cmpN a.length b.length = C at *
      go_wp2_with (first | (go_at_call 180; refine (hc _).mono ?_; rintro e wx ⟨rfl, hwx⟩; subst wx))
      go_ret
      exact ⟨by rw [hR.out]; rfl, below_drewN (Below.refl _ _) _⟩
theorem bytes_of {l : List Int} (h : ∀ c ∈ l, 0 ≤ c ∧ c < 256) : IsBytes l := h
theorem labK_bytes (a : Lb) : IsBytes (labK a) := by
  unfold labK
  refine isBytes_append (isBytes_append (isBytes_append (numsS_bytes _) (bytes_of ?_)) (esc_bytes (numsS_bytes _))) (bytes_of ?_)
  · intro c hc; simp at hc; omega
  · intro c hc; simp at hc; omega
theorem restK_bytes (l : List Lb) : IsBytes (restK l) := by
  induction l with
  | nil => intro c hc; cases hc
  | cons a l ih =>
    unfold restK
    refine isBytes_append (a := 44 :: labK a) ?_ ih
    intro c hc
    rcases List.mem_cons.1 hc with rfl | hc
    · omega
    · exact labK_bytes a c hc
theorem keyL_bytes (l : List Lb) : IsBytes (keyL l) := by
  unfold keyL
  refine isBytes_append (a := 123 :: bodyK l) ?_ (bytes_of ?_)
  · intro c hc
    rcases List.mem_cons.1 hc with rfl | hc
    · omega
    · cases l with
      | nil => cases hc
      | cons a l => exact isBytes_append (labK_bytes a) (restK_bytes l) c hc
  · intro c hc; simp at hc; omega
end Go.Proofs.YtdhlfpgibfaimaaGreatDoor
