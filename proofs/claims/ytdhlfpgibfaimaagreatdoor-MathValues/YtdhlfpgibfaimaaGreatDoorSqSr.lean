/- Sq; Sr. -/
import Derived.Test.YtdhlfpgibfaimaaGreatDoorSo2Sp
/- series.Sort. -/
namespace Go.Proofs.YtdhlfpgibfaimaaGreatDoor
set_option linter.unusedVariables false
open Go.RowKit
theorem row1V (w : World) (a : Vl) : Vls (w.alloc (.cells #[.int .i64 a.kind, .int .i64 a.n] 24)) (.slice (some ⟨w.heap.size, 0, none⟩) 1 1) [a] := by
  refine ⟨_, _, rfl, .inr ⟨_, _, rfl, fun t ht => ?_⟩⟩
  obtain rfl : t = 0 := by simpa using ht
  exact (vlNew w a).cells
theorem chk1' (a : Vl) (w : World) (o : Obj) : Calls Tryz.prog 115 #[.slice (some ⟨w.heap.size + 1, 0, none⟩) 1 1] ((w.alloc o).alloc (.cells #[.int .i64 a.kind, .int .i64 a.n] 24)) fun e w' => e = .returned (.int .i64 (chkE [a])) ∧ Below w.heap.size w w' := by
  have h := check_any _ [a] _ (row1V (w.alloc o) a) (by simp)
  rw [World.size_alloc] at h
  exact h.mono fun e w' ⟨h, hb⟩ => ⟨h, ((bW0 w o).alloc (by simp) _).trans (hb.mono (by simp; omega))⟩
theorem chk_yes {a : Vl} (h : IsV a) : chkE [a] = 0 := by unfold chkE; rw [if_pos]; intro v hv; rw [List.mem_singleton.1 hv]; exact h
theorem chk_no {a : Vl} (h : ¬ IsV a) : chkE [a] = 80 := by unfold chkE; rw [if_neg]; exact fun g => h (g a (by simp))
/-- What Sort tells of the series l. -/
def SortR (l : List Se) (w : World) (e : Ending) (w' : World) : Prop :=
  Below w.heap.size w w' ∧ ((∃ l' g cap, Series10.SortQ (l.map serOf) (l'.map serOf) 0 ∧ l'.length = l.length ∧ w.heap.size ≤ g ∧ e = .returned (.tuple #[.slice (some ⟨g, 0, none⟩) l'.length cap, .int .i64 0]) ∧ OwnR w' w.heap.size (.slice (some ⟨g, 0, none⟩) l'.length cap) l' ∧ LsOk w' g l') ∨
    (∃ er : Int, (er != 0) = true ∧ Series10.SortQ (l.map serOf) [] er ∧ e = .returned (.tuple #[.slice none 0 0, .int .i64 er])))
set_option maxRecDepth 100000 in
set_option maxHeartbeats 8000000 in
/-- series.Sort. -/
theorem sort_ser (v : Value) (L : List Se) (w : World) (hv : Srs w v L) (hin : ∀ x ∈ L, Lbs w (.slice x.a x.n x.c) x.labs) (hr : ∀ x ∈ L, LbsR x.labs ∧ x.labs.length ≤ 4398046511104) (hl : L.length ≤ 1000000) : Calls Tryz.prog 73 #[v] w fun e w' => SortR L w e w' := by
  have hws := sets_any v L w hv hin hr hl
  have hsx : ∀ {s : List Series10.Sr}, s = L.map serOf → (∃ x ∈ L, ¬ IsSet x.labs) → ∃ a ∈ s, ¬ IsSet a.labels := fun e ⟨x, hx, h⟩ => ⟨serOf x, by rw [e]; exact List.mem_map.2 ⟨x, hx, rfl⟩, h⟩
  by_cases hset : ∀ x ∈ L, IsSet x.labs
  · obtain ⟨n, hN⟩ : ∃ n, Hid (n = L.length) := ⟨_, rfl⟩
    have hws2 : Calls Tryz.prog 114 #[v] w fun e w' => e = .returned (.tuple #[.slice (some ⟨w.heap.size, 0, none⟩) n n, .int .i64 0]) ∧ ∃ L', Hid (OwnR w' w.heap.size (.slice (some ⟨w.heap.size, 0, none⟩) n n) L' ∧ LsOk w' w.heap.size L' ∧ L'.map serOf = L.map serOf ∧ Below w.heap.size w w') := hws.mono fun e w' ⟨hb, h⟩ => by
      rcases h with ⟨_, L', he, h1, h2, h3⟩ | ⟨⟨x, hx, hn⟩, _⟩
      · rw [← hN.out] at he h1
        exact ⟨he, L', h1, h2, h3, hb⟩
      · exact absurd (hset x hx) hn
    clear hws
    rw [← hN.out] at hl
    go_enter Tryz.func73, Tryz.ntmps73
    go_wp2_with (first | (go_at_call 114; refine hws2.mono ?_; rintro e w1 ⟨rfl, L', hall⟩))
    have hLn : Hid (L'.length = n) := by
      show _ = _
      have := congrArg List.length hall.out.2.2.1
      rw [List.length_map, List.length_map] at this
      rw [this, hN.out]
    go_loopw [19] (fun i wr => ∃ k : Nat, k ≤ n ∧ i = .int .i64 k ∧ Hid (∀ j, j < k → IsV (L'.getD j se0).v) ∧ Hid (Below w1.heap.size w1 wr)) (fun i _ => n - (intOf i).toNat)
    case atStart => exact ⟨0, Nat.zero_le _, rfl, fun j hj => absurd hj (Nat.not_lt_zero _), Below.refl _ _⟩
    case round =>
      obtain ⟨k, hk, rfl, hvs, hB⟩ := hrel
      have hbz := hB.out.size
      by_cases hlt : k < n
      · have hki : (k : Int) < (n : Int) := by omega
        have hrow := (hall.out.1.stay hB.out).sls
        obtain ⟨b, o, e, x0, x1, x2⟩ := sr_at hrow k (by rw [hLn.out]; exact hlt)
        cases e
        simp only [Nat.zero_add] at x0 x1 x2
        obtain ⟨x, hx⟩ : ∃ x, Hid (x = L'.getD k se0) := ⟨_, rfl⟩
        rw [← hx.out] at x0 x1 x2
        have hck := chk1' x.v wr (.cells #[.slice x.a x.n x.c, .int .i64 x.v.kind, .int .i64 x.v.n] 86)
        clear hrow
        by_cases hvx : IsV x.v
        · rw [chk_yes hvx] at hck
          have hvs2 : Hid (∀ j, j < k + 1 → IsV (L'.getD j se0).v) := fun j hj => by
            by_cases e : j = k
            · subst e; rw [← hx.out]; exact hvx
            · exact hvs.out j (by omega)
          go_wp2_with (first | (go_at_call 115; refine hck.mono ?_; rintro e w2 ⟨rfl, hb2⟩; have hB2 : Hid _ := hB.out.trans (hb2.mono hbz)))
          refine ⟨⟨k + 1, by omega, by go_num, hvs2, hB2⟩, ?_⟩
          simp [intOf]; omega
        · rw [chk_no hvx] at hck
          have hq : Hid (Series10.SortQ (L.map serOf) [] 80) := by
            refine .inr (.inl ⟨fun a ha => ?_, ?_, rfl, rfl⟩)
            · obtain ⟨y, hy, rfl⟩ := List.mem_map.1 ha; exact hset y hy
            · rw [← hall.out.2.2.1]
              have hkl : k < L'.length := by rw [hLn.out]; exact hlt
              refine ⟨serOf x, List.mem_map.2 ⟨x, ?_, rfl⟩, hvx⟩
              rw [hx.out, List.getD_eq_getElem?_getD, List.getElem?_eq_getElem hkl]; exact List.getElem_mem hkl
          have hBw := hall.out.2.2.2
          go_wp2_with (first | (go_at_call 115; refine hck.mono ?_; rintro e w2 ⟨rfl, hb2⟩; have hB2 := hBw.trans ((hB.out.trans (hb2.mono hbz)).mono hBw.size)))
          go_ret2
          exact ⟨hB2, .inr ⟨80, rfl, hq.out, rfl⟩⟩
      · obtain rfl : k = n := by omega
        have hki : ¬ (k : Int) < (k : Int) := by omega
        have hri : Right L' := fun x hx => by
          obtain ⟨j, hj, rfl⟩ := List.getElem_of_mem hx
          refine ⟨?_, ?_⟩
          · have : serOf L'[j] ∈ L.map serOf := by rw [← hall.out.2.2.1]; exact List.mem_map.2 ⟨_, hx, rfl⟩
            obtain ⟨y, hy, he⟩ := List.mem_map.1 this
            have := hset y hy
            have e2 : y.labs = L'[j].labs := congrArg Series10.Sr.labels he
            rw [← e2]; exact this
          · have := hvs.out j (by rw [← hLn.out]; exact hj)
            rw [List.getD_eq_getElem?_getD, List.getElem?_eq_getElem hj] at this
            exact this
        have hown : OwnR wr w.heap.size (.slice (some ⟨w.heap.size, 0, none⟩) L'.length k) L' := by rw [hLn.out]; exact hall.out.1.stay hB.out
        have hfr := frame_any w.heap.size w.heap.size k L' wr hown (Nat.le_refl _) (hall.out.2.1.grow hB.out) hri (by rw [hLn.out]; exact hl)
        have hBw := hall.out.2.2.2.trans (hB.out.mono hall.out.2.2.2.size)
        have hmp := hall.out.2.2.1
        have hfr2 : Calls Tryz.prog 116 #[.slice (some ⟨w.heap.size, 0, none⟩) k k] wr fun e w' => ∃ u er, e = .returned (.tuple #[u, .int .i64 er]) ∧ Hid (SortR L w (.returned (.tuple #[u, .int .i64 er])) w') := by
          rw [hLn.out] at hfr
          refine hfr.mono ?_
          rintro e w' ⟨hb, h⟩
          rcases h with ⟨l', hq, he, ho, hok⟩ | ⟨er, h86, hq, he⟩
          · have hl2 : l'.length = L'.length := by
              have := (hq.frame rfl).2.length_eq
              simpa using this
            refine ⟨_, _, he, hBw.trans hb, .inl ⟨l', w.heap.size, k, by rw [← hmp]; exact hq, ?_, Nat.le_refl _, ?_, ?_, hok⟩⟩
            · rw [hl2, hLn.out, hN.out]
            · rw [hl2]
            · rw [hl2, hLn.out]; rw [hLn.out] at ho; exact ho
          · refine ⟨_, _, he, hBw.trans hb, .inr ⟨er, ?_, by rw [← hmp]; exact hq, rfl⟩⟩
            rcases h86 with rfl | rfl <;> rfl
        clear hfr hown hri hvs hall
        go_wp2_with (first | (go_at_call 116; refine hfr2.mono ?_; rintro e w2 ⟨u2, er2, rfl, hR⟩))
        go_ret2
        exact hR.out
  · have hex : ∃ x ∈ L, ¬ IsSet x.labs := Classical.byContradiction fun h => hset fun x hx => Classical.byContradiction fun g => h ⟨x, hx, g⟩
    have hq : Hid (Series10.SortQ (L.map serOf) [] 90) := .inl ⟨hsx rfl hex, rfl, rfl⟩
    have hws2 : Calls Tryz.prog 114 #[v] w fun e w' => e = .returned (.tuple #[.slice none 0 0, .int .i64 90]) ∧ Below w.heap.size w w' := hws.mono fun e w' ⟨hb, h⟩ => by
      rcases h with ⟨h, _⟩ | ⟨_, he⟩
      · exact absurd h hset
      · exact ⟨he, hb⟩
    go_enter Tryz.func73, Tryz.ntmps73
    go_wp2_with (first | (go_at_call 114; refine hws2.mono ?_; rintro e w1 ⟨rfl, hb1⟩))
    go_ret2
    exact ⟨hb1, .inr ⟨90, rfl, hq.out, rfl⟩⟩
end Go.Proofs.YtdhlfpgibfaimaaGreatDoor
/- series.Map. -/
namespace Go.Proofs.YtdhlfpgibfaimaaGreatDoor
set_option linter.unusedVariables false
open Go.RowKit
/-- A series with its value reckoned. -/
def mapS (op : ByteArray) (x : Se) : Se := { x with v := doV op [x.v] }
def mapTo (op : ByteArray) (l : List Se) (k : Nat) : List Se := (l.take k).map (mapS op) ++ l.drop k
theorem mapTo_len (op : ByteArray) (l : List Se) (k : Nat) (hk : k ≤ l.length) : (mapTo op l k).length = l.length := by
  unfold mapTo; rw [List.length_append, List.length_map, List.length_take, List.length_drop]; omega
theorem mapTo_at (op : ByteArray) (l : List Se) (k : Nat) (hk : k < l.length) : (mapTo op l k).getD k se0 = l.getD k se0 := by
  unfold mapTo
  have hl : ((l.take k).map (mapS op)).length = k := by rw [List.length_map, List.length_take]; omega
  rw [List.getD_eq_getElem?_getD, List.getElem?_append_right (by omega), hl, Nat.sub_self, List.getElem?_drop, List.getD_eq_getElem?_getD]
  rfl
theorem mapTo_set (op : ByteArray) (l : List Se) (k : Nat) (hk : k < l.length) : (mapTo op l k).set k (mapS op (l.getD k se0)) = mapTo op l (k + 1) := by
  unfold mapTo
  have hl : ((l.take k).map (mapS op)).length = k := by rw [List.length_map, List.length_take]; omega
  rw [List.set_append_right _ _ (by omega), hl, Nat.sub_self, List.take_succ_eq_append_getElem hk, List.map_append, List.append_assoc, List.drop_eq_getElem_cons hk, List.getD_eq_getElem?_getD, List.getElem?_eq_getElem hk]
  rfl
theorem mapTo_all (op : ByteArray) (l : List Se) : mapTo op l l.length = l.map (mapS op) := by unfold mapTo; simp
theorem mapTo_zero (op : ByteArray) (l : List Se) : mapTo op l 0 = l := by unfold mapTo; simp
theorem set_self {l : List Value} {j : Nat} {u : Value} (h : l[j]? = some u) : l.set j u = l := by
  apply List.ext_getElem?
  intro i
  rw [List.getElem?_set]
  split
  · rename_i e; subst e
    split
    · exact h.symm
    · rename_i hn; rw [List.getElem?_eq_none (by omega)] at h; cases h
  · rfl
/-- Storing the value alone. -/
theorem own_storeVal {w : World} {base g n cap : Nat} {xs : List Se} (h : OwnR w base (.slice (some ⟨g, 0, none⟩) n cap) xs) (hn : n = xs.length) (j : Nat) (hj : j < n) (u : Vl) : OwnR ((w.setCell ⟨g, j * 3 + 1, none⟩ (.int .i64 u.kind)).setCell ⟨g, j * 3 + 2, none⟩ (.int .i64 u.n)) base (.slice (some ⟨g, 0, none⟩) n cap) (xs.set j { (xs.getD j se0) with v := u }) := by
  subst hn
  have h2 := (World.ownsRow.stored h (j * 3 + 1) (.int .i64 u.kind)).1
  have h3 := (World.ownsRow.stored h2 (j * 3 + 2) (.int .i64 u.n)).1
  unfold OwnR OwnS
  rw [List.length_set, flatR_set]
  have h0 : (flat encR xs)[j * 3]? = some (.slice (xs.getD j se0).a (xs.getD j se0).n (xs.getD j se0).c) := by
    have := flat_get (E := encR) xs j 0 hj (by decide)
    exact this
  rw [set_self h0]
  exact h3
theorem sdo1b (op : ByteArray) (a : Vl) (w : World) (o : Obj) : Calls Tryz.prog 118 #[.string op, .slice (some ⟨w.heap.size + 1, 0, none⟩) 1 1] ((w.alloc o).alloc (.cells #[.int .i64 a.kind, .int .i64 a.n] 24)) fun e w' => e = .returned (.agg #[.int .i64 (doV op [a]).kind, .int .i64 (doV op [a]).n]) ∧ Below w.heap.size w w' := by
  have h := sdo_any op _ [a] _ (row1V (w.alloc o) a) (by simp)
  rw [World.size_alloc] at h
  exact h.mono fun e w' ⟨h, hb⟩ => ⟨h, ((bW0 w o).alloc (by simp) _).trans (hb.mono (by simp; omega))⟩
theorem do_row1 (op : ByteArray) (a : Vl) (w : World) : Calls Tryz.prog 117 #[.string op, .slice (some ⟨w.heap.size, 0, none⟩) 1 1] (w.alloc (.cells #[.int .i64 a.kind, .int .i64 a.n] 24)) fun e w' => e = .returned (.tuple #[.agg #[.int .i64 (doV op [a]).kind, .int .i64 (doV op [a]).n], .int .i64 (doE op [a])]) ∧ Below w.heap.size w w' :=
  (do_any op _ [a] _ (row1V w a) (by simp)).mono fun e w' ⟨h, hb⟩ => ⟨h, (bW0 w _).trans (hb.mono (by simp))⟩
/-- What Map tells: the sorted series, each value reckoned. -/
def MapR (op : ByteArray) (L : List Se) (w : World) (e : Ending) (w' : World) : Prop :=
  Below w.heap.size w w' ∧ ((∃ (l' : List Se) (g cap : Nat), Series10.SortQ (L.map serOf) (l'.map serOf) 0 ∧ doE op [nul] = 0 ∧ l'.length = L.length ∧ w.heap.size ≤ g ∧ e = .returned (.tuple #[.slice (some ⟨g, 0, none⟩) l'.length cap, .int .i64 0]) ∧ OwnR w' w.heap.size (.slice (some ⟨g, 0, none⟩) l'.length cap) (l'.map (mapS op)) ∧ LsOk w' g (l'.map (mapS op))) ∨
    ((∃ out, Series10.SortQ (L.map serOf) out 0) ∧ (doE op [nul] != 0) = true ∧ e = .returned (.tuple #[.slice none 0 0, .int .i64 (doE op [nul])])) ∨
    (∃ er : Int, (er != 0) = true ∧ Series10.SortQ (L.map serOf) [] er ∧ e = .returned (.tuple #[.slice none 0 0, .int .i64 er])))
set_option maxRecDepth 100000 in
set_option maxHeartbeats 8000000 in
/-- series.Map. -/
theorem map_ser (op : ByteArray) (v : Value) (L : List Se) (w : World) (hv : Srs w v L) (hin : ∀ x ∈ L, Lbs w (.slice x.a x.n x.c) x.labs) (hr : ∀ x ∈ L, LbsR x.labs ∧ x.labs.length ≤ 4398046511104) (hl : L.length ≤ 1000000) : Calls Tryz.prog 74 #[.string op, v] w fun e w' => MapR op L w e w' := by
  have hso := sort_ser v L w hv hin hr hl
  by_cases hs : ∃ out, Series10.SortQ (L.map serOf) out 0
  · have hso2 : Calls Tryz.prog 73 #[v] w fun e w' => ∃ (l' : List Se) (g cap n : Nat), e = .returned (.tuple #[.slice (some ⟨g, 0, none⟩) n cap, .int .i64 0]) ∧ Hid (n = l'.length ∧ Series10.SortQ (L.map serOf) (l'.map serOf) 0 ∧ l'.length = L.length ∧ w.heap.size ≤ g ∧ OwnR w' w.heap.size (.slice (some ⟨g, 0, none⟩) n cap) l' ∧ LsOk w' g l' ∧ Below w.heap.size w w') := hso.mono fun e w' ⟨hb, h⟩ => by
      rcases h with ⟨l', g, cap, hq, hll, hg, he, ho, hok⟩ | ⟨er, hne, hq, he⟩
      · exact ⟨l', g, cap, l'.length, he, rfl, hq, hll, hg, ho, hok, hb⟩
      · obtain ⟨out, h0⟩ := hs
        have := (hq.one h0).2
        rw [this] at hne
        cases hne
    clear hso
    have hdo := fun W => do_row1 op nul W
    obtain ⟨E0, hE0⟩ : ∃ E, Hid (E = doE op [nul]) := ⟨_, rfl⟩
    rw [← hE0.out] at hdo
    generalize doV op [nul] = R0 at *
    have hnul : ∀ W : World, Calls Tryz.prog 95 #[] W fun e w' => e = .returned (.agg #[.int .i64 nul.kind, .int .i64 nul.n]) ∧ Below W.heap.size W w' := fun W => (null_any W).mono fun _ _ ⟨a, b⟩ => ⟨a, b ▸ bW0 _ _⟩
    generalize nul = NU at hdo hnul
    cases hE : (E0 != 0) with
    | true =>
      go_enter Tryz.func74, Tryz.ntmps74
      go_wp2_with (first
        | (go_at_call 73; refine hso2.mono ?_; rintro e w1 ⟨l', g, cap, n, rfl, hall⟩; have hB1 := hall.out.2.2.2.2.2.2)
        | (go_at_call 95; refine (hnul _).mono ?_; rintro e w2 ⟨rfl, hb2⟩; have hB2 := hB1.trans (hb2.mono hB1.size))
        | (go_at_call 117; refine (hdo _).mono ?_; rintro e w3 ⟨rfl, hb3⟩; have hB3 := hB2.trans (hb3.mono hB2.size)))
      go_ret2
      refine ⟨hB3.alloc hB3.size _, .inr (.inl ⟨hs, by rw [← hE0.out]; exact hE, by rw [← hE0.out]; rfl⟩)⟩
    | false =>
      have hE00 : E0 = 0 := by simpa using hE
      go_enter Tryz.func74, Tryz.ntmps74
      go_wp2_with (first
        | (go_at_call 73; refine hso2.mono ?_; rintro e w1 ⟨l', g, cap, n, rfl, hall⟩; have hB1 := hall.out.2.2.2.2.2.2)
        | (go_at_call 95; refine (hnul _).mono ?_; rintro e w2 ⟨rfl, hb2⟩; have hB2 := hB1.trans (hb2.mono hB1.size))
        | (go_at_call 117; refine (hdo _).mono ?_; rintro e w3 ⟨rfl, hb3⟩; have hB3 := hB2.trans (hb3.mono hB2.size)))
      obtain ⟨hnl, hsq, hlen, hgw, ho1, hok1, _⟩ := hall.out
      have hz : Hid (doE op [nul] = 0) := hE0.out.symm.trans hE00
      have hs13 : Below w1.heap.size w1 (w3.alloc (.cells #[.int .i64 R0.kind, .int .i64 R0.n] 24)) := (hb2.trans (hb3.mono hb2.size)).alloc (Nat.le_trans hb2.size hb3.size) _
      have ho3 : Hid (OwnR (w3.alloc (.cells #[.int .i64 R0.kind, .int .i64 R0.n] 24)) w.heap.size (.slice (some ⟨g, 0, none⟩) n cap) (mapTo op l' 0)) := by rw [mapTo_zero]; exact ho1.stay hs13
      have hok3 : Hid (LsOk (w3.alloc (.cells #[.int .i64 R0.kind, .int .i64 R0.n] 24)) g (mapTo op l' 0)) := by rw [mapTo_zero]; exact hok1.grow hs13
      have hB4 : Hid (Below w.heap.size w (w3.alloc (.cells #[.int .i64 R0.kind, .int .i64 R0.n] 24))) := hB3.alloc hB3.size _
      replace hsq : Hid (Series10.SortQ (L.map serOf) (l'.map serOf) 0) := hsq
      replace hnl : Hid (n = l'.length) := hnl
      replace hlen : Hid (l'.length = L.length) := hlen
      have hn6 : n ≤ 1000000 := by rw [hnl.out, hlen.out]; exact hl
      clear hall ho1 hok1 hs13 hso2 hdo hnul
      go_loopw [32] (fun i wr => ∃ k : Nat, k ≤ n ∧ i = .int .i64 k ∧ Hid (OwnR wr w.heap.size (.slice (some ⟨g, 0, none⟩) n cap) (mapTo op l' k)) ∧ Hid (LsOk wr g (mapTo op l' k)) ∧ Hid (Below w.heap.size w wr)) (fun i _ => n - (intOf i).toNat)
      case atStart => exact ⟨0, Nat.zero_le _, rfl, ho3, hok3, hB4⟩
      case round =>
        obtain ⟨k, hk, rfl, ho, hok, hB⟩ := hrel
        by_cases hlt : k < n
        · have hki : (k : Int) < (n : Int) := by omega
          have hkl : k < l'.length := by rw [← hnl.out]; exact hlt
          have hml : Hid (n = (mapTo op l' k).length) := by show _ = _; rw [mapTo_len op l' k (by omega), hnl.out]
          have hat := mapTo_at op l' k hkl
          have hst := mapTo_set op l' k hkl
          obtain ⟨b, o, e, x0, x1, x2⟩ := sr_at ho.out.sls k (by rw [← hml.out]; exact hlt)
          cases e
          simp only [Nat.zero_add] at x0 x1 x2
          rw [hat] at x0 x1 x2
          have hxin : l'.getD k se0 ∈ mapTo op l' k := by
            rw [← hat, List.getD_eq_getElem?_getD, List.getElem?_eq_getElem (by rw [← hml.out]; exact hlt)]; exact List.getElem_mem _
          have hxok := hok.out _ hxin
          obtain ⟨x, hx⟩ : ∃ x, Hid (x = l'.getD k se0) := ⟨_, rfl⟩
          rw [← hx.out] at x0 x1 x2 hst hat hxok
          have hd := sdo1b op x.v wr (.cells #[.slice x.a x.n x.c, .int .i64 x.v.kind, .int .i64 x.v.n] 86)
          have hms : Hid (mapS op x = { x with v := doV op [x.v] }) := rfl
          generalize doV op [x.v] = R at *
          replace hst : Hid _ := hst
          replace hat : Hid _ := hat
          replace hxok : Hid (SeOk wr g x) := hxok
          go_wp2_with (first
            | (go_at_call 118; refine hd.mono ?_; rintro e w5 ⟨rfl, hb5⟩; have ho5 := ho.out.stay hb5; have hok5 := hok.out.grow hb5; have hB5 := hB.out.trans (hb5.mono hB.out.size); obtain ⟨⟨d0, d1, d2⟩, f0, f1, f2⟩ := own_cellS ho5 hml.out k hlt))
          have ho6 := own_storeVal ho5 hml.out k hlt R
          rw [hat.out, ← hms.out, hst.out] at ho6
          refine ⟨⟨k + 1, by omega, by go_num, ho6, ?_, ?_⟩, ?_⟩
          · intro z hz
            rw [← hst.out] at hz
            rcases List.mem_or_eq_of_mem_set hz with hz | hz
            · exact ((hok5 z hz).set).set
            · rw [hz, hms.out]
              exact SeOk.set (SeOk.set ⟨(hxok.out.grow hb5).1, (hxok.out).2⟩)
          · exact (hB5.setCell (p := ⟨g, k * 3 + 1, none⟩) hgw _).setCell (p := ⟨g, k * 3 + 2, none⟩) hgw _
          · simp [intOf]; omega
        · obtain rfl : k = n := by omega
          have hki : ¬ (k : Int) < (k : Int) := by omega
          have h1 := ho.out
          have h2 := hok.out
          rw [hnl.out, mapTo_all] at h1 h2
          have h3 := hB.out
          replace h1 : Hid _ := h1
          replace h2 : Hid _ := h2
          go_wp2
          go_ret2
          exact ⟨h3, .inl ⟨l', g, cap, hsq.out, hz.out, hlen.out, hgw, by rw [← hnl.out]; rfl, h1.out, h2.out⟩⟩
  · have hso3 : Calls Tryz.prog 73 #[v] w fun e w' => ∃ er : Int, e = .returned (.tuple #[.slice none 0 0, .int .i64 er]) ∧ (er != 0) = true ∧ Hid (Series10.SortQ (L.map serOf) [] er) ∧ Below w.heap.size w w' := hso.mono fun e w' ⟨hb, h⟩ => by
      rcases h with ⟨l', g, cap, hq, _⟩ | ⟨er, hne, hq, he⟩
      · exact absurd ⟨_, hq⟩ hs
      · exact ⟨er, he, hne, hq, hb⟩
    clear hso
    go_enter Tryz.func74, Tryz.ntmps74
    go_wp2_with (first
      | (go_at_call 73; refine hso3.mono ?_; rintro e w1 ⟨er, rfl, hne, hq, hB1⟩))
    go_ret2
    exact ⟨hB1, .inr (.inr ⟨er, hne, hq.out, rfl⟩)⟩
end Go.Proofs.YtdhlfpgibfaimaaGreatDoor
