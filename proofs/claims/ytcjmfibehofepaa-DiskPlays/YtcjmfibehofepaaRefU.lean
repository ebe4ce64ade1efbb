/- Unsafe of the document's answer. -/
import Derived.Test.YtcjmfibehofepaaRefS
namespace Go.Proofs.Ytcjmfibehofepaa
open Go.RowKit Go.Maps Go.ChangeMaps Go.MapKept Go.Sort

theorem info3 : (Try.prog.info? 3).map (fun i => (i.zero, i.size, i.bytes)) = some (some (.int .i64 0), 1, 8) := by kernel_rfl
/-- A slice of ints of the call's own, or nil. -/
def IntOwn (w : World) (base : Nat) (v : Value) (xs : List Int) : Prop := w.ownsRow base 3 1 v xs.length (xs.map encZ)
theorem IntOwn.lt {w : World} {base : Nat} {v : Value} {ss : List Int} (h : IntOwn w base v ss) : ∀ k, v.ownBlock = some k → base ≤ k ∧ k < w.heap.size := World.ownsRow.lt h
theorem appInt {w : World} {ops : Array Oper} {rest : List Oper} {o : Oper} {a : Act} {Q : Exit → Act → World → Prop} (hgd : o.guard = none) (s x : Operand)
    (ho : o.op = .call { callee := .builtin .append, args := #[s, x], argTypes := #[34, 34] })
    (base : Nat) (v : Value) (ss : List Int) (z : Int) (hs : a.eval s = v) (hx : a.eval x = .slice (some ⟨w.heap.size, 0, none⟩) 1 1)
    (hown : IntOwn w base v ss) (hbase : base ≤ w.heap.size) (hlen : ss.length ≤ 1000000)
    (h : ∀ v' w', IntOwn w' base v' (ss ++ [z]) → Below base w w' → wpList Try.prog ops Q rest (a.put o.dst v') w') :
    wpList Try.prog ops Q (o :: rest) a (w.alloc (.cells #[.int .i64 z] 3)) := by
  obtain ⟨i0, hi, hz0, hz1, hz2⟩ := info_parts info3
  refine wpList_append_own _ hgd s x 34 ho base 3 i0 (.int .i64 0) 1 8 Try.underlying34 hi hz0 hz1 hz2 rfl (by decide) v ss.length (ss.map encZ) hs (World.ownsRow.alloc hown _) ⟨w.heap.size, 0, none⟩ 1 1 [.int .i64 z] hx rfl (cell_one_new _ _ _) ?_ ?_ ?_ ?_ ?_
  · intro u hu; simp at hu; subst hu; rfl
  · unfold maxLen; omega
  · omega
  · simp; omega
  · intro v' w' h1 h2 _
    refine h v' w' ?_ ?_
    · unfold IntOwn; simpa [encZ] using h1
    · refine ((Below.refl base w).alloc hbase _).grown h2 (by simp; omega) (fun k hk => ?_)
      exact (hown.lt k hk).1

/-- The unsafe sectors below k. -/
def unsTo (s : St) (k : Nat) : List Int := ((List.range k).map (fun (i : Nat) => (i : Int))).filter (fun n => (s.fresh n).isSome)
theorem unsTo_succ (s : St) (k : Nat) : unsTo s (k + 1) = if (s.fresh k).isSome then unsTo s k ++ [(k : Int)] else unsTo s k := by
  unfold unsTo
  rw [List.range_succ, List.map_append, List.filter_append]
  cases h : (s.fresh k).isSome <;> simp [h]
theorem unsTo_len (s : St) (k : Nat) : (unsTo s k).length ≤ k := by
  unfold unsTo
  refine Nat.le_trans (List.length_filter_le _ _) ?_
  simp

section
variable {w : World} {r : Nat} {G : Nat → Prop} {s : St}
set_option maxRecDepth 100000 in
set_option maxHeartbeats 2000000 in
theorem refUnsafe_any (h : IsR w r G s) : Calls Try.prog 27 #[.pointer (some ⟨r, 0, none⟩)] w fun e w' => ∃ v, e = .returned v ∧ Ints w' v s.unsafes ∧ Below w.heap.size w w' := by
  obtain ⟨gn, cn, gs, cs, gu, cu, h⟩ := h
  have hsec := h.sec2
  go_enter Try.func27, Try.ntmps27
  go_wp2
  go_loopw [3, 4] (fun v i wr => ∃ k : Nat, k ≤ s.sectors ∧ i = .int .i64 k ∧ Hid (IntOwn wr w.heap.size v (unsTo s k)) ∧ Below w.heap.size w wr) (fun _ i _ => s.sectors - (intOf i).toNat)
  case atStart => exact ⟨0, Nat.zero_le _, rfl, World.ownsRow_nil _ _ _ _, Below.refl _ _⟩
  case round =>
    obtain ⟨k, hk, rfl, hio, hbe⟩ := hrel
    have hr := h.keep (w' := wr) (fun j _ hj => hbe.block j hj)
    have c3 := hr.c3
    by_cases hlt : k < s.sectors
    · have hki : (k : Int) < (s.sectors : Int) := by omega
      have hc := (hr.u.cell k hlt).1
      have hsu := unsTo_succ s k
      have hln := unsTo_len s k
      cases hf : (s.fresh k).isSome with
      | true =>
        rw [hf] at hc hsu
        rw [if_pos rfl] at hsu
        replace hsu : Hid _ := hsu
        go_wp2_with (first | (at_builtin; refine appInt rfl _ _ rfl w.heap.size u3 _ (k : Int) rfl rfl hio.out hbe.size (by omega) ?_; intro vN wN hoN hbN; replace hoN : Hid _ := hoN))
        refine ⟨⟨k + 1, by omega, by go_num, by rw [hsu.out]; exact hoN, hbe.trans hbN⟩, ?_⟩
        simp [intOf]; omega
      | false =>
        rw [hf] at hc hsu
        rw [if_neg (by simp)] at hsu
        replace hsu : Hid _ := hsu
        go_wp2
        refine ⟨⟨k + 1, by omega, by go_num, by rw [hsu.out]; exact hio, hbe⟩, ?_⟩
        simp [intOf]; omega
    · obtain rfl : k = s.sectors := by omega
      have hin := ints_of_row hio.out
      replace hin : Hid (Ints wr u3 s.unsafes) := hin
      clear hio
      go_wp2
      go_ret
      exact ⟨_, rfl, hin.out, hbe⟩
end
end Go.Proofs.Ytcjmfibehofepaa
