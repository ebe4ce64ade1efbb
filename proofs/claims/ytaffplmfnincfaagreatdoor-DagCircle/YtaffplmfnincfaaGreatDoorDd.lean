/- allInputs. -/
import Derived.Test.YtaffplmfnincfaaGreatDoorDc
namespace Go.Proofs.YtaffplmfnincfaaGreatDoor
set_option linter.unusedVariables false
open Go.RowKit
/-- The refs that nodes hang on. -/
noncomputable def allI (l : List Nd) : List ByteArray := l.flatMap inpN
theorem allI_take (l : List Nd) (k : Nat) (h : k < l.length) : allI (l.take (k + 1)) = allI (l.take k) ++ inpN (l.getD k nd0) := by
  unfold allI
  rw [List.take_succ_eq_append_getElem h, List.flatMap_append, List.getD_eq_getElem?_getD, List.getElem?_eq_getElem h]
  simp
theorem allI_len (l : List Nd) : (allI l).length ≤ 1024 * l.length := by
  unfold allI
  induction l with
  | nil => simp
  | cons x r ih => rw [List.flatMap_cons, List.length_append, List.length_cons]; have := inpN_len x; omega
/-- Nodes whose texts are short. -/
def ShN (l : List Nd) : Prop := ∀ x ∈ l, x.text.size ≤ 1000000
theorem ShN.at {l : List Nd} (h : ShN l) {k : Nat} (hk : k < l.length) : (l.getD k nd0).text.size ≤ 9223372036854775807 := by
  have : (l.getD k nd0).text.size ≤ 1000000 := h _ (by rw [List.getD_eq_getElem?_getD, List.getElem?_eq_getElem hk]; exact List.getElem_mem hk)
  omega
set_option maxRecDepth 100000 in
set_option maxHeartbeats 8000000 in
/-- allInputs. -/
theorem all35 (a : Option Addr) (n c : Nat) (l : List Nd) (w : World) (hG : G w) (hS : SignsAt w) (hv : Sls encN w (.slice a n c) l) (hl : l.length ≤ 1000) (hsh : ShN l) : Calls Tryz.prog 35 #[.slice a n c] w fun e w' => ∃ a' n' c', e = .returned (.slice a' n' c') ∧ Hid (OwnT w' w.heap.size (.slice a' n' c') (allI l) ∧ Below w.heap.size w w') := by
  have hn : Hid (n = l.length) := hv.len
  have hn1 : n ≤ 1000 := by have := hn.out; omega
  have hrow : Hid (∀ W, Below w.heap.size w W → Sls encN W (.slice a n c) l) := fun W h => hv.grow h
  have hinp : Hid (∀ k W, k < l.length → Below w.heap.size w W → Calls Tryz.prog 12 #[ndV (l.getD k nd0)] (W.alloc (.cells (ndC (l.getD k nd0)) 36)) fun e w' => ∃ a n c, e = .returned (.slice a n c) ∧ Hid (Txs w' (.slice a n c) (inpN (l.getD k nd0)) ∧ Below W.heap.size W w')) := fun k W hk hB => by
    have hb := bW0 W (.cells (ndC (l.getD k nd0)) 36)
    have hB2 := hB.trans (hb.mono hB.size)
    refine (inputs12 (l.getD k nd0) _ (hG.grow hB2) (hS.grow hB2) (hsh.at hk)).mono ?_
    rintro e w' ⟨a, n, c, rfl, h⟩
    exact ⟨a, n, c, rfl, h.out.1, hb.trans (h.out.2.mono hb.size)⟩
  clear hv hG hS hsh
  go_enter Tryz.func35, Tryz.ntmps35
  go_wp2
  go_loopw [3, 8] (fun v i wr => ∃ (k : Nat) (a' : Option Addr) (n' c' : Nat), k ≤ n ∧ i = .int .i64 k ∧ v = .slice a' n' c' ∧ Hid (OwnT wr w.heap.size v (allI (l.take k))) ∧ Hid (Below w.heap.size w wr)) (fun _ i _ => n - (intOf i).toNat)
  case atStart => exact ⟨0, none, 0, 0, Nat.zero_le _, rfl, rfl, OwnS.nil _ _, Below.refl _ _⟩
  case round =>
    obtain ⟨k, a', n', c', hk, rfl, rfl, hov, hB⟩ := hrel
    by_cases hlt : k < n
    · have hki : (k : Int) < (n : Int) := by omega
      have hkl : k < l.length := by have := hn.out; omega
      obtain ⟨b, o, rfl, c0, c1, c2, c3, c4, c5, c6, c7, c8, c9, c10⟩ := nd_at (hrow.out wr hB.out) k hkl
      have hcall := hinp.out k wr hkl hB.out
      have hst : Hid (allI (l.take (k + 1)) = allI (l.take k) ++ inpN (l.getD k nd0)) := allI_take l k hkl
      have hlen : (allI (l.take k)).length + (inpN (l.getD k nd0)).length ≤ 1000000000 := by
        have h1 := allI_len (l.take k)
        have h2 := inpN_len (l.getD k nd0)
        rw [List.length_take] at h1
        omega
      generalize l.getD k nd0 = x at *
      generalize allI (l.take k) = L at *
      generalize inpN x = M at *
      have hB1 := hB.out
      go_wp2_with (first
        | (go_at_call 12; refine hcall.mono ?_; clear hcall; rintro e w1 ⟨a1, n1, c1', rfl, h1⟩; have hB2 := hB1.trans (h1.out.2.mono hB1.size); have ho1 := hov.out.stay h1.out.2)
        | (at_builtin; refine appR TS rfl (.tmp 12) (.tmp 14) rfl w.heap.size _ _ L M rfl rfl ho1 h1.out.1 hB2.size hlen ?_; intro v2 w2 ho2 hg2; have hB3 := hB2.trans (ho1.grows hB2.size hg2); obtain ⟨a3, c3', hv3⟩ := ho2.shape; rw [← hst.out] at ho2; obtain ⟨n3, hn3⟩ : ∃ n3, n3 = (L ++ M).length := ⟨_, rfl⟩; rw [← hn3] at hv3; clear hn3; subst hv3))
      go_roundw
      case rel => exact ⟨k + 1, a3, n3, c3', by omega, by go_num, rfl, ho2, hB3⟩
      case measure => simp [intOf]; omega
    · have hki : ¬ (k : Int) < (n : Int) := by omega
      have hfin : Hid (OwnT wr w.heap.size (.slice a' n' c') (allI l)) := by
        have h := hov.out
        rw [List.take_of_length_le (by have := hn.out; omega)] at h
        exact h
      go_wp2
      go_ret
      exact ⟨_, _, _, rfl, hfin.out, hB.out⟩
end Go.Proofs.YtaffplmfnincfaaGreatDoor
