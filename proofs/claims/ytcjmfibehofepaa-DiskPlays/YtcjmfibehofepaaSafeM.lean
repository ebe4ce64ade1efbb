/- What DiskSafe rests on: the states that it comes through. -/
import Derived.Test.YtcjmfibehofepaaStrs
namespace Go.Proofs.Ytcjmfibehofepaa
open Go.RowKit Go.Maps Go.ChangeMaps Go.MapKept

/-- All that a disk holds is bytes. -/
def Byt (s : St) : Prop := (∀ n, IsBytes (s.safe n)) ∧ ∀ n x, s.fresh n = some x → IsBytes x
theorem isBytes_zeros (n : Nat) : IsBytes (zeros n) := by
  intro c hc
  have := List.eq_of_mem_replicate hc
  omega
theorem isBytes_padded {s : Nat} {x : List Int} (h : IsBytes x) : IsBytes (padded s x) := by
  intro c hc
  rcases List.mem_append.1 hc with h1 | h1
  · exact h c h1
  · exact isBytes_zeros _ c h1
theorem isBytes_over {x y : List Int} (hx : IsBytes x) (hy : IsBytes y) : IsBytes (over x y) := by
  intro c hc
  rcases List.mem_append.1 hc with h1 | h1
  · exact hx c h1
  · exact hy c (List.mem_of_mem_drop h1)
theorem isBytes_take {x : List Int} (hx : IsBytes x) (k : Nat) : IsBytes (x.take k) := fun c hc => hx c (List.mem_of_mem_take hc)
theorem byt_new (a b : Nat) : Byt (St.new a b) := ⟨fun _ => isBytes_zeros _, fun _ _ h => by cases h⟩
theorem byt_op {s : St} (h : Byt s) : Byt s.op := by
  obtain ⟨_, _, e3, e4, _⟩ := op_same s
  unfold Byt
  rw [e3, e4]; exact h
theorem byt_settle {s : St} (h : Byt s) (L : Int → Nat) : Byt (s.settle L) := by
  refine ⟨fun n => ?_, fun _ _ h => by cases h⟩
  show IsBytes (s.settled L n)
  unfold St.settled
  split
  · rename_i x hx
    exact isBytes_over (isBytes_take (h.2 n x hx) _) (h.1 n)
  · exact h.1 n
theorem byt_write {s : St} (h : Byt s) (n : Int) (ls : List (List Int)) (hl : IsBytes ls.flatten) : Byt (s.write n ls) := by
  unfold St.write
  split
  · split
    · split
      · refine ⟨(byt_op h).1, fun m x hx => ?_⟩
        simp only [St.wrote, upd] at hx
        split at hx
        · cases hx; exact isBytes_padded hl
        · exact (byt_op h).2 m x hx
      · exact byt_op h
    · exact h
  · exact h
theorem byt_sync {s : St} (h : Byt s) : Byt s.sync := by
  unfold St.sync
  split
  · exact byt_settle (byt_op h) _
  · exact byt_op h
theorem byt_crash {s : St} (h : Byt s) (keep : List Int) (ts : List (Int × Int)) : Byt (s.crash keep ts) := byt_settle h _
theorem byt_now {s : St} (h : Byt s) (n : Int) : IsBytes (s.now n) := by
  unfold St.now
  cases hf : s.fresh n with
  | none => exact h.1 n
  | some x => exact h.2 n x hf

/-- A disk of 16 sectors whose power stays on, behind at most k operations. -/
def Plain (k : Nat) (s : St) : Prop := s.dead = false ∧ s.left = -1 ∧ s.sectors = 16 ∧ s.size = 64 ∧ s.ops ≤ k ∧ Byt s
theorem plain_live {k : Nat} {s : St} (h : Plain k s) : s.live = true := by simp [St.live, h.1, h.2.1]
theorem plain_op {k : Nat} {s : St} (h : Plain k s) : Plain (k + 1) s.op := by
  have hl := plain_live h
  have hb := byt_op h.2.2.2.2.2
  obtain ⟨h1, h2, h3, h4, h5, _⟩ := h
  unfold St.op at hb ⊢
  rw [if_pos hl] at hb ⊢
  exact ⟨h1, by simp [h2], h3, h4, by simp only; omega, hb⟩
theorem plain_write {k : Nat} {s : St} (h : Plain k s) (n : Int) (ls : List (List Int)) (hb : IsBytes ls.flatten) : Plain (k + 1) (s.write n ls) ∧ (s.write n ls).safe = s.safe := by
  have hbw := byt_write h.2.2.2.2.2 n ls hb
  have hl := plain_live h
  have hp := plain_op h
  obtain ⟨_, _, e3, _⟩ := op_same s
  unfold St.write at hbw ⊢
  split at hbw <;> rename_i h1
  · rw [if_pos h1]
    split at hbw <;> rename_i h2
    · rw [if_pos h2]
      rw [if_pos hl]
      exact ⟨⟨hp.1, hp.2.1, hp.2.2.1, hp.2.2.2.1, hp.2.2.2.2.1, hbw⟩, e3⟩
    · rw [if_neg h2]
      exact ⟨⟨h.1, h.2.1, h.2.2.1, h.2.2.2.1, Nat.le_succ_of_le h.2.2.2.2.1, hbw⟩, rfl⟩
  · rw [if_neg h1]
    exact ⟨⟨h.1, h.2.1, h.2.2.1, h.2.2.2.1, Nat.le_succ_of_le h.2.2.2.2.1, hbw⟩, rfl⟩
theorem plain_sync {k : Nat} {s : St} (h : Plain k s) : s.errOp = 0 ∧ Plain (k + 1) s.sync ∧ s.sync.unsafes = [] := by
  have hl := plain_live h
  have hp := plain_op h
  have hb := byt_sync h.2.2.2.2.2
  refine ⟨by simp [St.errOp, hl], ?_⟩
  unfold St.sync at hb ⊢
  rw [if_pos hl] at hb ⊢
  refine ⟨⟨hp.1, hp.2.1, hp.2.2.1, hp.2.2.2.1, hp.2.2.2.2.1, hb⟩, ?_⟩
  simp [St.unsafes, St.settle]
theorem sync_now {k : Nat} {s : St} (h : Plain k s) (n : Int) : s.sync.now n = s.sync.safe n := by
  have hl := plain_live h
  unfold St.sync
  rw [if_pos hl]
  rfl
theorem crash_unsafes (s : St) (keep : List Int) (ts : List (Int × Int)) : (s.crash keep ts).unsafes = [] := by
  simp [St.unsafes, St.crash, St.settle]

/-- What a crash leaves is new up to some byte, and old from there on. -/
theorem safe_core (s : St) (keep : List Int) (ts : List (Int × Int)) (n : Int) (hz : s.size = 64) (hx : (s.now n).length = 64) (k : Nat)
    (hd : k = 64 ∨ ((s.crash keep ts).now n).getD k 0 ≠ (s.now n).getD k 0) : ((s.crash keep ts).now n).drop k = (s.safe n).drop k := by
  have e : (s.crash keep ts).now n = s.settled (lastN s.size keep ts) n := rfl
  rw [e] at hd ⊢
  have hL := lastAt_in s.size keep ts n
  have hL2 : lastN s.size keep ts n ≤ 64 := by unfold lastN; omega
  unfold St.settled at hd ⊢
  unfold St.now at hd hx
  cases hf : s.fresh n with
  | none => rfl
  | some x =>
    rw [hf] at hd hx
    simp only [Option.getD_some] at hd hx ⊢
    generalize lastN s.size keep ts n = L at hL2 hd ⊢
    have hlen : (x.take L).length = L := by simp; omega
    by_cases hkL : k < L
    · exfalso
      rcases hd with hd | hd
      · omega
      · apply hd
        unfold over
        rw [List.getD_eq_getElem?_getD, List.getD_eq_getElem?_getD, List.getElem?_append_left (by omega), List.getElem?_take, if_pos hkL]
    · unfold over
      rw [hlen, List.drop_append, List.drop_eq_nil_of_le (by omega), List.nil_append, List.drop_drop, hlen]
      congr 1
      omega
end Go.Proofs.Ytcjmfibehofepaa
