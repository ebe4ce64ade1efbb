/- What DiskSafe rests on: the states that it comes through. -/
import Derived.Test.YtcgjolonapndgaaStrs
namespace Go.Proofs.Ytcgjolonapndgaa
open Go.RowKit Go.Maps Go.ChangeMaps Go.MapKept

/-- All that a disk holds is bytes. -/
def Byt (s : St) : Prop := (∀ n, IsBytes (s.safe n)) ∧ ∀ n x, s.fresh n = some x → IsBytes x
theorem isBytes_zeros (n : Nat) : IsBytes (zeros n) := by
  intro c hc
  have := List.eq_of_mem_replicate hc
  omega
theorem isBytes_padded {s : Nat} {x : List Int} (h : IsBytes x) : IsBytes (padded s x) := by
  intro c hc
  rcases List.mem_append.1 hc with h1 | h1
  · exact h c h1
  · exact isBytes_zeros _ c h1
theorem isBytes_over {x y : List Int} (hx : IsBytes x) (hy : IsBytes y) : IsBytes (over x y) := by
  intro c hc
  rcases List.mem_append.1 hc with h1 | h1
  · exact hx c h1
  · exact hy c (List.mem_of_mem_drop h1)
theorem isBytes_take {x : List Int} (hx : IsBytes x) (k : Nat) : IsBytes (x.take k) := fun c hc => hx c (List.mem_of_mem_take hc)
theorem byt_new (a b : Nat) : Byt (St.new a b) := ⟨fun _ => isBytes_zeros _, fun _ _ h => by cases h⟩
theorem byt_op {s : St} (h : Byt s) : Byt s.op := by
  obtain ⟨_, _, e3, e4, _⟩ := op_same s
  unfold Byt
  rw [e3, e4]; exact h
theorem byt_settle {s : St} (h : Byt s) (L : Int → Nat) : Byt (s.settle L) := by
  refine ⟨fun n => ?_, fun _ _ h => by cases h⟩
  show IsBytes (s.settled L n)
  unfold St.settled
  split
  · rename_i x hx
    exact isBytes_over (isBytes_take (h.2 n x hx) _) (h.1 n)
  · exact h.1 n
theorem byt_write {s : St} (h : Byt s) (n : Int) (ls : List (List Int)) (hl : IsBytes ls.flatten) : Byt (s.write n ls) := by
  unfold St.write
  split
  · split
    · split
      · refine ⟨(byt_op h).1, fun m x hx => ?_⟩
        simp only [St.wrote, upd] at hx
        split at hx
        · cases hx; exact isBytes_padded hl
        · exact (byt_op h).2 m x hx
      · exact byt_op h
    · exact h
  · exact h
theorem byt_sync {s : St} (h : Byt s) : Byt s.sync := by
  unfold St.sync
  split
  · exact byt_settle (byt_op h) _
  · exact byt_op h
theorem byt_crash {s : St} (h : Byt s) (keep : List Int) (ts : List (Int × Int)) : Byt (s.crash keep ts) := byt_settle h _
theorem byt_now {s : St} (h : Byt s) (n : Int) : IsBytes (s.now n) := by
  unfold St.now
  cases hf : s.fresh n with
  | none => exact h.1 n
  | some x => exact h.2 n x hf

end Go.Proofs.Ytcgjolonapndgaa
