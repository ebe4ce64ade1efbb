/- The contracts of a strip's Bad, Where, More, Over, and of all methods at a nil strip. -/
import Derived.Test.YtdobleekjiehdaaGreatStrip
namespace Go.Proofs.YtdobleekjiehdaaGreat
open Go.RowKit
def okP (pl : Nat) (err : Int) : Nat := if err = 0 then 0 else pl
set_option maxRecDepth 100000 in
theorem bad_any (lo g : Nat) (bs : List Int) (pl : Nat) (err : Int) (w : World) (hs : IsStrip w lo g bs pl err) :
    Calls Tryz.prog 106 #[.pointer (some ⟨g, 0, none⟩)] w fun e w' => e = .returned (.tuple #[.int .i64 err, .int .i64 (okP pl err)]) ∧ ∃ m, w' = w.drewN m := by
  obtain ⟨a, n, c, hg, hb, hk, hpl⟩ := hs
  have q1 : w.cell? ⟨g, 1, none⟩ = some (.int .i64 pl) := (strip_cells hg 1 _ rfl).1
  have q2 : w.cell? ⟨g, 2, none⟩ = some (.int .i64 err) := (strip_cells hg 2 _ rfl).1
  clear hb hg hk
  by_cases he : err = 0
  · subst he
    go_enter Tryz.func106, Tryz.ntmps106
    go_wp2
    go_ret2
    exact ⟨rfl, 0, rfl⟩
  · have hee : (err == 0) = false := by simpa using he
    have hp : okP pl err = pl := by simp [okP, he]
    rw [hp]
    go_enter Tryz.func106, Tryz.ntmps106
    go_wp2
    go_quiet (fail)
    go_wp2
    go_ret2
    exact ⟨rfl, _, rfl⟩
theorem bts_len {w : World} {a : Option Addr} {n c : Nat} {bs : List Int} (h : Bts w (.slice a n c) bs) : n = bs.length := by
  obtain ⟨a', c', e, _⟩ := h
  cases e; rfl
set_option maxRecDepth 100000 in
theorem more_any (lo g : Nat) (bs : List Int) (pl : Nat) (err : Int) (w : World) (hs : IsStrip w lo g bs pl err) (hlen : bs.length ≤ 1000000000) :
    Calls Tryz.prog 82 #[.pointer (some ⟨g, 0, none⟩)] w fun e w' => e = .returned (.int .i64 ((bs.length : Int) - pl)) ∧ ∃ m, w' = w.drewN m := by
  obtain ⟨a, n, c, hg, hb, hk, hpl⟩ := hs
  obtain rfl := bts_len hb
  have q0 : w.cell? ⟨g, 0, none⟩ = some (.slice a bs.length c) := (strip_cells hg 0 _ rfl).1
  have q1 : w.cell? ⟨g, 1, none⟩ = some (.int .i64 pl) := (strip_cells hg 1 _ rfl).1
  clear hb hg hk
  go_enter Tryz.func82, Tryz.ntmps82
  go_wp2
  go_quiet (fail)
  go_wp2
  go_ret
  exact ⟨rfl, _, rfl⟩
/-- What Over answers. -/
def over (bs : List Int) (pl : Nat) (err : Int) : Int := if err = 0 then (if pl < bs.length then 4 else 0) else err
theorem IsStrip.drewN {w : World} {lo g : Nat} {bs : List Int} {pl : Nat} {err : Int} (hs : IsStrip w lo g bs pl err) (n : Nat) : IsStrip (w.drewN n) lo g bs pl err := (strip_stay hs (below_draw w n)).1
end Go.Proofs.YtdobleekjiehdaaGreat
