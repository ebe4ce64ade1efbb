/- Instances, holds: the mathematics of P17.1 to P17.3. -/
import Derived.Test.YtiajafljgfpdcaaGreatSBa
namespace Go.Proofs.YtiajafljgfpdcaaGreat.S
set_option linter.unusedVariables false
open Go.RowKit
/-- An instance. -/
structure Inst where
  st : Int
  since : Int
  fr : Int
  quiet : Int
  seen : Int
  vk : Int
  vn : Int
deriving DecidableEq
/-- A rule's hold and policies. -/
structure Hd where
  fo : Int
  keep : Int
  nd : Int
  oe : Int
def encI (x : Inst) : Value := .agg #[.int .i64 x.st, .int .i64 x.since, .int .i64 x.fr, .int .i64 x.quiet, .int .i64 x.seen, .int .i64 x.vk, .int .i64 x.vn]
def encH (h : Hd) : Value := .agg #[.int .i64 h.fo, .int .i64 h.keep, .int .i64 h.nd, .int .i64 h.oe]
def encV (k n : Int) : Value := .agg #[.int .i64 k, .int .i64 n]
/-- A time. -/
def tB (n : Int) : Bool := decide (0 ≤ n ∧ n ≤ 1099511627776)
/-- A value. -/
def vB (k n : Int) : Bool := decide ((k = 1 ∧ -1000000000000000 ≤ n ∧ n ≤ 1000000000000000) ∨ (2 ≤ k ∧ k ≤ 5 ∧ n = 0))
/-- From may be. -/
def frB (st fr : Int) : Bool := if fr = -1 then decide (st ≠ 2) else tB fr && decide (st = 2 ∨ st = 3)
/-- Quiet may be. -/
def quB (st q : Int) : Bool := decide (q = -1) || (tB q && decide (st = 3))
/-- Times may be. -/
def hasB (x : Inst) : Bool := tB x.since && (tB x.seen && (frB x.st x.fr && quB x.st x.quiet))
/-- It may be. -/
def okB (x : Inst) : Bool := decide (1 ≤ x.st ∧ x.st ≤ 5) && (hasB x && vB x.vk x.vn)
/-- Check. -/
def chE (x : Inst) : Int := if okB x then 0 else 2
def polI (p r : Int) : Int := if p = 1 then r else if p = 2 then 2 else if p = 3 then 1 else 0
/-- Means. -/
def meansI (h : Hd) (r : Int) : Int := if r = 1 ∨ r = 2 then r else if r = 3 then polI h.nd r else if r = 4 then polI h.oe r else 0
/-- It comes to a state. -/
def comeI (x : Inst) (s now : Int) : Inst := { x with st := s, since := if x.st = s then x.since else now, fr := if s = 1 ∨ s = 4 ∨ s = 5 then -1 else x.fr, quiet := if s = 2 then x.quiet else -1 }
/-- Since when it breaches. -/
def begI (x : Inst) (now : Int) : Int := if x.st = 2 then x.fr else now
def alertI (x : Inst) (h : Hd) (now : Int) : Inst :=
  if x.st = 3 then { x with quiet := -1 } else if h.fo ≤ now - begI x now then comeI { x with fr := begI x now } 3 now else comeI { x with fr := begI x now } 2 now
def quI (x : Inst) (now : Int) : Int := if x.quiet = -1 then now else x.quiet
def calmI (x : Inst) (h : Hd) (now : Int) : Inst :=
  if x.st = 3 ∧ 0 < h.keep then (if h.keep ≤ now - quI x now then comeI { x with quiet := quI x now } 1 now else { x with quiet := quI x now }) else comeI x 1 now
/-- What a step does by what the result comes to. -/
def moveI (x : Inst) (h : Hd) (m now : Int) : Inst :=
  if m = 2 then alertI x h now else if m = 1 then calmI x h now else if m = 3 then comeI x 4 now else if m = 4 then comeI x 5 now else x
/-- Step. -/
def stepI (x : Inst) (h : Hd) (r k n now : Int) : Inst := moveI { x with seen := now, vk := k, vn := n } h (meansI h r) now
/-- New. -/
def newI (now : Int) : Inst := ⟨1, now, -1, -1, now, 2, 0⟩
/-- Quiet is a time in StateAlerting alone. -/
def Qk (x : Inst) : Prop := x.st ≠ 3 → x.quiet = -1
/-- From and Quiet may be, and so may State. -/
def FqOk (x : Inst) : Prop := (1 ≤ x.st ∧ x.st ≤ 5) ∧ frB x.st x.fr = true ∧ quB x.st x.quiet = true
theorem means_in (h : Hd) (r : Int) : meansI h r = 0 ∨ meansI h r = 1 ∨ meansI h r = 2 ∨ meansI h r = 3 ∨ meansI h r = 4 := by
  unfold meansI polI
  split
  · omega
  · split
    · split
      · omega
      · split
        · omega
        · split <;> omega
    · split
      · split
        · omega
        · split
          · omega
          · split <;> omega
      · omega
end Go.Proofs.YtiajafljgfpdcaaGreat.S
