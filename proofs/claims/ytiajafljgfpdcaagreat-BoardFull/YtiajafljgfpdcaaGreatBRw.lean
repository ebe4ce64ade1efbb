/- Rows of entries, stands, results, changes. -/
import Derived.Test.YtiajafljgfpdcaaGreatBMm
import Derived.Test.YtiajafljgfpdcaaGreatSLe
import Derived.Test.YtiajafljgfpdcaaGreatQb
namespace Go.Proofs.YtiajafljgfpdcaaGreat
set_option linter.unusedVariables false
open Go.RowKit
/-- A slice, as a value. -/
structure Sv where
  a : Option Addr
  n : Nat
  c : Nat
def Sv.v (s : Sv) : Value := .slice s.a s.n s.c
def sv0 : Sv := ⟨none, 0, 0⟩
structure En where
  sv : Sv
  ls : List Lb
  x : S.Inst
structure Sd where
  sv : Sv
  s : Ae
structure Rn where
  sv : Sv
  r : Rt
structure Cn where
  sv : Sv
  c : Cg
def zI : S.Inst := ⟨0, 0, 0, 0, 0, 0, 0⟩
def en0 : En := ⟨sv0, [], zI⟩
def sd0 : Sd := ⟨sv0, ⟨[], zI, 0, false⟩⟩
def rn0 : Rn := ⟨sv0, ⟨[], 0, 0, 0⟩⟩
def cn0 : Cn := ⟨sv0, ⟨[], 0, 0, 0, 0⟩⟩
def eEn : Enc En where
  arr e := [.slice e.sv.a e.sv.n e.sv.c, .int .i64 e.x.st, .int .i64 e.x.since, .int .i64 e.x.fr, .int .i64 e.x.quiet, .int .i64 e.x.seen, .int .i64 e.x.vk, .int .i64 e.x.vn]
  d := en0
  k := 8
  len _ := rfl
  one _ u hu := by simp at hu; rcases hu with rfl | rfl | rfl | rfl | rfl | rfl | rfl | rfl <;> rfl
  pos := by decide
def eSd : Enc Sd where
  arr e := [.slice e.sv.a e.sv.n e.sv.c, .int .i64 e.s.x.st, .int .i64 e.s.x.since, .int .i64 e.s.x.fr, .int .i64 e.s.x.quiet, .int .i64 e.s.x.seen, .int .i64 e.s.x.vk, .int .i64 e.s.x.vn, .int .i64 e.s.ah, .bool e.s.sp]
  d := sd0
  k := 10
  len _ := rfl
  one _ u hu := by simp at hu; rcases hu with rfl | rfl | rfl | rfl | rfl | rfl | rfl | rfl | rfl | rfl <;> rfl
  pos := by decide
def eRn : Enc Rn where
  arr e := [.slice e.sv.a e.sv.n e.sv.c, .int .i64 e.r.k, .int .i64 e.r.vk, .int .i64 e.r.vn]
  d := rn0
  k := 4
  len _ := rfl
  one _ u hu := by simp at hu; rcases hu with rfl | rfl | rfl | rfl <;> rfl
  pos := by decide
def eCn : Enc Cn where
  arr e := [.slice e.sv.a e.sv.n e.sv.c, .int .i64 e.c.fr, .int .i64 e.c.to, .int .i64 e.c.vk, .int .i64 e.c.vn]
  d := cn0
  k := 5
  len _ := rfl
  one _ u hu := by simp at hu; rcases hu with rfl | rfl | rfl | rfl | rfl <;> rfl
  pos := by decide
def TE : RowTy eEn where
  st := 28
  et := 67
  z := .agg #[.slice none 0 0, .int .i64 0, .int .i64 0, .int .i64 0, .int .i64 0, .int .i64 0, .int .i64 0, .int .i64 0]
  bytes := 80
  hu := Tryz.underlying28
  hi := by kernel_rfl
  hz := rfl
  hb := by decide
def TD : RowTy eSd where
  st := 125
  et := 120
  z := .agg #[.slice none 0 0, .int .i64 0, .int .i64 0, .int .i64 0, .int .i64 0, .int .i64 0, .int .i64 0, .int .i64 0, .int .i64 0, .bool false]
  bytes := 96
  hu := Tryz.underlying125
  hi := by kernel_rfl
  hz := rfl
  hb := by decide
def TR : RowTy eRn where
  st := 29
  et := 59
  z := .agg #[.slice none 0 0, .int .i64 0, .int .i64 0, .int .i64 0]
  bytes := 48
  hu := Tryz.underlying29
  hi := by kernel_rfl
  hz := rfl
  hb := by decide
def TC : RowTy eCn where
  st := 32
  et := 62
  z := .agg #[.slice none 0 0, .int .i64 0, .int .i64 0, .int .i64 0, .int .i64 0]
  bytes := 56
  hu := Tryz.underlying32
  hi := by kernel_rfl
  hz := rfl
  hb := by decide
/-- Slices of entries, results, changes, with their labels. -/
def Ens (w : World) (v : Value) (l : List En) : Prop := Sls eEn w v l ∧ ∀ e ∈ l, Lbs w e.sv.v e.ls
def Rns (w : World) (v : Value) (l : List Rn) : Prop := Sls eRn w v l ∧ ∀ e ∈ l, Lbs w e.sv.v e.r.ls
def Cns (w : World) (v : Value) (l : List Cn) : Prop := Sls eCn w v l ∧ ∀ e ∈ l, Lbs w e.sv.v e.c.ls
def Sds (w : World) (l : List Sd) : Prop := ∀ e ∈ l, Lbs w e.sv.v e.s.ls
theorem Ens.grow {w w' : World} {v : Value} {l : List En} (h : Ens w v l) (hb : Below w.heap.size w w') : Ens w' v l := ⟨h.1.grow hb, fun e he => (h.2 e he).grow hb⟩
theorem Rns.grow {w w' : World} {v : Value} {l : List Rn} (h : Rns w v l) (hb : Below w.heap.size w w') : Rns w' v l := ⟨h.1.grow hb, fun e he => (h.2 e he).grow hb⟩
theorem Cns.grow {w w' : World} {v : Value} {l : List Cn} (h : Cns w v l) (hb : Below w.heap.size w w') : Cns w' v l := ⟨h.1.grow hb, fun e he => (h.2 e he).grow hb⟩
theorem Sds.grow {w w' : World} {l : List Sd} (h : Sds w l) (hb : Below w.heap.size w w') : Sds w' l := fun e he => (h e he).grow hb
def encE (e : En) : Value := .agg #[.slice e.sv.a e.sv.n e.sv.c, .int .i64 e.x.st, .int .i64 e.x.since, .int .i64 e.x.fr, .int .i64 e.x.quiet, .int .i64 e.x.seen, .int .i64 e.x.vk, .int .i64 e.x.vn]
def encD (e : Sd) : Value := .agg #[.slice e.sv.a e.sv.n e.sv.c, .int .i64 e.s.x.st, .int .i64 e.s.x.since, .int .i64 e.s.x.fr, .int .i64 e.s.x.quiet, .int .i64 e.s.x.seen, .int .i64 e.s.x.vk, .int .i64 e.s.x.vn, .int .i64 e.s.ah, .bool e.s.sp]
def encR (e : Rn) : Value := .agg #[.slice e.sv.a e.sv.n e.sv.c, .int .i64 e.r.k, .int .i64 e.r.vk, .int .i64 e.r.vn]
def encC (e : Cn) : Value := .agg #[.slice e.sv.a e.sv.n e.sv.c, .int .i64 e.c.fr, .int .i64 e.c.to, .int .i64 e.c.vk, .int .i64 e.c.vn]
theorem at_en {w : World} {b o : Nat} {e : En} (h : At eEn w b o e) : w.cell? ⟨b, o, none⟩ = some (.slice e.sv.a e.sv.n e.sv.c) ∧ w.cell? ⟨b, o + 1, none⟩ = some (.int .i64 e.x.st) ∧ w.cell? ⟨b, o + 2, none⟩ = some (.int .i64 e.x.since) ∧
    w.cell? ⟨b, o + 3, none⟩ = some (.int .i64 e.x.fr) ∧ w.cell? ⟨b, o + 4, none⟩ = some (.int .i64 e.x.quiet) ∧ w.cell? ⟨b, o + 5, none⟩ = some (.int .i64 e.x.seen) ∧ w.cell? ⟨b, o + 6, none⟩ = some (.int .i64 e.x.vk) ∧ w.cell? ⟨b, o + 7, none⟩ = some (.int .i64 e.x.vn) :=
  ⟨h 0 _ rfl, h 1 _ rfl, h 2 _ rfl, h 3 _ rfl, h 4 _ rfl, h 5 _ rfl, h 6 _ rfl, h 7 _ rfl⟩
theorem at_sd {w : World} {b o : Nat} {e : Sd} (h : At eSd w b o e) : w.cell? ⟨b, o, none⟩ = some (.slice e.sv.a e.sv.n e.sv.c) ∧ w.cell? ⟨b, o + 1, none⟩ = some (.int .i64 e.s.x.st) ∧ w.cell? ⟨b, o + 2, none⟩ = some (.int .i64 e.s.x.since) ∧
    w.cell? ⟨b, o + 3, none⟩ = some (.int .i64 e.s.x.fr) ∧ w.cell? ⟨b, o + 4, none⟩ = some (.int .i64 e.s.x.quiet) ∧ w.cell? ⟨b, o + 5, none⟩ = some (.int .i64 e.s.x.seen) ∧ w.cell? ⟨b, o + 6, none⟩ = some (.int .i64 e.s.x.vk) ∧ w.cell? ⟨b, o + 7, none⟩ = some (.int .i64 e.s.x.vn) ∧
    w.cell? ⟨b, o + 8, none⟩ = some (.int .i64 e.s.ah) ∧ w.cell? ⟨b, o + 9, none⟩ = some (.bool e.s.sp) :=
  ⟨h 0 _ rfl, h 1 _ rfl, h 2 _ rfl, h 3 _ rfl, h 4 _ rfl, h 5 _ rfl, h 6 _ rfl, h 7 _ rfl, h 8 _ rfl, h 9 _ rfl⟩
theorem at_rn {w : World} {b o : Nat} {e : Rn} (h : At eRn w b o e) : w.cell? ⟨b, o, none⟩ = some (.slice e.sv.a e.sv.n e.sv.c) ∧ w.cell? ⟨b, o + 1, none⟩ = some (.int .i64 e.r.k) ∧ w.cell? ⟨b, o + 2, none⟩ = some (.int .i64 e.r.vk) ∧
    w.cell? ⟨b, o + 3, none⟩ = some (.int .i64 e.r.vn) := ⟨h 0 _ rfl, h 1 _ rfl, h 2 _ rfl, h 3 _ rfl⟩
theorem at_cn {w : World} {b o : Nat} {e : Cn} (h : At eCn w b o e) : w.cell? ⟨b, o, none⟩ = some (.slice e.sv.a e.sv.n e.sv.c) ∧ w.cell? ⟨b, o + 1, none⟩ = some (.int .i64 e.c.fr) ∧ w.cell? ⟨b, o + 2, none⟩ = some (.int .i64 e.c.to) ∧
    w.cell? ⟨b, o + 3, none⟩ = some (.int .i64 e.c.vk) ∧ w.cell? ⟨b, o + 4, none⟩ = some (.int .i64 e.c.vn) := ⟨h 0 _ rfl, h 1 _ rfl, h 2 _ rfl, h 3 _ rfl, h 4 _ rfl⟩
theorem en_at {w : World} {a : Option Addr} {n c : Nat} {l : List En} (h : Sls eEn w (.slice a n c) l) (t : Nat) (ht : t < l.length) : ∃ b o, a = some ⟨b, o, none⟩ ∧ At eEn w b (o + t * 8) (l.getD t en0) := h.at t ht
theorem sd_at {w : World} {a : Option Addr} {n c : Nat} {l : List Sd} (h : Sls eSd w (.slice a n c) l) (t : Nat) (ht : t < l.length) : ∃ b o, a = some ⟨b, o, none⟩ ∧ At eSd w b (o + t * 10) (l.getD t sd0) := h.at t ht
theorem rn_at {w : World} {a : Option Addr} {n c : Nat} {l : List Rn} (h : Sls eRn w (.slice a n c) l) (t : Nat) (ht : t < l.length) : ∃ b o, a = some ⟨b, o, none⟩ ∧ At eRn w b (o + t * 4) (l.getD t rn0) := h.at t ht
theorem cn_at {w : World} {a : Option Addr} {n c : Nat} {l : List Cn} (h : Sls eCn w (.slice a n c) l) (t : Nat) (ht : t < l.length) : ∃ b o, a = some ⟨b, o, none⟩ ∧ At eCn w b (o + t * 5) (l.getD t cn0) := h.at t ht
end Go.Proofs.YtiajafljgfpdcaaGreat
