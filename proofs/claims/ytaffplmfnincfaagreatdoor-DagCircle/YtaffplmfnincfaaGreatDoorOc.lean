/- slices.SortFunc at steps. -/
import Derived.Test.YtaffplmfnincfaaGreatDoorOb
import Derived.Shelf.SlSortCmp.NoneTotal
namespace Go.Proofs
open Go.Shelf
def Tryz.sortR_ren : Go.Shelf.Ren := ⟨fun | 6 => 42 | 15 => 61 | 14 => 62 | 28 => 95 | 29 => 96 | 20 => 97 | 21 => 98 | 22 => 99 | 23 => 100 | 24 => 101 | 25 => 102 | 26 => 103 | 27 => 104 | 46 => 127 | 47 => 123 | 48 => 124 | 49 => 128 | 50 => 129 | 57 => 150 | n => n, fun | 22 => 49 | 24 => 56 | 25 => 79 | 3 => 3 | 39 => 101 | 0 => 0 | 53 => 128 | 55 => 130 | 4 => 4 | 46 => 120 | 45 => 119 | 50 => 125 | 5 => 5 | 9 => 9 | 66 => 151 | 70 => 155 | 76 => 172 | 77 => 173 | n => n, fun | n => n⟩
theorem Tryz.sortR : Go.Proofs.SlLaysF0.n6 Tryz.prog Tryz.sortR_ren := {
  mixed := by kernel_rfl
  f6 := ⟨Tryz.f42.name, by decide, Tryz.func42.trans (congrArg some (by kernel_rfl))⟩
  f14 := ⟨Tryz.f62.name, by decide, Tryz.func62.trans (congrArg some (by kernel_rfl))⟩
  f15 := Tryz.func61.trans (congrArg some (by kernel_rfl))
  f20 := ⟨Tryz.f97.name, by decide, Tryz.func97.trans (congrArg some (by kernel_rfl))⟩
  f21 := ⟨Tryz.f98.name, by decide, Tryz.func98.trans (congrArg some (by kernel_rfl))⟩
  f22 := ⟨Tryz.f99.name, by decide, Tryz.func99.trans (congrArg some (by kernel_rfl))⟩
  f23 := ⟨Tryz.f100.name, by decide, Tryz.func100.trans (congrArg some (by kernel_rfl))⟩
  f24 := ⟨Tryz.f101.name, by decide, Tryz.func101.trans (congrArg some (by kernel_rfl))⟩
  f25 := ⟨Tryz.f102.name, by decide, Tryz.func102.trans (congrArg some (by kernel_rfl))⟩
  f26 := ⟨Tryz.f103.name, by decide, Tryz.func103.trans (congrArg some (by kernel_rfl))⟩
  f27 := ⟨Tryz.f104.name, by decide, Tryz.func104.trans (congrArg some (by kernel_rfl))⟩
  f28 := Tryz.func95.trans (congrArg some (by kernel_rfl))
  f29 := Tryz.func96.trans (congrArg some (by kernel_rfl))
  f46 := ⟨Tryz.f127.name, by decide, Tryz.func127.trans (congrArg some (by kernel_rfl))⟩
  f47 := Tryz.func123.trans (congrArg some (by kernel_rfl))
  f48 := Tryz.func124.trans (congrArg some (by kernel_rfl))
  f49 := ⟨Tryz.f128.name, by decide, Tryz.func128.trans (congrArg some (by kernel_rfl))⟩
  f50 := ⟨Tryz.f129.name, by decide, Tryz.func129.trans (congrArg some (by kernel_rfl))⟩
  f57 := ⟨Tryz.f150.name, by decide, Tryz.func150.trans (congrArg some (by kernel_rfl))⟩
  t0 := Tryz.underlying0
  a0 := Tryz.isAgg0
  z0 := Tryz.sizeOf0
  v0 := Tryz.zeroValue0
  t3 := Tryz.underlying3
  a3 := Tryz.isAgg3
  z3 := Tryz.sizeOf3
  v3 := Tryz.zeroValue3
  t4 := Tryz.underlying4
  a4 := Tryz.isAgg4
  z4 := Tryz.sizeOf4
  v4 := Tryz.zeroValue4
  t5 := Tryz.underlying5
  a5 := Tryz.isAgg5
  z5 := Tryz.sizeOf5
  v5 := Tryz.zeroValue5
  t9 := Tryz.underlying9
  a9 := Tryz.isAgg9
  z9 := Tryz.sizeOf9
  v9 := Tryz.zeroValue9
  t22 := Tryz.underlying49
  a22 := Tryz.isAgg49
  z22 := Tryz.sizeOf49
  v22 := Tryz.zeroValue49
  t25 := Tryz.underlying79
  a25 := Tryz.isAgg79
  z25 := Tryz.sizeOf79
  v25 := Tryz.zeroValue79
  t39 := Tryz.underlying101
  a39 := Tryz.isAgg101
  z39 := Tryz.sizeOf101
  v39 := Tryz.zeroValue101
  t45 := Tryz.underlying119
  a45 := Tryz.isAgg119
  z45 := Tryz.sizeOf119
  v45 := Tryz.zeroValue119
  t46 := Tryz.underlying120
  a46 := Tryz.isAgg120
  z46 := Tryz.sizeOf120
  v46 := Tryz.zeroValue120
  t50 := Tryz.underlying125
  a50 := Tryz.isAgg125
  z50 := Tryz.sizeOf125
  v50 := Tryz.zeroValue125
  t53 := Tryz.underlying128
  a53 := Tryz.isAgg128
  z53 := Tryz.sizeOf128
  v53 := Tryz.zeroValue128
  t55 := Tryz.underlying130
  a55 := Tryz.isAgg130
  z55 := Tryz.sizeOf130
  v55 := Tryz.zeroValue130
  t66 := Tryz.underlying151
  a66 := Tryz.isAgg151
  z66 := Tryz.sizeOf151
  v66 := Tryz.zeroValue151
  t70 := Tryz.underlying155
  a70 := Tryz.isAgg155
  z70 := Tryz.sizeOf155
  v70 := Tryz.zeroValue155
  t76 := Tryz.underlying172
  a76 := Tryz.isAgg172
  z76 := Tryz.sizeOf172
  v76 := Tryz.zeroValue172
  t77 := Tryz.underlying173
  a77 := Tryz.isAgg173
  z77 := Tryz.sizeOf173
  v77 := Tryz.zeroValue173 }
end Go.Proofs

namespace Go.Proofs.YtaffplmfnincfaaGreatDoor
set_option linter.unusedVariables false
open Go.RowKit Go.Sort Go.Shelf
/-- The steps that may be compared. -/
instance : Inhabited Sx := ⟨sx0⟩
def cmpX (x y : Sx) : Int := cmpL (numsS x.ref) (numsS y.ref)
theorem ltX (x y : Sx) : ltOf cmpX x y = true ↔ bltS x.ref y.ref := by
  unfold ltOf cmpX bltS
  rcases cmpL_in (numsS x.ref) (numsS y.ref) with h | h | h <;> rw [h] <;> simp
theorem ltXn (x y : Sx) : ltOf cmpX x y = false ↔ ¬ bltS x.ref y.ref := by
  rw [← ltX]; simp
theorem swoX : SWO (ltOf cmpX) where
  irrefl x := by rw [ltXn]; exact fun h => h.ne rfl
  trans x y z h1 h2 := by rw [ltX] at *; exact h1.trans h2
  ntrans x y z h1 h2 := by
    rw [ltXn] at *
    intro h
    by_cases e : x.ref = y.ref
    · rw [e] at h; exact h2 h
    · rcases bltS_total e with a | a
      · exact h1 a
      · exact h2 (a.trans h)
theorem flatK_flatX (l : List Sx) : flatK encX.arr 2 l.toArray = (flat encX l).toArray := by
  refine ext_get! (by simp [flat_len]; rfl) fun t ht => ?_
  have ht' : t < l.length * 2 := by simpa using ht
  rw [get_flatK _ _ _ t (by simpa using ht')]
  have hd : t / 2 < l.length := by omega
  have h := flat_get (E := encX) l (t / 2) (t % 2) (by simpa using hd) (Nat.mod_lt _ (by decide))
  rw [show t / 2 * encX.k + t % 2 = t by show t / 2 * 2 + t % 2 = t; omega] at h
  have e1 : l.toArray[t / 2]! = l.getD (t / 2) encX.d := by
    rw [getElem!_pos _ _ (by simpa using hd)]; simp [hd]
  rw [e1]
  have e2 : (flat encX l).toArray[t]! = (flat encX l)[t]?.getD default := by simp [Array.getElem!_eq_getD, Array.getD_eq_getD_getElem?]
  rw [e2, h]
  simp
theorem putCells_take (cur F : Array Value) (h : F.size ≤ cur.size) : (putCells id 0 F cur).toList.take F.size = F.toList := by
  apply List.ext_getElem?
  intro j
  by_cases hj : j < F.size
  · rw [List.getElem?_take_of_lt hj, Array.getElem?_toList, Array.getElem?_toList]
    simp [putCells, hj, show j < cur.size by omega]
  · rw [List.getElem?_take_eq_none (by omega), List.getElem?_eq_none (by simp; omega)]
theorem heap_sortedK {w : World} {g n : Nat} {os : Array Obj} {cur : Array Value} {e : TypeId} {fr : Nat × Nat} (F : Array Value) (hb : w.heap[g]? = some (.cells cur e fr)) :
    (grow (putRow id (Sort.ahead w n) g 0 F) os).heap[g]? = some (.cells (putCells id 0 F cur) e fr) := by
  have hg : g < w.heap.size := (Array.getElem?_eq_some_iff.1 hb).1
  rw [heap_grow_old _ _ (by simpa using hg)]
  simp [putRow, mapBlock, Sort.ahead, Array.getElem?_modify, hb, onCells]
theorem grownBy_sortedK {w : World} {g n : Nat} {os : Array Obj} (F : Array Value) : w.grownBy (grow (putRow id (Sort.ahead w n) g 0 F) os) (some g) := by
  refine ⟨rfl, rfl, rfl, by simp, fun k hk hne => ?_⟩
  rw [heap_grow_old _ _ (by simpa using hk)]
  have : g ≠ k := fun e => hne (by rw [e])
  simp [putRow, mapBlock, Sort.ahead, Array.getElem?_modify, this]
/-- What a sorted row is. -/
def SrtX (l : List Sx) : Prop := l.Pairwise fun a b => ¬ bltS b.ref a.ref
theorem sort42 (base g cap : Nat) (l : List Sx) (w : World) (hown : OwnX w base (.slice (some ⟨g, 0, none⟩) l.length cap) l) (hl : l.length ≤ 1000000) :
    Calls Tryz.prog 42 #[.slice (some ⟨g, 0, none⟩) l.length cap, .func (.func 43) #[] #[]] w fun e w' => e = .returned (.tuple #[]) ∧ ∃ l', l'.Perm l ∧ SrtX l' ∧ OwnX w' base (.slice (some ⟨g, 0, none⟩) l.length cap) l' ∧ w.grownBy w' (some g) := by
  have hown2 := hown
  rcases hown.2 with ⟨e, h0⟩ | ⟨g', cap', cur, e, hbg, hg, hnc, hcm, hcs, htake⟩
  · cases e
  · cases e
    have eg : ∀ args w, (callFunc 43 args).run Tryz.prog w = .ok (.enter 43 args) w := enters_of Tryz.func43 (by kernel_rfl) rfl
    have hgl : g < w.heap.size := (Array.getElem?_eq_some_iff.1 hg).1
    have hH : HoldsK encX.arr 2 w g 0 l.toArray := by
      unfold HoldsK
      rw [flatK_flatX]
      intro j hj
      have hj' : j < l.length * encX.k := by simpa [flat_len] using hj
      refine ⟨?_, by simp [World.frozen?, hg]⟩
      have hf : j < (flat encX l).length := by rw [flat_len]; exact hj'
      have := World.ownsRow.cells hown (g := g) rfl j ((flat encX l)[j]) (List.getElem?_eq_getElem hf)
      rw [ladd_at] at this
      rw [this, getElem!_pos _ _ (by simpa using hf)]
      simp
    have hcon := AnyQ.slices_SortFunc Tryz.sortR 2 Tryz.isAgg56 Tryz.sizeOf56 encX.arr (fun _ => rfl) (fun x => encX.one x) cmpX swoX 43 #[] g 0 cap l.toArray w eg
      (fun m os dk _ x y => clos43 x y _) hH hgl (by simp; omega)
    change Calls Tryz.prog 42 _ _ _ at hcon
    simp only [List.size_toArray] at hcon
    refine hcon.mono ?_
    rintro e w' ⟨rfl, d', n, os, hperm, hsort, rfl⟩
    obtain ⟨hds, _, hpm⟩ := hperm
    have hds' : d'.size = l.length := by rw [hds]; simp
    have hpm2 : d'.toList.Perm l := by
      have h1 : d'.extract 0 l.length = d' := by rw [← hds']; simp
      have h2 : l.toArray.extract 0 l.length = l.toArray := by simp
      rw [h1, h2] at hpm
      simpa using hpm
    have hlen : d'.toList.length = l.length := by simp [hds']
    refine ⟨rfl, d'.toList, hpm2, ?_, ?_, ?_⟩
    · unfold SrtX
      rw [List.pairwise_iff_getElem]
      intro i j hi hj hij
      have := hsort i j (Nat.zero_le _) hij (by simpa [hds'] using hj)
      rw [ltXn] at this
      rw [getElem!_pos _ _ (by simpa using hj), getElem!_pos _ _ (by simpa using hi)] at this
      simpa using this
    · unfold sortWorldK putRowK
      have hfk : flatK encX.arr 2 d' = (flat encX d'.toList).toArray := flatK_flatX d'.toList
      rw [hfk]
      show World.ownsRow _ _ _ _ _ _ _
      unfold World.ownsRow
      rw [hlen]
      refine ⟨by rw [flat_len, hlen], .inr ⟨g, cap, _, rfl, hbg, heap_sortedK _ hg, hnc, hcm, by simp [putCells]; exact hcs, ?_⟩⟩
      have hfs : (flat encX d'.toList).toArray.size = l.length * encX.k := by simp [flat_len, hds']
      rw [← hfs]
      refine putCells_take cur _ ?_
      rw [hfs, hcs]
      exact Nat.mul_le_mul_right _ hnc
    · exact grownBy_sortedK _
end Go.Proofs.YtaffplmfnincfaaGreatDoor
