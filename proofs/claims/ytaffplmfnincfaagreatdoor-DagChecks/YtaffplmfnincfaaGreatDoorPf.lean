/- The nodes of DagCircle: what is told of them. -/
import Derived.Test.YtaffplmfnincfaaGreatDoorPe
namespace Go.Proofs.YtaffplmfnincfaaGreatDoor
set_option linter.unusedVariables false
open Go.RowKit
theorem compact_sub {zs : List (List UInt8)} {x : List UInt8} (h : x ∈ Lib.compact zs) : x ∈ zs := by
  unfold Lib.compact Lib.compactUpTo at h
  obtain ⟨i, hi, rfl⟩ := List.mem_map.1 h
  have hi1 : i < zs.length := by have := (List.mem_filter.1 hi).1; simpa using this
  simp [hi1]
theorem refsR_sub {x : Ex} {r : ByteArray} (h : r ∈ refsR x) : r ∈ refsE x := by
  unfold refsR cmpS' blS at h
  obtain ⟨y, hy, rfl⟩ := List.mem_map.1 h
  have h2 := compact_sub hy
  obtain ⟨z, hz, rfl⟩ := List.mem_map.1 h2
  rw [bB_list]
  unfold srtS blS at hz
  obtain ⟨u, hu, rfl⟩ := List.mem_map.1 hz
  obtain ⟨t, ht, rfl⟩ := List.mem_map.1 (List.mem_mergeSort.1 hu)
  rw [bB_list]
  exact ht
def ndK (i : Nat) : Nd := ⟨nmK i, 3, ⟨#[]⟩, ⟨#[]⟩, ⟨#[]⟩, false, zer, zer, txK i⟩
def ndT (i t : Nat) : Nd := ⟨nmK i, 3, ⟨#[]⟩, ⟨#[]⟩, ⟨#[]⟩, false, zer, zer, txT i t⟩
section
variable {g : Nat → Nd} (hg : ∀ i, (g i).ref = nmK i) {n : Nat} (hn : n ≤ 10)
include hg hn
end
end Go.Proofs.YtaffplmfnincfaaGreatDoor
