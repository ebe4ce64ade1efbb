/- DagNeeds: the walk. -/
import Derived.Test.YtaffplmfnincfaaGreatDoorPc
import Derived.Test.YtaffplmfnincfaaGreatDoorPb
namespace Go.Proofs.YtaffplmfnincfaaGreatDoor
set_option linter.unusedVariables false
open Go.RowKit
theorem mem_srtS {L : List ByteArray} {s : ByteArray} : s ∈ srtS L ↔ s ∈ L := by
  unfold srtS blS
  rw [List.mem_map]
  constructor
  · rintro ⟨y, hy, rfl⟩
    have h := List.mem_mergeSort.1 hy
    obtain ⟨z, hz, rfl⟩ := List.mem_map.1 h
    rw [bB_list]
    exact hz
  · intro h
    exact ⟨s.data.toList, List.mem_mergeSort.2 (List.mem_map_of_mem h), bB_list s⟩
end Go.Proofs.YtaffplmfnincfaaGreatDoor
