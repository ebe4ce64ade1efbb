/- The contract of bytes.Equal. -/
import Derived.Test.YtcgjolonapndgabDoorCutB
import Derived.Lib.Bytes
namespace Go.Proofs.YtcgjolonapndgabDoor
open Go.RowKit Go.Maps Go.ChangeMaps Go.MapKept
theorem strs_inj {a b : List Int} (ha : IsBytes a) (hb : IsBytes b) (h : strOfNums a = strOfNums b) : a = b := by
  unfold strOfNums at h
  have h1 : (a.map fun n : Int => UInt8.ofNat n.toNat) = (b.map fun n : Int => UInt8.ofNat n.toNat) := by
    have := congrArg (fun s : ByteArray => s.data.toList) h
    simpa using this
  clear h
  induction a generalizing b with
  | nil => cases b with
    | nil => rfl
    | cons y r => simp at h1
  | cons x l ih => cases b with
    | nil => simp at h1
    | cons y r =>
      rw [List.map_cons, List.map_cons, List.cons.injEq] at h1
      have hx := ha x (by simp)
      have hy := hb y (by simp)
      have e : x.toNat = y.toNat := by
        have := congrArg UInt8.toNat h1.1
        rwa [UInt8.toNat_ofNat_of_lt' (by show _ < 256; omega), UInt8.toNat_ofNat_of_lt' (by show _ < 256; omega)] at this
      rw [ih (fun c hc => ha c (by simp [hc])) (fun c hc => hb c (by simp [hc])) h1.2, show x = y by omega]
theorem str_beq {a b : List Int} (ha : IsBytes a) (hb : IsBytes b) : ((strOfNums a).toList == (strOfNums b).toList) = decide (a = b) := by
  by_cases h : a = b
  · subst h; simp
  · have hne : (strOfNums a).toList ≠ (strOfNums b).toList := fun e => by
      rw [Lib.toList_data, Lib.toList_data] at e
      refine h (strs_inj ha hb ?_)
      generalize strOfNums a = x at e
      generalize strOfNums b = y at e
      cases x; cases y; simp at e; rw [e]
    rw [beq_eq_false_iff_ne.2 hne]; simp [h]
set_option maxRecDepth 100000 in
set_option maxHeartbeats 1000000 in
theorem equal_any (v1 v2 : Value) (a b : List Int) (w : World) (h1 : Bts w v1 a) (h2 : Bts w v2 b) (ha : IsBytes a) (hb : IsBytes b) :
    Calls Tryd.prog 32 #[v1, v2] w fun e w' => e = .returned (.bool (decide (a = b))) ∧ w' = w := by
  have c1 := conv_str h1
  have c2 := conv_str h2
  have hq : (( strOfNums a).toList == (strOfNums b).toList) = decide (a = b) := str_beq ha hb
  go_enter Tryd.func32, Tryd.ntmps32
  go_wp2
  go_ret
  exact ⟨rfl, rfl⟩
end Go.Proofs.YtcgjolonapndgabDoor
