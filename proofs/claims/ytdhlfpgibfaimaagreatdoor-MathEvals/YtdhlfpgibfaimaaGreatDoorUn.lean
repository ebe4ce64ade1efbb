import Derived.Test.YtdhlfpgibfaimaaGreatDoorOcUm
import Derived.Test.YtdhlfpgibfaimaaGreatDoorUk
set_option linter.unusedVariables false
namespace Go.Proofs.YtdhlfpgibfaimaaGreatDoor
open Go.RowKit
theorem rsortG {w : World} {a : Option Addr} {n c : Nat} {F F' : List Series10.Sr} {er : Int} (h : IsSer w a n c F) (hF : FR F) (hl : n ≤ 1000000) (hq : Series10.SortQ F F' er) :
 Calls Tryz.prog 50 #[.slice a n c] w fun e w'=>Told w F' er e w':=by
 obtain ⟨l,rfl,h2,h3,rfl⟩:=h
 refine (rsort_any _ l w h2 h3 (FR.of hF) hl).mono ?_
 rintro e w' ⟨vo,l',er',rfl,hq',ho,hm,hb⟩
 obtain ⟨h4,rfl⟩:=hq'.one hq
 rw [← h4]
 exact told_of ho (fun x hx=>(h3 x (hm x hx)).grow hb) hb
theorem rmapG {op : ByteArray} {w : World} {a : Option Addr} {n c : Nat} {F F' : List Series10.Sr} {er : Int} (h : IsSer w a n c F) (hF : FR F) (hl : n ≤ 1000000) (hq : MapT op F F' er) :
 Calls Tryz.prog 51 #[.string op,.slice a n c] w fun e w'=>Told w F' er e w':=by
 obtain ⟨l,rfl,h2,h3,rfl⟩:=h
 refine (rmap_any op _ l w h2 h3 (FR.of hF) hl).mono ?_
 rintro e w' ⟨vo,l',er',rfl,hq',ho,hm,hb⟩
 obtain ⟨h4,rfl⟩:=hq'.one hq
 rw [← h4]
 exact told_of ho hm hb
theorem rjoinG {op : ByteArray} {w : World} {a a2 : Option Addr} {n n2 c c2 : Nat} {F F2 out : List Series10.Sr} {er : Int} (h : IsSer w a n c F) (h' : IsSer w a2 n2 c2 F2) (hF : FR F) (hF2 : FR F2) (hl : n ≤ 1000000) (hl2 : n2 ≤ 1000000) (hj : JoinT op F F2 out er) :
 Calls Tryz.prog 52 #[.string op,.slice a n c,.slice a2 n2 c2] w fun e w'=>Told w out er e w':=by
 obtain ⟨l,rfl,h2,h3,rfl⟩:=h
 obtain ⟨m,rfl,h4,h5,rfl⟩:=h'
 refine (rjoin_any op _ _ l m w h2 h4 h3 h5 (FR.of hF) (FR.of hF2) hl hl2).mono ?_
 rintro e w' ⟨vo,o,er',rfl,hj',ho,hok,hb⟩
 obtain ⟨h6,rfl⟩:=hj'.one hj
 rw [← h6]
 exact told_of ho hok hb
end Go.Proofs.YtdhlfpgibfaimaaGreatDoor
