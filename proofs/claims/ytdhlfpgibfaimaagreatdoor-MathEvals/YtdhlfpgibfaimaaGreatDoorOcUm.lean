import Derived.Test.YtdhlfpgibfaimaaGreatDoorTaTd
set_option linter.unusedVariables false
namespace Go.Proofs.YtdhlfpgibfaimaaGreatDoor
open Go.RowKit
theorem nil_set : IsSet ([] : List Lb):=⟨fun a ha=>(by cases ha),List.Pairwise.nil,by simp⟩
theorem scal_frame {v : Vl} (hv : IsV v) : Series10.IsFrame [⟨[],v⟩]:=⟨fun a ha=>by rw [List.mem_singleton.1 ha];exact nil_set,fun a ha=>by rw [List.mem_singleton.1 ha];exact hv,List.pairwise_singleton _ _,by simp⟩
def mapL (op : ByteArray) (v : Vl) (F : List Series10.Sr) : List Series10.Sr:=F.map fun s=>⟨s.labels,doV op [s.value,v]⟩
def mapR (op : ByteArray) (v : Vl) (F : List Series10.Sr) : List Series10.Sr:=F.map fun s=>⟨s.labels,doV op [v,s.value]⟩
theorem ins_ex (m : List Series10.Sr) (a : Series10.Sr) (h : Series10.Rise m) (ha : ∀ x ∈ m,a.labels ≠ x.labels) : ∃ out,Series10.Rise out∧out.Perm (a :: m):=by
 induction m with
 | nil=>exact ⟨[a],List.pairwise_singleton _ _,List.Perm.refl _⟩
 | cons b m ih =>
  rcases Series10.slt_total a b with h1 | h1 | h1
  · refine ⟨a :: b :: m,List.pairwise_cons.2 ⟨fun x hx=>?_,h⟩,List.Perm.refl _⟩
    rcases List.mem_cons.1 hx with rfl | hx
    · exact h1
    · exact h1.trans (h.head x hx)
  · exact absurd h1 (ha b (by simp))
  · obtain ⟨out,h2,h3⟩:=ih h.tail fun x hx=>ha x (List.mem_cons_of_mem _ hx)
    refine ⟨b :: out,List.pairwise_cons.2 ⟨fun x hx=>?_,h2⟩,(h3.cons b).trans (List.Perm.swap a b m)⟩
    rcases List.mem_cons.1 (h3.mem_iff.1 hx) with rfl | hx
    · exact h1
    · exact h.head x hx
theorem sorted_ex (F : List Series10.Sr) (h : Series10.Apart F) : ∃ out,Series10.Rise out∧out.Perm F:=by
 induction F with
 | nil=>exact ⟨[],List.Pairwise.nil,List.Perm.refl _⟩
 | cons a r ih =>
  have h':=List.pairwise_cons.1 h
  obtain ⟨m,h1,h2⟩:=ih h'.2
  obtain ⟨out,h3,h4⟩:=ins_ex m a h1 fun x hx=>h'.1 x (h2.mem_iff.1 hx)
  exact ⟨out,h3,h4.trans (h2.cons a)⟩
theorem sort_er {F : List Series10.Sr} (h : ¬ ∃ out,Series10.SortQ F out 0) : ∃ er : Int,er ≠ 0∧Series10.SortQ F [] er:=by
 by_cases h1 : ∀ a ∈ F,IsSet a.labels
 · by_cases h2 : ∀ a ∈ F,IsV a.value
   · by_cases h3 : Series10.Apart F
     · by_cases h4 : 200 < F.length
       · exact ⟨6,by decide,.inr (.inr (.inr (.inl ⟨h1,h2,h3,h4,rfl,rfl⟩)))⟩
       · exfalso
         apply h
         obtain ⟨out,h5,h6⟩:=sorted_ex F h3
         exact ⟨out,.inr (.inr (.inr (.inr ⟨h1,h2,by omega,rfl,h5,h6⟩)))⟩
     · exact ⟨8,by decide,.inr (.inr (.inl ⟨h1,h2,h3,rfl,rfl⟩))⟩
   · exact ⟨80,by decide,.inr (.inl ⟨h1,Classical.byContradiction fun g=>h2 fun a ha=>Classical.byContradiction fun k=>g ⟨a,ha,k⟩,rfl,rfl⟩)⟩
 · exact ⟨90,by decide,.inl ⟨Classical.byContradiction fun g=>h1 fun a ha=>Classical.byContradiction fun k=>g ⟨a,ha,k⟩,rfl,rfl⟩⟩
theorem num0_isV : IsV (num 0):=by unfold IsV num;simp
theorem doE_one_eq (op : ByteArray) {a b : Vl} (ha : IsV a) (hb : IsV b) : doE op [a] = doE op [b]:=by
 unfold doE
 rw [chk_one ha,chk_one hb,if_pos rfl,if_pos rfl]
 simp only [ops,one_asc,Option.isSome_map]
theorem doE_two_eq (op : ByteArray) {a b c d : Vl} (ha : IsV a) (hb : IsV b) (hc : IsV c) (hd : IsV d) : doE op [a,b] = doE op [c,d]:=by
 unfold doE
 rw [chk_two ha hb,chk_two hc hd,if_pos rfl,if_pos rfl]
 simp only [ops,two_asc,Option.isSome_map]
theorem doE_one_in (op : ByteArray) {a : Vl} (ha : IsV a) : doE op [a] = 0 ∨ doE op [a] = 2:=by
 unfold doE
 rw [chk_one ha,if_pos rfl]
 split
 · exact .inl rfl
 · exact .inr rfl
theorem doE_two_in (op : ByteArray) {a b : Vl} (ha : IsV a) (hb : IsV b) : doE op [a,b] = 0 ∨ doE op [a,b] = 2:=by
 unfold doE
 rw [chk_two ha hb,if_pos rfl]
 split
 · exact .inl rfl
 · exact .inr rfl
def MapT (op : ByteArray) (A out : List Series10.Sr) (er : Int) : Prop :=
 (∃ p,Series10.SortQ A p 0∧((doE op [nul] = 0∧out = mapF op p∧er = 0) ∨ (doE op [nul] ≠ 0∧out = []∧er = doE op [nul]))) ∨ (er ≠ 0∧Series10.SortQ A [] er∧out = [])
theorem MapT.one {op : ByteArray} {A o1 o2 : List Series10.Sr} {e1 e2 : Int} (h : MapT op A o1 e1) (g : MapT op A o2 e2) : o1 = o2∧e1 = e2:=by
 rcases h with ⟨p,hp,⟨h0,rfl,rfl⟩ | ⟨h0,rfl,rfl⟩⟩ | ⟨h0,hp,rfl⟩ <;>
  rcases g with ⟨q,hq,⟨g0,rfl,rfl⟩ | ⟨g0,rfl,rfl⟩⟩ | ⟨g0,hq,rfl⟩
 all_goals first
  | (obtain ⟨rfl,_⟩:=hp.one hq;exact ⟨rfl,rfl⟩)
  | exact ⟨rfl,rfl⟩
  | exact absurd g0 h0
  | exact absurd h0 g0
  | exact absurd (hp.one hq).2.symm g0
  | exact absurd (hp.one hq).2 h0
  | exact ⟨rfl,(hp.one hq).2⟩
theorem mapT_ex (op : ByteArray) (A : List Series10.Sr) : ∃ out er,MapT op A out er:=by
 by_cases h : ∃ p,Series10.SortQ A p 0
 · obtain ⟨p,hp⟩:=h
   by_cases h0 : doE op [nul] = 0
   · exact ⟨_,_,.inl ⟨p,hp,.inl ⟨h0,rfl,rfl⟩⟩⟩
   · exact ⟨_,_,.inl ⟨p,hp,.inr ⟨h0,rfl,rfl⟩⟩⟩
 · obtain ⟨er,h0,hq⟩:=sort_er h
   exact ⟨_,er,.inr ⟨h0,hq,rfl⟩⟩
theorem sortQ_ex (A : List Series10.Sr) : ∃ out er,Series10.SortQ A out er:=by
 by_cases h : ∃ p,Series10.SortQ A p 0
 · obtain ⟨p,hp⟩:=h
   exact ⟨p,0,hp⟩
 · obtain ⟨er,h0,hq⟩:=sort_er h
   exact ⟨_,er,hq⟩
theorem joinT_ex (op : ByteArray) (A B : List Series10.Sr) : ∃ out er,JoinT op A B out er:=by
 by_cases h : ∃ p,Series10.SortQ A p 0
 · obtain ⟨p,hp⟩:=h
   by_cases g : ∃ q,Series10.SortQ B q 0
   · obtain ⟨q,hq⟩:=g
     by_cases h0 : doE op [nul,nul] = 0
     · obtain ⟨out,er,ho⟩:=sortQ_ex (joinA op p q)
       exact ⟨out,er,.inl ⟨p,hp,.inl ⟨q,hq,.inr ⟨h0,ho⟩⟩⟩⟩
     · exact ⟨_,_,.inl ⟨p,hp,.inl ⟨q,hq,.inl ⟨h0,rfl,rfl⟩⟩⟩⟩
   · obtain ⟨er,h0,hq⟩:=sort_er g
     exact ⟨_,er,.inl ⟨p,hp,.inr ⟨h0,hq,rfl⟩⟩⟩
 · obtain ⟨er,h0,hq⟩:=sort_er h
   exact ⟨_,er,.inr ⟨h0,hq,rfl⟩⟩
theorem fit_or {a b : List Lb} (ha : IsSet a) (hb : IsSet b) : fitB a b = (withinB a b || withinB b a):=by
 unfold fitB
 by_cases hc : b.length < a.length
 · rw [if_pos hc]
   have : withinB a b = false:=by
    cases h : withinB a b with
    | false=>rfl
    | true =>
     have:=Series10.within_len ha (within_of ha hb h)
     omega
   rw [this,Bool.false_or]
 · rw [if_neg hc]
   cases h : withinB b a with
   | false=>rw [Bool.or_false]
   | true =>
    rw [Bool.or_true]
    have h1:=within_of hb ha h
    have h2:=Series10.within_eq hb ha h1 (by omega)
    subst h2
    exact h
def longer (a b : List Lb) : List Lb:=if a.length < b.length then b else a
theorem longer_bigger {a b : List Lb} (ha : IsSet a) (hb : IsSet b) (h : fitB a b = true) : longer a b = bigger a b:=by
 unfold longer bigger
 by_cases h1 : a.length < b.length
 · rw [if_pos h1,if_neg (by omega)]
 · rw [if_neg h1]
   by_cases h2 : b.length < a.length
   · rw [if_pos h2]
   · rw [if_neg h2]
     unfold fitB at h
     rw [if_neg h2] at h
     exact Series10.within_eq ha hb (within_of ha hb h) (by omega)
def Few (F : List Series10.Sr) : Prop:=FR F∧(∀ s ∈ F,s.labels.length ≤ 1000000)∧F.length ≤ 1000000
theorem Few.nil : Few []:=⟨(fun s hs=>by cases hs),(fun s hs=>by cases hs),by simp⟩
theorem Few.frame {F : List Series10.Sr} (h : Series10.IsFrame F) : Few F:=⟨FR.frame h,fun s hs=>by have:=(h.1 s hs).2.2;omega,by have:=h.2.2.2;omega⟩
theorem Few.sort {F F' : List Series10.Sr} {er : Int} (h : Series10.SortQ F F' er) : Few F':=by
 by_cases h0 : er = 0
 · exact Few.frame (h.frame h0).1
 · rw [h.none h0];exact Few.nil
theorem Few.map {op : ByteArray} {F F' : List Series10.Sr} {er : Int} (h : MapT op F F' er) : Few F':=by
 rcases h with ⟨p,hp,⟨_,rfl,_⟩ | ⟨_,rfl,_⟩⟩ | ⟨_,_,rfl⟩
 · obtain ⟨h1,h2,h3⟩:=Few.frame (hp.frame rfl).1
   refine ⟨fun s hs=>?_,fun s hs=>?_,?_⟩
   · unfold mapF at hs
     obtain ⟨x,hx,rfl⟩:=List.mem_map.1 hs
     exact h1 x hx
   · unfold mapF at hs
     obtain ⟨x,hx,rfl⟩:=List.mem_map.1 hs
     exact h2 x hx
   · unfold mapF;rw [List.length_map];exact h3
 · exact Few.nil
 · exact Few.nil
theorem Few.join {op : ByteArray} {F G F' : List Series10.Sr} {er : Int} (h : JoinT op F G F' er) : Few F':=by
 rcases h with ⟨p,_,⟨q,_,⟨_,rfl,_⟩ | ⟨_,h⟩⟩ | ⟨_,_,rfl⟩⟩ | ⟨_,_,rfl⟩
 · exact Few.nil
 · exact Few.sort h
 · exact Few.nil
 · exact Few.nil
def Told (w : World) (F : List Series10.Sr) (er : Int) (e : Ending) (w' : World) : Prop:=∃ (a' : Option Addr) (n' c' : Nat),e = .returned (.tuple #[.slice a' n' c',.int .i64 er])∧Hid (IsSer w' a' n' c' F∧Below w.heap.size w w')
theorem told_of {w w' : World} {l : List Se} {vo : Value} {er : Int} (ho : OwnR w' w.heap.size vo l) (hk : ∀ x ∈ l,Lbs w' (.slice x.a x.n x.c) x.labs) (hb : Below w.heap.size w w') : Told w (l.map serOf) er (.returned (.tuple #[vo,.int .i64 er])) w':=by
 obtain ⟨a',c',rfl⟩:=ho.shape
 exact ⟨a',_,c',rfl,⟨l,rfl,ho.sls,hk,rfl⟩,hb⟩
theorem sortG {w : World} {a : Option Addr} {n c : Nat} {F F' : List Series10.Sr} {er : Int} (h : IsSer w a n c F) (hF : FR F) (hl : n ≤ 1000000) (hq : Series10.SortQ F F' er) :
 Calls Tryz.prog 73 #[.slice a n c] w fun e w'=>Told w F' er e w':=by
 obtain ⟨l,rfl,h2,h3,rfl⟩:=h
 refine (sort_ser _ l w h2 h3 (FR.of hF) hl).mono ?_
 rintro e w' ⟨hb,h⟩
 rcases h with ⟨l',g,cap,hq',hll,_,rfl,ho,hok⟩ | ⟨er',hne,hq',rfl⟩
 · obtain ⟨h4,rfl⟩:=hq'.one hq
   rw [← h4]
   exact told_of ho (fun x hx=>(hok x hx).1) hb
 · obtain ⟨h4,rfl⟩:=hq'.one hq
   rw [← h4]
   exact ⟨_,_,_,rfl,⟨[],rfl,sls_nil _,(fun x hx=>by cases hx),rfl⟩,hb⟩
theorem mapS_map (op : ByteArray) (p : List Se) : (p.map (mapS op)).map serOf = mapF op (p.map serOf):=by
 unfold mapF
 rw [List.map_map,List.map_map]
 rfl
theorem mapG {op : ByteArray} {w : World} {a : Option Addr} {n c : Nat} {F F' : List Series10.Sr} {er : Int} (h : IsSer w a n c F) (hF : FR F) (hl : n ≤ 1000000) (hq : MapT op F F' er) :
 Calls Tryz.prog 74 #[.string op,.slice a n c] w fun e w'=>Told w F' er e w':=by
 obtain ⟨l,rfl,h2,h3,rfl⟩:=h
 refine (map_ser op _ l w h2 h3 (FR.of hF) hl).mono ?_
 rintro e w' ⟨hb,h⟩
 rcases h with ⟨l',g,cap,hq',h0,hll,_,rfl,ho,hok⟩ | ⟨⟨out,hq'⟩,hne,rfl⟩ | ⟨er',hne,hq',rfl⟩
 · obtain ⟨h4,rfl⟩:=hq.one (.inl ⟨_,hq',.inl ⟨h0,rfl,rfl⟩⟩)
   have h5 : (l'.map (mapS op)).map serOf = F':=by rw [h4,mapS_map]
   have hlm : l'.length = (l'.map (mapS op)).length:=by rw [List.length_map]
   rw [← h5,hlm]
   rw [hlm] at ho
   exact told_of ho (fun x hx=>(hok x hx).1) hb
 · obtain ⟨h4,rfl⟩:=hq.one (.inl ⟨_,hq',.inr ⟨by simpa using hne,rfl,rfl⟩⟩)
   rw [h4]
   exact ⟨_,_,_,rfl,⟨[],rfl,sls_nil _,(fun x hx=>by cases hx),rfl⟩,hb⟩
 · obtain ⟨h4,rfl⟩:=hq.one (.inr ⟨by simpa using hne,hq',rfl⟩)
   rw [h4]
   exact ⟨_,_,_,rfl,⟨[],rfl,sls_nil _,(fun x hx=>by cases hx),rfl⟩,hb⟩
theorem joinG {op : ByteArray} {w : World} {a a2 : Option Addr} {n n2 c c2 : Nat} {F F2 out : List Series10.Sr} {er : Int} (h : IsSer w a n c F) (h' : IsSer w a2 n2 c2 F2) (hF : FR F) (hF2 : FR F2) (hl : n ≤ 1000000) (hl2 : n2 ≤ 1000000) (hj : JoinT op F F2 out er) :
 Calls Tryz.prog 75 #[.string op,.slice a n c,.slice a2 n2 c2] w fun e w'=>Told w out er e w':=joinF h h' hF hF2 hl hl2 hj
theorem sameG {w : World} {a a2 : Option Addr} {n n2 c c2 : Nat} {F : List Series10.Sr} (h : IsSer w a n c F) (h' : IsSer w a2 n2 c2 F) (hF : Few F) :
 Calls Tryz.prog 22 #[.slice a n c,.slice a2 n2 c2] w fun e w'=>e = .returned (.bool true)∧Below w.heap.size w w':=by
 refine (sameF h h' hF.1 hF.1 hF.2.1 hF.2.1 (by rw [h.len];exact hF.2.2) (by rw [h'.len];exact hF.2.2)).mono ?_
 rintro e w' ⟨rfl,hb⟩
 exact ⟨by rw [decide_eq_true rfl],hb⟩
theorem scalarG (v : Vl) (w : World) : Calls Tryz.prog 47 #[.agg #[.int .i64 v.kind,.int .i64 v.n]] w fun e w'=>∃ a' c',e = .returned (.slice a' 1 c')∧Hid (IsSer w' a' 1 c' [⟨[],v⟩]∧Below w.heap.size w w'):=by
 refine (scalar_any v w).mono ?_
 rintro e w' ⟨u,rfl,h1,h2⟩
 obtain ⟨a',c',rfl⟩:=h1.shape
 exact ⟨a',c',rfl,⟨[scal v],rfl,h1,fun x hx=>by rw [List.mem_singleton.1 hx];exact sls_nil _,rfl⟩,h2⟩
theorem rscalarG (v : Vl) (w : World) : Calls Tryz.prog 24 #[.agg #[.int .i64 v.kind,.int .i64 v.n]] w fun e w'=>∃ a' c',e = .returned (.slice a' 1 c')∧Hid (IsSer w' a' 1 c' [⟨[],v⟩]∧Below w.heap.size w w'):=by
 refine (rscalar_any v w).mono ?_
 rintro e w' ⟨u,rfl,h1,h2⟩
 obtain ⟨a',c',rfl⟩:=h1.shape
 exact ⟨a',c',rfl,⟨[scal v],rfl,h1,fun x hx=>by rw [List.mem_singleton.1 hx];exact sls_nil _,rfl⟩,h2⟩
theorem Few.scal (v : Vl) : Few [⟨[],v⟩]:=⟨fun s hs=>by rw [List.mem_singleton.1 hs];exact ⟨(fun a ha=>by cases ha),by simp⟩,fun s hs=>by rw [List.mem_singleton.1 hs];simp,by simp⟩
end Go.Proofs.YtdhlfpgibfaimaaGreatDoor
