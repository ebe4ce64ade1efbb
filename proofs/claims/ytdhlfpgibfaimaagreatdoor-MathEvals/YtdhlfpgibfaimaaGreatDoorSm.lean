import Derived.Test.YtdhlfpgibfaimaaGreatDoorLmLk
import Derived.Test.YtdhlfpgibfaimaaGreatDoorVmVt
namespace Go.Proofs.YtdhlfpgibfaimaaGreatDoor.Series10
theorem cmpB_trans {a b c : Lb} (h : cmpB a b = -1) (g : cmpB b c = -1) : cmpB a c = -1:=by
 unfold cmpB at *
 by_cases h1 : cmpL (numsS a.name) (numsS b.name) = 0
 · rw [if_pos h1] at h
   have e1:=cmpL_eq h1
   by_cases h2 : cmpL (numsS b.name) (numsS c.name) = 0
   · rw [if_pos h2] at g
     rw [e1,if_pos h2];exact cmpL_trans h g
   · rw [if_neg h2] at g
     rw [e1,if_neg h2];exact g
 · rw [if_neg h1] at h
   by_cases h2 : cmpL (numsS b.name) (numsS c.name) = 0
   · rw [← cmpL_eq h2,if_neg h1];exact h
   · rw [if_neg h2] at g
     have:=cmpL_trans h g
     rw [if_neg (by omega)];exact this
theorem cmpS_trans : ∀ {l m n : List Lb},cmpS l m = -1→cmpS m n = -1→cmpS l n = -1
 | [],[],_,h,_=>by simp [cmpS] at h
 | _ :: _,[],_,h,_=>by simp [cmpS] at h
 | _,_ :: _,[],_,h=>by simp [cmpS] at h
 | [],_ :: _,_ :: _,_,_=>by simp [cmpS]
 | a :: l,b :: m,c :: n,h,g=>by
  rw [cmpS] at h g ⊢
  by_cases h1 : cmpB a b = 0
  · rw [if_pos h1] at h
    have e1:=cmpB_eq.1 h1
    subst e1
    by_cases h2 : cmpB a c = 0
    · rw [if_pos h2] at g ⊢;exact cmpS_trans h g
    · rw [if_neg h2] at g ⊢;exact g
  · rw [if_neg h1] at h
    by_cases h2 : cmpB b c = 0
    · have e2:=cmpB_eq.1 h2
      subst e2
      rw [if_neg h1];exact h
    · rw [if_neg h2] at g
      have:=cmpB_trans h g
      rw [if_neg (by omega)];exact this
structure Sr where
 labels : List Lb
 value : Vl
deriving DecidableEq
def Slt (a b : Sr) : Prop:=cmpS a.labels b.labels = -1
theorem Slt.irrefl {a b : Sr} (h : Slt a b) : a.labels ≠ b.labels:=by
 intro e;unfold Slt at h;rw [e,cmpS_eq.2 rfl] at h;cases h
theorem Slt.asymm {a b : Sr} (h : Slt a b) : ¬ Slt b a:=by unfold Slt at *;rw [cmpS_neg,h];decide
theorem Slt.trans {a b c : Sr} (h : Slt a b) (g : Slt b c) : Slt a c:=cmpS_trans h g
theorem slt_total (a b : Sr) : Slt a b ∨ a.labels = b.labels ∨ Slt b a:=by
 rcases cmpS_in a.labels b.labels with h | h | h
 · exact .inl h
 · exact .inr (.inl (cmpS_eq.1 h))
 · refine .inr (.inr ?_);unfold Slt;rw [cmpS_neg,h]
def Rise (l : List Sr) : Prop:=l.Pairwise Slt
theorem Rise.tail {a : Sr} {l : List Sr} (h : Rise (a :: l)) : Rise l:=(List.pairwise_cons.1 h).2
theorem Rise.head {a : Sr} {l : List Sr} (h : Rise (a :: l)) : ∀ b ∈ l,Slt a b:=(List.pairwise_cons.1 h).1
theorem rise_eq : ∀ {l m : List Sr},Rise l→Rise m→(∀ x,x ∈ l ↔ x ∈ m)→l = m
 | [],[],_,_,_=>rfl
 | [],b :: m,_,_,h=>by have:=(h b).2 (by simp);cases this
 | a :: l,[],_,_,h=>by have:=(h a).1 (by simp);cases this
 | a :: l,b :: m,hl,hm,h=>by
  have hab : a = b:=by
   rcases List.mem_cons.1 ((h a).1 (by simp)) with e | h1
   · exact e
   · rcases List.mem_cons.1 ((h b).2 (by simp)) with e | h2
     · exact e.symm
     · exact absurd (hm.head a h1) (hl.head b h2).asymm
  subst hab
  have key : ∀ {l m : List Sr},Rise (a :: l)→(∀ x,x ∈ a :: l→x ∈ a :: m)→∀ x,x ∈ l→x ∈ m:=by
   intro l m hl h x hx
   rcases List.mem_cons.1 (h x (by simp [hx])) with e | h1
   · subst e;exact absurd rfl (hl.head x hx).irrefl
   · exact h1
  rw [rise_eq hl.tail hm.tail fun x=>⟨key hl (fun y hy=>(h y).1 hy) x,key hm (fun y hy=>(h y).2 hy) x⟩]
theorem rise_perm {l m : List Sr} (hl : Rise l) (hm : Rise m) (h : l.Perm m) : l = m:=rise_eq hl hm fun _=>h.mem_iff
def Apart (l : List Sr) : Prop:=l.Pairwise fun a b=>a.labels ≠ b.labels
theorem Rise.apart {l : List Sr} (h : Rise l) : Apart l:=List.Pairwise.imp (fun h=>h.irrefl) h
theorem Apart.perm {l m : List Sr} (p : l.Perm m) (h : Apart l) : Apart m:=(p.pairwise_iff (fun h=>fun e=>h e.symm)).1 h
def SortQ (l out : List Sr) (e : Int) : Prop :=
 ((∃ a ∈ l,¬ IsSet a.labels)∧e = 90∧out = []) ∨ ((∀ a ∈ l,IsSet a.labels)∧(∃ a ∈ l,¬ IsV a.value)∧e = 80∧out = []) ∨
 ((∀ a ∈ l,IsSet a.labels)∧(∀ a ∈ l,IsV a.value)∧¬ Apart l∧e = 8∧out = []) ∨
 ((∀ a ∈ l,IsSet a.labels)∧(∀ a ∈ l,IsV a.value)∧Apart l∧200 < l.length∧e = 6∧out = []) ∨
 ((∀ a ∈ l,IsSet a.labels)∧(∀ a ∈ l,IsV a.value)∧l.length ≤ 200∧e = 0∧Rise out∧out.Perm l)
theorem SortQ.one {l o1 o2 : List Sr} {e1 e2 : Int} (h : SortQ l o1 e1) (g : SortQ l o2 e2) : o1 = o2∧e1 = e2:=by
 rcases h with ⟨⟨a,ha,na⟩,rfl,rfl⟩ | ⟨h1,⟨a,ha,na⟩,rfl,rfl⟩ | ⟨h1,h2,h3,rfl,rfl⟩ | ⟨h1,h2,h3,h4,rfl,rfl⟩ | ⟨h1,h2,h3,rfl,h5,h6⟩ <;>
  rcases g with ⟨⟨b,hb,nb⟩,rfl,rfl⟩ | ⟨g1,⟨b,hb,nb⟩,rfl,rfl⟩ | ⟨g1,g2,g3,rfl,rfl⟩ | ⟨g1,g2,g3,g4,rfl,rfl⟩ | ⟨g1,g2,g3,rfl,g5,g6⟩
 all_goals first
  | exact ⟨rfl,rfl⟩
  | exact absurd (g1 _ ha) na
  | exact absurd (h1 _ hb) nb
  | exact absurd (g2 _ ha) na
  | exact absurd (h2 _ hb) nb
  | exact absurd g3 h3
  | exact absurd h3 g3
  | exact absurd (g5.apart.perm g6) h3
  | exact absurd (h5.apart.perm h6) g3
  | omega
  | exact ⟨rise_perm h5 g5 (h6.trans g6.symm),rfl⟩
def IsFrame (l : List Sr) : Prop:=(∀ a ∈ l,IsSet a.labels)∧(∀ a ∈ l,IsV a.value)∧Rise l∧l.length ≤ 200
theorem IsFrame.sort {l : List Sr} (h : IsFrame l) : SortQ l l 0:=.inr (.inr (.inr (.inr ⟨h.1,h.2.1,h.2.2.2,rfl,h.2.2.1,List.Perm.refl _⟩)))
theorem SortQ.frame {l out : List Sr} {e : Int} (h : SortQ l out e) (h0 : e = 0) : IsFrame out∧out.Perm l:=by
 rcases h with ⟨_,rfl,_⟩ | ⟨_,_,rfl,_⟩ | ⟨_,_,_,rfl,_⟩ | ⟨_,_,_,_,rfl,_⟩ | ⟨h1,h2,h3,_,h5,h6⟩
 · omega
 · omega
 · omega
 · omega
 · exact ⟨⟨fun a ha=>h1 a (h6.mem_iff.1 ha),fun a ha=>h2 a (h6.mem_iff.1 ha),h5,by rw [h6.length_eq];exact h3⟩,h6⟩
theorem SortQ.none {l out : List Sr} {e : Int} (h : SortQ l out e) (h0 : e ≠ 0) : out = []:=by
 rcases h with ⟨_,_,h⟩ | ⟨_,_,_,h⟩ | ⟨_,_,_,_,h⟩ | ⟨_,_,_,_,_,h⟩ | ⟨_,_,_,rfl,_,_⟩
 · exact h
 · exact h
 · exact h
 · exact h
 · exact absurd rfl h0
theorem rise_insert {x y : List Sr} {a : Sr} (h : Rise (x ++ y)) (hx : ∀ b ∈ x,Slt b a) (hy : ∀ b ∈ y,Slt a b) : Rise (x ++ a :: y):=by
 unfold Rise at *
 rw [List.pairwise_append] at h ⊢
 obtain ⟨h1,h2,h3⟩:=h
 refine ⟨h1,List.pairwise_cons.2 ⟨hy,h2⟩,fun b hb c hc=>?_⟩
 rcases List.mem_cons.1 hc with rfl | hc
 · exact hx b hb
 · exact h3 b hb c hc
def Within (a b : List Lb) : Prop:=∀ x ∈ a,x ∈ b
theorem within_iff {a b : List Lb} (ha : IsSet a) (hb : IsSet b) : Within a b ↔ ∀ x ∈ a,getL b x.name = x.value:=by
 refine ⟨fun h x hx=>getL_mem hb.2.1 (h x hx),fun h x hx=>?_⟩
 have h1:=h x hx
 have h2 : getL b x.name ≠ ⟨#[]⟩:=by
  rw [h1]
  intro e
  have:=(ha.1 x hx).2.1
  rw [e] at this
  exact absurd this (by decide)
 have h3 : ∃ y ∈ b,y.name = x.name:=by
  apply Classical.byContradiction
  intro g
  exact h2 (getL_none fun y hy e=>g ⟨y,hy,e⟩)
 obtain ⟨y,hy,e⟩:=h3
 have h4:=getL_mem hb.2.1 hy
 rw [e,h1] at h4
 have : x = y:=by cases x;cases y;simp at e h4;simp [e,h4]
 rw [this];exact hy
theorem within_len {a b : List Lb} (ha : IsSet a) (h : Within a b) : a.length ≤ b.length :=
 Go.Proofs.YtdhlfpgibfaimaaGreatDoor.nodup_len (List.Pairwise.imp (fun h e=>h.irrefl (by rw [e])) ha.2.1) h
theorem within_eq {a b : List Lb} (ha : IsSet a) (hb : IsSet b) (h : Within a b) (hl : b.length ≤ a.length) : a = b:=by
 have hn : b.Nodup:=List.Pairwise.imp (fun h e=>h.irrefl (by rw [e])) hb.2.1
 have key : Within b a:=by
  intro x hx
  apply Classical.byContradiction
  intro hxa
  have h1 : ∀ y ∈ a,y ∈ b.erase x:=fun y hy=>(List.mem_erase_of_ne (fun e=>hxa (by rw [← e];exact hy))).2 (h y hy)
  have h2:=Go.Proofs.YtdhlfpgibfaimaaGreatDoor.nodup_len (List.Pairwise.imp (fun h e=>h.irrefl (by rw [e])) ha.2.1 : a.Nodup) h1
  rw [List.length_erase_of_mem hx] at h2
  have : 0 < b.length:=List.length_pos_of_mem hx
  omega
 have _:=hn
 exact Go.Proofs.YtdhlfpgibfaimaaGreatDoor.rise_eq ha.2.1 hb.2.1 fun x=>⟨h x,key x⟩
def Least (l : List Vl) (v : Vl) : Prop:=v ∈ l∧∀ x ∈ l,place v ≤ place x
def Greatest (l : List Vl) (v : Vl) : Prop:=v ∈ l∧∀ x ∈ l,place x ≤ place v
end Go.Proofs.YtdhlfpgibfaimaaGreatDoor.Series10
