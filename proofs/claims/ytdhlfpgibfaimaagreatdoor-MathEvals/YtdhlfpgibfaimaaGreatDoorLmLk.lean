import GoSem.Op.String
namespace Go.Proofs.YtdhlfpgibfaimaaGreatDoor
def IsBytes (bs : List Int) : Prop:=∀ c ∈ bs,0 ≤ c∧c < 256
def cmpL : List Int→List Int→Int
 | [],[]=>0
 | [],_ :: _=>-1
 | _ :: _,[]=>1
 | a :: x,b :: y=>if a < b then -1 else if b < a then 1 else cmpL x y
theorem cmpL_in : ∀ x y : List Int,cmpL x y = -1 ∨ cmpL x y = 0 ∨ cmpL x y = 1
 | [],[]=>by simp [cmpL]
 | [],_ :: _=>by simp [cmpL]
 | _ :: _,[]=>by simp [cmpL]
 | a :: x,b :: y=>by
  unfold cmpL
  split
  · exact .inl rfl
  · split
    · exact .inr (.inr rfl)
    · exact cmpL_in x y
theorem cmpL_neg : ∀ x y : List Int,cmpL y x = - cmpL x y
 | [],[]=>rfl
 | [],_ :: _=>rfl
 | _ :: _,[]=>rfl
 | a :: x,b :: y=>by
  unfold cmpL
  have ih:=cmpL_neg x y
  split <;> split <;> first | omega | (split <;> omega) | skip
  all_goals (try (split <;> omega))
  all_goals omega
theorem cmpL_eq : ∀ {x y : List Int},cmpL x y = 0→x = y
 | [],[],_=>rfl
 | [],_ :: _,h=>by simp [cmpL] at h
 | _ :: _,[],h=>by simp [cmpL] at h
 | a :: x,b :: y,h=>by
  unfold cmpL at h
  split at h
  · omega
  · split at h
    · omega
    · rw [cmpL_eq h,show a = b by omega]
theorem cmpL_self (x : List Int) : cmpL x x = 0:=by
 induction x with
 | nil=>rfl
 | cons a x ih=>simp [cmpL,ih]
def numsS (s : ByteArray) : List Int:=s.data.toList.map fun b=>(b.toNat : Int)
theorem numsS_length (s : ByteArray) : (numsS s).length = s.size:=by rw [numsS,List.length_map,Array.length_toList];rfl
theorem numsS_bytes (s : ByteArray) : IsBytes (numsS s):=by
 intro c hc
 obtain ⟨b,_,rfl⟩:=List.mem_map.1 hc
 have:=b.toNat_lt
 omega
theorem numsS_inj {s t : ByteArray} (h : numsS s = numsS t) : s = t:=by
 have : s.data.toList = t.data.toList:=by
  unfold numsS at h
  refine List.map_inj_right (f:=fun b : UInt8=>(b.toNat : Int)) ?_ |>.1 h
  intro a b e
  exact UInt8.toNat_inj.1 (Int.ofNat.inj e)
 cases s;cases t
 simp at this
 rw [ByteArray.mk.injEq]
 exact Array.toList_inj.1 (by simpa using this)
theorem cmpL_trans : ∀ {x y z : List Int},cmpL x y = -1→cmpL y z = -1→cmpL x z = -1
 | [],[],_,h,_=>by simp [cmpL] at h
 | _ :: _,[],_,h,_=>by simp [cmpL] at h
 | _,_ :: _,[],_,h=>by simp [cmpL] at h
 | [],_ :: _,_ :: _,_,_=>by simp [cmpL]
 | a :: x,b :: y,c :: z,h,g=>by
  simp only [cmpL] at h g ⊢
  by_cases h1 : a < b
  · by_cases h2 : b < c
    · rw [if_pos (by omega)]
    · rw [if_neg h2] at g
      by_cases h3 : c < b
      · rw [if_pos h3] at g;cases g
      · rw [if_pos (by omega)]
  · rw [if_neg h1] at h
    by_cases h2 : b < a
    · rw [if_pos h2] at h;cases h
    · rw [if_neg h2] at h
      by_cases h3 : b < c
      · rw [if_pos (by omega)]
      · rw [if_neg h3] at g
        by_cases h4 : c < b
        · rw [if_pos h4] at g;cases g
        · rw [if_neg h4] at g
          rw [if_neg (by omega),if_neg (by omega)]
          exact cmpL_trans h g
structure Lb where
 name : ByteArray
 value : ByteArray
deriving DecidableEq
def Nlt (a b : Lb) : Prop:=cmpL (numsS a.name) (numsS b.name) = -1
instance (a b : Lb) : Decidable (Nlt a b):=by unfold Nlt;infer_instance
theorem Nlt.trans {a b c : Lb} (h : Nlt a b) (g : Nlt b c) : Nlt a c:=cmpL_trans h g
theorem Nlt.irrefl {a b : Lb} (h : Nlt a b) : a.name ≠ b.name:=by
 intro e;unfold Nlt at h;rw [e,cmpL_self] at h;cases h
theorem Nlt.asymm {a b : Lb} (h : Nlt a b) : ¬ Nlt b a:=by
 unfold Nlt at *;rw [cmpL_neg,h];decide
theorem nlt_total (a b : Lb) : Nlt a b ∨ a.name = b.name ∨ Nlt b a:=by
 rcases cmpL_in (numsS a.name) (numsS b.name) with h | h | h
 · exact .inl h
 · exact .inr (.inl (numsS_inj (cmpL_eq h)))
 · refine .inr (.inr ?_);unfold Nlt;rw [cmpL_neg,h]
def Rise (l : List Lb) : Prop:=l.Pairwise Nlt
theorem Rise.tail {a : Lb} {l : List Lb} (h : Rise (a :: l)) : Rise l:=(List.pairwise_cons.1 h).2
theorem Rise.head {a : Lb} {l : List Lb} (h : Rise (a :: l)) : ∀ b ∈ l,Nlt a b:=(List.pairwise_cons.1 h).1
theorem Rise.one {l : List Lb} (h : Rise l) {a b : Lb} (ha : a ∈ l) (hb : b ∈ l) (e : a.name = b.name) : a = b:=by
 induction l with
 | nil=>cases ha
 | cons c l ih =>
  rcases List.mem_cons.1 ha with rfl | ha1 <;> rcases List.mem_cons.1 hb with rfl | hb1
  · rfl
  · exact absurd e (h.head b hb1).irrefl
  · exact absurd e.symm (h.head a ha1).irrefl
  · exact ih h.tail ha1 hb1
theorem rise_eq : ∀ {l m : List Lb},Rise l→Rise m→(∀ x,x ∈ l ↔ x ∈ m)→l = m
 | [],[],_,_,_=>rfl
 | [],b :: m,_,_,h=>by have:=(h b).2 (by simp);cases this
 | a :: l,[],_,_,h=>by have:=(h a).1 (by simp);cases this
 | a :: l,b :: m,hl,hm,h=>by
  have hab : a = b:=by
   rcases List.mem_cons.1 ((h a).1 (by simp)) with e | h1
   · exact e
   · rcases List.mem_cons.1 ((h b).2 (by simp)) with e | h2
     · exact e.symm
     · exact absurd (hm.head a h1) (hl.head b h2).asymm
  subst hab
  have key : ∀ {l m : List Lb},Rise (a :: l)→(∀ x,x ∈ a :: l→x ∈ a :: m)→∀ x,x ∈ l→x ∈ m:=by
   intro l m hl h x hx
   rcases List.mem_cons.1 (h x (by simp [hx])) with e | h1
   · subst e;exact absurd rfl (hl.head x hx).irrefl
   · exact h1
  rw [rise_eq hl.tail hm.tail fun x=>⟨key hl (fun y hy=>(h y).1 hy) x,key hm (fun y hy=>(h y).2 hy) x⟩]
theorem rise_perm {l m : List Lb} (hl : Rise l) (hm : Rise m) (h : l.Perm m) : l = m:=rise_eq hl hm fun _=>h.mem_iff
def nameC (first : Bool) (c : Int) : Bool:=(97 ≤ c∧c ≤ 122) || (65 ≤ c∧c ≤ 90) || c = 95 || (!first && (48 ≤ c∧c ≤ 57))
def IsName (s : ByteArray) : Prop:=(1 ≤ s.size∧s.size ≤ 64)∧∀ k (h : k < (numsS s).length),nameC (k == 0) ((numsS s)[k]) = true
def IsLb (a : Lb) : Prop:=IsName a.name∧1 ≤ a.value.size∧a.value.size ≤ 128
def Apart (l : List Lb) : Prop:=l.Pairwise fun a b=>a.name ≠ b.name
theorem Rise.apart {l : List Lb} (h : Rise l) : Apart l:=List.Pairwise.imp (fun h=>h.irrefl) h
theorem Apart.perm {l m : List Lb} (p : l.Perm m) (h : Apart l) : Apart m:=(p.pairwise_iff (fun h=>fun e=>h e.symm)).1 h
def MkQ (l out : List Lb) (e : Int) : Prop :=
 ((∃ a ∈ l,¬ IsLb a)∧e = 90∧out = []) ∨ ((∀ a ∈ l,IsLb a)∧¬ Apart l∧e = 8∧out = []) ∨
 ((∀ a ∈ l,IsLb a)∧Apart l∧16 < l.length∧e = 6∧out = []) ∨ ((∀ a ∈ l,IsLb a)∧l.length ≤ 16∧e = 0∧Rise out∧out.Perm l)
theorem MkQ.apart {l out : List Lb} (h : Rise out) (p : out.Perm l) : Apart l:=h.apart.perm p
theorem MkQ.one {l o1 o2 : List Lb} {e1 e2 : Int} (h : MkQ l o1 e1) (g : MkQ l o2 e2) : o1 = o2∧e1 = e2:=by
 rcases h with ⟨⟨a,ha,na⟩,rfl,rfl⟩ | ⟨h1,h2,rfl,rfl⟩ | ⟨h1,h2,h3,rfl,rfl⟩ | ⟨h1,h2,rfl,h3,h4⟩ <;>
  rcases g with ⟨⟨b,hb,nb⟩,rfl,rfl⟩ | ⟨g1,g2,rfl,rfl⟩ | ⟨g1,g2,g3,rfl,rfl⟩ | ⟨g1,g2,rfl,g3,g4⟩
 · exact ⟨rfl,rfl⟩
 · exact absurd (g1 a ha) na
 · exact absurd (g1 a ha) na
 · exact absurd (g1 a ha) na
 · exact absurd (h1 b hb) nb
 · exact ⟨rfl,rfl⟩
 · exact absurd g2 h2
 · exact absurd (MkQ.apart g3 g4) h2
 · exact absurd (h1 b hb) nb
 · exact absurd h2 g2
 · exact ⟨rfl,rfl⟩
 · omega
 · exact absurd (h1 b hb) nb
 · exact absurd (MkQ.apart h3 h4) g2
 · omega
 · exact ⟨rise_perm h3 g3 (h4.trans g4.symm),rfl⟩
def IsSet (l : List Lb) : Prop:=(∀ a ∈ l,IsLb a)∧Rise l∧l.length ≤ 16
theorem MkQ.set {l out : List Lb} {e : Int} (h : MkQ l out e) (h0 : e = 0) : IsSet out:=by
 rcases h with ⟨_,rfl,_⟩ | ⟨_,_,rfl,_⟩ | ⟨_,_,_,rfl,_⟩ | ⟨h1,h2,_,h3,h4⟩
 · omega
 · omega
 · omega
 · exact ⟨fun a ha=>h1 a (h4.mem_iff.1 ha),h3,by rw [h4.length_eq];exact h2⟩
def getL (l : List Lb) (n : ByteArray) : ByteArray:=match l.find? (fun a=>decide (a.name = n)) with
 | some a=>a.value
 | none=>⟨#[]⟩
theorem getL_mem {l : List Lb} (h : Rise l) {a : Lb} (ha : a ∈ l) : getL l a.name = a.value:=by
 unfold getL
 cases e : l.find? (fun b=>decide (b.name = a.name)) with
 | none =>
  have:=List.find?_eq_none.1 e a ha
  simp at this
 | some b =>
  have h1:=List.find?_some e
  have h2:=List.mem_of_find?_eq_some e
  have:=h.one h2 ha (by simpa using h1)
  rw [this]
theorem getL_none {l : List Lb} {n : ByteArray} (h : ∀ a ∈ l,a.name ≠ n) : getL l n = ⟨#[]⟩:=by
 unfold getL
 cases e : l.find? (fun b=>decide (b.name = n)) with
 | none=>rfl
 | some b =>
  have h1:=List.find?_some e
  have h2:=List.mem_of_find?_eq_some e
  exact absurd (by simpa using h1) (h b h2)
def inB (names : List ByteArray) (s : ByteArray) : Bool:=names.any fun n=>decide (n = s)
def onlyL (l : List Lb) (names : List ByteArray) : List Lb:=l.filter fun a=>inB names a.name
def withoutL (l : List Lb) (names : List ByteArray) : List Lb:=l.filter fun a=>!inB names a.name
theorem nodup_len : ∀ {l m : List Lb},l.Nodup→(∀ x ∈ l,x ∈ m)→l.length ≤ m.length
 | [],_,_,_=>Nat.zero_le _
 | a :: l,m,h,hs=>by
  have ha : a ∈ m:=hs a (by simp)
  have h1:=List.nodup_cons.1 h
  have h2 : ∀ x ∈ l,x ∈ m.erase a:=fun x hx=>by
   refine (List.mem_erase_of_ne (fun e=>h1.1 (by rw [← e];exact hx))).2 (hs x (by simp [hx]))
  have h3:=nodup_len h1.2 h2
  rw [List.length_erase_of_mem ha] at h3
  have : 0 < m.length:=List.length_pos_of_mem ha
  simp;omega
def Unlike (a b : List Lb) : Prop:=∃ x ∈ a,∃ y ∈ b,x.name = y.name∧x.value ≠ y.value
def JoinQ (a b out : List Lb) (ok : Bool) : Prop :=
 (ok = true∧IsSet out∧∀ x,x ∈ out ↔ x ∈ a ∨ x ∈ b) ∨ (ok = false∧out = []∧∀ c,¬ (IsSet c∧∀ x,x ∈ c ↔ x ∈ a ∨ x ∈ b))
theorem JoinQ.one {a b o1 o2 : List Lb} {k1 k2 : Bool} (h : JoinQ a b o1 k1) (g : JoinQ a b o2 k2) : o1 = o2∧k1 = k2:=by
 rcases h with ⟨rfl,h1,h2⟩ | ⟨rfl,rfl,h1⟩ <;> rcases g with ⟨rfl,g1,g2⟩ | ⟨rfl,rfl,g1⟩
 · exact ⟨rise_eq h1.2.1 g1.2.1 fun x=>(h2 x).trans (g2 x).symm,rfl⟩
 · exact absurd ⟨h1,h2⟩ (g1 _)
 · exact absurd ⟨g1,g2⟩ (h1 _)
 · exact ⟨rfl,rfl⟩
end Go.Proofs.YtdhlfpgibfaimaaGreatDoor
namespace Go.Proofs.YtdhlfpgibfaimaaGreatDoor
def esc : List Int→List Int
 | []=>[]
 | c :: l=>if c = 92 ∨ c = 34 then 92 :: c :: esc l else c :: esc l
def labK (a : Lb) : List Int:=numsS a.name ++ [61,34] ++ esc (numsS a.value) ++ [34]
def restK : List Lb→List Int
 | []=>[]
 | a :: l=>44 :: labK a ++ restK l
def bodyK : List Lb→List Int
 | []=>[]
 | a :: l=>labK a ++ restK l
def keyL (l : List Lb) : List Int:=123 :: bodyK l ++ [125]
def cmpB (a b : Lb) : Int:=if cmpL (numsS a.name) (numsS b.name) = 0 then cmpL (numsS a.value) (numsS b.value) else cmpL (numsS a.name) (numsS b.name)
def cmpS : List Lb→List Lb→Int
 | [],[]=>0
 | [],_ :: _=>-1
 | _ :: _,[]=>1
 | a :: l,b :: m=>if cmpB a b = 0 then cmpS l m else cmpB a b
theorem cmpB_in (a b : Lb) : cmpB a b = -1 ∨ cmpB a b = 0 ∨ cmpB a b = 1:=by unfold cmpB;split <;> exact cmpL_in _ _
theorem cmpB_neg (a b : Lb) : cmpB b a = - cmpB a b:=by
 unfold cmpB
 rw [cmpL_neg (numsS a.name),cmpL_neg (numsS a.value)]
 by_cases h : cmpL (numsS a.name) (numsS b.name) = 0
 · rw [if_pos h,if_pos (by omega)]
 · rw [if_neg h,if_neg (by omega)]
theorem cmpB_eq {a b : Lb} : cmpB a b = 0 ↔ a = b:=by
 refine ⟨fun h=>?_,fun h=>by subst h;simp [cmpB,cmpL_self]⟩
 unfold cmpB at h
 by_cases h1 : cmpL (numsS a.name) (numsS b.name) = 0
 · rw [if_pos h1] at h
   have e1:=numsS_inj (cmpL_eq h1)
   have e2:=numsS_inj (cmpL_eq h)
   cases a;cases b;simp at e1 e2;simp [e1,e2]
 · rw [if_neg h1] at h;exact absurd h h1
theorem cmpS_in : ∀ l m : List Lb,cmpS l m = -1 ∨ cmpS l m = 0 ∨ cmpS l m = 1
 | [],[]=>by simp [cmpS]
 | [],_ :: _=>by simp [cmpS]
 | _ :: _,[]=>by simp [cmpS]
 | a :: l,b :: m=>by
  rw [cmpS]
  split
  · exact cmpS_in l m
  · exact cmpB_in a b
theorem cmpS_neg : ∀ l m : List Lb,cmpS m l = - cmpS l m
 | [],[]=>by simp [cmpS]
 | [],_ :: _=>by simp [cmpS]
 | _ :: _,[]=>by simp [cmpS]
 | a :: l,b :: m=>by
  rw [cmpS,cmpS,cmpB_neg a b,cmpS_neg l m]
  by_cases h : cmpB a b = 0
  · rw [if_pos h,if_pos (by omega)]
  · rw [if_neg h,if_neg (by omega)]
theorem cmpS_eq : ∀ {l m : List Lb},cmpS l m = 0 ↔ l = m
 | [],[]=>by simp [cmpS]
 | [],_ :: _=>by simp [cmpS]
 | _ :: _,[]=>by simp [cmpS]
 | a :: l,b :: m=>by
  rw [cmpS]
  by_cases h : cmpB a b = 0
  · rw [if_pos h,cmpS_eq,cmpB_eq.1 h];simp
  · rw [if_neg h]
    refine ⟨fun g=>absurd g h,fun g=>?_⟩
    simp only [List.cons.injEq] at g
    exact absurd (cmpB_eq.2 g.1) h
def namesL (l : List Lb) : List ByteArray:=l.map (·.name)
def withL (l more : List Lb) : List Lb:=more ++ withoutL l (namesL more)
end Go.Proofs.YtdhlfpgibfaimaaGreatDoor
