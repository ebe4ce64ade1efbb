/- page.Write in one word; what it leaves. -/
import Derived.Test.YtcgjolonapndgaaPWrB
import Derived.Test.YtcgjolonapndgaaPWrC
import Derived.Test.YtcgjolonapndgaaSafeM
namespace Go.Proofs.Ytcgjolonapndgaa
set_option linter.unusedVariables false
open Go.RowKit Go.Maps Go.ChangeMaps Go.MapKept
theorem cnt_in (s : St) (per : Int) : 0 ≤ cnt s per ∧ cnt s per ≤ 16384 := by
  unfold cnt
  split
  · omega
  · rename_i h
    have : 0 ≤ (s.sectors : Int) / per := Int.ediv_nonneg (by omega) (by omega)
    omega
theorem putFrom_dims (n : Int) (b : List Int) (z : Nat) : ∀ (m : Nat) (s : St) (k : Nat), ((putFrom s n b z k m).1.ops ≤ s.ops + m ∧ (putFrom s n b z k m).1.sectors = s.sectors ∧ (putFrom s n b z k m).1.size = s.size) ∧ 0 ≤ (putFrom s n b z k m).2 ∧ (putFrom s n b z k m).2 ≤ 20
  | 0, s, k => ⟨⟨Nat.le_refl _, rfl, rfl⟩, by show (0 : Int) ≤ 0; omega, by show (0 : Int) ≤ 20; omega⟩
  | m + 1, s, k => by
    have hd := write_dims s (n + k) [part b z k]
    have he := errWrite_in s (n + k) [part b z k]
    unfold putFrom
    split
    · obtain ⟨⟨h1, h2, h3⟩, h4⟩ := putFrom_dims n b z m (s.write (n + k) [part b z k]) (k + 1)
      exact ⟨⟨by omega, by rw [h2]; exact hd.2.1, by rw [h3]; exact hd.2.2⟩, h4⟩
    · exact ⟨⟨by show (s.write _ _).ops ≤ _; omega, hd.2⟩, he⟩
theorem putFrom_byt (n : Int) (b : List Int) (z : Nat) (hb : IsBytes b) : ∀ (m : Nat) (s : St) (k : Nat), Byt s → Byt (putFrom s n b z k m).1
  | 0, s, k, h => h
  | m + 1, s, k, h => by
    have hw : Byt (s.write (n + k) [part b z k]) := byt_write h _ _ (by
      have : [part b z k].flatten = part b z k := by simp
      rw [this]
      unfold part
      exact (hb.drop _).take _)
    unfold putFrom
    split
    · exact putFrom_byt n b z hb m _ _ hw
    · exact hw
theorem pwr_dims (s : St) (per kind : Int) (id : Nat) (load : List Int) : ((pwr s per kind id load).1.ops ≤ s.ops + 8192 ∧ (pwr s per kind id load).1.sectors = s.sectors ∧ (pwr s per kind id load).1.size = s.size) ∧ 0 ≤ (pwr s per kind id load).2 ∧ (pwr s per kind id load).2 ≤ 20 := by
  unfold pwr
  split
  · exact ⟨⟨by show s.ops ≤ _; omega, rfl, rfl⟩, by show (0 : Int) ≤ 2; omega, by show (2 : Int) ≤ 20; omega⟩
  · rename_i c2
    split
    · have := putE_in (per * s.size) kind load.length
      exact ⟨⟨by show s.ops ≤ _; omega, rfl, rfl⟩, this.1, by show putE _ _ _ ≤ 20; omega⟩
    · obtain ⟨u1, u2, _⟩ := cnt_pos (s := s) (per := per) (id := id) (by omega) (by omega)
      obtain ⟨⟨h1, h2⟩, h3⟩ := putFrom_dims (id * per) (pageB (per * s.size).toNat kind id load) s.size per.toNat s 0
      exact ⟨⟨by omega, h2⟩, h3⟩
theorem pwr_byt {s : St} (h : Byt s) (per kind : Int) (hk : 0 ≤ kind ∧ kind < 256) (id : Nat) (load : List Int) (hl : IsBytes load) : Byt (pwr s per kind id load).1 := by
  unfold pwr
  split
  · exact h
  · split
    · exact h
    · exact putFrom_byt _ _ _ (pageB_bytes _ _ _ _ hk hl) _ _ _ h
section
variable {w wr : World} {p r : Nat} {F G : Nat → Prop} {s t : St}
theorem turned_below {w' : World} (h : IsD w p F s) (hb : Below w.heap.size w w') : Turned w p F s w' :=
  ⟨fun k => F k ∧ k < w.heap.size, h.tight.grow hb, Frm.of_below hb F, fun k hk => ⟨.inl hk.1, Nat.lt_of_lt_of_le hk.2 hb.size⟩⟩
theorem pwrite_any (h : IsD w p F s) (hops : s.ops < 17592186000000) (per : Int) (kind : Int) (hk : 0 ≤ kind ∧ kind < 256) (id : Nat) (hid : id < 2 ^ 32) (lv : Value) (load : List Int) (hb : Bts w lv load) (hby : IsBytes load) :
    Calls Try.prog 23 #[.pointer (some ⟨p, 0, none⟩), .int .i64 per, .agg #[.int .u8 kind, .int .u32 id, lv]] w fun e w' => e = .returned (.int .i64 (pwr s per kind id load).2) ∧ Turned w p F (pwr s per kind id load).1 w' := by
  obtain ⟨a, c, rfl⟩ := hb.split
  obtain ⟨q0, q1⟩ := cnt_in s per
  by_cases c2 : cnt s per ≤ (id : Int)
  · have hv : pwr s per kind id load = (s, 2) := by unfold pwr; rw [if_pos c2]
    rw [hv]
    refine (pwrite_arg h per kind hk id hid a _ c c2 q0 q1).mono ?_
    rintro e w' ⟨rfl, hb'⟩
    exact ⟨rfl, turned_below h hb'⟩
  · obtain ⟨u1, u2, u3, u4, u5, u6⟩ := cnt_pos (s := s) (per := per) (id := id) (by omega) (by omega)
    obtain ⟨P, rfl⟩ : ∃ P : Nat, per = P := ⟨per.toNat, by omega⟩
    have hroom : ((P * s.size : Nat) : Int) = (P : Int) * (s.size : Int) := Int.natCast_mul _ _
    by_cases c3 : putE ((P : Int) * s.size) kind load.length = 0
    · have hv : pwr s P kind id load = putFrom s (id * P : Nat) (pageB (P * s.size) kind id load) s.size 0 P := by
        unfold pwr; rw [if_neg c2, if_neg (by simpa using c3), ← hroom, Int.toNat_natCast, Int.toNat_natCast, Int.natCast_mul]
      rw [hv]
      obtain ⟨k1, k2, k3, k4⟩ := putE_zero c3
      have hdiv : id < s.sectors / P := by
        have : ((s.sectors / P : Nat) : Int) = (s.sectors : Int) / (P : Int) := Int.natCast_ediv _ _
        omega
      have hfit : id * P + P ≤ s.sectors := by
        have h1 : (id + 1) * P ≤ s.sectors := Nat.mul_le_of_le_div _ _ _ hdiv
        rwa [Nat.succ_mul] at h1
      exact pwrite_ok h hops P kind (by omega) id hid a _ c load rfl hb hby c2 q1 (by omega) (by omega) (by omega) hfit
    · have hv : pwr s P kind id load = (s, putE ((P : Int) * s.size) kind load.length) := by
        unfold pwr; rw [if_neg c2, if_pos c3]
      rw [hv]
      refine (pwrite_bad h (P : Int) kind hk id hid a _ c c2 q1 (Go.IntWalk.i64_in _ (by omega)) c3).mono ?_
      rintro e w' ⟨rfl, hb'⟩
      exact ⟨rfl, turned_below h hb'⟩
theorem two_pwrite (h : Two w wr p r F G s t) (hops : s.ops < 17592186000000) (per : Int) (kind : Int) (hk : 0 ≤ kind ∧ kind < 256) (id : Nat) (hid : id < 2 ^ 32) (lv : Value) (load : List Int) (hb : Bts wr lv load) (hby : IsBytes load) (W : World) (hW : Below wr.heap.size wr W) :
    Calls Try.prog 23 #[.pointer (some ⟨p, 0, none⟩), .int .i64 per, .agg #[.int .u8 kind, .int .u32 id, lv]] W fun e w' => e = .returned (.int .i64 (pwr s per kind id load).2) ∧ ∃ F', Two w w' p r F' G (pwr s per kind id load).1 t ∧ Frm F wr w' := by
  have hT := h.grow hW
  refine (pwrite_any hT.held.disk hops per kind hk id hid lv load (hb.grow hW) hby).mono ?_
  rintro e w' ⟨rfl, ht⟩
  obtain ⟨F', h1, _, h3⟩ := hT.gone (gone_of hT.held ht)
  exact ⟨rfl, F', h1, (Frm.of_below hW F).trans h3 (fun _ h => .inl h)⟩
theorem two_write1 (h : Two w wr p r F G s t) (hops : s.ops < 17592186044416) (n : Int) (hn : In64 n) (u : Value) (x : List Int) (hu : Bts wr u x) (b1 : x ≠ [] → ∀ j, u.ownBlock = some j → ¬ F j) :
    Calls Try.prog 33 #[.pointer (some ⟨p, 0, none⟩), .int .i64 n, .slice (some ⟨wr.heap.size, 0, none⟩) 1 1] (wr.alloc (.cells #[u] 23)) fun e w' => e = .returned (.int .i64 (s.errWrite n [x])) ∧ ∃ F', Two w w' p r F' G (s.write n [x]) t ∧ Frm F wr w' := by
  have hb0 : Below wr.heap.size wr (wr.alloc (.cells #[u] 23)) := (Below.refl _ wr).alloc (Nat.le_refl _) _
  have hT := h.grow hb0
  refine (held_write hT.held hops n _ [x] (listsB1 (P := fun b => ¬ F b) hu (fun hf => by have := (h.held.blocks _ hf).2; omega) b1) (by simp) hn.1 hn.2).mono ?_
  rintro e w' ⟨rfl, hg⟩
  obtain ⟨F', h1, _, h3⟩ := hT.gone hg
  exact ⟨rfl, F', h1, (Frm.of_below hb0 F).trans h3 (fun _ h => .inl h)⟩
theorem Two.notIn (h : Two w wr p r F G s t) : ¬ F wr.heap.size ∧ ¬ G wr.heap.size := ⟨fun hh => absurd (h.held.blocks _ hh).2 (by omega), fun hh => absurd (h.gb _ hh).2 (by omega)⟩
end
theorem sync_dims (s : St) : s.sync.ops ≤ s.ops + 1 ∧ s.sync.sectors = s.sectors ∧ s.sync.size = s.size := by
  obtain ⟨e1, e2, _, _, _, e6⟩ := op_same s
  unfold St.sync
  split
  · exact ⟨e6, e1, e2⟩
  · exact ⟨e6, e1, e2⟩
theorem arm_dims (s : St) (n : Int) : (s.arm n).ops = s.ops ∧ (s.arm n).sectors = s.sectors ∧ (s.arm n).size = s.size := by
  unfold St.arm
  split <;> exact ⟨rfl, rfl, rfl⟩
theorem byt_arm {s : St} (h : Byt s) (n : Int) : Byt (s.arm n) := by
  unfold St.arm
  split
  · exact h
  · exact h
theorem prE_in (s : St) (per id : Int) : 0 ≤ prE s per id ∧ prE s per id ≤ 30 := by
  unfold prE
  split <;> (try split) <;> (try split) <;> omega
/-- The seven cells of an act's copy. -/
def Copy (W : World) (A : Nat) (c : Array Value) : Prop := W.heap[A]? = some (.cells c 53 (0, 0))
theorem Copy.cell {W : World} {A : Nat} {c : Array Value} (h : Copy W A c) (i : Nat) (v : Value) (hv : c[i]? = some v) : W.cell? ⟨A, i, none⟩ = some v := by
  unfold Copy at h
  simp [World.cell?, h, hv]
theorem Copy.keep {W W' : World} {A : Nat} {c : Array Value} (h : Copy W A c) (e : W'.heap[A]? = W.heap[A]?) : Copy W' A c := e.trans h
theorem Copy.lt {W : World} {A : Nat} {c : Array Value} (h : Copy W A c) : A < W.heap.size := (Array.getElem?_eq_some_iff.1 h).1
end Go.Proofs.Ytcgjolonapndgaa
