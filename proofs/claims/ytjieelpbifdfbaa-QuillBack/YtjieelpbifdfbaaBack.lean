/-
  Proved here: 'klaxonlaw01.QuillBack' (P1.6), called with any numbers, ints and texts, in any memory, returns true, and its arguments read afterwards as they read before: what was written is read back, to the end. No condition beyond the row's own (each slice and string within the reach that every row states).
-/
import Derived.Test.YtjieelpbifdfbaaRows
import Derived.WalkKit
import Derived.ProofKit
import Derived.OpenShut
import Derived.ShutString
import Derived.ChangeOld
import Derived.Below
import Derived.SizedLaws
import Derived.SliceStrings
import Derived.Test.YtjieelpbifdfbaaLive
import Derived.Test.YtjieelpbifdfbaaArgs
import Derived.Test.YtjieelpbifdfbaaRound
import Derived.Test.YtjieelpbifdfbaaStrs
import Derived.Deep.RegionHeld3
namespace Go.Proofs.Ytjieelpbifdfbaa.quillBack
open Go.ChangeShapes Go.WideShapes Go.ChangeAt Go.RowKit
open Go.ChangeMaps (open_string shut_string)
set_option linter.unusedVariables false

theorem own : ownKnob Try.prog.godebug = none := by kernel_rfl
theorem laidOut : laidOutB Try.prog = true := by kernel_rfl

section
variable {lo g : Nat} {W : World} {bs A rest : List Int}
theorem readN_at (n : Nat) (hn : n < 2 ^ 64) (hbs : bs = A ++ (enc n ++ rest)) (hby : IsBytes bs) (hlen : bs.length ≤ 1000000000) (hs : IsStrip W lo g bs A.length 0) :
    Calls Try.prog 21 #[.pointer (some ⟨g, 0, none⟩)] W fun e w' => e = .returned (.int .u64 n) ∧ IsStrip w' lo g bs (A ++ enc n).length 0 ∧ W.grownBy w' (some g) := by
  have h := stripNumber_any lo g bs A.length 0 W hs hby hlen
  have hr : rdN true 0 0 (bs.drop A.length) = (n, (enc n).length, 0) := by rw [hbs, List.drop_left]; exact rdN_enc n hn rest
  rw [hr] at h
  simpa [nextV, nextP, nextE] using h
theorem readS_at (z : Int) (h1 : -9223372036854775808 ≤ z) (h2 : z ≤ 9223372036854775807) (hbs : bs = A ++ (encS z ++ rest)) (hby : IsBytes bs) (hlen : bs.length ≤ 1000000000) (hs : IsStrip W lo g bs A.length 0) :
    Calls Try.prog 23 #[.pointer (some ⟨g, 0, none⟩)] W fun e w' => e = .returned (.int .i64 z) ∧ IsStrip w' lo g bs (A ++ encS z).length 0 ∧ W.grownBy w' (some g) := by
  have h := stripSigned_any lo g bs A.length 0 W hs hby hlen
  have hr : rdS (bs.drop A.length) = (z, (encS z).length, 0) := by rw [hbs, List.drop_left]; exact rdS_encS z h1 h2 rest
  rw [hr] at h
  simpa [nextV, nextP, nextE] using h
theorem readT_at (s : ByteArray) (h1 : s.size ≤ 20000) (hbs : bs = A ++ (encT s ++ rest)) (hby : IsBytes bs) (hlen : bs.length ≤ 1000000000) (hs : IsStrip W lo g bs A.length 0) :
    Calls Try.prog 25 #[.pointer (some ⟨g, 0, none⟩), .int .i64 20000] W fun e w' => e = .returned (.string s) ∧ IsStrip w' lo g bs (A ++ encT s).length 0 ∧ W.grownBy w' (some g) := by
  have h := stripText_any lo g bs A.length 0 20000 W (by omega) (by omega) hs hby hlen
  have hr : rdT (20000 : Int).toNat (bs.drop A.length) = (numsS s, (encT s).length, 0) := by rw [hbs, List.drop_left]; exact rdT_encT 20000 s h1 (by omega) rest
  rw [hr] at h
  simpa [nextV, nextP, nextE, strOf_numsS] using h
end

set_option maxRecDepth 100000 in
set_option maxHeartbeats 1000000 in
theorem walk_out (ls ms : Nat) (ss : List ByteArray) (a0 a1 a2 : Option Addr) (c0 c1 c2 : Nat) (w : World) (hT : ls ≤ 60 → ms ≤ 60 → Calls Try.prog 9 #[.slice a2 ss.length c2] w fun e w' => e = .returned (.bool false) ∧ w' = w) :
    Calls Try.prog 5 #[.slice a0 ls c0, .slice a1 ms c1, .slice a2 ss.length c2] w fun e w' => e = .returned (.bool true) ∧ Below w.heap.size w w' := by
  by_cases h0 : 60 < ls
  · go_enter Try.func5, Try.ntmps5
    go_wp2_with (go_at_call 10; refine (live_any _).mono ?_; rintro e w1 ⟨rfl, hb1⟩)
    go_ret
    exact ⟨rfl, hb1⟩
  · by_cases h1 : 60 < ms
    · go_enter Try.func5, Try.ntmps5
      go_wp2_with (go_at_call 10; refine (live_any _).mono ?_; rintro e w1 ⟨rfl, hb1⟩)
      go_ret
      exact ⟨rfl, hb1⟩
    · have hT' := hT (by omega) (by omega)
      clear hT
      go_enter Try.func5, Try.ntmps5
      go_wp2_with (first | (go_at_call 9; refine hT'.mono ?_; rintro e w1 ⟨rfl, hw1⟩; subst w1) | (go_at_call 10; refine (live_any _).mono ?_; rintro e w1 ⟨rfl, hb1⟩))
      go_ret
      exact ⟨rfl, hb1⟩
set_option maxRecDepth 100000 in
set_option maxHeartbeats 4000000 in
theorem walk_in (ls : List Nat) (ms : List Int) (ss : List ByteArray) (a0 a1 a2 : Option Addr) (c0 c1 c2 : Nat) (w : World)
    (hl : ∀ n ∈ ls, n < 2 ^ 64) (hm : ∀ n ∈ ms, -9223372036854775808 ≤ n ∧ n ≤ 9223372036854775807) (hl60 : ls.length ≤ 60) (hm60 : ms.length ≤ 60) (hs60 : ss.length ≤ 60) (hst : total ss ≤ 20000)
    (R0 : ls = [] ∨ ∃ b o, a0 = some ⟨b, o, none⟩ ∧ Rest w 0 ls.length b o (fun t => .int .u64 (ls.getD t 0 : Nat)) ∧ b < w.heap.size)
    (R1 : ms = [] ∨ ∃ b o, a1 = some ⟨b, o, none⟩ ∧ Rest w 0 ms.length b o (fun t => .int .i64 (ms.getD t 0)) ∧ b < w.heap.size)
    (R2 : ss = [] ∨ ∃ b o, a2 = some ⟨b, o, none⟩ ∧ Rest w 0 ss.length b o (fun t => .string (ss.getD t ByteArray.empty)) ∧ b < w.heap.size)
    (hT : Calls Try.prog 9 #[.slice a2 ss.length c2] w fun e w' => e = .returned (.bool true) ∧ w' = w) :
    Calls Try.prog 5 #[.slice a0 ls.length c0, .slice a1 ms.length c1, .slice a2 ss.length c2] w fun e w' => e = .returned (.bool true) ∧ Below w.heap.size w w' := by
  have q0 := cat_len enc 10 ls fun x hx => enc_len10 x (hl x hx)
  have q1 := cat_len encS 11 ms fun x hx => encS_len11 x (hm x hx).1 (hm x hx).2
  have q2 := catT_len ss (by omega)
  have hbs1 : IsBytes (cat enc ls) := isBytes_cat enc ls fun x _ => isBytes_enc x
  have hbs2 : IsBytes (cat encS ms) := isBytes_cat encS ms fun x _ => isBytes_encS x
  have hbs3 : IsBytes (cat encT ss) := isBytes_cat encT ss fun x _ => isBytes_encT x
  have hcarry : ∀ {α : Type} {l : List α} {f : Nat → Value} {a : Option Addr} {W : World}, (l = [] ∨ ∃ b o, a = some ⟨b, o, none⟩ ∧ Rest w 0 l.length b o f ∧ b < w.heap.size) → Below w.heap.size w W → l = [] ∨ ∃ b o, a = some ⟨b, o, none⟩ ∧ Rest W 0 l.length b o f ∧ (b < w.heap.size ∨ l.length ≤ 1) := by
    intro α l f a W h hW
    rcases h with h | ⟨b, o, e, hr, hb⟩
    · exact .inl h
    · exact .inr ⟨b, o, e, fun t h0 ht => (hW.cell (p := ⟨b, o + t, none⟩) hb).trans (hr t h0 ht), .inl hb⟩
  go_enter Try.func5, Try.ntmps5
  go_wp2_with (first | (go_at_call 9; refine hT.mono ?_; rintro e w1 ⟨rfl, hw1⟩; subst w1) | (go_at_call 14; refine (number_any w.heap.size _ [] ls a0 c0 w hl (World.ownsRow_nil _ _ _ _) (Nat.le_refl _) (by simp; omega) (hcarry R0 (Below.refl _ _))).mono ?_; rintro e w1 ⟨v1, rfl, ho1, hb1⟩; rw [List.nil_append] at ho1) | (go_at_call 15; refine (signed_any w.heap.size v1 (cat enc ls) ms a1 c1 w1 hm ho1 hb1.size (by omega) (hcarry R1 hb1)).mono ?_; rintro e w2 ⟨v2, rfl, ho2, hb2⟩) | (go_at_call 16; refine (text_any w.heap.size v2 (cat enc ls ++ cat encS ms) ss a2 c2 w2 (by omega) ho2 (hb1.trans hb2).size (by simp; omega) (hcarry R2 (hb1.trans hb2))).mono ?_; rintro e w3 ⟨v3, rfl, ho3, hb3⟩) | (go_at_call 19; refine (unroll_any _ v3 w3 (by simp; omega) ho3.bts).mono ?_; rintro e w4 ⟨g, rfl, hg, hs4, hb4⟩))
  have hB4 : Below w.heap.size w w4 := ((hb1.trans hb2).trans hb3).trans (hb4.mono ((hb1.trans hb2).trans hb3).size)
  have hlo : w.heap.size ≤ w3.heap.size := ((hb1.trans hb2).trans hb3).size
  generalize w3.heap.size = lo at hg hs4 hlo
  have hbl : (cat enc ls ++ cat encS ms ++ cat encT ss).length ≤ 1000000 := by simp only [List.length_append]; omega
  have hbb : IsBytes (cat enc ls ++ cat encS ms ++ cat encT ss) := isBytes_append (isBytes_append hbs1 hbs2) hbs3
  obtain ⟨bs, hbs⟩ : ∃ bs, bs = cat enc ls ++ cat encS ms ++ cat encT ss := ⟨_, rfl⟩
  rw [← hbs] at hs4 hbl hbb
  replace hbs : Hid (_ = _) := hbs
  clear hb1 hb2 hb3 hb4 ho1 ho2 ho3 hT q0 q1 q2 hbs1 hbs2 hbs3
  replace hcarry : Hid _ := @hcarry
  go_loopw [8] (fun i wr => ∃ k : Nat, k ≤ ls.length ∧ i = .int .i64 k ∧ IsStrip wr lo g bs (cat enc (ls.take k)).length 0 ∧ Below w.heap.size w wr) (fun i _ => ls.length - (intOf i).toNat)
  case atStart => exact ⟨0, Nat.zero_le _, rfl, hs4, hB4⟩
  case round =>
    obtain ⟨k, hk, rfl, hsr, hbr⟩ := hrel
    clear hs4 hB4
    by_cases hlt : k < ls.length
    · obtain ⟨b, o, rfl, hr, hbz⟩ : ∃ b o, a0 = some ⟨b, o, none⟩ ∧ Rest w 0 ls.length b o (fun t => .int .u64 (ls.getD t 0 : Nat)) ∧ b < w.heap.size := by
        rcases R0 with h | h
        · subst h; simp at hlt
        · exact h
      have hc : wr.cell? ⟨b, o + k, none⟩ = some (.int .u64 (ls.getD k 0 : Nat)) := (hbr.cell (p := ⟨b, o + k, none⟩) hbz).trans (hr k (Nat.zero_le _) hlt)
      have hn := hl _ (getD_mem ls 0 k hlt)
      have HA : Hid (∀ (n : Nat), n = ls.getD k 0 → (cat enc (ls.take k) ++ enc n) = cat enc (ls.take (k + 1))) := by
        intro n e; rw [e, cat_take enc ls 0 k hlt]
      have hcall := fun W (h : IsStrip W lo g bs (cat enc (ls.take k)).length 0) => readN_at (A := cat enc (ls.take k)) (rest := cat enc (ls.drop (k + 1)) ++ cat encS ms ++ cat encT ss) (ls.getD k 0) hn (by rw [hbs.out, cat_at enc ls 0 k hlt]; simp) hbb (by omega) h
      rw [HA.out _ rfl] at hcall
      generalize ls.getD k 0 = n at hc hcall
      generalize (cat enc (ls.take k)).length = pl at hsr hcall
      have hsd : IsStrip wr.drew lo g bs pl 0 := (strip_stay hsr ((Below.refl _ wr).drew)).1
      have hkI : (k : Int) < (ls.length : Int) := by omega
      have hk0 : (0 : Int) ≤ (k : Int) := by omega
      have hgz := hsr.lt
      clear hsr HA hn hr R0 R1 R2 hl hm hbb
      go_wp2
      go_region_held3 (fun w' => w'.cell? ⟨b, o + k, none⟩ = some (.int .u64 n)) (go_keep) (first | (go_at_call 21; refine (hcall _ hsd).mono ?_; rintro e w5 ⟨rfl, hs5, hG5⟩; have hc5 : w5.cell? ⟨b, o + k, none⟩ = some (.int .u64 n) := hG5.cell hc (by simp; omega)))
      go_wp2
      go_roundw
      case rel => exact ⟨k + 1, by omega, by go_num, hs5, (hbr.drew).grown hG5 (by have := hbr.size; exact this) (by intro q hq; cases hq; omega)⟩
      case measure => simp [intOf]; omega
    · obtain rfl : k = ls.length := by omega
      rw [List.take_of_length_le (Nat.le_refl _)] at hsr
      clear R0
      obtain ⟨wa, rfl⟩ : ∃ wa : World, wa = wr := ⟨_, rfl⟩
      go_wp2
      go_loopw [9] (fun i wr => ∃ k : Nat, k ≤ ms.length ∧ i = .int .i64 k ∧ IsStrip wr lo g bs (cat enc ls ++ cat encS (ms.take k)).length 0 ∧ Below w.heap.size w wr) (fun i _ => ms.length - (intOf i).toNat)
      case atStart => exact ⟨0, Nat.zero_le _, rfl, by simpa [cat] using hsr, hbr⟩
      case round =>
        obtain ⟨k, hk, rfl, hsr, hbr⟩ := hrel
        by_cases hlt : k < ms.length
        · obtain ⟨b, o, rfl, hr, hbz⟩ : ∃ b o, a1 = some ⟨b, o, none⟩ ∧ Rest w 0 ms.length b o (fun t => .int .i64 (ms.getD t 0)) ∧ b < w.heap.size := by
            rcases R1 with h | h
            · subst h; simp at hlt
            · exact h
          have hc : wr.cell? ⟨b, o + k, none⟩ = some (.int .i64 (ms.getD k 0)) := (hbr.cell (p := ⟨b, o + k, none⟩) hbz).trans (hr k (Nat.zero_le _) hlt)
          have hn := hm _ (getD_mem ms 0 k hlt)
          have HA : Hid (∀ (n : Int), n = ms.getD k 0 → (cat enc ls ++ cat encS (ms.take k) ++ encS n) = cat enc ls ++ cat encS (ms.take (k + 1))) := by
            intro n e; rw [e, cat_take encS ms 0 k hlt, List.append_assoc]
          have hcall := fun W (h : IsStrip W lo g bs (cat enc ls ++ cat encS (ms.take k)).length 0) => readS_at (A := cat enc ls ++ cat encS (ms.take k)) (rest := cat encS (ms.drop (k + 1)) ++ cat encT ss) (ms.getD k 0) hn.1 hn.2 (by rw [hbs.out, cat_at encS ms 0 k hlt]; simp) hbb (by omega) h
          rw [HA.out _ rfl] at hcall
          generalize ms.getD k 0 = n at hc hcall
          generalize (cat enc ls ++ cat encS (ms.take k)).length = pl at hsr hcall
          have hsd : IsStrip wr.drew lo g bs pl 0 := (strip_stay hsr ((Below.refl _ wr).drew)).1
          have hkI : (k : Int) < (ms.length : Int) := by omega
          have hk0 : (0 : Int) ≤ (k : Int) := by omega
          have hgz := hsr.lt
          clear hsr HA hn hr R1 R2 hl hm hbb
          go_wp2
          go_region_held3 (fun w' => w'.cell? ⟨b, o + k, none⟩ = some (.int .i64 n)) (go_keep) (first | (go_at_call 23; refine (hcall _ hsd).mono ?_; rintro e w5 ⟨rfl, hs5, hG5⟩; have hc5 : w5.cell? ⟨b, o + k, none⟩ = some (.int .i64 n) := hG5.cell hc (by simp; omega)))
          go_wp2
          go_roundw
          case rel => exact ⟨k + 1, by omega, by go_num, hs5, (hbr.drew).grown hG5 (by have := hbr.size; exact this) (by intro q hq; cases hq; omega)⟩
          case measure => simp [intOf]; omega
        · obtain rfl : k = ms.length := by omega
          rw [List.take_of_length_le (Nat.le_refl _)] at hsr
          clear R1
          obtain ⟨wb, rfl⟩ : ∃ wb : World, wb = wr := ⟨_, rfl⟩
          go_wp2
          go_loopw [10] (fun i wr => ∃ k : Nat, k ≤ ss.length ∧ i = .int .i64 k ∧ IsStrip wr lo g bs (cat enc ls ++ cat encS ms ++ cat encT (ss.take k)).length 0 ∧ Below w.heap.size w wr) (fun i _ => ss.length - (intOf i).toNat)
          case atStart => exact ⟨0, Nat.zero_le _, rfl, by simpa [cat] using hsr, hbr⟩
          case round =>
            obtain ⟨k, hk, rfl, hsr, hbr⟩ := hrel
            by_cases hlt : k < ss.length
            · obtain ⟨b, o, rfl, hr, hbz⟩ : ∃ b o, a2 = some ⟨b, o, none⟩ ∧ Rest w 0 ss.length b o (fun t => .string (ss.getD t ByteArray.empty)) ∧ b < w.heap.size := by
                rcases R2 with h | h
                · subst h; simp at hlt
                · exact h
              have hc : wr.cell? ⟨b, o + k, none⟩ = some (.string (ss.getD k ByteArray.empty)) := (hbr.cell (p := ⟨b, o + k, none⟩) hbz).trans (hr k (Nat.zero_le _) hlt)
              have hn := total_le ss _ (getD_mem ss ByteArray.empty k hlt)
              have HA : Hid (∀ (n : ByteArray), n = ss.getD k ByteArray.empty → (cat enc ls ++ cat encS ms ++ cat encT (ss.take k) ++ encT n) = cat enc ls ++ cat encS ms ++ cat encT (ss.take (k + 1))) := by
                intro n e; rw [e, cat_take encT ss ByteArray.empty k hlt, List.append_assoc]
              have hcall := fun W (h : IsStrip W lo g bs (cat enc ls ++ cat encS ms ++ cat encT (ss.take k)).length 0) => readT_at (A := cat enc ls ++ cat encS ms ++ cat encT (ss.take k)) (rest := cat encT (ss.drop (k + 1))) (ss.getD k ByteArray.empty) (by omega) (by rw [hbs.out, cat_at encT ss ByteArray.empty k hlt]; simp) hbb (by omega) h
              rw [HA.out _ rfl] at hcall
              generalize ss.getD k ByteArray.empty = n at hc hcall
              generalize (cat enc ls ++ cat encS ms ++ cat encT (ss.take k)).length = pl at hsr hcall
              have hsd : IsStrip wr.drew lo g bs pl 0 := (strip_stay hsr ((Below.refl _ wr).drew)).1
              have hkI : (k : Int) < (ss.length : Int) := by omega
              have hk0 : (0 : Int) ≤ (k : Int) := by omega
              have hgz := hsr.lt
              clear hsr HA hn hr R2 hl hm hbb
              go_wp2
              go_region_held3 (fun w' => w'.cell? ⟨b, o + k, none⟩ = some (.string n)) (go_keep) (first | (go_at_call 25; refine (hcall _ hsd).mono ?_; rintro e w5 ⟨rfl, hs5, hG5⟩; have hc5 : w5.cell? ⟨b, o + k, none⟩ = some (.string n) := hG5.cell hc (by simp; omega)))
              go_wp2
              go_roundw
              case rel => exact ⟨k + 1, by omega, by go_num, hs5, (hbr.drew).grown hG5 (by have := hbr.size; exact this) (by intro q hq; cases hq; omega)⟩
              case measure => simp [intOf]; omega
            · obtain rfl : k = ss.length := by omega
              rw [List.take_of_length_le (Nat.le_refl _), ← hbs.out] at hsr
              have hov := over_any lo g bs bs.length 0 wr hsr (by omega)
              have hz : over bs bs.length 0 = 0 := by simp [over]
              rw [hz] at hov
              clear R2 hl hm hbb
              go_wp2_with (first | (go_at_call 33; refine hov.mono ?_; rintro e w6 ⟨rfl, hw6⟩; have hB6 : Below w.heap.size w w6 := (by obtain ⟨m6, rfl⟩ := hw6; exact below_drewN hbr m6); clear hw6) | (go_at_call 30; refine (num_any _ _ (by omega) (by omega)).mono ?_; rintro e w7 ⟨rfl, hw7⟩; subst w7) | (go_at_call 10; refine (live_any _).mono ?_; rintro e w7 ⟨rfl, hb7⟩))
              go_ret
              exact ⟨rfl, hB6.trans (hb7.mono hB6.size)⟩

/-- Numbers of a slice of uint64, as they are. -/
theorem nat_row {w : World} {a : Option Addr} {len cap : Nat} {zs : List Int} (h : IsRow .u64 w a len cap zs) :
    ∃ ls : List Nat, ls.length = len ∧ (∀ n ∈ ls, n < 2 ^ 64) ∧ (ls = [] ∨ ∃ b o, a = some ⟨b, o, none⟩ ∧ Rest w 0 ls.length b o (fun t => .int .u64 (ls.getD t 0 : Nat)) ∧ b < w.heap.size) := by
  have hl := h.len
  have hw := h.wf
  have hr := h.rest
  generalize zs.take len = z at hl hw hr
  refine ⟨z.map Int.toNat, by simpa using hl, ?_, ?_⟩
  · intro n hn
    obtain ⟨x, hx, rfl⟩ := List.mem_map.1 hn
    have := u64_bounds x (hw x hx)
    omega
  · rcases hr with h | ⟨b, o, e, hr, hb⟩
    · exact .inl (by simp [h])
    · refine .inr ⟨b, o, e, fun t h0 ht => ?_, hb⟩
      rw [List.length_map] at ht
      rw [hr t h0 ht]
      have := u64_bounds _ (hw _ (getD_mem z 0 t ht))
      have e2 : ((z.map Int.toNat).getD t 0 : Nat) = (z.getD t 0).toNat := by simp [ht]
      show some (Value.int .u64 (z.getD t 0)) = some (Value.int .u64 (((z.map Int.toNat).getD t 0 : Nat) : Int))
      rw [e2, Int.toNat_of_nonneg this.1]

theorem walk (a0 : Option Addr) (n0 c0 : Nat) (z0 : List Int) (a1 : Option Addr) (n1 c1 : Nat) (z1 : List Int) (a2 : Option Addr) (n2 c2 : Nat) (s2 : List ByteArray) (w : World) (w0 : IsRow .u64 w a0 n0 c0 z0) (w1 : IsRow .i64 w a1 n1 c1 z1) (w2 : IsStrs w a2 n2 c2 s2) :
    Calls Try.prog 5 #[.slice a0 n0 c0, .slice a1 n1 c1, .slice a2 n2 c2] w fun e w' => e = .returned (.bool true) ∧ Below w.heap.size w w' := by
  obtain ⟨ls, rfl, hl, R0⟩ := nat_row w0
  have l1 := w1.len
  have R1 := w1.rest
  have hm : ∀ n ∈ z1.take n1, -9223372036854775808 ≤ n ∧ n ≤ 9223372036854775807 := fun n hn => bounds_i64 (w1.wf n hn)
  generalize z1.take n1 = ms at l1 R1 hm
  subst l1
  have l2 := w2.len
  have R2 := w2.rest
  have hre := w2.reach
  have hmx : n2 ≤ 9223372036854775807 := by
    rcases w2 with ⟨_, rfl, _, _⟩ | ⟨x, _, h1, h2, _⟩
    · omega
    · unfold maxLen at h2; omega
  generalize s2.take n2 = ss at l2 R2 hre
  subst l2
  have hT := texts_any ss a2 c2 w hre hmx R2
  by_cases hin : ls.length ≤ 60 ∧ ms.length ≤ 60 ∧ ss.length ≤ 60 ∧ total ss ≤ 20000
  · rw [show decide (ss.length ≤ 60 ∧ total ss ≤ 20000) = true by simp; omega] at hT
    exact walk_in ls ms ss a0 a1 a2 c0 c1 c2 w hl hm (by omega) (by omega) (by omega) (by omega) R0 R1 R2 hT
  · refine walk_out ls.length ms.length ss a0 a1 a2 c0 c1 c2 w (fun h0 h1 => ?_)
    rw [show decide (ss.length ≤ 60 ∧ total ss ≤ 20000) = false by simp; omega] at hT
    exact hT

/-! ### The row's step -/
/-- Each string of a slice of strings that is read is within the reach. -/
theorem sized_strs {H : Type} {P : Program} {ts : List TypeId} {ds : List (DataW H)} (h : (DataW.weightsEach P ts ds).all (· ≤ reachBytes) = true) {j : Nat} {t e : TypeId} {ss tt : List ByteArray} (ht : ts[j]? = some t) (hd : ds[j]? = some (.slice (strs ss) (strs tt))) (hu : P.underlying t = some (.slice e)) :
    ∀ s ∈ ss ++ tt, s.size ≤ reachBytes := by
  have hall : ∀ (l : List ByteArray), ∀ s ∈ l, s.size ∈ DataW.weightsAll (H := H) P e (strs l) := by
    intro l
    induction l with
    | nil => intro s hs; cases hs
    | cons x r ih =>
      intro s hs
      have e1 : DataW.weightsAll (H := H) P e (strs (x :: r)) = [x.data.toList.length] ++ DataW.weightsAll (H := H) P e (strs r) := by simp [strs, DataW.weightsAll, DataW.weights]
      rw [e1]
      rcases List.mem_cons.1 hs with rfl | hs
      · exact List.mem_append.2 (.inl (by rw [Array.length_toList]; exact List.mem_singleton.2 rfl))
      · exact List.mem_append.2 (.inr (ih s hs))
  intro s hs
  have hm : s.size ∈ DataW.weights P t (.slice (strs ss) (strs tt) : DataW H) := by
    simp only [DataW.weights, hu]
    rcases List.mem_append.1 hs with h | h
    · exact List.mem_cons.2 (.inr (List.mem_append.2 (.inl (hall ss s h))))
    · exact List.mem_cons.2 (.inr (List.mem_append.2 (.inr (hall tt s h))))
  have := List.all_eq_true.1 h _ (DataW.weights_mem_each ht hd s.size hm)
  simpa using this

set_option maxRecDepth 100000 in
theorem lifted (os : Os) (started : os.Started) (H : Type) (enc : TypeId × Value → H) :
    ReturnsInHanded {} Try.checked os 5 .any (Rows.quillBackSpec.pre6 enc Try.prog Try.f5 Rows.quillBackRow.domain false) (Rows.quillBackSpec.post enc Try.prog Try.f5 false true false false) := by
  refine returnsInHanded_of_change_sized (C := Try.checked) own started (by kernel_rfl) Try.func5
    (ChangeSpec.witness6 (enc := enc) (C := Try.checked) false ⟨#[], #[.slice none 0 0, .slice none 0 0, .slice none 0 0], []⟩ 8 (by kernel_rfl) (by kernel_rfl) (by kernel_rfl) (by kernel_rfl)) ?_
  intro W base args ds gs before hval0 hW hcnd hsz0 _
  have hval : ∀ (j : Nat) t v, Try.f5.params[j]? = some t → args[j]? = some v → Value.okWide Try.prog W .any base t v := hval0
  have hsz : (DataW.weightsEach Try.prog (Try.f5.params.toList ++ Rows.quillBackSpec.plain.varTypes Try.prog) (ds ++ gs)).all (· ≤ reachBytes) = true := hsz0
  have hW' := hW
  obtain ⟨p, q, hA0, hV, rfl, hfz, hnd⟩ := hW
  have hA : DataW.TrodAll enc Try.prog W 0 (fun _ => true) true Try.f5.params.toList args.toList ds p := hA0
  rw [Try.params5] at hA hval hsz
  obtain ⟨v0, vs0, d0, ds0, p0, q0, hargs, rfl, rfl, h0, r0⟩ := trodAll_cons hA
  obtain ⟨v1, vs1, d1, ds1, p1, q1, rfl, rfl, rfl, h1, r1⟩ := trodAll_cons r0
  obtain ⟨v2, vs2, d2, ds2, p2, q2, rfl, rfl, rfl, h2, r2⟩ := trodAll_cons r1
  obtain ⟨rfl, rfl, rfl⟩ := trodAll_nil r2
  obtain rfl : args = #[v0, v1, v2] := by cases args; simp_all
  obtain ⟨rfl, rfl⟩ := trodVars_none hV
  obtain ⟨a0, len0, cap0, rfl⟩ := okWide_slice Try.underlying23 (hval 0 23 v0 rfl rfl)
  have k0 := h0
  have lt0 : ∀ x ∈ p0, x.block < W.heap.size := by obtain ⟨m, hm⟩ := k0; exact DataW.trod_lt m _ _ _ hm
  obtain ⟨z0, w0⟩ : ∃ zs, IsRow .u64 W a0 len0 cap0 zs := by
    obtain ⟨fuel, hf⟩ := h0
    rcases open_ints Try.underlying23 Try.underlying29 (by kernel_rfl) hf with ⟨hcs, _⟩ | ⟨x, l, c, zs, hcs, _, hl, hm, hz, _, hcell, hwz⟩
    · simp [Value.cells] at hcs
      obtain ⟨rfl, rfl, rfl⟩ := hcs
      exact ⟨[], .inl ⟨rfl, rfl, rfl, rfl⟩⟩
    · simp [Value.cells] at hcs
      obtain ⟨rfl, rfl, rfl⟩ := hcs
      exact ⟨zs, .inr ⟨_, rfl, hl, hm, by simpa using hz, hcell, hwz⟩⟩
  obtain ⟨a1, len1, cap1, rfl⟩ := okWide_slice Try.underlying24 (hval 1 24 v1 rfl rfl)
  have k1 := h1
  have lt1 : ∀ x ∈ p1, x.block < W.heap.size := by obtain ⟨m, hm⟩ := k1; exact DataW.trod_lt m _ _ _ hm
  obtain ⟨z1, w1⟩ : ∃ zs, IsRow .i64 W a1 len1 cap1 zs := by
    obtain ⟨fuel, hf⟩ := h1
    rcases open_ints Try.underlying24 Try.underlying2 (by kernel_rfl) hf with ⟨hcs, _⟩ | ⟨x, l, c, zs, hcs, _, hl, hm, hz, _, hcell, hwz⟩
    · simp [Value.cells] at hcs
      obtain ⟨rfl, rfl, rfl⟩ := hcs
      exact ⟨[], .inl ⟨rfl, rfl, rfl, rfl⟩⟩
    · simp [Value.cells] at hcs
      obtain ⟨rfl, rfl, rfl⟩ := hcs
      exact ⟨zs, .inr ⟨_, rfl, hl, hm, by simpa using hz, hcell, hwz⟩⟩
  obtain ⟨a2, len2, cap2, rfl⟩ := okWide_slice Try.underlying25 (hval 2 25 v2 rfl rfl)
  have k2 := h2
  have lt2 : ∀ x ∈ p2, x.block < W.heap.size := by obtain ⟨m, hm⟩ := k2; exact DataW.trod_lt m _ _ _ hm
  obtain ⟨s2, w2⟩ : ∃ ss, IsStrs W a2 len2 cap2 ss := by
    obtain ⟨fuel, hf⟩ := h2
    rcases open_strings Try.underlying25 Try.underlying9 (by kernel_rfl) hf with ⟨hcs, _⟩ | ⟨x, l, c, ss, hcs, _, hl, hm, hz, hx, hcell, _⟩
    · simp [Value.cells] at hcs
      obtain ⟨rfl, rfl, rfl⟩ := hcs
      exact ⟨[], .inl ⟨rfl, rfl, rfl, rfl⟩⟩
    · simp [Value.cells] at hcs
      obtain ⟨rfl, rfl, rfl⟩ := hcs
      have hd : d2 = .slice (strs (ss.take len2)) (strs (ss.drop len2)) := (Prod.mk.injEq _ _ _ _ ▸ hx).1
      subst hd
      have hre := sized_strs hsz (j := 2) (t := 25) (e := 9) rfl rfl Try.underlying25
      rw [List.take_append_drop] at hre
      exact ⟨ss, .inr ⟨_, rfl, hl, hm, by simpa using hz, hcell, hre⟩⟩
  clear hA0 hval0
  refine (walk a0 len0 cap0 z0 a1 len1 cap1 z1 a2 len2 cap2 s2 W w0 w1 w2).mono fun e W' ⟨he, bel⟩ => ?_
  subst he
  exact ⟨_, rfl, _, _, _, [], _, [], hW', trodAll_mk1 (shut_bool Try.underlying4 _), (trodAll_cons_mk (Below.trod laidOut (by kernel_rfl) (of_decide_eq_true (by kernel_rfl)) k0 bel lt0) (trodAll_cons_mk (Below.trod laidOut (by kernel_rfl) (of_decide_eq_true (by kernel_rfl)) k1 bel lt1) (trodAll_cons_mk (Below.trod laidOut (by kernel_rfl) (of_decide_eq_true (by kernel_rfl)) k2 bel lt2) trodAll_mk0))), rfl, bel.frame _, fun h => by cases h⟩

theorem over : Rows.quillBackRow.holds Try.pinned (OpenSpec.ofChange Rows.quillBackSpec) :=
  OpenClaim.holds_of_wide 5 Try.f5 rfl rfl rfl rfl rfl rfl rfl ⟨rfl, rfl, rfl, rfl, rfl⟩ rfl rfl rfl rfl rfl (by kernel_rfl) Try.func5 (by kernel_rfl)
    (of_decide_eq_true (by kernel_rfl)) (by unfold Func.isWrapper; first | (rw [if_pos (by decide +kernel)]; kernel_rfl) | (rw [if_neg (by decide +kernel)]; exact ⟨rfl, rfl⟩))
    (fun os started H enc _ => lifted os started H enc)
end Go.Proofs.Ytjieelpbifdfbaa.quillBack
namespace Go.Proofs.Ytjieelpbifdfbaa
/-- The statement. -/
theorem quillBack_holds : Rows.QuillBackSaid := quillBack.over
#print axioms quillBack_holds
end Go.Proofs.Ytjieelpbifdfbaa
