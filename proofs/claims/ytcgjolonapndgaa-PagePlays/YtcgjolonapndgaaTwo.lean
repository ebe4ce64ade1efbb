/- The disk and the document's answer, side by side. -/
import Derived.Test.YtcgjolonapndgaaRefC
import Derived.Test.YtcgjolonapndgaaSafeM
namespace Go.Proofs.Ytcgjolonapndgaa
open Go.RowKit Go.Maps Go.ChangeMaps Go.MapKept

theorem Torns.grow {w w' : World} {v : Value} {ts : List (Int × Int)} (h : Torns w v ts) (hb : Below w.heap.size w w') : Torns w' v ts := by
  obtain ⟨a, c, rfl, h⟩ := h
  refine ⟨a, c, rfl, ?_⟩
  rcases h with h | ⟨b, o, rfl, h⟩
  · exact .inl h
  · refine .inr ⟨b, o, rfl, fun t ht => ?_⟩
    obtain ⟨h1, h2⟩ := h t ht
    exact ⟨(hb.cell (p := ⟨b, o + t * 2, none⟩) (World.block_lt_of_cell? w _ h1)).trans h1, (hb.cell (p := ⟨b, o + t * 2 + 1, none⟩) (World.block_lt_of_cell? w _ h2)).trans h2⟩
/-- Since w a disk p that holds s and an answer r that mirrors t were made. -/
structure Two (w wr : World) (p r : Nat) (F G : Nat → Prop) (s t : St) : Prop where
  held : Held w wr p F s
  ref : IsR wr r G t
  gb : ∀ k, G k → w.heap.size ≤ k ∧ k < wr.heap.size
  apart : ∀ k, F k → ¬ G k

section
variable {w wr W : World} {p r : Nat} {F G : Nat → Prop} {s t : St}
theorem Two.grow (h : Two w wr p r F G s t) (hW : Below wr.heap.size wr W) : Two w W p r F G s t :=
  ⟨h.held.grow hW, h.ref.grow hW, fun k hk => ⟨(h.gb k hk).1, Nat.lt_of_lt_of_le (h.gb k hk).2 hW.size⟩, h.apart⟩
/-- What else the call has made may turn. -/
theorem Two.frm {B : Nat → Prop} (h : Two w wr p r F G s t) (hf : Frm B wr W) (hB : ∀ k, B k → w.heap.size ≤ k ∧ ¬ F k ∧ ¬ G k) : Two w W p r F G s t :=
  ⟨⟨h.held.disk.keep (fun k hk hl => hf.block k hl (fun hb => (hB k hb).2.1 hk)), fun k hk => ⟨(h.held.blocks k hk).1, Nat.lt_of_lt_of_le (h.held.blocks k hk).2 hf.size⟩, h.held.below.trans (hf.below h.held.le (fun k hk => (hB k hk).1))⟩,
    h.ref.frm hf (fun k hk hb => (hB k hb).2.2 hk), fun k hk => ⟨(h.gb k hk).1, Nat.lt_of_lt_of_le (h.gb k hk).2 hf.size⟩, h.apart⟩
theorem Two.gone {s' : St} {w1 : World} (h : Two w wr p r F G s t) (hg : Gone w wr p F s' w1) : ∃ F', Two w w1 p r F' G s' t ∧ (∀ k, F' k → F k ∨ wr.heap.size ≤ k) ∧ Frm F wr w1 := by
  obtain ⟨F', hh, hf, hF⟩ := hg
  refine ⟨F', ⟨hh, h.ref.frm hf (fun k hk hF => h.apart k hF hk), fun k hk => ⟨(h.gb k hk).1, Nat.lt_of_lt_of_le (h.gb k hk).2 hf.size⟩, fun k hk hG => ?_⟩, hF, hf⟩
  rcases hF k hk with h1 | h1
  · exact h.apart k h1 hG
  · have := (h.gb k hG).2; omega
theorem Two.turned {t' : St} {w1 : World} (h : Two w wr p r F G s t) (hg : TurnedR wr r G t' w1) : ∃ G', Two w w1 p r F G' s t' ∧ (∀ k, G' k → G k ∨ wr.heap.size ≤ k) ∧ Frm G wr w1 := by
  obtain ⟨G', hr, hf, hG⟩ := hg
  have hle := h.held.le
  refine ⟨G', ⟨⟨h.held.disk.keep (fun k hk hl => hf.block k hl (h.apart k hk)), fun k hk => ⟨(h.held.blocks k hk).1, Nat.lt_of_lt_of_le (h.held.blocks k hk).2 hf.size⟩, h.held.below.trans (hf.below hle (fun k hk => (h.gb k hk).1))⟩, hr, fun k hk => ?_, fun k hk hk2 => ?_⟩, fun k hk => (hG k hk).1, hf⟩
  · obtain ⟨h1, h2⟩ := hG k hk
    refine ⟨?_, h2⟩
    rcases h1 with h1 | h1
    · exact (h.gb k h1).1
    · omega
  · rcases (hG k hk2).1 with h1 | h1
    · exact h.apart k hk h1
    · have := (h.held.blocks k hk).2; omega
/-- Sync, both. -/
theorem two_sync (h : Two w wr p r F G s t) (hops : s.ops < 17592186044416) : Calls Try.prog 27 #[.pointer (some ⟨p, 0, none⟩)] wr fun e w' => e = .returned (.int .i64 s.errOp) ∧ ∃ F', Two w w' p r F' G s.sync t := by
  refine (held_sync h.held hops).mono ?_
  rintro e w' ⟨rfl, hg⟩
  obtain ⟨F', h1, _⟩ := h.gone hg
  exact ⟨rfl, F', h1⟩
theorem two_refSync (h : Two w wr p r F G s t) (hops : t.ops < 17592186044416) : Calls Try.prog 28 #[.pointer (some ⟨r, 0, none⟩)] wr fun e w' => e = .returned (.int .i64 t.errOp) ∧ ∃ G', Two w w' p r F G' s t.sync := by
  refine (refSync_any h.ref hops).mono ?_
  rintro e w' ⟨rfl, hg⟩
  obtain ⟨F', h1, _⟩ := h.turned hg
  exact ⟨rfl, F', h1⟩
theorem two_arm (h : Two w wr p r F G s t) (after : Int) (ha : In64 after) : Calls Try.prog 29 #[.pointer (some ⟨p, 0, none⟩), .int .i64 after] wr fun e w' => e = .returned (.tuple #[]) ∧ Two w w' p r F G (s.arm after) t ∧ Frm F wr w' := by
  refine (held_arm h.held after ha.1 ha.2).mono ?_
  rintro e w' ⟨rfl, hh, hf⟩
  exact ⟨rfl, ⟨hh, h.ref.frm hf (fun k hk hF => h.apart k hF hk), fun k hk => ⟨(h.gb k hk).1, Nat.lt_of_lt_of_le (h.gb k hk).2 hf.size⟩, h.apart⟩, hf⟩
theorem two_refArm (h : Two w wr p r F G s t) (after : Int) (ha : In64 after) : Calls Try.prog 30 #[.pointer (some ⟨r, 0, none⟩), .int .i64 after] wr fun e w' => e = .returned (.tuple #[]) ∧ Two w w' p r F G s (t.arm after) := by
  refine (refArm_any h.ref after ha.1 ha.2).mono ?_
  rintro e w' ⟨rfl, hr, hf, hs⟩
  refine ⟨rfl, ⟨h.held.disk.keep (fun k hk hl => hf.block k hl (h.apart k hk)), fun k hk => ⟨(h.held.blocks k hk).1, Nat.lt_of_lt_of_le (h.held.blocks k hk).2 hf.size⟩, h.held.below.trans (hf.below h.held.le (fun k hk => (h.gb k hk).1))⟩, hr, fun k hk => ⟨(h.gb k hk).1, by rw [hs]; exact (h.gb k hk).2⟩, h.apart⟩
theorem two_crash (h : Two w wr p r F G s t) (hops : s.ops < 17592186044416) (keep : List Int) (ts : List (Int × Int)) (vk vt : Value) (hk : Ints wr vk keep) (ht : Torns wr vt ts) (hkl : keep.length ≤ 140737488355328) (htl : ts.length ≤ 140737488355328)
    (hki : ∀ x ∈ keep, In64 x) (hti : ∀ t ∈ ts, In64 t.1 ∧ In64 t.2) :
    Calls Try.prog 31 #[.pointer (some ⟨p, 0, none⟩), vk, vt] wr fun e w' => e = .returned (.tuple #[]) ∧ ∃ F', Two w w' p r F' G (s.crash keep ts) t ∧ Frm F wr w' := by
  refine (held_crash h.held hops keep ts vk vt hk ht hkl htl hki hti).mono ?_
  rintro e w' ⟨rfl, hg⟩
  obtain ⟨F', h1, _, h3⟩ := h.gone hg
  exact ⟨rfl, F', h1, h3⟩
/-- .. with an argument that was there ahead of the call. -/
theorem two_refCrash (h : Two w wr p r F G s t) (keep : List Int) (ts : List (Int × Int)) (vk vt : Value) (hk : Ints w vk keep) (ht : Torns w vt ts) (hkl : keep.length ≤ 140737488355328) (htl : ts.length ≤ 140737488355328) :
    Calls Try.prog 32 #[.pointer (some ⟨r, 0, none⟩), vk, vt] wr fun e w' => e = .returned (.tuple #[]) ∧ ∃ G', Two w w' p r F G' s (t.crash keep ts) := by
  have hb : ∀ W, Frm G wr W → Below w.heap.size w W := fun W hf => h.held.below.trans (hf.below h.held.le (fun k hk => (h.gb k hk).1))
  refine (refCrash_any h.ref keep ts vk vt (fun W hf => hk.grow (hb W hf)) (fun W hf => ht.grow (hb W hf)) hkl htl).mono ?_
  rintro e w' ⟨rfl, hg⟩
  obtain ⟨F', h1, _⟩ := h.turned hg
  exact ⟨rfl, F', h1⟩
end
end Go.Proofs.Ytcgjolonapndgaa
