/-
  The document's row of words (package skerryref02): New, Has, Load, and put, which lays words by three appends.
-/
import Derived.Test.YtaginjpdpjehoaaArFacts
import Derived.Maps.AppendAt
import Derived.Laws.AppendOwnNone
import Derived.OwnWalk
namespace Go.Proofs.Ytaginjpdpjehoaa.Ar
open Go.RowKit

/-- The document's arena at block p, its words at the head of block g. -/
structure Ref (w : World) (p g cap : Nat) (ws : List Int) (n : Int) : Prop where
  head : Has w p 42 [.slice (some ⟨g, 0, none⟩) ws.length cap, .int .u64 n]
  row : Own w (.slice (some ⟨g, 0, none⟩) ws.length cap) ws
  lt : g < w.heap.size
  room : ws.length ≤ cap
  capl : cap ≤ maxLen
  some_ : 0 < ws.length
  short : ws.length ≤ 65536

namespace Ref
variable {w w' : World} {p g cap : Nat} {ws : List Int} {n : Int}
theorem seen (h : Ref w p g cap ws n) : Seen w (some ⟨g, 0, none⟩) ws := h.row.seen h.lt
theorem kept {S : List Nat} (h : Ref w p g cap ws n) (k : Kept S w w') (hp : p ∉ S) (hg : g ∉ S) : Ref w' p g cap ws n :=
  ⟨h.head.kept k hp, h.row.kept k fun i hi e => hg (by injection e with e; rw [show g = i from e]; exact hi), Nat.lt_of_lt_of_le h.lt k.more, h.room, h.capl, h.some_, h.short⟩
theorem keep0 (h : Ref w p g cap ws n) (k : Kept [] w w') : Ref w' p g cap ws n := h.kept k (by simp) (by simp)
theorem c0 (h : Ref w p g cap ws n) : w.cell? ⟨p, 0, none⟩ = some (.slice (some ⟨g, 0, none⟩) ws.length cap) := h.head.cell 0
theorem c1 (h : Ref w p g cap ws n) : w.cell? ⟨p, 1, none⟩ = some (.int .u64 n) := h.head.cell 1
theorem ne (h : Ref w p g cap ws n) : p ≠ g := by
  rintro rfl
  rcases h.row.2 with ⟨h1, _⟩ | ⟨g', cap', cur, h1, _, hg, _⟩
  · cases h1
  · injection h1 with h1
    injection h1 with h1
    injection h1 with h1
    subst h1
    have e := h.head.symm.trans hg
    injection e with e
    injection e with _ e
    exact absurd e (by decide)
end Ref

theorem refNew_any (c : Nat) (h0 : 0 < c) (hc : c ≤ 65536) (w : World) :
    Calls Try.prog 11 #[.int .i64 c] w fun e w' => ∃ p g, e = .returned (.pointer (some ⟨p, 0, none⟩)) ∧ w.heap.size ≤ p ∧ w.heap.size ≤ g ∧ Ref w' p g c (List.replicate c 0) 0 ∧ Kept [] w w' := by
  have hmk := run_make_words c (by omega)
  have hfin : ∀ x, x = (w.alloc (.cells (ints (List.replicate c 0)).toArray 32)).alloc (.cells #[.slice (some ⟨w.heap.size, 0, none⟩) c c, .int .u64 0] 42) →
      ∃ p g, (Ending.returned (.pointer (some ⟨w.heap.size + 1, 0, none⟩))) = .returned (.pointer (some ⟨p, 0, none⟩)) ∧ w.heap.size ≤ p ∧ w.heap.size ≤ g ∧ Ref x p g c (List.replicate c 0) 0 ∧ Kept [] w x := by
    rintro _ rfl
    have ha := (Has.new w 32 (ints (List.replicate c 0))).alloc (.cells #[.slice (some ⟨w.heap.size, 0, none⟩) c c, .int .u64 0] 42)
    have hb := Has.new (w.alloc (.cells (ints (List.replicate c 0)).toArray 32)) 42 [.slice (some ⟨w.heap.size, 0, none⟩) c c, .int .u64 0]
    rw [World.size_alloc] at hb
    refine ⟨_, w.heap.size, rfl, by omega, by omega, ⟨?_, ?_, ha.lt, by simp, by unfold maxLen; omega, by simp; omega, by simp; omega⟩, ((Kept.refl [] w).alloc _).alloc _⟩
    · rw [List.length_replicate]
      exact hb
    · refine ⟨by rw [ints_length, Nat.mul_one], .inr ⟨w.heap.size, c, _, by rw [List.length_replicate], Nat.zero_le _, ha, by simp, by unfold maxLen; omega, by simp [ints_length], ?_⟩⟩
      exact List.take_of_length_le (by simp [ints_length])
  have Hfin := Lib.hid hfin
  clear hfin
  generalize ints (List.replicate c 0) = M at *
  go_enter Try.func11, Try.ntmps11
  go_wp2
  go_ret
  exact Hfin.out _ rfl

section
variable {p g cap : Nat} {ws : List Int} {n : Int} {w : World}
set_option maxHeartbeats 400000 in
theorem has_any (h : Ref w p g cap ws n) (i k : Int) (h1 : -9223372036854775808 ≤ i) (h2 : i ≤ 9223372036854775807) (h3 : -9223372036854775808 ≤ k) (h4 : k ≤ 9223372036854775807) :
    Calls Try.prog 30 #[.pointer (some ⟨p, 0, none⟩), .int .i64 i, .int .i64 k] w fun e w' => e = .returned (.bool (within ws.length i k)) ∧ w = w' := by
  have cc := h.c0
  have hs := h.short
  have hp : ∀ b : Bool, (b = true ↔ 0 ≤ i ∧ 0 ≤ k ∧ i + k ≤ (ws.length : Int)) → b = within ws.length i k := fun b hb => by
    rw [Bool.eq_iff_iff, within_iff]
    exact hb
  have HP := Lib.hid hp
  clear hp h
  generalize ws.length = L at *
  go_enter Try.func30, Try.ntmps30
  go_wp2
  all_goals
    go_ret
    refine ⟨ret_bool (HP.out _ ?_), rfl⟩
    simp
    omega
end
end Go.Proofs.Ytaginjpdpjehoaa.Ar
