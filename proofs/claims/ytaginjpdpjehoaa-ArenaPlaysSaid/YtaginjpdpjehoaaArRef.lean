/-
  The document's row of words (package skerryref02): New, Has, Load, and put, which lays words by three appends.
-/
import Derived.Test.YtaginjpdpjehoaaArFacts
import Derived.Maps.AppendAt
import Derived.Laws.AppendOwnNone
import Derived.OwnWalk
namespace Go.Proofs.Ytaginjpdpjehoaa.Ar
open Go.RowKit

/-- A slice value that was made by appends alone, with these words. -/
def Own (w : World) (v : Value) (l : List Int) : Prop := w.ownsRow 0 32 1 v l.length (ints l)
theorem Own.nil (w : World) : Own w (.slice none 0 0) [] := World.ownsRow_nil w 0 _ 1
/-- It is nil and empty, or lies at the head of a block. -/
theorem Own.form {w : World} {v : Value} {l : List Int} (h : Own w v l) : (v = .slice none 0 0 ∧ l = []) ∨ ∃ g cap, v = .slice (some ⟨g, 0, none⟩) l.length cap ∧ g < w.heap.size ∧ l.length ≤ cap ∧ cap ≤ maxLen := by
  rcases h.2 with ⟨rfl, h0⟩ | ⟨g, cap, cur, rfl, _, hg, hc, hm, _⟩
  · exact .inl ⟨rfl, List.eq_nil_of_length_eq_zero h0⟩
  · exact .inr ⟨g, cap, rfl, (Array.getElem?_eq_some_iff.1 hg).1, hc, hm⟩
theorem Own.cell {w : World} {g n cap : Nat} {l : List Int} (h : Own w (.slice (some ⟨g, 0, none⟩) n cap) l) : ∀ j v, (ints l)[j]? = some v → w.cell? ⟨g, j, none⟩ = some v := by
  intro j v hv
  rcases h.2 with ⟨h1, _⟩ | ⟨g', cap', cur, h1, _, hg, _, _, _, ht⟩
  · cases h1
  · injection h1 with h1 h2 h3
    injection h1 with h1
    injection h1 with h1
    subst h1
    rw [cell_of_row w g j cur _ (0, 0) hg, ← Array.getElem?_toList]
    rw [← ht, List.getElem?_take] at hv
    split at hv
    · exact hv
    · cases hv
theorem Own.seen {w : World} {g n cap : Nat} {l : List Int} (h : Own w (.slice (some ⟨g, 0, none⟩) n cap) l) (hg : g < w.heap.size) : Seen w (some ⟨g, 0, none⟩) l :=
  fun _ => ⟨g, 0, rfl, hg, fun j v hv => by rw [Nat.zero_add]; exact h.cell j v hv⟩
theorem Own.keep {w w' : World} {v : Value} {l : List Int} {row : Option Nat} (h : Own w v l) (hg : w.grownBy w' row) (hne : v.ownBlock = none ∨ v.ownBlock ≠ row) : Own w' v l := World.ownsRow.kept h hg hne
theorem Own.kept {w w' : World} {v : Value} {l : List Int} {S : List Nat} (h : Own w v l) (k : Kept S w w') (hS : ∀ g ∈ S, v.ownBlock ≠ some g) : Own w' v l := by
  refine ⟨h.1, ?_⟩
  rcases h.2 with hn | ⟨g, cap, cur, rfl, hb, hg, rest⟩
  · exact .inl hn
  · refine .inr ⟨g, cap, cur, rfl, hb, ?_, rest⟩
    rw [k.old g (Array.getElem?_eq_some_iff.1 hg).1 fun hs => hS g hs rfl]
    exact hg
theorem Own.keep0 {w w' : World} {v : Value} {l : List Int} (h : Own w v l) (k : Kept [] w w') : Own w' v l := h.kept k fun _ hi => by cases hi

/-- append, where what is appended is a row of words that is seen (nil, empty or not). -/
theorem append_words {w : World} {ops : Array Oper} {rest : List Oper} {o : Oper} {a : Act} {Q : Exit → Act → World → Prop} (hgd : o.guard = none) (s x : Operand)
    (ho : o.op = .call { callee := .builtin .append, args := #[s, x], argTypes := #[40, 40] })
    (v : Value) (l : List Int) (hs : a.eval s = v) (hown : Own w v l) (A : Option Addr) (m c : Nat) (news : List Int) (hx : a.eval x = .slice A m c) (hm : news.length = m) (hnil : A = none → c = 0) (hseen : Seen w A news)
    (hb : l.length + m ≤ 1073741824)
    (h : ∀ v' w', Own w' v' (l ++ news) → w.grownBy w' v.ownBlock → (v'.ownBlock = v.ownBlock ∨ v'.ownBlock = some w.heap.size) → wpList Try.prog ops Q rest (a.put o.dst v') w') : wpList Try.prog ops Q (o :: rest) a w := by
  obtain ⟨i0, hi, hz0, hz1, hz2⟩ := info_parts info_u64
  subst hm
  cases A with
  | none =>
    have hn : news = [] := by
      cases news with
      | nil => rfl
      | cons y ys =>
        obtain ⟨g, f, e, _⟩ := hseen (by simp)
        cases e
    subst hn
    obtain rfl := hnil rfl
    refine wpList_append_own_none hgd s x 40 ho 0 32 i0 1 Try.underlying40 hi v l.length (ints l) hs hown hx ?_
    exact h v w (by rw [List.append_nil]; exact hown) (World.grownBy.refl w _) (.inl rfl)
  | some ad =>
    refine wpList_append_own_at w hgd s x 40 ho 0 32 i0 (.int .u64 0) 1 8 Try.underlying40 hi hz0 hz1 hz2 rfl (by decide) v l.length (ints l) hs hown ad news.length c (ints news) hx (by rw [ints_length, Nat.mul_one]) ?_ (ints_one news) (by unfold maxLen; omega) (by omega) (Nat.zero_le _) ?_
    · intro j u hu
      by_cases hne : news = []
      · subst hne; cases hu
      · obtain ⟨g, f, e, _, hc⟩ := hseen hne
        injection e with e
        subst e
        rw [add_at]
        exact hc j u hu
    · intro v' w' h1 h2 _ h4
      refine h v' w' ?_ h2 h4
      unfold Own ints at *
      rw [List.length_append, List.map_append]
      exact h1

/-- The document's arena at block p, its words at the head of block g. -/
structure Ref (w : World) (p g cap : Nat) (ws : List Int) (n : Int) : Prop where
  head : Has w p 42 [.slice (some ⟨g, 0, none⟩) ws.length cap, .int .u64 n]
  row : Own w (.slice (some ⟨g, 0, none⟩) ws.length cap) ws
  lt : g < w.heap.size
  room : ws.length ≤ cap
  capl : cap ≤ maxLen
  some_ : 0 < ws.length
  short : ws.length ≤ 65536

namespace Ref
variable {w w' : World} {p g cap : Nat} {ws : List Int} {n : Int}
theorem seen (h : Ref w p g cap ws n) : Seen w (some ⟨g, 0, none⟩) ws := h.row.seen h.lt
theorem kept {S : List Nat} (h : Ref w p g cap ws n) (k : Kept S w w') (hp : p ∉ S) (hg : g ∉ S) : Ref w' p g cap ws n :=
  ⟨h.head.kept k hp, h.row.kept k fun i hi e => hg (by injection e with e; rw [show g = i from e]; exact hi), Nat.lt_of_lt_of_le h.lt k.more, h.room, h.capl, h.some_, h.short⟩
theorem keep0 (h : Ref w p g cap ws n) (k : Kept [] w w') : Ref w' p g cap ws n := h.kept k (by simp) (by simp)
theorem c0 (h : Ref w p g cap ws n) : w.cell? ⟨p, 0, none⟩ = some (.slice (some ⟨g, 0, none⟩) ws.length cap) := h.head.cell 0
theorem c1 (h : Ref w p g cap ws n) : w.cell? ⟨p, 1, none⟩ = some (.int .u64 n) := h.head.cell 1
theorem ne (h : Ref w p g cap ws n) : p ≠ g := by
  rintro rfl
  rcases h.row.2 with ⟨h1, _⟩ | ⟨g', cap', cur, h1, _, hg, _⟩
  · cases h1
  · injection h1 with h1
    injection h1 with h1
    injection h1 with h1
    subst h1
    have e := h.head.symm.trans hg
    injection e with e
    injection e with _ e
    exact absurd e (by decide)
end Ref

theorem refNew_any (c : Nat) (h0 : 0 < c) (hc : c ≤ 65536) (w : World) :
    Calls Try.prog 11 #[.int .i64 c] w fun e w' => ∃ p g, e = .returned (.pointer (some ⟨p, 0, none⟩)) ∧ w.heap.size ≤ p ∧ w.heap.size ≤ g ∧ Ref w' p g c (List.replicate c 0) 0 ∧ Kept [] w w' := by
  have hmk := run_make_words c (by omega)
  have hfin : ∀ x, x = (w.alloc (.cells (ints (List.replicate c 0)).toArray 32)).alloc (.cells #[.slice (some ⟨w.heap.size, 0, none⟩) c c, .int .u64 0] 42) →
      ∃ p g, (Ending.returned (.pointer (some ⟨w.heap.size + 1, 0, none⟩))) = .returned (.pointer (some ⟨p, 0, none⟩)) ∧ w.heap.size ≤ p ∧ w.heap.size ≤ g ∧ Ref x p g c (List.replicate c 0) 0 ∧ Kept [] w x := by
    rintro _ rfl
    have ha := (Has.new w 32 (ints (List.replicate c 0))).alloc (.cells #[.slice (some ⟨w.heap.size, 0, none⟩) c c, .int .u64 0] 42)
    have hb := Has.new (w.alloc (.cells (ints (List.replicate c 0)).toArray 32)) 42 [.slice (some ⟨w.heap.size, 0, none⟩) c c, .int .u64 0]
    rw [World.size_alloc] at hb
    refine ⟨_, w.heap.size, rfl, by omega, by omega, ⟨?_, ?_, ha.lt, by simp, by unfold maxLen; omega, by simp; omega, by simp; omega⟩, ((Kept.refl [] w).alloc _).alloc _⟩
    · rw [List.length_replicate]
      exact hb
    · refine ⟨by rw [ints_length, Nat.mul_one], .inr ⟨w.heap.size, c, _, by rw [List.length_replicate], Nat.zero_le _, ha, by simp, by unfold maxLen; omega, by simp [ints_length], ?_⟩⟩
      exact List.take_of_length_le (by simp [ints_length])
  have Hfin := Lib.hid hfin
  clear hfin
  generalize ints (List.replicate c 0) = M at *
  go_enter Try.func11, Try.ntmps11
  go_wp2
  go_ret
  exact Hfin.out _ rfl

section
variable {p g cap : Nat} {ws : List Int} {n : Int} {w : World}
set_option maxHeartbeats 400000 in
theorem has_any (h : Ref w p g cap ws n) (i k : Int) (h1 : -9223372036854775808 ≤ i) (h2 : i ≤ 9223372036854775807) (h3 : -9223372036854775808 ≤ k) (h4 : k ≤ 9223372036854775807) :
    Calls Try.prog 30 #[.pointer (some ⟨p, 0, none⟩), .int .i64 i, .int .i64 k] w fun e w' => e = .returned (.bool (within ws.length i k)) ∧ w = w' := by
  have cc := h.c0
  have hs := h.short
  have hp : ∀ b : Bool, (b = true ↔ 0 ≤ i ∧ 0 ≤ k ∧ i + k ≤ (ws.length : Int)) → b = within ws.length i k := fun b hb => by
    rw [Bool.eq_iff_iff, within_iff]
    exact hb
  have HP := Lib.hid hp
  clear hp h
  generalize ws.length = L at *
  go_enter Try.func30, Try.ntmps30
  go_wp2
  all_goals
    go_ret
    refine ⟨ret_bool (HP.out _ ?_), rfl⟩
    simp
    omega
end
end Go.Proofs.Ytaginjpdpjehoaa.Ar
