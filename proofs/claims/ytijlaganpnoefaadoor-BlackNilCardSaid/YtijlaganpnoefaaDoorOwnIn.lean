/-
  In a round: append of a number to a row of numbers ([]int), of a word to a row of words ([]uint64); what the loop's book-keeping leaves of such a row.
-/
import Derived.Test.YtijlaganpnoefaaDoorRoundAny
import Derived.Test.YtijlaganpnoefaaDoorIntRow
import Derived.Test.YtijlaganpnoefaaDoorWordRow
import Derived.Test.YtijlaganpnoefaaDoorLoopKit
import Derived.Maps.OwnIn
namespace Go.Proofs.YtijlaganpnoefaaDoor.Ir
open Go.RowKit Go.Proofs.YtijlaganpnoefaaDoor.Ar
theorem append_one_in {F : Fence} {n : Nat} {w : World} {ops : Array Oper} {rest : List Oper} {o : Oper} {a : Act} {Q : Exit → Act → World → Prop} (hgd : o.guard = none) (s x : Operand)
    (ho : o.op = .call { callee := .builtin .append, args := #[s, x], argTypes := #[32, 32] })
    (v : Value) (l : List Int) (hs : a.eval s = v) (hown : Ir.Own w v l) (g c : Nat) (z : Int) (hx : a.eval x = .slice (some ⟨g, 0, none⟩) 1 c)
    (h0 : w.cell? ⟨g, 0, none⟩ = some (.int .i64 z)) (hb : l.length ≤ 1073741824)
    (h : ∀ v' w', Ir.Own w' v' (l ++ [z]) → w.grownBy w' v.ownBlock → (v'.ownBlock = v.ownBlock ∨ v'.ownBlock = some w.heap.size) → wpListIn F n Tryd.prog ops Q rest (a.put o.dst v') w') : wpListIn F n Tryd.prog ops Q (o :: rest) a w := by
  obtain ⟨i0, hi, hz0, hz1, hz2⟩ := info_parts info_i64
  refine wpListIn_append_own_at w hgd s x 32 ho 0 3 i0 _ 1 8 Tryd.underlying32 hi hz0 hz1 hz2 rfl (by decide) v l.length (Ir.ints l) hs hown ⟨g, 0, none⟩ 1 c (Ir.ints [z]) hx rfl ?_ (Ir.ints_one _) (by unfold maxLen; omega) (by omega) (Nat.zero_le _) ?_
  · intro j u hu
    rw [add_at, Nat.zero_add]
    match j, hu with
    | 0, hu => rw [← Option.some.inj (show some (Value.int .i64 z) = some u from hu)]; exact h0
  · intro v' w' h1 h2 _ h4
    refine h v' w' ?_ h2 h4
    unfold Ir.Own Ir.ints at *
    rw [List.length_append, List.map_append]
    exact h1
theorem own_from {B : Nat} {v : Value} {rs : List Int} : OwnFrom B (fun (_ : Unit) W => Ir.Own W v rs) :=
  fun s X Y row hs hg hr => Ir.Own.keep hs hg (by
    rcases hs.2 with ⟨rfl, _⟩ | ⟨g, cap, cur, rfl, _, hb, _⟩
    · exact .inl rfl
    · refine .inr fun e => ?_
      obtain ⟨_, o, ho, hc⟩ := hr g e.symm
      rw [ho] at hb
      injection hb with hb
      subst hb
      cases hc)
theorem own_cells {w : World} {v : Value} {rs : List Int} (h : Ir.Own w v rs) : ∀ b ∈ v.ownBlock.toList, ∃ cs, Has w b 3 cs := by
  intro b hb
  rcases h.2 with ⟨rfl, _⟩ | ⟨g, cap, cur, rfl, _, hg, _⟩
  · cases hb
  · obtain rfl : b = g := by simpa [Value.ownBlock] using hb
    exact ⟨cur.toList, hg⟩
theorem own_put {w : World} {v : Value} {rs : List Int} (h : Ir.Own w v rs) (D : Nat) (o o' : Obj) (hD : w.heap[D]? = some o) (hc : o.isCells = false) : Ir.Own (w.putObj D o') v rs :=
  own_from (B := 0) () w _ (some D) h (grownBy_putObj' w D o') fun r e => by injection e with e; subst e; exact ⟨Nat.zero_le _, o, hD, hc⟩
end Go.Proofs.YtijlaganpnoefaaDoor.Ir
namespace Go.Proofs.YtijlaganpnoefaaDoor.Ar
open Go.RowKit
theorem append_one_in {F : Fence} {n : Nat} {w : World} {ops : Array Oper} {rest : List Oper} {o : Oper} {a : Act} {Q : Exit → Act → World → Prop} (hgd : o.guard = none) (s x : Operand)
    (ho : o.op = .call { callee := .builtin .append, args := #[s, x], argTypes := #[66, 66] })
    (v : Value) (l : List Int) (hs : a.eval s = v) (hown : Own w v l) (g c : Nat) (z : Int) (hx : a.eval x = .slice (some ⟨g, 0, none⟩) 1 c)
    (h0 : w.cell? ⟨g, 0, none⟩ = some (.int .u64 z)) (hb : l.length ≤ 1073741824)
    (h : ∀ v' w', Own w' v' (l ++ [z]) → w.grownBy w' v.ownBlock → (v'.ownBlock = v.ownBlock ∨ v'.ownBlock = some w.heap.size) → wpListIn F n Tryd.prog ops Q rest (a.put o.dst v') w') : wpListIn F n Tryd.prog ops Q (o :: rest) a w := by
  obtain ⟨i0, hi, hz0, hz1, hz2⟩ := info_parts info_u64
  refine wpListIn_append_own_at w hgd s x 66 ho 0 78 i0 _ 1 8 Tryd.underlying66 hi hz0 hz1 hz2 rfl (by decide) v l.length (ints l) hs hown ⟨g, 0, none⟩ 1 c (ints [z]) hx rfl ?_ (ints_one _) (by unfold maxLen; omega) (by omega) (Nat.zero_le _) ?_
  · intro j u hu
    rw [add_at, Nat.zero_add]
    match j, hu with
    | 0, hu => rw [← Option.some.inj (show some (Value.int .u64 z) = some u from hu)]; exact h0
  · intro v' w' h1 h2 _ h4
    refine h v' w' ?_ h2 h4
    unfold Own ints at *
    rw [List.length_append, List.map_append]
    exact h1
theorem own_from {B : Nat} {v : Value} {rs : List Int} : OwnFrom B (fun (_ : Unit) W => Own W v rs) :=
  fun s X Y row hs hg hr => Own.keep hs hg (by
    rcases hs.2 with ⟨rfl, _⟩ | ⟨g, cap, cur, rfl, _, hb, _⟩
    · exact .inl rfl
    · refine .inr fun e => ?_
      obtain ⟨_, o, ho, hc⟩ := hr g e.symm
      rw [ho] at hb
      injection hb with hb
      subst hb
      cases hc)
theorem own_cells {w : World} {v : Value} {rs : List Int} (h : Own w v rs) : ∀ b ∈ v.ownBlock.toList, ∃ cs, Has w b 78 cs := by
  intro b hb
  rcases h.2 with ⟨rfl, _⟩ | ⟨g, cap, cur, rfl, _, hg, _⟩
  · cases hb
  · obtain rfl : b = g := by simpa [Value.ownBlock] using hb
    exact ⟨cur.toList, hg⟩
theorem own_put {w : World} {v : Value} {rs : List Int} (h : Own w v rs) (D : Nat) (o o' : Obj) (hD : w.heap[D]? = some o) (hc : o.isCells = false) : Own (w.putObj D o') v rs :=
  own_from (B := 0) () w _ (some D) h (grownBy_putObj' w D o') fun r e => by injection e with e; subst e; exact ⟨Nat.zero_le _, o, hD, hc⟩
theorem kept_grown {w w' : World} {v : Value} (hg : w.grownBy w' v.ownBlock) : Kept v.ownBlock.toList w w' :=
  (Kept.refl _ w).grown hg fun g e => .inl (by rw [e]; simp)
end Go.Proofs.YtijlaganpnoefaaDoor.Ar
