/-
  In a round: what is left of a region that draws its order, once its first operations are over and the rest come one behind the other; append of a run to a row of runs.
-/
import Derived.Test.YtbgonppichdhiaaRoundKit
import Derived.Test.YtbgonppichdhiaaRunRow
import Derived.Test.YtbgonppichdhiaaLoopKit
import Derived.Maps.OwnIn
namespace Go.Proofs.Ytbgonppichdhiaa.Rk
theorem any_tail {P : Program} {md : Region.Mode} {r : Option Nat} {m : Nat} {l : List Oper} {Q : Exit → Act → World → Prop} {listed : Array Bool} {a : Act} {w : World} {fuel : Nat} (j : Nat) (hf : l.length - j ≤ fuel)
    (hB : Region.seqB md l.toArray (l.drop j).length j listed = true) (h : wpListIn (fence r) m P l.toArray Q (l.drop j) a w) : wpAnyIn (fence r) m P md l.toArray Q fuel listed a w :=
  run_rest (l.drop j) j listed a w fuel (fun t => by rw [List.getElem?_drop, List.getElem?_toArray]) (by rw [List.length_drop]; exact hf) hB h
end Go.Proofs.Ytbgonppichdhiaa.Rk
namespace Go.Proofs.Ytbgonppichdhiaa.Bt
open Go.RowKit Go.Proofs.Ytbgonppichdhiaa.Ar
theorem append_run_in {F : Fence} {n : Nat} {w : World} {ops : Array Oper} {rest : List Oper} {o : Oper} {a : Act} {Q : Exit → Act → World → Prop} (hgd : o.guard = none) (s x : Operand)
    (ho : o.op = .call { callee := .builtin .append, args := #[s, x], argTypes := #[39, 39] })
    (v : Value) (rs : List (Nat × Nat)) (hs : a.eval s = v) (hown : OwnR w v rs) (g c : Nat) (r : Nat × Nat) (hx : a.eval x = .slice (some ⟨g, 0, none⟩) 1 c)
    (h0 : w.cell? ⟨g, 0, none⟩ = some (.int .i64 (r.1 : Int))) (h1 : w.cell? ⟨g, 1, none⟩ = some (.int .i64 (r.2 : Int))) (hb : rs.length ≤ 1073741824)
    (h : ∀ v' w', OwnR w' v' (rs ++ [r]) → w.grownBy w' v.ownBlock → (v'.ownBlock = v.ownBlock ∨ v'.ownBlock = some w.heap.size) → wpListIn F n Try.prog ops Q rest (a.put o.dst v') w') : wpListIn F n Try.prog ops Q (o :: rest) a w := by
  obtain ⟨i0, hi, hz0, hz1, hz2⟩ := info_parts info_run
  refine wpListIn_append_own_at w hgd s x 39 ho 0 29 i0 _ 2 16 Try.underlying39 hi hz0 hz1 hz2 rfl (by decide) v rs.length (runCells rs) hs hown ⟨g, 0, none⟩ 1 c (runCells [r]) hx rfl ?_ (runCells_one _) (by unfold maxLen; omega) (by omega) (Nat.zero_le _) ?_
  · intro j u hu
    rw [add_at, Nat.zero_add]
    match j, hu with
    | 0, hu => injection hu with hu; rw [← hu]; exact h0
    | 1, hu => injection hu with hu; rw [← hu]; exact h1
  · intro v' w' h1 h2 _ h4
    refine h v' w' ?_ h2 h4
    unfold OwnR
    rw [List.length_append, runCells_append]
    exact h1
theorem ownR_from {B : Nat} {v : Value} {rs : List (Nat × Nat)} : OwnFrom B (fun (_ : Unit) W => OwnR W v rs) :=
  fun s X Y row hs hg hr => OwnR.keep hs hg (by
    rcases hs.2 with ⟨rfl, _⟩ | ⟨g, cap, cur, rfl, _, hb, _⟩
    · exact .inl rfl
    · refine .inr fun e => ?_
      obtain ⟨_, o, ho, hc⟩ := hr g e.symm
      rw [ho] at hb
      injection hb with hb
      subst hb
      cases hc)
theorem ownR_cells {w : World} {v : Value} {rs : List (Nat × Nat)} (h : OwnR w v rs) : ∀ b ∈ v.ownBlock.toList, ∃ cs, Has w b 29 cs := by
  intro b hb
  rcases h.2 with ⟨rfl, _⟩ | ⟨g, cap, cur, rfl, _, hg, _⟩
  · cases hb
  · obtain rfl : b = g := by simpa [Value.ownBlock] using hb
    exact ⟨cur.toList, hg⟩
theorem kept_grown {w w' : World} {v : Value} (hg : w.grownBy w' v.ownBlock) : Kept v.ownBlock.toList w w' :=
  (Kept.refl _ w).grown hg fun g e => .inl (by rw [e]; simp)
theorem ownR_put {w : World} {v : Value} {rs : List (Nat × Nat)} (h : OwnR w v rs) (D : Nat) (o o' : Obj) (hD : w.heap[D]? = some o) (hc : o.isCells = false) : OwnR (w.putObj D o') v rs :=
  ownR_from (B := 0) () w _ (some D) h (grownBy_putObj' w D o') fun r e => by injection e with e; subst e; exact ⟨Nat.zero_le _, o, hD, hc⟩
end Go.Proofs.Ytbgonppichdhiaa.Bt
