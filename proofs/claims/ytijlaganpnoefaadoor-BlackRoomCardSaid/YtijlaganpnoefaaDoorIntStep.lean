/-
  Rows of numbers: append at a step of a region that draws its order.
-/
import Derived.Test.YtijlaganpnoefaaDoorIntRow
import Derived.Deep.RegionHeld3
namespace Go.Proofs.YtijlaganpnoefaaDoor.Ir
open Go.RowKit Go.Proofs.YtijlaganpnoefaaDoor.Ar
/-- append of a row of numbers, at a step of a region that draws its order. -/
theorem step_append_row {w : World} {ops : Array Oper} {o : Oper} {a : Act} {K : Act → World → Prop} {Q : Exit → Act → World → Prop} {E : Prop} (hgd : o.guard = none) (s x : Operand)
    (ho : o.op = .call { callee := .builtin .append, args := #[s, x], argTypes := #[32, 32] })
    (v : Value) (l : List Int) (hs : a.eval s = v) (hown : Ir.Own w v l) (A : Option Addr) (m c : Nat) (news : List Int) (hx : a.eval x = .slice A m c) (hm : m = news.length) (hnil : A = none → c = 0) (hseen : Ir.Seen w A news)
    (hb : l.length + news.length ≤ 1073741824)
    (h : ∀ v' w', Ir.Own w' v' (l ++ news) → w.grownBy w' v.ownBlock → (v'.ownBlock = v.ownBlock ∨ v'.ownBlock = some w.heap.size) → K (a.put o.dst v') w') :
    if Region.wanted o (yielded ops a.tmps) = true then Oper.wp Tryd.prog o a w K Q else E := by
  have hw : Region.wanted o (yielded ops a.tmps) = true := by simp [Region.wanted, hgd]
  rw [if_pos hw]
  subst hm
  obtain ⟨i0, hi, hz0, hz1, hz2⟩ := info_parts info_i64
  cases A with
  | none =>
    have hn : news = [] := by
      cases news with
      | nil => rfl
      | cons y ys =>
        obtain ⟨g, f, e, _⟩ := hseen (by simp)
        cases e
    subst hn
    obtain rfl := hnil rfl
    have hr := run_append_owned_none (P := Tryd.prog) (w := w) 0 32 o.type 3 i0 1 Tryd.underlying32 hi v l.length (ints l) hown
    unfold Oper.wp execOp
    simp only [ho, resolve, invoke, builtin, Sem.run_bind, Sem.run_pure, Result.andThen_ok, List.map_toArray, List.map_cons, List.map_nil, hs, hx, List.length_nil, hr]
    exact h v w (by rw [List.append_nil]; exact hown) (World.grownBy.refl w _) (.inl rfl)
  | some ad =>
    obtain ⟨v', w', hr, h2, h3, h4, h5⟩ := run_append_own_at (P := Tryd.prog) w 0 32 o.type 3 i0 (.int .i64 0) 1 8 Tryd.underlying32 hi hz0 hz1 hz2 rfl (by decide) v l.length (ints l) hown ad news.length c (ints news) (by rw [ints_length, Nat.mul_one]) (fun j u hu => by
      by_cases hne : news = []
      · subst hne; cases hu
      · obtain ⟨g, f, e, _, hc⟩ := hseen hne
        obtain rfl := Option.some.inj e
        rw [add_at]
        exact hc j u hu) (ints_one news) (by unfold maxLen; omega) (by omega) (Nat.zero_le _)
    unfold Oper.wp execOp
    simp only [ho, resolve, invoke, builtin, Sem.run_bind, Sem.run_pure, Result.andThen_ok, List.map_toArray, List.map_cons, List.map_nil, hs, hx, hr]
    refine h v' w' ?_ h3 h5
    unfold Own ints at *
    rw [List.length_append, List.map_append]
    exact h2
end Go.Proofs.YtijlaganpnoefaaDoor.Ir
