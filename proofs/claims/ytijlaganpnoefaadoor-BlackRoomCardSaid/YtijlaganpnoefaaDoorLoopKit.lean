/-
  What a caller's word on its memory needs to abide a range over a function.
-/
import Derived.Test.YtijlaganpnoefaaDoorMem
import Derived.RangeFuncNested
import Derived.RangeFuncLeaves
import Derived.RangeFuncBound
import Derived.RangeFuncCalls
namespace Go.Proofs.YtijlaganpnoefaaDoor.Lk
open Go.RowKit Go.Proofs.YtijlaganpnoefaaDoor.Ar
set_option linter.unusedVariables false

theorem own_kept {β : Type} {S : List Nat} {w0 : World} {B : Nat} (hB : w0.heap.size ≤ B) : OwnFrom B (fun (_ : β) W => Kept S w0 W) :=
  fun _ X Y row hs hg hr => hs.grown hg fun g e => .inr (Nat.le_trans hB (hr g e).1)
theorem own_has {β : Type} {B b : Nat} {t : TypeId} {f : β → List Value} : OwnFrom B (fun s W => Has W b t (f s)) :=
  fun s X Y row hs hg hr => (hg.block b (Has.lt hs) fun e => by
    obtain ⟨_, o, ho, hc⟩ := hr b e.symm
    have hs' : X.heap[b]? = some (.cells (f s).toArray t (0, 0)) := hs
    rw [ho] at hs'
    injection hs' with hs'
    subst hs'
    cases hc).trans hs
theorem keepsFrom_of {S : List Nat} {B : Nat} {W W' : World} (h : Kept S W W') (hS : ∀ b ∈ S, ∃ t cs, Has W b t cs) : KeepsFrom B W W' :=
  ⟨h.more, fun k o _ ho hc => (h.old k (Array.getElem?_eq_some_iff.1 ho).1 fun hk => by
    obtain ⟨t, cs, hh⟩ := hS k hk
    unfold Has at hh
    rw [ho] at hh
    injection hh with hh
    subst hh
    cases hc).trans ho⟩
theorem kept_put {w W : World} (h : Kept [] w W) (D : Nat) (o : Obj) (hD : w.heap.size ≤ D) : Kept [] w (W.putObj D o) :=
  h.grown (grownBy_putObj' W D o) fun g e => .inr (by injection e with e; omega)
theorem has_put {W : World} {b : Nat} {t : TypeId} {cs : List Value} (h : Has W b t cs) (D : Nat) (o o' : Obj) (hD : W.heap[D]? = some o) (hc : o.isCells = false) : Has (W.putObj D o') b t cs := by
  have hne : b ≠ D := by
    rintro rfl
    unfold Has at h
    rw [hD] at h
    injection h with h
    subst h
    cases hc
  exact ((grownBy_putObj' W D o').block b h.lt (fun e => hne (by injection e))).trans h
theorem put_other {W : World} {p : Addr} {u : Value} {D : Nat} (hD : p.block ≠ D) : (W.setCell p u).heap[D]? = W.heap[D]? := heap_setCell_other W p D u (fun e => hD e.symm)
end Go.Proofs.YtijlaganpnoefaaDoor.Lk
