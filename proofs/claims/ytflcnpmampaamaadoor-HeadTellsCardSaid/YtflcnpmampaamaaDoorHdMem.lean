/-
  The constant table of the fields, as a world has it; headers in memory.
-/
import Derived.Test.YtflcnpmampaamaaDoorHdMath
import Derived.Test.YtflcnpmampaamaaDoorKdTraits
import Derived.OpenShut
namespace Go.Proofs.YtflcnpmampaamaaDoor.Hd
open Go.RowKit Go.Proofs.YtflcnpmampaamaaDoor.Ar
set_option linter.unusedVariables false

def fieldCells : Array Value := #[.int .i64 0, .int .i64 2, .int .i64 2, .int .i64 12, .int .i64 16, .int .i64 24, .int .i64 40, .int .i64 24]
/-- The table of the fields stands. -/
def Fields (w : World) : Prop := ∃ t fr, w.heap[0]? = some (.cells fieldCells t fr)
theorem Fields.lt {w : World} (h : Fields w) : 0 < w.heap.size := by
  obtain ⟨t, fr, e⟩ := h
  rcases Nat.lt_or_ge 0 w.heap.size with hlt | hge
  · exact hlt
  · rw [Array.getElem?_eq_none hge] at e
    cases e
theorem Fields.kept {S : List Nat} {w w' : World} (h : Fields w) (k : Kept S w w') (hS : ∀ i ∈ S, i ≠ 0) : Fields w' := by
  have := k.old _ h.lt fun hs => hS _ hs rfl
  obtain ⟨t, fr, e⟩ := h
  exact ⟨t, fr, this.trans e⟩
theorem Fields.keep0 {w w' : World} (h : Fields w) (k : Kept [] w w') : Fields w' := h.kept k (by simp)
/-- From a block on that the caller made. -/
theorem Fields.past {S : List Nat} {w w' : World} (h : Fields w) (k : Kept S w w') (B : Nat) (hB : 0 < B) (hS : ∀ i ∈ S, B ≤ i) : Fields w' := h.kept k fun i hi e => by have := hS i hi; omega
theorem Fields.cell {w : World} (h : Fields w) (i : Nat) : w.cell? ⟨0, i, none⟩ = fieldCells[i]? := by
  obtain ⟨t, fr, e⟩ := h
  exact cell_of_row w _ i _ t fr e
theorem Fields.cells {w : World} (h : Fields w) : w.cell? ⟨0, 0, none⟩ = some (.int .i64 0) ∧ w.cell? ⟨0, 1, none⟩ = some (.int .i64 2) ∧ w.cell? ⟨0, 2, none⟩ = some (.int .i64 2) ∧ w.cell? ⟨0, 3, none⟩ = some (.int .i64 12)
    ∧ w.cell? ⟨0, 4, none⟩ = some (.int .i64 16) ∧ w.cell? ⟨0, 5, none⟩ = some (.int .i64 24) ∧ w.cell? ⟨0, 6, none⟩ = some (.int .i64 40) ∧ w.cell? ⟨0, 7, none⟩ = some (.int .i64 24) :=
  ⟨h.cell 0, h.cell 1, h.cell 2, h.cell 3, h.cell 4, h.cell 5, h.cell 6, h.cell 7⟩
end Go.Proofs.YtflcnpmampaamaaDoor.Hd
