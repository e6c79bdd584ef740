/-
  A slice of the call's own that grows: what its owner keeps.
-/
import Derived.Test.YtijlaganpnoefaaDoorProg
import Derived.Test.YtijlaganpnoefaaDoorMem
import Derived.WalkKit
import Derived.Laws.MakeOwn
import Derived.Maps.AppendAt
import Derived.Laws.AppendOwnNone
import Derived.OwnWalk
namespace Go.Proofs.YtijlaganpnoefaaDoor.Ar
open Go.RowKit

theorem own_grown {w w1 w2 : World} {v : Value} (hk : Kept [] w w1) (hv : v.ownBlock = none ∨ ∃ b, v.ownBlock = some b ∧ w.heap.size ≤ b) (hg : w1.grownBy w2 v.ownBlock) : Kept [] w w2 :=
  hk.grown hg fun b hb => .inr (by
    rcases hv with h | ⟨b', h, hle⟩
    · rw [h] at hb; cases hb
    · rw [h] at hb; injection hb with hb; subst hb; exact hle)
theorem own_fresh {w w1 : World} {v v' : Value} (hk : Kept [] w w1) (hv : v.ownBlock = none ∨ ∃ b, v.ownBlock = some b ∧ w.heap.size ≤ b) (h : v'.ownBlock = v.ownBlock ∨ v'.ownBlock = some w1.heap.size) : v'.ownBlock = none ∨ ∃ b, v'.ownBlock = some b ∧ w.heap.size ≤ b := by
  rcases h with h | h
  · rw [h]; exact hv
  · exact .inr ⟨_, h, hk.more⟩
end Go.Proofs.YtijlaganpnoefaaDoor.Ar
