/-
  Several texts in one: SpExample, SpAliveWalk.
-/
import Derived.Test.YtdfnphgjjodfoaaGreatDoorG30
/-
  The chapter's example, step by step: what the law's alive asks.
-/
namespace Go.Proofs.YtdfnphgjjodfoaaGreatDoor.Sp
open Go.RowKit Go.Proofs.YtdfnphgjjodfoaaGreatDoor.Ar Go.Proofs.YtdfnphgjjodfoaaGreatDoor.Sh
open Go.Proofs.YtdfnphgjjodfoaaGreatDoor.Hd (Hd Fields ofL)
open Go.Proofs.YtdfnphgjjodfoaaGreatDoor.Tb (Ty Tab Made NewPost newF sizeE sizeT)
open Go.Proofs.YtdfnphgjjodfoaaGreatDoor.Bt (bit atI prevO nextO hasV)
open Go.Proofs.YtdfnphgjjodfoaaGreatDoor.Wd (Table)
set_option linter.unusedVariables false

def exT : List Ty := [⟨2, 0, 0⟩]
section
variable {w x : World} {s : Ids}
end
end Go.Proofs.YtdfnphgjjodfoaaGreatDoor.Sp

/-
  The law's alive returns true.
-/
namespace Go.Proofs.YtdfnphgjjodfoaaGreatDoor.Sp
open Go.RowKit Go.Proofs.YtdfnphgjjodfoaaGreatDoor.Ar Go.Proofs.YtdfnphgjjodfoaaGreatDoor.Sh
open Go.Proofs.YtdfnphgjjodfoaaGreatDoor.Hd (Hd Fields ofL)
open Go.Proofs.YtdfnphgjjodfoaaGreatDoor.Tb (Ty Tab Made NewPost newF sizeE sizeT)
open Go.Proofs.YtdfnphgjjodfoaaGreatDoor.Wd (Table)
set_option linter.unusedVariables false

theorem table_keep0 {w w' : World} (h : Table w) (k : Kept [] w w') : Table w' := fun i hi => by
  have hc := h i hi
  have hlt : 1 < w.heap.size := by
    rcases Nat.lt_or_ge (1) w.heap.size with k | k
    · exact k
    · exfalso
      have hn : w.heap[1]? = none := Array.getElem?_eq_none k
      simp [World.cell?, hn] at hc
  rw [World.cell?_of_block (w := w) (k.old _ hlt (by simp))]
  exact hc
section
variable {w : World}
end
end Go.Proofs.YtdfnphgjjodfoaaGreatDoor.Sp
