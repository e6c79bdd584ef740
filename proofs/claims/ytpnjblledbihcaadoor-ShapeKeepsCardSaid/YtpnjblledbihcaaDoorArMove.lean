/-
  The contract of package arena's Move.
-/
import Derived.Test.YtpnjblledbihcaaDoorArFill
import Derived.Laws.CopyOwn
namespace Go.Proofs.YtpnjblledbihcaaDoor.Ar
open Go.RowKit

theorem ints_put (ws : List Int) (i : Nat) (l : List Int) : (ints ws).take i ++ (ints l ++ (ints ws).drop (i + (ints l).length)) = ints (putW ws i l) := by
  unfold ints putW
  simp only [List.map_append, List.map_take, List.map_drop, List.length_map]

section
variable {p q : Nat} {ws : List Int} {n : Int} {w : World}
theorem Arena.laid (h : Arena w p q ws n) (i : Nat) (l : List Int) (hl : i + l.length ≤ ws.length) : Arena (w.setRow q (ints (putW ws i l)).toArray) p q (putW ws i l) n := by
  have e := putW_length ws i l hl
  refine ⟨?_, h.row.row _, by rw [e]; exact h.short⟩
  rw [e]
  exact h.head.otherRow q h.ne _

end
end Go.Proofs.YtpnjblledbihcaaDoor.Ar
