/-
  Memory of package arena and of the document's answer, told by blocks: what a block holds, which blocks may have turned.
-/
import Derived.Test.YtpnjblledbihcaaDoorWordRow
import Derived.WalkKit
import Derived.Lib.Hide
import Derived.Laws.OwnMore
import Derived.Laws.Rows
import Derived.Deep.Draws
namespace Go.Proofs.YtpnjblledbihcaaDoor.Ar
open Go.RowKit

/-- An arena at block p, its words at block q. -/
structure Arena (w : World) (p q : Nat) (ws : List Int) (n : Int) : Prop where
  head : Has w p 103 [.slice (some ⟨q, 0, none⟩) ws.length ws.length, .int .u64 n]
  row : Has w q 22 (ints ws)
  short : ws.length ≤ 65536

namespace Arena
variable {w w' : World} {p q : Nat} {ws : List Int} {n : Int}
theorem ne (h : Arena w p q ws n) : p ≠ q := by
  rintro rfl
  have e := h.head.symm.trans h.row
  injection e with e
  injection e with _ e
  exact absurd e (by decide)
theorem kept {S : List Nat} (h : Arena w p q ws n) (k : Kept S w w') (hp : p ∉ S) (hq : q ∉ S) : Arena w' p q ws n := ⟨h.head.kept k hp, h.row.kept k hq, h.short⟩
theorem keep0 (h : Arena w p q ws n) (k : Kept [] w w') : Arena w' p q ws n := h.kept k (by simp) (by simp)
theorem drewN (h : Arena w p q ws n) (k : Nat) : Arena (w.drewN k) p q ws n := ⟨h.head, h.row, h.short⟩
end Arena

/-! ### What the calls answer, as plain functions -/
/-- k words from the word i on lie within L. -/
def within (L : Nat) (i k : Int) : Bool := decide (0 ≤ i ∧ 0 ≤ k ∧ i + k ≤ L)
theorem within_iff (L : Nat) (i k : Int) : within L i k = true ↔ 0 ≤ i ∧ 0 ≤ k ∧ i + k ≤ L := by unfold within; exact decide_eq_true_iff
/-- OK or ErrArg. -/
def errOf (b : Bool) : Int := if b then 0 else 2
/-- l laid over ws from the word i on. -/
def putW (ws : List Int) (i : Nat) (l : List Int) : List Int := ws.take i ++ (l ++ ws.drop (i + l.length))
theorem putW_length (ws : List Int) (i : Nat) (l : List Int) (h : i + l.length ≤ ws.length) : (putW ws i l).length = ws.length := by
  unfold putW
  simp only [List.length_append, List.length_take, List.length_drop]
  omega
def cutW (ws : List Int) (i k : Int) : List Int := (ws.drop i.toNat).take k.toNat
theorem cutW_length (ws : List Int) (i k : Int) (h : within ws.length i k = true) : (cutW ws i k).length = k.toNat := by
  obtain ⟨a, b, c⟩ := (within_iff _ _ _).1 h
  unfold cutW
  rw [List.length_take, List.length_drop]
  omega
def loadV (ws : List Int) (i : Int) : Int := if within ws.length i 1 then ws.getD i.toNat 0 else 0
def fillW (ws : List Int) (i k v : Int) : List Int := if within ws.length i k then putW ws i.toNat (List.replicate k.toNat v) else ws
def fillN (ws : List Int) (n i k : Int) : Int := if within ws.length i k then addU n k else n
def moveB (ws : List Int) (to fr k : Int) : Bool := within ws.length to k && within ws.length fr k
def moveW (ws : List Int) (to fr k : Int) : List Int := if moveB ws to fr k then putW ws to.toNat (cutW ws fr k) else ws
def moveN (ws : List Int) (n to fr k : Int) : Int := if moveB ws to fr k then addU n k else n

theorem fillW_length (ws : List Int) (i k v : Int) : (fillW ws i k v).length = ws.length := by
  unfold fillW
  split
  · rename_i h
    obtain ⟨a, b, c⟩ := (within_iff _ _ _).1 h
    exact putW_length _ _ _ (by rw [List.length_replicate]; omega)
  · rfl
theorem moveW_length (ws : List Int) (to fr k : Int) : (moveW ws to fr k).length = ws.length := by
  unfold moveW moveB
  split
  · rename_i h
    obtain ⟨h1, h2⟩ := Bool.and_eq_true_iff.1 h
    obtain ⟨a, b, c⟩ := (within_iff _ _ _).1 h1
    exact putW_length _ _ _ (by rw [cutW_length _ _ _ h2]; omega)
  · rfl
end Go.Proofs.YtpnjblledbihcaaDoor.Ar
