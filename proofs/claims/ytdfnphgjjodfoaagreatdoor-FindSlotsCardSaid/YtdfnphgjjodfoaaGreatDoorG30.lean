/-
  Several texts in one: SpTell, SpAlive.
-/
import Derived.Test.YtdfnphgjjodfoaaGreatDoorG29
import Derived.Test.YtdfnphgjjodfoaaGreatDoorG22
import Derived.Test.YtdfnphgjjodfoaaGreatDoorG24
import Derived.Deep.QuietTactic
import Derived.BigQuiet
import Derived.Lib.QuietBelow
import Derived.Test.YtdfnphgjjodfoaaGreatDoorG28
/-
  The law's own functions: find, tiles, told; and the document's SameCells, of a row and the same row.
-/
namespace Go.Proofs.YtdfnphgjjodfoaaGreatDoor.Sp
open Go.RowKit Go.Proofs.YtdfnphgjjodfoaaGreatDoor.Ar Go.Proofs.YtdfnphgjjodfoaaGreatDoor.Sh Go.Sort
open Go.Proofs.YtdfnphgjjodfoaaGreatDoor.Hd (Hd)
open Go.Proofs.YtdfnphgjjodfoaaGreatDoor.Tb (Ty)
set_option linter.unusedVariables false

section
variable {w : World} {A : Option Addr} {cap : Nat}
end
end Go.Proofs.YtdfnphgjjodfoaaGreatDoor.Sp

/-
  The chapter's example: alive.
-/
namespace Go.Proofs.YtdfnphgjjodfoaaGreatDoor.Sp
open Go.RowKit Go.Proofs.YtdfnphgjjodfoaaGreatDoor.Ar Go.Proofs.YtdfnphgjjodfoaaGreatDoor.Sh
open Go.Proofs.YtdfnphgjjodfoaaGreatDoor.Hd (Hd Fields)
open Go.Proofs.YtdfnphgjjodfoaaGreatDoor.Tb (Ty Tab Made NewPost newF sizeE sizeT)
open Go.Proofs.YtdfnphgjjodfoaaGreatDoor.Wd (Table)
set_option linter.unusedVariables false

theorem gran_zeros {n : Nat} (h : mayB (n : Int) = true) : gran (List.replicate n 0) = (n : Int) / 2 ∧ 8 ≤ gran (List.replicate n 0) ∧ gran (List.replicate n 0) ≤ 32768 := by
  obtain ⟨h1, h2, _⟩ := (mayB_iff _).1 h
  unfold gran
  rw [List.length_replicate]
  omega
/-- A new space is one gap. -/
def newC (n : Nat) : List Cel := gapL 0 ((n : Int) / 2)
theorem new_snd {n : Nat} (h : mayB (n : Int) = true) (l : List Ty) : Snd (newW n) l (newB n) (newC n) := by
  obtain ⟨g1, g2, g3⟩ := gran_zeros h
  have h2 := ((mayB_iff _).1 h).2.1
  have hl : (List.replicate n (0 : Int)).length ≤ 65536 := by rw [List.length_replicate]; omega
  have hwl : (newW n).length = (List.replicate n (0 : Int)).length := becomeW_length _ _ _ _
  have ht := (become_tiled (l := l) (e := gran (List.replicate n 0)) [] (List.replicate n 0) 0 (Int.le_refl _) (Int.le_refl _) hl (show (0 : Int) ≤ _ by omega)).1
  refine ⟨?_, ?_, ?_, ?_, by rw [hwl]; exact hl⟩
  · rw [gran_eq hwl]
    unfold newC
    rw [← g1]
    exact ht
  · unfold newC
    rw [objs_gapL]
    have ha := become_agree (bs := List.replicate (gran (List.replicate n 0)).toNat false) (a := []) (m := []) (b := []) (cs := []) (f := 0) (e := gran (List.replicate n 0)) (agree_none _) (Int.le_refl _) (by omega) (by rw [List.length_replicate]; omega) (fun c h => by cases h) (fun c h => by cases h) (fun c h => by cases h) (fun c h => by cases h)
    exact ha
  · unfold newB
    rw [becomeB_length, List.length_replicate, gran_eq hwl]
    omega
  · exact neat_gapL _ _
section
variable {w : World}
end
end Go.Proofs.YtdfnphgjjodfoaaGreatDoor.Sp
