/-
  Several texts in one: SpTell, SpAlive, SpExample, SpAliveWalk.
-/
import Derived.Test.YtagmmbkgjomdlaaGreatDoorG29
import Derived.Test.YtagmmbkgjomdlaaGreatDoorG25
import Derived.Test.YtagmmbkgjomdlaaGreatDoorG22
import Derived.Deep.QuietTactic
import Derived.BigQuiet
import Derived.Lib.QuietBelow
import Derived.Test.YtagmmbkgjomdlaaGreatDoorG26
/-
  The law's own functions: find, tiles, told; and the document's SameCells, of a row and the same row.
-/
namespace Go.Proofs.YtagmmbkgjomdlaaGreatDoor.Sp
open Go.RowKit Go.Proofs.YtagmmbkgjomdlaaGreatDoor.Ar Go.Proofs.YtagmmbkgjomdlaaGreatDoor.Sh Go.Sort
open Go.Proofs.YtagmmbkgjomdlaaGreatDoor.Hd (Hd)
open Go.Proofs.YtagmmbkgjomdlaaGreatDoor.Tb (Ty)
set_option linter.unusedVariables false

section
variable {w : World} {A : Option Addr} {cap : Nat}
set_option maxRecDepth 100000 in
set_option maxHeartbeats 1000000 in
theorem same_ok {B : Option Addr} {cap2 : Nat} (L : List Cel) (hA : Seen w A L) (hB : Seen w B L) (hlen : L.length ≤ 1000000) :
    Calls Tryz.prog 11 #[.slice A L.length cap, .slice B L.length cap2] w fun e w' => e = .returned (.bool true) ∧ Kept [] w w' := by
  have HA := Lib.hid hA
  have HB := Lib.hid hB
  have K0 : Hid (Kept [] w w) := Lib.hid (Kept.refl _ _)
  clear hA hB
  go_enter Tryz.func11, Tryz.ntmps11
  go_wp2_with fail
  go_loopw [5] (fun t wr => ∃ j : Nat, t = .int .i64 (j : Int) ∧ j ≤ L.length ∧ Hid (Kept [] w wr)) (fun t _ => L.length - (intOf t).toNat)
  case atStart => exact ⟨0, rfl, Nat.zero_le _, K0⟩
  case round =>
    obtain ⟨j, rfl, hj, hr⟩ := hrel
    clear K0
    by_cases hlt : j < L.length
    · obtain ⟨g, o, rfl, hg, c0, c1, c2, c3, c4⟩ := (HA.out.keep0 hr.out).at j hlt _ rfl
      obtain ⟨g2, o2, rfl, hg2, d0, d1, d2, d3, d4⟩ := (HB.out.keep0 hr.out).at j hlt _ rfl
      generalize L.getD j Cel.zero = x at c0 c1 c2 c3 c4 d0 d1 d2 d3 d4
      obtain ⟨xa, ⟨xt, xy, xl, xz⟩⟩ := x
      simp only at *
      have hso := fun y => run_other y xa xt xy xl xz xa xt xy xl xz
      have hng := no_guard
      have hq := eqC_refl xa xt xy xl xz
      go_wp2_with fail
      go_quiet (fail)
      have HK := Lib.hid (hr.out.drewN nq)
      clear hr c0 c1 c2 c3 c4 d0 d1 d2 d3 d4 hso hng hq
      go_wp2_with fail
      go_roundw
      case rel => exact ⟨j + 1, by go_num, by omega, HK⟩
      case measure => simp [intOf] <;> omega
    · obtain rfl : j = L.length := by omega
      go_wp2_with fail
      go_ret
      exact ⟨rfl, hr.out⟩
end
end Go.Proofs.YtagmmbkgjomdlaaGreatDoor.Sp

/-
  The chapter's example: alive.
-/
namespace Go.Proofs.YtagmmbkgjomdlaaGreatDoor.Sp
open Go.RowKit Go.Proofs.YtagmmbkgjomdlaaGreatDoor.Ar Go.Proofs.YtagmmbkgjomdlaaGreatDoor.Sh
open Go.Proofs.YtagmmbkgjomdlaaGreatDoor.Hd (Hd Fields)
open Go.Proofs.YtagmmbkgjomdlaaGreatDoor.Tb (Ty Tab Made NewPost newF sizeE sizeT)
open Go.Proofs.YtagmmbkgjomdlaaGreatDoor.Wd (Table)
set_option linter.unusedVariables false

theorem gran_zeros {n : Nat} (h : mayB (n : Int) = true) : gran (List.replicate n 0) = (n : Int) / 2 ∧ 8 ≤ gran (List.replicate n 0) ∧ gran (List.replicate n 0) ≤ 32768 := by
  obtain ⟨h1, h2, _⟩ := (mayB_iff _).1 h
  unfold gran
  rw [List.length_replicate]
  omega
/-- A new space is one gap. -/
def newC (n : Nat) : List Cel := gapL 0 ((n : Int) / 2)
theorem new_snd {n : Nat} (h : mayB (n : Int) = true) (l : List Ty) : Snd (newW n) l (newB n) (newC n) := by
  obtain ⟨g1, g2, g3⟩ := gran_zeros h
  have h2 := ((mayB_iff _).1 h).2.1
  have hl : (List.replicate n (0 : Int)).length ≤ 65536 := by rw [List.length_replicate]; omega
  have hwl : (newW n).length = (List.replicate n (0 : Int)).length := becomeW_length _ _ _ _
  have ht := (become_tiled (l := l) (e := gran (List.replicate n 0)) [] (List.replicate n 0) 0 (Int.le_refl _) (Int.le_refl _) hl (show (0 : Int) ≤ _ by omega)).1
  refine ⟨?_, ?_, ?_, ?_, by rw [hwl]; exact hl⟩
  · rw [gran_eq hwl]
    unfold newC
    rw [← g1]
    exact ht
  · unfold newC
    rw [objs_gapL]
    have ha := become_agree (bs := List.replicate (gran (List.replicate n 0)).toNat false) (a := []) (m := []) (b := []) (cs := []) (f := 0) (e := gran (List.replicate n 0)) (agree_none _) (Int.le_refl _) (by omega) (by rw [List.length_replicate]; omega) (fun c h => by cases h) (fun c h => by cases h) (fun c h => by cases h) (fun c h => by cases h)
    exact ha
  · unfold newB
    rw [becomeB_length, List.length_replicate, gran_eq hwl]
    omega
  · exact neat_gapL _ _
section
variable {w : World}
end
end Go.Proofs.YtagmmbkgjomdlaaGreatDoor.Sp

/-
  The chapter's example, step by step: what the law's alive asks.
-/
namespace Go.Proofs.YtagmmbkgjomdlaaGreatDoor.Sp
open Go.RowKit Go.Proofs.YtagmmbkgjomdlaaGreatDoor.Ar Go.Proofs.YtagmmbkgjomdlaaGreatDoor.Sh
open Go.Proofs.YtagmmbkgjomdlaaGreatDoor.Hd (Hd Fields ofL)
open Go.Proofs.YtagmmbkgjomdlaaGreatDoor.Tb (Ty Tab Made NewPost newF sizeE sizeT)
open Go.Proofs.YtagmmbkgjomdlaaGreatDoor.Bt (bit atI prevO nextO hasV)
open Go.Proofs.YtagmmbkgjomdlaaGreatDoor.Wd (Table)
set_option linter.unusedVariables false

def exT : List Ty := [⟨2, 0, 0⟩]
def exB : List Cel := [⟨0, ⟨2, 0, 0, 1⟩⟩, ⟨1, ⟨1, 1, 3, 2⟩⟩, ⟨3, ⟨3, 0, 0, 5⟩⟩]
section
variable {w x : World} {s : Ids}
end
end Go.Proofs.YtagmmbkgjomdlaaGreatDoor.Sp

/-
  The law's alive returns true.
-/
namespace Go.Proofs.YtagmmbkgjomdlaaGreatDoor.Sp
open Go.RowKit Go.Proofs.YtagmmbkgjomdlaaGreatDoor.Ar Go.Proofs.YtagmmbkgjomdlaaGreatDoor.Sh
open Go.Proofs.YtagmmbkgjomdlaaGreatDoor.Hd (Hd Fields ofL)
open Go.Proofs.YtagmmbkgjomdlaaGreatDoor.Tb (Ty Tab Made NewPost newF sizeE sizeT)
open Go.Proofs.YtagmmbkgjomdlaaGreatDoor.Wd (Table)
set_option linter.unusedVariables false

theorem table_keep0 {w w' : World} (h : Table w) (k : Kept [] w w') : Table w' := fun i hi => by
  have hc := h i hi
  have hlt : 1 < w.heap.size := by
    rcases Nat.lt_or_ge (1) w.heap.size with k | k
    · exact k
    · exfalso
      have hn : w.heap[1]? = none := Array.getElem?_eq_none k
      simp [World.cell?, hn] at hc
  rw [World.cell?_of_block (w := w) (k.old _ hlt (by simp))]
  exact hc
section
variable {w : World}
end
end Go.Proofs.YtagmmbkgjomdlaaGreatDoor.Sp
