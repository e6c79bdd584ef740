/-
  Rows of faults: what the last tests of the laws want.
-/
import Derived.Test.YtagmmbkgjomdlaaGreatDoorG42
import Derived.Test.YtagmmbkgjomdlaaGreatDoorG47
namespace Go.Proofs.YtagmmbkgjomdlaaGreatDoor.Wk
open Go.RowKit Go.Proofs.YtagmmbkgjomdlaaGreatDoor.Ar
open Go.Proofs.YtagmmbkgjomdlaaGreatDoor.Sp hiding Own own_from own_put back_own Seen own_cells seen_one
open Go.Proofs.YtagmmbkgjomdlaaGreatDoor.Sh (hdH ofE ofT ofS atG)
open Go.Proofs.YtagmmbkgjomdlaaGreatDoor.Hd (Hd Fields)
open Go.Proofs.YtagmmbkgjomdlaaGreatDoor.Tb (Ty Tab newF)
open Go.Proofs.YtagmmbkgjomdlaaGreatDoor.Bt (Bv hasV layB)
open Go.Proofs.YtagmmbkgjomdlaaGreatDoor.Wd (Table)
set_option linter.unusedVariables false

theorem eqlFlt (y : World) (a0 a1 a2 b0 b1 b2 : Int) : (binOp .eql 69 (.agg #[.int .i64 a0, .int .i64 a1, .int .i64 a2]) (.agg #[.int .i64 b0, .int .i64 b1, .int .i64 b2])).run Tryz.prog y = .ok (.bool (eqFlt a0 a1 a2 b0 b1 b2)) y := by
  rw [run_eql_struct, eqInFlt]
  rfl
theorem eqFlt_refl (a b c : Int) : eqFlt a b c a b c = true := by simp [eqFlt]
theorem seen_tail {w : World} {g c n : Nat} {x : Tri} {F : List Tri} (h : Own Flt w (.slice (some ⟨g, 0, none⟩) n c) (x :: F)) (hlt : g < w.heap.size) : Seen Flt w (some ⟨g, 3, none⟩) F := fun hne => by
  refine ⟨g, 3, rfl, hlt, fun j v hv => h.cell (3 + j) v ?_⟩
  have e : cs Flt (x :: F) = cs Flt [x] ++ cs Flt F := cs_append Flt [x] F
  have hl : (cs Flt [x]).length = 3 := cs_length Flt [x]
  rw [e, List.getElem?_append_right (by omega), hl, show 3 + j - 3 = j by omega]
  exact hv
theorem back_flt {y : World} {v : Value} {F : List Tri} {n : Nat} (h : Own Flt y v F) (hn : F.length = n) : ∃ A c, v = .slice A n c ∧ Seen Flt y A F := by
  subst hn
  obtain ⟨A, c, e, _, hs⟩ := back_own (K := Flt) h
  exact ⟨A, c, e, hs⟩
theorem own_cons {w : World} {v : Value} {x : Tri} {F : List Tri} {n : Nat} (h : Own Flt w v (x :: F)) (hn : F.length = n) : ∃ g cap, v = .slice (some ⟨g, 0, none⟩) (n + 1) cap ∧ g < w.heap.size ∧ n + 1 ≤ cap ∧ cap ≤ maxLen := by
  subst hn
  rcases h.form with ⟨_, h0⟩ | ⟨g, cap, e, h1, h2, h3⟩
  · cases h0
  · exact ⟨g, cap, e, h1, h2, h3⟩
/-- What Check tells of a space, one start turned. -/
theorem chk_turned {ws : List Int} {l : List Ty} {bs : List Bool} {cs : List Cel} (h : Snd ws l bs cs) {k : Int} (k0 : 0 ≤ k) (k1 : k < gran ws) (st : Bool) (hst : hasV bs k = !st) : chkF ws l (layB bs k 1 st) cs = ⟨k, 0, if st then 9 else 3⟩ :: refF (objs cs) (rfs ws l (objs cs)) := by
  unfold chkF
  rw [allS_turned h k0 k1 st hst, frm_none h, List.append_nil]
  rfl
/-- Where the row behind the first fault lies, or that it is empty. -/
def TailAt (A : Option Addr) (g : Nat) (F : List Tri) : Prop := A = some ⟨g, 3, none⟩ ∨ F = []
/-- Four cells of the tally's box. -/
def C4 (z : World) (b : Nat) (no tu te tl : Int) : Prop := z.cell? ⟨b, 0, none⟩ = some (.int .i64 no) ∧ z.cell? ⟨b, 3, none⟩ = some (.int .i64 tu) ∧ z.cell? ⟨b, 4, none⟩ = some (.int .i64 te) ∧ z.cell? ⟨b, 5, none⟩ = some (.int .i64 tl)
/-- Six cells: the first fault, and the one that is wanted. -/
def C6 (z : World) (g b : Nat) (k y : Int) : Prop := z.cell? ⟨g, 0, none⟩ = some (.int .i64 k) ∧ z.cell? ⟨g, 1, none⟩ = some (.int .i64 0) ∧ z.cell? ⟨g, 2, none⟩ = some (.int .i64 y) ∧ z.cell? ⟨b, 0, none⟩ = some (.int .i64 k) ∧ z.cell? ⟨b, 1, none⟩ = some (.int .i64 0) ∧ z.cell? ⟨b, 2, none⟩ = some (.int .i64 y)
end Go.Proofs.YtagmmbkgjomdlaaGreatDoor.Wk
