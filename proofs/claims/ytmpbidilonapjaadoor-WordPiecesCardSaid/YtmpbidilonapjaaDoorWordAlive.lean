/-
  The chapter's examples, which each law of the layer asks besides.
-/
import Derived.Test.YtmpbidilonapjaaDoorWordLoops
namespace Go.Proofs.YtmpbidilonapjaaDoor.Wd
open Go.RowKit

/-- The table of the lowest bits, as the program's text lays it. -/
def Table (w : World) : Prop := ∀ i : Nat, i < 64 → w.cell? ⟨0, i, none⟩ = some (.int .u8 (tab.getD i 0))
theorem Table.drewN {w : World} (h : Table w) (k : Nat) : Table (w.drewN k) := h

theorem alive_any (w : World) (ht : Table w) :
    Calls Tryd.prog 17 #[] w fun e w' => e = .returned (.bool true) ∧ ∃ k, w' = w.drewN k := by
  have c1 := fun w => add_ok 18446744073709551615 1 (by decide) (by decide) (by decide) (by decide) w
  rw [show addV 18446744073709551615 1 = 0 by decide, show addE 18446744073709551615 1 = 10 by decide] at c1
  have c2 := fun w => sub_ok 0 1 (by decide) (by decide) (by decide) (by decide) w
  rw [show subV 0 1 = 0 by decide, show subE 0 1 = 10 by decide] at c2
  have c3 := fun w => mul_ok 4294967296 4294967296 (by decide) (by decide) (by decide) (by decide) w
  rw [show mulV 4294967296 4294967296 = 0 by decide, show mulE 4294967296 4294967296 = 10 by decide] at c3
  have c4 := fun w => bits_any 240 4 4 (by decide) (by decide) (by decide) (by decide) (by decide) (by decide) w
  rw [show bitsV 240 4 4 = 15 by decide, show bitsE 4 4 = 0 by decide] at c4
  have c5 := fun w => lay_any 240 4 4 1 (by decide) (by decide) (by decide) (by decide) (by decide) (by decide) w
  rw [show layV 240 4 4 1 = 16 by decide, show layE 4 4 1 = 0 by decide] at c5
  have c6 := fun w => lay_any 0 0 1 2 (by decide) (by decide) (by decide) (by decide) (by decide) (by decide) w
  rw [show layV 0 0 1 2 = 0 by decide, show layE 0 1 2 = 2 by decide] at c6
  have c7 := fun w => up_any 3 (by decide) (by decide) w
  rw [show upV 3 = 2 by decide] at c7
  have c8 := fun w => down_any 3 (by decide) (by decide) w
  rw [show downV 3 = 1 by decide] at c8
  have c9 := fun w => up_any (-1) (by decide) (by decide) w
  rw [show upV (-1) = 0 by decide] at c9
  have c10 := fun w => ones_any 5 (by decide) (by decide) w
  rw [show onesV 5 = 2 by decide] at c10
  have c11 := fun w h => low_any 4 (by decide) (by decide) w h
  rw [show lowV 4 = 2 by decide] at c11
  have c12 := fun w h => low_any 0 (by decide) (by decide) w h
  rw [show lowV 0 = 64 from low_zero] at c12
  have C1 := Lib.hid c1
  have C2 := Lib.hid c2
  have C3 := Lib.hid c3
  have C4 := Lib.hid c4
  have C5 := Lib.hid c5
  have C6 := Lib.hid c6
  have C7 := Lib.hid c7
  have C8 := Lib.hid c8
  have C9 := Lib.hid c9
  have C10 := Lib.hid c10
  have C11 := Lib.hid c11
  have C12 := Lib.hid c12
  clear c1 c2 c3 c4 c5 c6 c7 c8 c9 c10 c11 c12
  go_enter Tryd.func17, Tryd.ntmps17
  go_wp2_with fail
  refine (C1.out _).mono ?_; rintro e w' ⟨rfl, rfl⟩
  go_wp2_with fail
  refine (C2.out _).mono ?_; rintro e w' ⟨rfl, rfl⟩
  go_wp2_with fail
  refine (C3.out _).mono ?_; rintro e w' ⟨rfl, rfl⟩
  go_wp2_with fail
  refine (C4.out _).mono ?_; rintro e w' ⟨rfl, k4, rfl⟩
  go_wp2_with fail
  refine (C5.out _).mono ?_; rintro e w' ⟨rfl, k5, rfl⟩
  go_wp2_with fail
  refine (C6.out _).mono ?_; rintro e w' ⟨rfl, k6, rfl⟩
  go_wp2_with fail
  refine (C7.out _).mono ?_; rintro e w' ⟨rfl, rfl⟩
  go_wp2_with fail
  refine (C8.out _).mono ?_; rintro e w' ⟨rfl, rfl⟩
  go_wp2_with fail
  refine (C9.out _).mono ?_; rintro e w' ⟨rfl, rfl⟩
  go_wp2_with fail
  refine (C10.out _).mono ?_; rintro e w' ⟨rfl, k10, rfl⟩
  go_wp2_with fail
  refine (C11.out _ (ht.drewN _)).mono ?_; rintro e w' ⟨rfl, rfl⟩
  go_wp2_with fail
  refine (C12.out _ (ht.drewN _)).mono ?_; rintro e w' ⟨rfl, rfl⟩
  go_wp2_with fail
  go_ret
  exact ⟨rfl, _, rfl⟩
end Go.Proofs.YtmpbidilonapjaaDoor.Wd
