/-
  The contract of Size.
-/
import Derived.Test.YtflcnpmampaamaaDoorKdSlots
namespace Go.Proofs.YtflcnpmampaamaaDoor.Kd
open Go.RowKit Go.Proofs.YtflcnpmampaamaaDoor.Ar Go.Maps
set_option linter.unusedVariables false

/-- What Size answers. -/
def sizeR (k : Nat) (wd : Int) (mk : Nat) (n : Int) : Int := if err k wd mk n = 0 then (slots k wd n + 2) / 2 else 0
set_option maxRecDepth 100000 in
theorem size_ok (k : Nat) (wd : Int) (mk : Nat) (n : Int) (hk : k < 256) (hm : mk < 18446744073709551616) (w : World) :
    Calls Tryd.prog 36 #[typV k wd mk, .int .i64 n] w fun e w' => e = .returned (.tuple #[.int .i64 (sizeR k wd mk n), .int .i64 (err k wd mk n)]) ∧ Kept [] w w' := by
  have HL := Lib.hid (fun x => slots_ok k wd mk n hk hm x)
  have hka : ∀ (x : World) (o : Obj), Kept [] x (x.alloc o) := fun x o => (Kept.refl [] x).alloc o
  unfold sizeR slotsR typV at *
  by_cases h : err k wd mk n = 0
  · obtain ⟨b0, b1⟩ := slots_bound h
    simp only [h, if_true] at HL ⊢
    clear h
    generalize slots k wd n = sl at *
    go_enter Tryd.func36, Tryd.ntmps36
    go_wp2_with fail
    refine (HL.out _).mono ?_
    rintro e W1 ⟨rfl, hk1⟩
    have hk2 := Lib.hid ((hka w _).trans hk1)
    clear hk1
    go_wp2_with fail
    go_ret2
    refine ⟨?_, hk2.out⟩
    show Ending.returned (.tuple #[.int .i64 _, _]) = _
    congr 5
    try omega
  · simp only [h, if_false] at HL ⊢
    have he : (err k wd mk n != 0) = true := by rw [bne_iff_ne]; exact h
    generalize err k wd mk n = er at *
    go_enter Tryd.func36, Tryd.ntmps36
    go_wp2_with fail
    refine (HL.out _).mono ?_
    rintro e W1 ⟨rfl, hk1⟩
    have hk2 := Lib.hid ((hka w _).trans hk1)
    clear hk1
    go_wp2_with fail
    go_ret2
    exact ⟨rfl, hk2.out⟩
end Go.Proofs.YtflcnpmampaamaaDoor.Kd
