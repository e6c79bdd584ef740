/-
  The document's Size.
-/
import Derived.Test.YtflcnpmampaamaaDoorKdDoc
namespace Go.Proofs.YtflcnpmampaamaaDoor.Kd
open Go.RowKit Go.Proofs.YtflcnpmampaamaaDoor.Ar Go.Maps
set_option linter.unusedVariables false

set_option maxRecDepth 100000 in
theorem sizeDoc_ok (k : Nat) (wd : Int) (mk : Nat) (n : Int) (hm : mk < 18446744073709551616) (w : World) :
    Calls Tryd.prog 41 #[typV k wd mk, .int .i64 n] w fun e w' => e = .returned (.tuple #[.int .i64 (sizeR k wd mk n), .int .i64 (err k wd mk n)]) ∧ Kept [] w w' := by
  have HL := Lib.hid (fun x => slotsDoc_ok k wd mk n hm x)
  have hka : ∀ (x : World) (o : Obj), Kept [] x (x.alloc o) := fun x o => (Kept.refl [] x).alloc o
  unfold sizeR slotsR typV at *
  by_cases h : err k wd mk n = 0
  · obtain ⟨b0, b1⟩ := slots_bound h
    simp only [h, if_true] at HL ⊢
    clear h
    obtain ⟨sl, hsl⟩ := Int.eq_ofNat_of_zero_le b0
    rw [hsl] at HL b1 ⊢
    clear hsl b0
    have hb : sl ≤ 65536 := by omega
    go_enter Tryd.func41, Tryd.ntmps41
    go_wp2_with fail
    refine (HL.out _).mono ?_
    rintro e W1 ⟨rfl, hk1⟩
    have hk2 := Lib.hid ((hka w _).trans hk1)
    clear hk1
    go_wp2_with fail
    go_loopw [8] (fun t wr => ∃ g : Nat, t = .int .i64 (g : Int) ∧ g ≤ (sl + 2) / 2 ∧ wr = W1) (fun t _ => 65536 - (intOf t).toNat)
    case atStart => exact ⟨0, rfl, Nat.zero_le _, rfl⟩
    case round =>
      obtain ⟨g, rfl, hg, rfl⟩ := hrel
      by_cases hlt : g * 2 < sl + 1
      · have hlt2 : (g : Int) * 2 < (sl : Int) + 1 := by omega
        go_wp2_with fail
        go_roundw
        case rel => exact ⟨g + 1, by go_num, by omega, trivial⟩
        case measure => simp [intOf] <;> omega
      · have hlt2 : ¬ (g : Int) * 2 < (sl : Int) + 1 := by omega
        have He := Lib.hid (show ((sl : Int) + 2) / 2 = (g : Int) by omega)
        go_wp2_with fail
        go_ret2
        exact ⟨by rw [He.out]; rfl, hk2.out⟩
  · simp only [h, if_false] at HL ⊢
    have he : (err k wd mk n != 0) = true := by rw [bne_iff_ne]; exact h
    generalize err k wd mk n = er at *
    go_enter Tryd.func41, Tryd.ntmps41
    go_wp2_with fail
    refine (HL.out _).mono ?_
    rintro e W1 ⟨rfl, hk1⟩
    have hk2 := Lib.hid ((hka w _).trans hk1)
    clear hk1
    go_wp2_with fail
    go_ret2
    exact ⟨rfl, hk2.out⟩
end Go.Proofs.YtflcnpmampaamaaDoor.Kd
