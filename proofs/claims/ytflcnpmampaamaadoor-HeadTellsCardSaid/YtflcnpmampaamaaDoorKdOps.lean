/-
  The contracts of a layout's methods: each is what a function of its cells says.
-/
import Derived.Test.YtflcnpmampaamaaDoorProg
import Derived.Test.YtflcnpmampaamaaDoorKdMath
import Derived.Test.YtflcnpmampaamaaDoorMem
import Derived.WalkKit
import Derived.RegionTactic
import Derived.Outline
import Derived.IntWalk
import Derived.Deep.QuietTactic
import Derived.BigQuiet
import Derived.Lib.Hide
namespace Go.Proofs.YtflcnpmampaamaaDoor.Kd
open Go.RowKit Go.Proofs.YtflcnpmampaamaaDoor.Ar
set_option linter.unusedVariables false

/-- A layout's cells. -/
def layV (k : Nat) (wd : Int) (mk : Nat) (n mn mx : Int) (hl : Bool) (f g : Value) : Value :=
  .agg #[.int .u8 (k : Int), .int .i64 wd, .int .u64 (mk : Int), .int .i64 n, .int .i64 mn, .int .i64 mx, .bool hl, f, g]
set_option maxRecDepth 100000 in
theorem words_ok (k : Nat) (wd : Int) (mk : Nat) (n mn mx : Int) (hl : Bool) (f g : Value) (w : World) :
    Calls Tryd.prog 49 #[layV k wd mk n mn mx hl f g] w fun e w' => e = .returned (.int .i64 wd) ∧ Kept [] w w' := by
  unfold layV
  go_enter Tryd.func49, Tryd.ntmps49
  go_wp2_with fail
  go_ret
  exact ⟨rfl, (Kept.refl [] w).alloc _⟩
theorem length_ok (k : Nat) (wd : Int) (mk : Nat) (n mn mx : Int) (hl : Bool) (f g : Value) (w : World) :
    Calls Tryd.prog 51 #[layV k wd mk n mn mx hl f g] w fun e w' => e = .returned (.int .i64 n) ∧ Kept [] w w' := by
  unfold layV
  go_enter Tryd.func51, Tryd.ntmps51
  go_wp2_with fail
  go_ret
  exact ⟨rfl, (Kept.refl [] w).alloc _⟩
theorem elements_ok (k : Nat) (wd : Int) (mk : Nat) (n mn mx : Int) (hl : Bool) (f g : Value) (w : World) (h0 : -9223372036854775808 ≤ n * wd) (h1 : n * wd ≤ 9223372036854775807) :
    Calls Tryd.prog 53 #[layV k wd mk n mn mx hl f g] w fun e w' => e = .returned (.int .i64 (n * wd)) ∧ Kept [] w w' := by
  unfold layV
  go_enter Tryd.func53, Tryd.ntmps53
  go_wp2_with fail
  go_ret
  refine ⟨ret_int ?_, (Kept.refl [] w).alloc _⟩
  first | rfl | (rw [IntKind.wrap_i64]; omega)
theorem always_ok (k : Nat) (wd : Int) (mk : Nat) (n mn mx : Int) (hl : Bool) (f g : Value) (s : Int) (w : World) :
    Calls Tryd.prog 52 #[layV k wd mk n mn mx hl f g, .int .i64 s] w fun e w' => e = .returned (.bool true) ∧ Kept [] w w' := by
  unfold layV
  go_enter Tryd.func52, Tryd.ntmps52
  go_wp2_with fail
  go_ret
  exact ⟨rfl, (Kept.refl [] w).alloc _⟩
theorem never_ok (k : Nat) (wd : Int) (mk : Nat) (n mn mx : Int) (hl : Bool) (f g : Value) (s : Int) (w : World) :
    Calls Tryd.prog 54 #[layV k wd mk n mn mx hl f g, .int .i64 s] w fun e w' => e = .returned (.bool false) ∧ Kept [] w w' := by
  unfold layV
  go_enter Tryd.func54, Tryd.ntmps54
  go_wp2_with fail
  go_ret
  exact ⟨rfl, (Kept.refl [] w).alloc _⟩
/-- Is that slot's bit set? -/
def maskB (wd mk s : Nat) : Bool := decide (mk / 2 ^ (s % wd) % 2 = 1)
theorem masked_ok (k wd : Nat) (mk : Nat) (n mn mx : Int) (hl : Bool) (f g : Value) (s : Nat) (w : World) (h0 : 1 ≤ wd) (h1 : wd ≤ 64) (hs : s ≤ 65536) (hm : mk < 18446744073709551616) :
    Calls Tryd.prog 50 #[layV k wd mk n mn mx hl f g, .int .i64 (s : Int)] w fun e w' => e = .returned (.bool (maskB wd mk s)) ∧ Kept [] w w' := by
  unfold layV
  have hw : ¬ ((wd : Int) = 0) := by omega
  obtain ⟨r, hr⟩ : ∃ r, r = s % wd := ⟨_, rfl⟩
  have hrl : r < 64 := by have := Nat.mod_lt s (show 0 < wd by omega); omega
  have ht : IntKind.i64.wrap ((s : Int).tmod (wd : Int)) = (r : Int) := by
    rw [Int.tmod_eq_emod_of_nonneg (by omega), hr, IntKind.wrap_i64]
    omega
  go_enter Tryd.func50, Tryd.ntmps50
  go_wp2_with fail
  go_quiet (fail)
  go_wp2_with fail
  go_ret
  refine ⟨ret_bool ?_, ((Kept.refl [] w).alloc _).drewN _⟩
  rw [show ((mk : Int) / 2 ^ (s % wd)) = ((mk / 2 ^ (s % wd) : Nat) : Int) by rw [Int.natCast_ediv, Int.natCast_pow]; rfl, show (1 : Int) = ((1 : Nat) : Int) from rfl, u64_and_nat _ _ (Nat.lt_of_le_of_lt (Nat.div_le_self _ _) hm) (by decide), Nat.and_one_is_mod]
  unfold maskB
  by_cases h : mk / 2 ^ (s % wd) % 2 = 1
  · rw [h]; rfl
  · rw [decide_eq_false h, beq_eq_false_iff_ne]
    omega
theorem valid_ok (k : Nat) (wd : Int) (mk : Nat) (n mn mx : Int) (hl : Bool) (f g : Value) (w : World) (h0 : 0 ≤ mn) (hx : mx ≤ 64) (hm : mk < 18446744073709551616) :
    Calls Tryd.prog 48 #[layV k wd mk n mn mx hl f g] w fun e w' => e = .returned (.bool (decide (mn ≤ wd ∧ wd ≤ mx ∧ mk / 2 ^ wd.toNat = 0))) ∧ Kept [] w w' := by
  unfold layV
  by_cases c1 : mn ≤ wd
  · by_cases c2 : wd ≤ mx
    · have c0 : 0 ≤ wd := by omega
      go_enter Tryd.func48, Tryd.ntmps48
      go_wp2_with fail
      go_ret
      refine ⟨ret_bool ?_, (Kept.refl [] w).alloc _⟩
      rw [show ((mk : Int) / 2 ^ wd.toNat) = ((mk / 2 ^ wd.toNat : Nat) : Int) by rw [Int.natCast_ediv, Int.natCast_pow]; rfl]
      by_cases h : mk / 2 ^ wd.toNat = 0
      · rw [h, decide_eq_true ⟨c1, c2, rfl⟩]; rfl
      · rw [decide_eq_false (fun e => h e.2.2), beq_eq_false_iff_ne]
        omega
    · rw [decide_eq_false (fun h => c2 h.2.1)]
      go_enter Tryd.func48, Tryd.ntmps48
      go_wp2_with fail
      go_ret
      exact ⟨rfl, (Kept.refl [] w).alloc _⟩
  · rw [decide_eq_false (fun h => c1 h.1)]
    go_enter Tryd.func48, Tryd.ntmps48
    go_wp2_with fail
    go_ret
    exact ⟨rfl, (Kept.refl [] w).alloc _⟩
end Go.Proofs.YtflcnpmampaamaaDoor.Kd
