/-
  The contracts of the functions of package word and of the document's answers: each is what a function of numbers says.
-/
import Derived.Test.YtmpbidilonapjaaDoorProg
import Derived.Test.YtmpbidilonapjaaDoorWordMath
import Derived.WalkKit
import Derived.RegionTactic
import Derived.Outline
import Derived.Deep.QuietTactic
import Derived.BigQuiet
import Derived.Lib.Hide
import Derived.Laws.Externs
import Derived.Laws.MathBits
import Derived.Laws.BitsAllLaws
namespace Go.Proofs.YtmpbidilonapjaaDoor.Wd
open Go.RowKit

/-- An operation that only computes: the world has made so many draws. -/
def Quiet (w w' : World) : Prop := ∃ n, w' = w.drewN n
theorem Quiet.rfl' (w : World) : Quiet w w := ⟨0, rfl⟩

theorem u64_of_wf {n : Int} (h : (Lit.int .u64 n).wf = true) : 0 ≤ n ∧ n < 18446744073709551616 := by
  simp [Lit.wf, IntKind.min, IntKind.max, IntKind.signed, IntKind.bits] at h
  omega
theorem i64_of_wf {n : Int} (h : (Lit.int .i64 n).wf = true) : -9223372036854775808 ≤ n ∧ n ≤ 9223372036854775807 := by
  simp [Lit.wf, IntKind.min, IntKind.max, IntKind.signed, IntKind.bits] at h
  omega

/-- The model's own entry for math/bits.Sub64, by its place. -/
def subEntry : Array Value → Sem Value := (Extern.MathBitsCarry.rows[1]).2
theorem run_sub (P : Program) (x y : Nat) (w : World) :
    (subEntry #[.int .u64 x, .int .u64 y, .int .u64 0]).run P w =
      .ok (.tuple #[.int .u64 (((x + 18446744073709551616 - y - 0) % 18446744073709551616 : Nat) : Int), .int .u64 ((if x < y + 0 then 1 else 0 : Nat) : Int)]) w := rfl

theorem ext_add (a b : Int) (ha : 0 ≤ a) (hb : 0 ≤ b) (w : World) :
    (callFunc 26 #[.int .u64 a, .int .u64 b, .int .u64 0]).run Tryd.prog w =
      .ok (.value (.tuple #[.int .u64 ((a + b) % 18446744073709551616), .int .u64 ((a + b) / 18446744073709551616)])) w := by
  rw [run_callFunc_extern Tryd.func26 (by kernel_rfl) (by kernel_rfl) (by kernel_rfl) (e := add64Entry) (by kernel_rfl), run_add64 a b 0 ha hb (by omega) (by omega)]
  simp only [Result.andThen, Int.add_zero]
theorem ext_sub (a b : Int) (ha : 0 ≤ a) (hb : 0 ≤ b) (h1 : a < 18446744073709551616) (h2 : b < 18446744073709551616) (w : World) :
    (callFunc 28 #[.int .u64 a, .int .u64 b, .int .u64 0]).run Tryd.prog w =
      .ok (.value (.tuple #[.int .u64 ((a - b) % 18446744073709551616), .int .u64 (if a < b then 1 else 0)])) w := by
  obtain ⟨x, rfl⟩ := Int.eq_ofNat_of_zero_le ha
  obtain ⟨y, rfl⟩ := Int.eq_ofNat_of_zero_le hb
  rw [run_callFunc_extern Tryd.func28 (by kernel_rfl) (by kernel_rfl) (by kernel_rfl) (e := subEntry) (by kernel_rfl), run_sub _ x y]
  have e1 : (((x + 18446744073709551616 - y - 0) % 18446744073709551616 : Nat) : Int) = ((x : Int) - (y : Int)) % 18446744073709551616 := by omega
  have e2 : ((if x < y + 0 then 1 else 0 : Nat) : Int) = if (x : Int) < (y : Int) then 1 else 0 := by
    by_cases h : x < y
    · rw [if_pos (by omega), if_pos (by omega)]; rfl
    · rw [if_neg (by omega), if_neg (by omega)]; rfl
  rw [e1, e2]
  rfl

theorem inRange_zero (x : Int) (w : World) :
    Calls Tryd.prog 27 #[.int .u64 x, .int .u64 0] w fun e w' => e = .returned (.tuple #[.int .u64 x, .int .i64 0]) ∧ w = w' := by
  go_enter Tryd.func27, Tryd.ntmps27
  go_wp2
  go_ret2
  exact ⟨rfl, rfl⟩
theorem inRange_more (x y : Int) (h : y ≠ 0) (w : World) :
    Calls Tryd.prog 27 #[.int .u64 x, .int .u64 y] w fun e w' => e = .returned (.tuple #[.int .u64 0, .int .i64 10]) ∧ w = w' := by
  have h' : (y != 0) = true := by simpa using h
  clear h
  go_enter Tryd.func27, Tryd.ntmps27
  go_wp2
  go_ret2
  exact ⟨rfl, rfl⟩

theorem add_ok (a b : Int) (ha : 0 ≤ a) (hb : 0 ≤ b) (h1 : a < 18446744073709551616) (h2 : b < 18446744073709551616) (w : World) :
    Calls Tryd.prog 7 #[.int .u64 a, .int .u64 b] w fun e w' => e = .returned (.tuple #[.int .u64 (addV a b), .int .i64 (addE a b)]) ∧ w = w' := by
  have hx := fun w => ext_add a b ha hb w
  by_cases h : a + b < 18446744073709551616
  · have e1 : (a + b) % 18446744073709551616 = a + b := by omega
    have e2 : (a + b) / 18446744073709551616 = 0 := by omega
    have e3 : addV a b = a + b := by unfold addV; rw [if_pos h]
    have e4 : addE a b = 0 := by unfold addE; rw [if_pos h]
    rw [e1, e2] at hx
    rw [e3, e4]
    clear e1 e2 e3 e4
    go_enter Tryd.func7, Tryd.ntmps7
    go_wp2_with (go_at_call 27; refine (inRange_zero _ _).mono ?_; rintro e w' ⟨rfl, rfl⟩)
    go_ret2
    exact ⟨rfl, rfl⟩
  · have e2 : (a + b) / 18446744073709551616 = 1 := by omega
    have e3 : addV a b = 0 := by unfold addV; rw [if_neg h]
    have e4 : addE a b = 10 := by unfold addE; rw [if_neg h]
    rw [e2] at hx
    rw [e3, e4]
    clear e2 e3 e4
    go_enter Tryd.func7, Tryd.ntmps7
    go_wp2_with (go_at_call 27; refine (inRange_more _ _ (by decide) _).mono ?_; rintro e w' ⟨rfl, rfl⟩)
    go_ret2
    exact ⟨rfl, rfl⟩
theorem sub_ok (a b : Int) (ha : 0 ≤ a) (hb : 0 ≤ b) (h1 : a < 18446744073709551616) (h2 : b < 18446744073709551616) (w : World) :
    Calls Tryd.prog 9 #[.int .u64 a, .int .u64 b] w fun e w' => e = .returned (.tuple #[.int .u64 (subV a b), .int .i64 (subE a b)]) ∧ w = w' := by
  have hx := fun w => ext_sub a b ha hb h1 h2 w
  by_cases h : b ≤ a
  · have e1 : (a - b) % 18446744073709551616 = a - b := by omega
    have e3 : subV a b = a - b := by unfold subV; rw [if_pos h]
    have e4 : subE a b = 0 := by unfold subE; rw [if_pos h]
    rw [e1, if_neg (by omega)] at hx
    rw [e3, e4]
    clear e1 e3 e4
    go_enter Tryd.func9, Tryd.ntmps9
    go_wp2_with (go_at_call 27; refine (inRange_zero _ _).mono ?_; rintro e w' ⟨rfl, rfl⟩)
    go_ret2
    exact ⟨rfl, rfl⟩
  · have e3 : subV a b = 0 := by unfold subV; rw [if_neg h]
    have e4 : subE a b = 10 := by unfold subE; rw [if_neg h]
    rw [if_pos (by omega)] at hx
    rw [e3, e4]
    clear e3 e4
    go_enter Tryd.func9, Tryd.ntmps9
    go_wp2_with (go_at_call 27; refine (inRange_more _ _ (by decide) _).mono ?_; rintro e w' ⟨rfl, rfl⟩)
    go_ret2
    exact ⟨rfl, rfl⟩

/-! ### Products -/
theorem wrapN (a : Nat) (ha : a < 18446744073709551616) : IntKind.u64.wrap (a : Int) = (a : Int) := by rw [IntKind.wrap_u64]; omega
theorem and_wrap (z : Int) : bits .and .u64 (z % 18446744073709551616) 4294967295 = z % 18446744073709551616 % 4294967296 :=
  and_low32 _ (by omega) (by omega)
theorem mul64_any (x y : Int) (x0 : 0 ≤ x) (hx : x < 18446744073709551616) (y0 : 0 ≤ y) (hy : y < 18446744073709551616) (w : World) :
    Calls Tryd.prog 29 #[.int .u64 x, .int .u64 y] w fun e w' => e = .returned (.tuple #[.int .u64 (x * y / 18446744073709551616), .int .u64 (x * y % 18446744073709551616)]) ∧ w = w' := by
  have m1 := and_low32 x x0 hx
  have m2 := and_low32 y y0 hy
  have hh := Lib.hid (mul64_arith x y x0 hx y0 hy)
  go_enter Tryd.func29, Tryd.ntmps29
  go_wp2
  simp only [and_wrap, IntKind.wrap_u64]
  rw [hh.out]
  go_ret2
  exact ⟨rfl, rfl⟩

theorem mul_ok (a b : Int) (ha : 0 ≤ a) (hb : 0 ≤ b) (h1 : a < 18446744073709551616) (h2 : b < 18446744073709551616) (w : World) :
    Calls Tryd.prog 11 #[.int .u64 a, .int .u64 b] w fun e w' => e = .returned (.tuple #[.int .u64 (mulV a b), .int .i64 (mulE a b)]) ∧ w = w' := by
  obtain ⟨x, rfl⟩ := Int.eq_ofNat_of_zero_le ha
  obtain ⟨y, rfl⟩ := Int.eq_ofNat_of_zero_le hb
  have hx : x < 18446744073709551616 := by omega
  have hy : y < 18446744073709551616 := by omega
  clear ha hb h1 h2
  by_cases h : x * y < 18446744073709551616
  · have e3 : mulV x y = (x * y : Nat) := by unfold mulV; rw [← Int.natCast_mul, if_pos (by omega)]
    have e4 : mulE x y = 0 := by unfold mulE; rw [← Int.natCast_mul, if_pos (by omega)]
    have hm := fun w => mul64_any (x : Int) (y : Int) (by omega) (by omega) (by omega) (by omega) w
    rw [← Int.natCast_mul, show ((x * y : Nat) : Int) / 18446744073709551616 = 0 by omega, show ((x * y : Nat) : Int) % 18446744073709551616 = ((x * y : Nat) : Int) by omega] at hm
    rw [e3, e4]
    clear e3 e4
    have Hm := Lib.hid hm
    clear hm
    go_enter Tryd.func11, Tryd.ntmps11
    go_wp2_with (first | (go_at_call 29; refine (Hm.out _).mono ?_; rintro e w' ⟨rfl, rfl⟩) | (go_at_call 27; refine (inRange_zero _ _).mono ?_; rintro e w' ⟨rfl, rfl⟩))
    go_ret2
    exact ⟨rfl, rfl⟩
  · have e3 : mulV x y = 0 := by unfold mulV; rw [← Int.natCast_mul, if_neg (by omega)]
    have e4 : mulE x y = 10 := by unfold mulE; rw [← Int.natCast_mul, if_neg (by omega)]
    have hm := fun w => mul64_any (x : Int) (y : Int) (by omega) (by omega) (by omega) (by omega) w
    rw [← Int.natCast_mul] at hm
    rw [e3, e4]
    clear e3 e4
    have E2 : ((x * y : Nat) : Int) / 18446744073709551616 ≠ 0 := by omega
    have Hm := Lib.hid hm
    have H2 := Lib.hid E2
    clear hm E2 h
    generalize ((x * y : Nat) : Int) / 18446744073709551616 = q at *
    generalize ((x * y : Nat) : Int) % 18446744073709551616 = r at *
    go_enter Tryd.func11, Tryd.ntmps11
    go_wp2_with (first | (go_at_call 29; refine (Hm.out _).mono ?_; rintro e w' ⟨rfl, rfl⟩) | (go_at_call 27; refine (inRange_more _ _ H2.out _).mono ?_; rintro e w' ⟨rfl, rfl⟩))
    go_ret2
    exact ⟨rfl, rfl⟩
end Go.Proofs.YtmpbidilonapjaaDoor.Wd
