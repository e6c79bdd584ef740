/-
  The document's Add, Sub and Mul; the walks of the laws WordNumbers and WordPieces.
-/
import Derived.Test.YtmpbidilonapjaaDoorWordAlive
namespace Go.Proofs.YtmpbidilonapjaaDoor.Wd
open Go.RowKit

theorem addRef_any (a b : Int) (ha : 0 ≤ a) (hb : 0 ≤ b) (h1 : a < 18446744073709551616) (h2 : b < 18446744073709551616) (w : World) :
    Calls Tryd.prog 8 #[.int .u64 a, .int .u64 b] w fun e w' => e = .returned (.tuple #[.int .u64 (addV a b), .int .i64 (addE a b)]) ∧ w = w' := by
  by_cases h : a + b < 18446744073709551616
  · have e3 : addV a b = a + b := by unfold addV; rw [if_pos h]
    have e4 : addE a b = 0 := by unfold addE; rw [if_pos h]
    rw [e3, e4]
    clear e3 e4
    have ht : decide (18446744073709551615 - a < b) = false := decide_eq_false (by omega)
    go_enter Tryd.func8, Tryd.ntmps8
    go_wp2
    go_ret2
    exact ⟨rfl, rfl⟩
  · have e3 : addV a b = 0 := by unfold addV; rw [if_neg h]
    have e4 : addE a b = 10 := by unfold addE; rw [if_neg h]
    rw [e3, e4]
    clear e3 e4
    have ht : decide (18446744073709551615 - a < b) = true := decide_eq_true (by omega)
    go_enter Tryd.func8, Tryd.ntmps8
    go_wp2
    go_ret2
    exact ⟨rfl, rfl⟩
theorem subRef_any (a b : Int) (ha : 0 ≤ a) (hb : 0 ≤ b) (h1 : a < 18446744073709551616) (h2 : b < 18446744073709551616) (w : World) :
    Calls Tryd.prog 10 #[.int .u64 a, .int .u64 b] w fun e w' => e = .returned (.tuple #[.int .u64 (subV a b), .int .i64 (subE a b)]) ∧ w = w' := by
  by_cases h : b ≤ a
  · have e3 : subV a b = a - b := by unfold subV; rw [if_pos h]
    have e4 : subE a b = 0 := by unfold subE; rw [if_pos h]
    rw [e3, e4]
    clear e3 e4
    go_enter Tryd.func10, Tryd.ntmps10
    go_wp2
    go_ret2
    exact ⟨rfl, rfl⟩
  · have e3 : subV a b = 0 := by unfold subV; rw [if_neg h]
    have e4 : subE a b = 10 := by unfold subE; rw [if_neg h]
    rw [e3, e4]
    clear e3 e4
    go_enter Tryd.func10, Tryd.ntmps10
    go_wp2
    go_ret2
    exact ⟨rfl, rfl⟩
theorem mulRef_any (a b : Int) (ha : 0 ≤ a) (hb : 0 ≤ b) (h1 : a < 18446744073709551616) (w : World) :
    Calls Tryd.prog 12 #[.int .u64 a, .int .u64 b] w fun e w' => e = .returned (.tuple #[.int .u64 (mulV a b), .int .i64 (mulE a b)]) ∧ w = w' := by
  have h0 : 0 ≤ a * b := Int.mul_nonneg ha hb
  by_cases h : a * b < 18446744073709551616
  · have e3 : mulV a b = a * b := by unfold mulV; rw [if_pos h]
    have e4 : mulE a b = 0 := by unfold mulE; rw [if_pos h]
    rw [e3, e4]
    clear e3 e4
    by_cases hp : 0 < a
    · have hd : decide (18446744073709551615 / a < b) = false := by
        refine decide_eq_false fun hlt => ?_
        have := (Int.ediv_lt_iff_lt_mul hp).1 hlt
        rw [Int.mul_comm] at this
        omega
      have hw : IntKind.u64.wrap (a * b) = a * b := by rw [IntKind.wrap_u64]; omega
      have Hw := Lib.hid hw
      clear hw h h0
      go_enter Tryd.func12, Tryd.ntmps12
      go_wp2
      rw [Hw.out]
      go_ret2
      exact ⟨rfl, rfl⟩
    · obtain rfl : a = 0 := by omega
      rw [Int.zero_mul]
      clear h h0
      go_enter Tryd.func12, Tryd.ntmps12
      go_wp2
      go_ret2
      exact ⟨rfl, rfl⟩
  · have e3 : mulV a b = 0 := by unfold mulV; rw [if_neg h]
    have e4 : mulE a b = 10 := by unfold mulE; rw [if_neg h]
    rw [e3, e4]
    clear e3 e4
    have hp : 0 < a := by
      rcases Int.lt_or_eq_of_le ha with h3 | h3
      · exact h3
      · subst h3; rw [Int.zero_mul] at h; omega
    have hd : decide (18446744073709551615 / a < b) = true := by
      refine decide_eq_true ((Int.ediv_lt_iff_lt_mul hp).2 ?_)
      rw [Int.mul_comm]
      omega
    clear h h0
    go_enter Tryd.func12, Tryd.ntmps12
    go_wp2
    go_ret2
    exact ⟨rfl, rfl⟩

theorem numbers_walk (a b n : Int) (ha : 0 ≤ a) (hb : 0 ≤ b) (h1 : a < 18446744073709551616) (h2 : b < 18446744073709551616) (n1 : -9223372036854775808 ≤ n) (n2 : n ≤ 9223372036854775807) (w : World) (ht : Table w) :
    Calls Tryd.prog 3 #[.int .u64 a, .int .u64 b, .int .i64 n] w fun e w' => e = .returned (.bool true) ∧ ∃ k, w' = w.drewN k := by
  have HA := Lib.hid alive_any
  go_enter Tryd.func3, Tryd.ntmps3
  go_wp2_with fail
  refine (add_ok a b ha hb h1 h2 _).mono ?_; rintro e w' ⟨rfl, rfl⟩
  go_wp2_with fail
  refine (addRef_any a b ha hb h1 h2 _).mono ?_; rintro e w' ⟨rfl, rfl⟩
  go_wp2_with fail
  refine (sub_ok a b ha hb h1 h2 _).mono ?_; rintro e w' ⟨rfl, rfl⟩
  go_wp2_with fail
  refine (subRef_any a b ha hb h1 h2 _).mono ?_; rintro e w' ⟨rfl, rfl⟩
  go_wp2_with fail
  refine (mul_ok a b ha hb h1 h2 _).mono ?_; rintro e w' ⟨rfl, rfl⟩
  go_wp2_with fail
  refine (mulRef_any a b ha hb h1 _).mono ?_; rintro e w' ⟨rfl, rfl⟩
  go_wp2_with fail
  refine (up_any n n1 n2 _).mono ?_; rintro e w' ⟨rfl, rfl⟩
  go_wp2_with fail
  refine (upRef_any n n1 n2 _).mono ?_; rintro e w' ⟨rfl, rfl⟩
  go_wp2_with fail
  refine (down_any n n1 n2 _).mono ?_; rintro e w' ⟨rfl, rfl⟩
  go_wp2_with fail
  refine (downRef_any n n1 n2 _).mono ?_; rintro e w' ⟨rfl, rfl⟩
  go_wp2_with fail
  refine (HA.out _ ht).mono ?_; rintro e w' ⟨rfl, k, rfl⟩
  go_wp2_with fail
  go_ret
  exact ⟨rfl, _, rfl⟩

theorem pieces_walk (v p n x : Int) (v0 : 0 ≤ v) (v1 : v < 18446744073709551616) (p1 : -9223372036854775808 ≤ p) (p2 : p ≤ 9223372036854775807) (n1 : -9223372036854775808 ≤ n) (n2 : n ≤ 9223372036854775807) (x0 : 0 ≤ x) (x1 : x < 18446744073709551616) (w : World) (ht : Table w) :
    Calls Tryd.prog 4 #[.int .u64 v, .int .i64 p, .int .i64 n, .int .u64 x] w fun e w' => e = .returned (.bool true) ∧ ∃ k, w' = w.drewN k := by
  have HA := Lib.hid alive_any
  go_enter Tryd.func4, Tryd.ntmps4
  go_wp2_with fail
  refine (bits_any v p n v0 v1 p1 p2 n1 n2 _).mono ?_; rintro e w' ⟨rfl, k1, rfl⟩
  go_wp2_with fail
  refine (bitsRef_any v p n v0 n1 n2 _).mono ?_; rintro e w' ⟨rfl, rfl⟩
  go_wp2_with fail
  refine (lay_any v p n x v0 v1 x0 x1 n1 n2 _).mono ?_; rintro e w' ⟨rfl, k2, rfl⟩
  go_wp2_with fail
  refine (layRef_any v p n x v0 v1 x0 x1 n1 n2 _).mono ?_; rintro e w' ⟨rfl, rfl⟩
  go_wp2_with fail
  refine (ones_any v v0 v1 _).mono ?_; rintro e w' ⟨rfl, k3, rfl⟩
  go_wp2_with fail
  refine (onesRef_any v v0 _).mono ?_; rintro e w' ⟨rfl, rfl⟩
  go_wp2_with fail
  refine (low_any v v0 v1 _ (ht.drewN _)).mono ?_; rintro e w' ⟨rfl, rfl⟩
  go_wp2_with fail
  refine (lowRef_any v v0 _).mono ?_; rintro e w' ⟨rfl, rfl⟩
  go_wp2_with fail
  refine (HA.out _ (ht.drewN _)).mono ?_; rintro e w' ⟨rfl, k, rfl⟩
  go_wp2_with fail
  go_ret
  exact ⟨rfl, _, rfl⟩
end Go.Proofs.YtmpbidilonapjaaDoor.Wd
