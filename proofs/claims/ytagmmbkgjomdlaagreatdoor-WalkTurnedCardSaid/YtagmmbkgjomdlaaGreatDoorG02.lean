/-
  Several texts in one: WordMath, BtWord, BtLen, BtMath.
-/
import Derived.Test.YtagmmbkgjomdlaaGreatDoorProg
import Derived.WalkKit
import Derived.RegionTactic
import Derived.Outline
import Derived.IntWalk
import Derived.Deep.QuietTactic
import Derived.BigQuiet
import Derived.Lib.Hide
import Derived.Laws.Externs
import Derived.Laws.MathBits
import Derived.Laws.BitsAllLaws
import Derived.Lib.Strings
import Derived.Lib.Slices
import Derived.Lib.Small
import Derived.Lib.Walk
import Derived.Lib.BitFns
/-
  Plain facts on numbers below 2^64, their fields of bits, how many of their bits are 1 and which is the lowest one. No program is named here.
-/
namespace Go.Proofs.YtagmmbkgjomdlaaGreatDoor.Wd

def big : Nat := 18446744073709551616
/-! ### The answers, as functions of numbers -/
def addE (a b : Int) : Int := if a + b < 18446744073709551616 then 0 else 10
/-- May a field be there? -/
def okB (at' n : Int) : Bool := decide (1 ≤ n) && decide (n ≤ 64) && decide (0 ≤ at') && decide (at' ≤ 64 - n)
/-- The field of n bits from the bit p on. -/
def fld (v p n : Nat) : Nat := v / 2 ^ p % 2 ^ n
/-- The word v with x as that field: a number, no machine word in sight. -/
def put (v p n x : Nat) : Nat := (v &&& (18446744073709551615 - fld v p n * 2 ^ p)) ||| (x * 2 ^ p)
def bitsV (v at' n : Int) : Int := if okB at' n then (fld v.toNat at'.toNat n.toNat : Nat) else 0
def bitsE (at' n : Int) : Int := if okB at' n then 0 else 2
def layB (at' n x : Int) : Bool := okB at' n && decide (x.toNat < 2 ^ n.toNat)
def layV (v at' n x : Int) : Int := if layB at' n x then (put v.toNat at'.toNat n.toNat x.toNat : Nat) else 0
def layE (at' n x : Int) : Int := if layB at' n x then 0 else 2
/-- How many of the lowest k bits are 1. -/
def ones (v : Nat) : Nat → Nat
  | 0 => 0
  | k + 1 => ones v k + v / 2 ^ k % 2
/-- The lowest bit from i on that is 1, of k bits; i + k if there is none. -/
def lowFrom (v i : Nat) : Nat → Nat
  | 0 => i
  | k + 1 => if v / 2 ^ i % 2 = 1 then i else lowFrom v (i + 1) k
def lowV (v : Int) : Int := (lowFrom v.toNat 0 64 : Nat)

/-! ### Bits -/
theorem bit_tb (v i : Nat) : v / 2 ^ i % 2 = (v.testBit i).toNat := by
  rw [Nat.testBit_eq_decide_div_mod_eq]
  by_cases h : v / 2 ^ i % 2 = 1
  · simp [h]
  · have : v / 2 ^ i % 2 = 0 := by omega
    simp [this]
theorem fld_tb (v p n i : Nat) : (fld v p n).testBit i = (decide (i < n) && v.testBit (p + i)) := by
  unfold fld
  rw [Nat.testBit_mod_two_pow, ← Nat.shiftRight_eq_div_pow, Nat.testBit_shiftRight]
theorem fld_lt (v p n : Nat) : fld v p n < 2 ^ n := Nat.mod_lt _ (Nat.two_pow_pos n)
theorem shl_tb (x p i : Nat) : (x * 2 ^ p).testBit i = (decide (p ≤ i) && x.testBit (i - p)) := by
  rw [← Nat.shiftLeft_eq, Nat.testBit_shiftLeft]
theorem hole_tb (v p n i : Nat) (h : p + n ≤ 64) : (18446744073709551615 - fld v p n * 2 ^ p).testBit i = (decide (i < 64) && !(decide (p ≤ i) && (decide (i - p < n) && v.testBit (p + (i - p))))) := by
  have hl : fld v p n * 2 ^ p < 2 ^ 64 := by
    calc fld v p n * 2 ^ p < 2 ^ n * 2 ^ p := Nat.mul_lt_mul_of_pos_right (fld_lt v p n) (Nat.two_pow_pos p)
      _ = 2 ^ (n + p) := (Nat.pow_add 2 n p).symm
      _ ≤ 2 ^ 64 := Nat.pow_le_pow_right (by decide) (by omega)
  have e : 18446744073709551615 - fld v p n * 2 ^ p = 2 ^ 64 - (fld v p n * 2 ^ p + 1) := by omega
  rw [e, Nat.testBit_two_pow_sub_succ hl, shl_tb, fld_tb]
/-- Which bits a word has behind a Lay. -/
theorem put_tb (v p n x i : Nat) (hv : v < 18446744073709551616) (h : p + n ≤ 64) (hx : x < 2 ^ n) :
    (put v p n x).testBit i = if p ≤ i ∧ i < p + n then x.testBit (i - p) else v.testBit i := by
  unfold put
  rw [Nat.testBit_or, Nat.testBit_and, hole_tb v p n i h, shl_tb]
  by_cases h1 : p ≤ i
  · by_cases h2 : i < p + n
    · have e : p + (i - p) = i := by omega
      have h3 : i - p < n := by omega
      have h4 : i < 64 := by omega
      rw [if_pos ⟨h1, h2⟩]
      simp [h1, h3, h4, e]
    · have h3 : ¬ i - p < n := by omega
      have hx0 : x.testBit (i - p) = false := Nat.testBit_lt_two_pow (Nat.lt_of_lt_of_le hx (Nat.pow_le_pow_right (by decide) (by omega)))
      rw [if_neg (by omega)]
      simp [h1, h3, hx0]
      intro hvi
      by_cases h4 : i < 64
      · exact h4
      · have : v.testBit i = false := Nat.testBit_lt_two_pow (Nat.lt_of_lt_of_le hv (by rw [show (18446744073709551616 : Nat) = 2 ^ 64 from rfl]; exact Nat.pow_le_pow_right (by decide) (by omega)))
        rw [this] at hvi; cases hvi
  · rw [if_neg (by omega)]
    have h4 : i < 64 := by omega
    simp [h1, h4]
theorem put_lt (v p n x : Nat) (hv : v < 18446744073709551616) (h : p + n ≤ 64) (hx : x < 2 ^ n) : put v p n x < 18446744073709551616 := by
  show _ < 2 ^ 64
  apply Nat.lt_pow_two_of_testBit
  intro i hi
  rw [put_tb v p n x i hv h hx, if_neg (by omega)]
  exact Nat.testBit_lt_two_pow (Nat.lt_of_lt_of_le (show v < 2 ^ 64 from hv) (Nat.pow_le_pow_right (by decide) hi))
theorem fld_all (x n : Nat) (hx : x < 2 ^ n) : fld x 0 n = x := by unfold fld; rw [Nat.pow_zero, Nat.div_one]; exact Nat.mod_eq_of_lt hx
theorem fld_same (x n : Nat) : fld x 0 n = x ↔ x < 2 ^ n := by
  unfold fld
  rw [Nat.pow_zero, Nat.div_one]
  exact ⟨fun h => by rw [← h]; exact Nat.mod_lt _ (Nat.two_pow_pos n), fun h => Nat.mod_eq_of_lt h⟩
theorem field_lt (y n p : Nat) (hy : y < 2 ^ n) (h : p + n ≤ 64) : y * 2 ^ p < 18446744073709551616 := by
  show _ < 2 ^ 64
  calc y * 2 ^ p < 2 ^ n * 2 ^ p := Nat.mul_lt_mul_of_pos_right hy (Nat.two_pow_pos p)
    _ = 2 ^ (n + p) := (Nat.pow_add 2 n p).symm
    _ ≤ 2 ^ 64 := Nat.pow_le_pow_right (by decide) (by omega)
/-! ### How many bits are 1 -/
theorem ones_top (x n : Nat) (hx : x < 2 ^ n) (k : Nat) (h : n ≤ k) : ones x k = ones x n := by
  induction k with
  | zero => rw [show n = 0 by omega]
  | succ k ih =>
    rcases Nat.lt_or_ge n (k + 1) with h1 | h1
    · have s : ones x (k + 1) = ones x k + x / 2 ^ k % 2 := rfl
      have : x / 2 ^ k = 0 := Nat.div_eq_of_lt (Nat.lt_of_lt_of_le hx (Nat.pow_le_pow_right (by decide) (by omega)))
      rw [s, this, ih (by omega), Nat.zero_mod, Nat.add_zero]
    · rw [show n = k + 1 by omega]
/-! ### The lowest bit -/
theorem low_iff (v i k t : Nat) (h1 : i ≤ t) (h2 : t < i + k) (h3 : v / 2 ^ t % 2 = 1) (h4 : ∀ j, j < t → v / 2 ^ j % 2 = 0) : lowFrom v i k = t := by
  induction k generalizing i with
  | zero => omega
  | succ k ih =>
    unfold lowFrom
    by_cases e : i = t
    · subst e; rw [if_pos h3]
    · rw [if_neg (by rw [h4 i (by omega)]; decide)]
      exact ih (i + 1) (by omega) (by omega)
theorem low_none (i k : Nat) : lowFrom 0 i k = i + k := by
  induction k generalizing i with
  | zero => rfl
  | succ k ih => unfold lowFrom; rw [if_neg (by simp), ih]; omega
theorem low_le (v i k : Nat) : lowFrom v i k ≤ i + k := by
  induction k generalizing i with
  | zero => exact Nat.le_refl _
  | succ k ih =>
    unfold lowFrom
    by_cases h : v / 2 ^ i % 2 = 1
    · rw [if_pos h]; omega
    · rw [if_neg h]; have := ih (i + 1); omega
theorem low_zero : lowV 0 = 64 := by show ((lowFrom 0 0 64 : Nat) : Int) = 64; rw [low_none]; rfl
/-- x has a lowest bit t; x and its negative have just that bit in common. -/
theorem low_and (k x : Nat) (h0 : 0 < x) (hx : x < 2 ^ k) : ∃ t, t < k ∧ x &&& (2 ^ k - x) = 2 ^ t ∧ x / 2 ^ t % 2 = 1 ∧ ∀ j, j < t → x / 2 ^ j % 2 = 0 := by
  induction k generalizing x with
  | zero => omega
  | succ k ih =>
    have hp := Nat.two_pow_pos k
    rw [Nat.pow_succ] at hx
    by_cases ho : x % 2 = 1
    · refine ⟨0, by omega, ?_, by simpa using ho, fun j hj => by omega⟩
      apply Nat.eq_of_testBit_eq
      intro i
      have e : 2 ^ (k + 1) - x = 2 ^ (k + 1) - ((x - 1) + 1) := by omega
      rw [Nat.testBit_and, e, Nat.testBit_two_pow_sub_succ (by rw [Nat.pow_succ]; omega)]
      cases i with
      | zero =>
        have : (x - 1) % 2 = 0 := by omega
        simp [Nat.testBit_zero, ho, this]
      | succ i =>
        rw [Nat.testBit_succ, Nat.testBit_succ, show (x - 1) / 2 = x / 2 by omega]
        rw [show (2 ^ 0 : Nat) = 1 from rfl, Nat.testBit_succ, show 1 / 2 = 0 from rfl, Nat.zero_testBit]
        cases (x / 2).testBit i <;> simp
    · obtain ⟨t, ht, h1, h2, h3⟩ := ih (x / 2) (by omega) (by omega)
      refine ⟨t + 1, by omega, ?_, ?_, ?_⟩
      · have ex : x = 2 * (x / 2) := by omega
        have e2 : 2 ^ (k + 1) - x = 2 * (2 ^ k - x / 2) := by rw [Nat.pow_succ]; omega
        rw [e2]
        apply Nat.eq_of_testBit_eq
        intro i
        cases i with
        | zero =>
          rw [Nat.testBit_and, Nat.pow_succ]
          simp [Nat.testBit_zero]
        | succ i =>
          rw [Nat.testBit_and, Nat.testBit_succ, Nat.testBit_succ, Nat.testBit_succ, Nat.pow_succ, Nat.mul_div_cancel_left _ (by decide : 0 < 2), Nat.mul_div_cancel _ (by decide : 0 < 2), ← h1, Nat.testBit_and]
      · rw [Nat.pow_succ, Nat.mul_comm, ← Nat.div_div_eq_div_mul]; exact h2
      · intro j hj
        cases j with
        | zero => simp; omega
        | succ j => rw [Nat.pow_succ, Nat.mul_comm, ← Nat.div_div_eq_div_mul]; exact h3 j (by omega)

def tab : List Int := [0, 1, 56, 2, 57, 49, 28, 3, 61, 58, 42, 50, 38, 29, 17, 4, 62, 47, 59, 36, 45, 43, 51, 22, 53, 39, 33, 30, 24, 18, 12, 5, 63, 55, 48, 27, 60, 41, 37, 16, 46, 35, 44, 21, 52, 32, 23, 11, 54, 26, 40, 15, 34, 20, 31, 10, 25, 14, 19, 9, 13, 8, 7, 6]
def place (m : Nat) : Nat := m * 285870213051353865 % 18446744073709551616 / 2 ^ 58
theorem place_tab : ∀ t : Fin 64, place (2 ^ t.val) < 64 ∧ tab.getD (place (2 ^ t.val)) 0 = (t.val : Int) := by decide +kernel
theorem low_tab (x : Nat) (h0 : 0 < x) (hx : x < 18446744073709551616) : place (x &&& (18446744073709551616 - x)) < 64 ∧ tab.getD (place (x &&& (18446744073709551616 - x))) 0 = (lowFrom x 0 64 : Nat) := by
  obtain ⟨t, ht, h1, h2, h3⟩ := low_and 64 x h0 hx
  have := place_tab ⟨t, ht⟩
  rw [show (18446744073709551616 : Nat) = 2 ^ 64 from rfl, h1, low_iff x 0 64 t (by omega) (by omega) h2 h3]
  exact this
theorem low_place (v : Nat) (h0 : 0 < v) (hv : v < 18446744073709551616) : ∃ m L : Nat, m < 64 ∧ L ≤ 64 ∧ tab.getD m 0 = (L : Int) ∧ lowV v = L ∧ place (v &&& (18446744073709551616 - v)) = m := by
  obtain ⟨l1, l2⟩ := low_tab v h0 hv
  refine ⟨_, _, l1, low_le v 0 64, l2, ?_, rfl⟩
  unfold lowV
  rw [Int.toNat_natCast]
end Go.Proofs.YtagmmbkgjomdlaaGreatDoor.Wd

/-
  The contracts of the functions of package word that package bits calls, and of math/bits.Len64: each is what a function of numbers says.
-/
namespace Go.Proofs.YtagmmbkgjomdlaaGreatDoor.Wd
open Go.RowKit

theorem wrapN (a : Nat) (ha : a < 18446744073709551616) : IntKind.u64.wrap (a : Int) = (a : Int) := by rw [IntKind.wrap_u64]; omega
theorem isField_any (p n : Int) (h1 : -9223372036854775808 ≤ n) (h2 : n ≤ 9223372036854775807) (w : World) :
    Calls Tryz.prog 138 #[.int .i64 p, .int .i64 n] w fun e w' => e = .returned (.bool (okB p n)) ∧ w = w' := by
  by_cases c1 : 1 ≤ n
  · by_cases c2 : 0 ≤ p
    · by_cases c3 : p ≤ 64 - n
      · have e : okB p n = true := by unfold okB; simp [c1, c2, c3]; omega
        rw [e]; clear e
        go_enter Tryz.func138, Tryz.ntmps138
        go_wp2
        go_ret
        exact ⟨rfl, rfl⟩
      · have e : okB p n = false := by unfold okB; simp [c1, c2, c3]
        rw [e]; clear e
        go_enter Tryz.func138, Tryz.ntmps138
        go_wp2
        go_ret
        exact ⟨rfl, rfl⟩
    · have e : okB p n = false := by unfold okB; simp [c1, c2]
      rw [e]; clear e
      go_enter Tryz.func138, Tryz.ntmps138
      go_wp2
      go_ret
      exact ⟨rfl, rfl⟩
  · have e : okB p n = false := by unfold okB; simp [c1]
    rw [e]; clear e
    go_enter Tryz.func138, Tryz.ntmps138
    go_wp2
    go_ret
    exact ⟨rfl, rfl⟩
theorem two_pow_lt (n : Nat) (hn : n < 64) : (2 : Nat) ^ n < 18446744073709551616 := Nat.pow_lt_pow_right (by decide) hn
theorem cast_two (n : Nat) : (2 : Int) ^ n = ((2 ^ n : Nat) : Int) := by rw [Int.natCast_pow]; rfl
theorem mask_num (n : Nat) (hn : n ≤ 64) : IntKind.u64.wrap (IntKind.u64.wrap ((2 : Int) ^ n) - 1) = ((2 ^ n - 1 : Nat) : Int) := by
  rw [IntKind.wrap_u64, IntKind.wrap_u64, cast_two]
  by_cases h : n = 64
  · subst h; decide
  · have := two_pow_lt n (by omega)
    have hp := Nat.two_pow_pos n
    omega
theorem cut_num (v p n : Nat) (hv : v < 18446744073709551616) (hn : n ≤ 64) : bits .and .u64 ((v : Int) / 2 ^ p) (IntKind.u64.wrap (IntKind.u64.wrap ((2 : Int) ^ n) - 1)) = (fld v p n : Nat) := by
  have hm : 2 ^ n - 1 < 18446744073709551616 := by
    by_cases h : n = 64
    · subst h; decide
    · have := two_pow_lt n (by omega)
      omega
  have hd : v / 2 ^ p < 18446744073709551616 := Nat.lt_of_le_of_lt (Nat.div_le_self _ _) hv
  rw [mask_num n hn, cast_two, ← Int.natCast_ediv, u64_and_nat _ _ hd hm, Nat.and_two_pow_sub_one_eq_mod]
  rfl
theorem cut_nat (v p n : Nat) (hv : v < 18446744073709551616) (hp : p < 64) (hn : n ≤ 64) (w : World) :
    Calls Tryz.prog 139 #[.int .u64 v, .int .i64 p, .int .i64 n] w fun e w' => e = .returned (.int .u64 (fld v p n : Nat)) ∧ ∃ k, w' = w.drewN k := by
  have hc := Lib.hid (cut_num v p n hv hn)
  go_enter Tryz.func139, Tryz.ntmps139
  go_wp2
  go_quiet (fail)
  rw [hc.out]
  go_wp2
  go_ret
  exact ⟨rfl, _, rfl⟩
theorem cut_any (v p n : Int) (v0 : 0 ≤ v) (hv : v < 18446744073709551616) (p0 : 0 ≤ p) (hp : p < 64) (n0 : 0 ≤ n) (hn : n ≤ 64) (w : World) :
    Calls Tryz.prog 139 #[.int .u64 v, .int .i64 p, .int .i64 n] w fun e w' => e = .returned (.int .u64 (fld v.toNat p.toNat n.toNat : Nat)) ∧ ∃ k, w' = w.drewN k := by
  have h := cut_nat v.toNat p.toNat n.toNat (by omega) (by omega) (by omega) w
  rw [Int.toNat_of_nonneg v0, Int.toNat_of_nonneg p0, Int.toNat_of_nonneg n0] at h
  exact h
theorem okB_iff (p n : Int) : okB p n = true ↔ 1 ≤ n ∧ n ≤ 64 ∧ 0 ≤ p ∧ p ≤ 64 - n := by unfold okB; simp [and_assoc]
theorem bits_any (v p n : Int) (v0 : 0 ≤ v) (hv : v < 18446744073709551616) (p1 : -9223372036854775808 ≤ p) (p2 : p ≤ 9223372036854775807) (h1 : -9223372036854775808 ≤ n) (h2 : n ≤ 9223372036854775807) (w : World) :
    Calls Tryz.prog 107 #[.int .u64 v, .int .i64 p, .int .i64 n] w fun e w' => e = .returned (.tuple #[.int .u64 (bitsV v p n), .int .i64 (bitsE p n)]) ∧ ∃ k, w' = w.drewN k := by
  have hf := isField_any p n h1 h2
  by_cases h : okB p n = true
  · have e1 : bitsV v p n = (fld v.toNat p.toNat n.toNat : Nat) := by unfold bitsV; rw [if_pos h]
    have e2 : bitsE p n = 0 := by unfold bitsE; rw [if_pos h]
    rw [e1, e2]; clear e1 e2
    simp only [h] at hf
    obtain ⟨a1, a2, a3, a4⟩ := (okB_iff p n).1 h
    have hc := cut_any v p n v0 hv a3 (by omega) (by omega) a2
    have Hf := Lib.hid hf
    have Hc := Lib.hid hc
    clear hf hc h
    generalize fld v.toNat p.toNat n.toNat = q at *
    go_enter Tryz.func107, Tryz.ntmps107
    go_wp2_with (first | (go_at_call 138; refine (Hf.out _).mono ?_; rintro e w' ⟨rfl, rfl⟩) | (go_at_call 139; refine (Hc.out _).mono ?_; rintro e w' ⟨rfl, k, rfl⟩))
    go_ret2
    exact ⟨rfl, _, rfl⟩
  · have e1 : bitsV v p n = 0 := by unfold bitsV; rw [if_neg h]
    have e2 : bitsE p n = 2 := by unfold bitsE; rw [if_neg h]
    rw [e1, e2]; clear e1 e2
    simp only [h] at hf
    have Hf := Lib.hid hf
    clear hf h
    go_enter Tryz.func107, Tryz.ntmps107
    go_wp2_with (go_at_call 138; refine (Hf.out _).mono ?_; rintro e w' ⟨rfl, rfl⟩)
    go_ret2
    exact ⟨rfl, 0, rfl⟩
theorem layB_iff (p n x : Int) : layB p n x = true ↔ okB p n = true ∧ x.toNat < 2 ^ n.toNat := by unfold layB; simp
theorem put_num (v p n x : Nat) (hv : v < 18446744073709551616) (hp : p + n ≤ 64) (hx : x < 2 ^ n) :
    bits .or .u64 (bits .andNot .u64 (v : Int) (IntKind.u64.wrap (((fld v p n : Nat) : Int) * 2 ^ p))) (IntKind.u64.wrap ((x : Int) * 2 ^ p)) = (put v p n x : Nat) := by
  have h1 := field_lt _ n p (fld_lt v p n) hp
  have h2 := field_lt x n p hx hp
  rw [cast_two, ← Int.natCast_mul, ← Int.natCast_mul, wrapN _ h1, wrapN _ h2, u64_andNot_nat _ _ hv h1, u64_or_nat _ _ (Nat.lt_of_le_of_lt Nat.and_le_left hv) h2]
  rfl

theorem lay_any (v p n x : Int) (v0 : 0 ≤ v) (hv : v < 18446744073709551616) (x0 : 0 ≤ x) (hx : x < 18446744073709551616) (h1 : -9223372036854775808 ≤ n) (h2 : n ≤ 9223372036854775807) (w : World) :
    Calls Tryz.prog 141 #[.int .u64 v, .int .i64 p, .int .i64 n, .int .u64 x] w fun e w' => e = .returned (.tuple #[.int .u64 (layV v p n x), .int .i64 (layE p n x)]) ∧ ∃ k, w' = w.drewN k := by
  have hf := isField_any p n h1 h2
  by_cases h : okB p n = true
  · simp only [h] at hf
    obtain ⟨a1, a2, a3, a4⟩ := (okB_iff p n).1 h
    have hc := cut_any x 0 n x0 hx (by omega) (by omega) (by omega) a2
    have Hf := Lib.hid hf
    clear hf
    by_cases hl : x.toNat < 2 ^ n.toNat
    · have hB := (layB_iff p n x).2 ⟨h, hl⟩
      have e1 : layV v p n x = (put v.toNat p.toNat n.toNat x.toNat : Nat) := by unfold layV; rw [if_pos hB]
      have e2 : layE p n x = 0 := by unfold layE; rw [if_pos hB]
      rw [e1, e2]; clear e1 e2
      rw [show (0 : Int).toNat = 0 from rfl, fld_all _ _ hl] at hc
      have hd := cut_any v p n v0 hv a3 (by omega) (by omega) a2
      have hn := put_num v.toNat p.toNat n.toNat x.toNat (by omega) (by omega) hl
      rw [Int.toNat_of_nonneg v0, Int.toNat_of_nonneg x0] at hn
      rw [Int.toNat_of_nonneg x0] at hc
      generalize put v.toNat p.toNat n.toNat x.toNat = F at *
      have p64 : p < 64 := by omega
      generalize fld v.toNat p.toNat n.toNat = b at *
      have Hc := Lib.hid hc
      have Hd := Lib.hid hd
      have Hn := Lib.hid hn
      clear hc hd hn hB h hl
      go_enter Tryz.func141, Tryz.ntmps141
      go_wp2_with fail
      refine (Hf.out _).mono ?_; rintro e w' ⟨rfl, rfl⟩
      go_wp2_with fail
      refine (Hc.out _).mono ?_; rintro e w' ⟨rfl, k, rfl⟩
      go_wp2_with fail
      refine (Hd.out _).mono ?_; rintro e w' ⟨rfl, k2, rfl⟩
      go_wp2_with fail
      go_quiet (fail)
      go_wp2
      rw [Hn.out]
      go_ret2
      exact ⟨rfl, k + k2 + nq, World.drewN_drewN _ _ _⟩
    · have hB : ¬ layB p n x = true := fun hh => hl ((layB_iff p n x).1 hh).2
      have e1 : layV v p n x = 0 := by unfold layV; rw [if_neg hB]
      have e2 : layE p n x = 2 := by unfold layE; rw [if_neg hB]
      rw [e1, e2]; clear e1 e2
      have hne : (((fld x.toNat 0 n.toNat : Nat) : Int) != x) = true := by
        rw [bne_iff_ne]
        intro he
        exact hl ((fld_same _ _).1 (by omega))
      rw [show (0 : Int).toNat = 0 from rfl] at hc
      generalize fld x.toNat 0 n.toNat = b at *
      have Hc := Lib.hid hc
      clear hc hB h hl
      go_enter Tryz.func141, Tryz.ntmps141
      go_wp2_with fail
      refine (Hf.out _).mono ?_; rintro e w' ⟨rfl, rfl⟩
      go_wp2_with fail
      refine (Hc.out _).mono ?_; rintro e w' ⟨rfl, k, rfl⟩
      go_wp2_with fail
      go_ret2
      exact ⟨rfl, _, rfl⟩
  · have hB : ¬ layB p n x = true := fun hh => h ((layB_iff p n x).1 hh).1
    have e1 : layV v p n x = 0 := by unfold layV; rw [if_neg hB]
    have e2 : layE p n x = 2 := by unfold layE; rw [if_neg hB]
    rw [e1, e2]; clear e1 e2
    simp only [h] at hf
    have Hf := Lib.hid hf
    clear hf h hB
    go_enter Tryz.func141, Tryz.ntmps141
    go_wp2_with fail
    refine (Hf.out _).mono ?_; rintro e w' ⟨rfl, rfl⟩
    go_wp2_with fail
    go_ret2
    exact ⟨rfl, 0, rfl⟩

theorem tz_num (v : Nat) (h0 : 0 < v) (hv : v < 18446744073709551616) :
    IntKind.u64.wrap (bits .and .u64 (v : Int) (IntKind.u64.wrap (-(v : Int))) * 285870213051353865) / 288230376151711744 = (place (v &&& (18446744073709551616 - v)) : Nat) := by
  have e : IntKind.u64.wrap (-(v : Int)) = ((18446744073709551616 - v : Nat) : Int) := by rw [IntKind.wrap_u64]; omega
  rw [e, u64_and_nat _ _ hv (by omega), IntKind.wrap_u64]
  unfold place
  omega
theorem tz_zero (w : World) :
    Calls Tryz.prog 174 #[.int .u64 0] w fun e w' => e = .returned (.int .i64 64) ∧ w = w' := by
  go_enter Tryz.func174, Tryz.ntmps174
  go_wp2
  go_ret
  exact ⟨rfl, rfl⟩
theorem tz_more (v m L : Nat) (hne : ((v : Int) == 0) = false) (l1 : m < 64) (hL : L ≤ 64) (hn : IntKind.u64.wrap (bits .and .u64 (v : Int) (IntKind.u64.wrap (-(v : Int))) * 285870213051353865) / 288230376151711744 = (m : Int)) (w : World) (hc : w.cell? ⟨1, m, none⟩ = some (.int .u8 (L : Nat))) :
    Calls Tryz.prog 174 #[.int .u64 v] w fun e w' => e = .returned (.int .i64 (L : Nat)) ∧ w = w' := by
  go_enter Tryz.func174, Tryz.ntmps174
  go_wp2
  go_ret
  exact ⟨rfl, rfl⟩
theorem tz_any (v : Nat) (hv : v < 18446744073709551616) (w : World) (ht : ∀ i : Nat, i < 64 → w.cell? ⟨1, i, none⟩ = some (.int .u8 (tab.getD i 0))) :
    Calls Tryz.prog 174 #[.int .u64 v] w fun e w' => e = .returned (.int .i64 (lowV v)) ∧ w = w' := by
  by_cases h : v = 0
  · subst h
    have hz := tz_zero w
    rw [← low_zero] at hz
    exact hz
  · obtain ⟨m, L, l1, hL, e1, e2, e3⟩ := low_place v (by omega) hv
    have hn := tz_num v (by omega) hv
    have hc := ht m l1
    rw [e3] at hn
    rw [e1] at hc
    rw [e2]
    exact tz_more v m L (by simpa using h) l1 hL hn w hc
theorem low_any (v : Int) (v0 : 0 ≤ v) (hv : v < 18446744073709551616) (w : World) (ht : ∀ i : Nat, i < 64 → w.cell? ⟨1, i, none⟩ = some (.int .u8 (tab.getD i 0))) :
    Calls Tryz.prog 171 #[.int .u64 v] w fun e w' => e = .returned (.int .i64 (lowV v)) ∧ w = w' := by
  have hc := tz_any v.toNat (by omega) w ht
  rw [Int.toNat_of_nonneg v0] at hc
  have Hc := Lib.hid hc
  clear hc ht
  go_enter Tryz.func171, Tryz.ntmps171
  go_wp2_with fail
  refine (Hc.out).mono ?_; rintro e w' ⟨rfl, rfl⟩
  go_wp2_with fail
  go_ret
  exact ⟨rfl, rfl⟩
/-- The table of the lowest bits, as the program's text lays it. -/
def Table (w : World) : Prop := ∀ i : Nat, i < 64 → w.cell? ⟨1, i, none⟩ = some (.int .u8 (tab.getD i 0))
theorem Table.drewN {w : World} (h : Table w) (k : Nat) : Table (w.drewN k) := h

end Go.Proofs.YtagmmbkgjomdlaaGreatDoor.Wd

/-
  The contract of math/bits.Len64 at a word that is not 0: one more than its highest bit.
-/
namespace Go.Proofs.YtagmmbkgjomdlaaGreatDoor.Wd
open Go.RowKit

/-- One more than the highest bit that is 1; 0 of 0. -/
def lenN (v : Nat) : Nat := if v = 0 then 0 else Nat.log2 v + 1
theorem lenN_shift (v k : Nat) (h : 2 ^ k ≤ v) : lenN v = k + lenN (v / 2 ^ k) := by
  have hp := Nat.two_pow_pos k
  have h1 : v ≠ 0 := by omega
  have h2 : v / 2 ^ k ≠ 0 := by
    have := Nat.div_pos h hp
    omega
  unfold lenN
  rw [if_neg h1, if_neg h2]
  have e := (Nat.log2_eq_iff h2 (k := Nat.log2 (v / 2 ^ k))).1 rfl
  have : Nat.log2 v = k + Nat.log2 (v / 2 ^ k) := by
    rw [Nat.log2_eq_iff h1, Nat.pow_add, Nat.add_assoc, Nat.pow_add]
    exact ⟨(Nat.mul_comm _ _) ▸ (Nat.le_div_iff_mul_le hp).1 e.1, (Nat.mul_comm _ _) ▸ (Nat.div_lt_iff_lt_mul hp).1 e.2⟩
  omega
theorem lenN_bitLenAux : ∀ (f v : Nat), v < 2 ^ f → Lib.bitLenAux f v = lenN v
  | 0, v, h => by
    have : v = 0 := by simpa using h
    subst this; rfl
  | f + 1, v, h => by
    show (if v = 0 then 0 else 1 + Lib.bitLenAux f (v / 2)) = lenN v
    by_cases h0 : v = 0
    · subst h0; rfl
    · rw [if_neg h0, lenN_bitLenAux f (v / 2) (by rw [Nat.pow_succ] at h; omega)]
      by_cases h1 : v = 1
      · subst h1; decide
      · have := lenN_shift v 1 (by omega)
        simpa using this.symm
theorem lenN_bitLen (v : Nat) (h : v < 18446744073709551616) : Lib.bitLen v = lenN v := lenN_bitLenAux 64 v h
theorem tabSize : Lib.len8tab.size = 256 := by decide +kernel
theorem tabAll : ∀ k : Fin 256, (Lib.len8tab[k.val]'(by have := k.isLt; rw [tabSize]; exact this)).toNat = lenN k.val := by decide +kernel
theorem tabAt (k : Nat) (h : k < Lib.len8tab.size) : (Lib.len8tab[k]'h).toNat = lenN k := tabAll ⟨k, by rw [tabSize] at h; exact h⟩
theorem lenN_small (k : Nat) (h : k < 256) : lenN k ≤ 8 := by
  have := Lib.bitLen_le8 ⟨k, h⟩
  simp only at this
  rw [lenN_bitLen k (by omega)] at this
  exact this
theorem len_way (v y K : Int) (k : Nat) (hK : K = (k : Int)) (hk : k ≤ 56) (hy : y.toNat = v.toNat / 2 ^ k) (hg : 2 ^ k ≤ v.toNat) (h2 : y.toNat < 256) : wrap64 (K + wrap64 ((lenN y.toNat : Nat) : Int)) = ((lenN v.toNat : Nat) : Int) := by
  have hl := lenN_small _ h2
  rw [lenN_shift v.toNat k hg, ← hy]
  subst hK
  unfold wrap64
  omega
theorem len_way0 (v : Int) (h2 : v.toNat < 256) : wrap64 (wrap64 ((lenN v.toNat : Nat) : Int)) = ((lenN v.toNat : Nat) : Int) := by
  have hl := lenN_small _ h2
  unfold wrap64
  omega
set_option maxHeartbeats 4000000 in
set_option maxRecDepth 100000 in
theorem len64_any (v : Int) (h0 : 0 ≤ v) (h1 : v < 18446744073709551616) (w : World) :
    Calls Tryz.prog 146 #[.int .u64 v] w fun e w' => e = .returned (.int .i64 (lenN v.toNat : Nat)) ∧ w = w' := by
  have hs := tabSize
  go_enter Tryz.func146, Tryz.ntmps146
  go_wp2
  all_goals (go_ret; refine ⟨congrArg Ending.returned (congrArg (Value.int IntKind.i64) ?_), rfl⟩; rw [tabAt])
  all_goals first
    | refine len_way v _ _ 8 rfl (by omega) ?_ (by omega) (by omega) <;> omega
    | refine len_way v _ _ 16 rfl (by omega) ?_ (by omega) (by omega) <;> omega
    | refine len_way v _ _ 24 rfl (by omega) ?_ (by omega) (by omega) <;> omega
    | refine len_way v _ _ 32 rfl (by omega) ?_ (by omega) (by omega) <;> omega
    | refine len_way v _ _ 40 rfl (by omega) ?_ (by omega) (by omega) <;> omega
    | refine len_way v _ _ 48 rfl (by omega) ?_ (by omega) (by omega) <;> omega
    | refine len_way v _ _ 56 rfl (by omega) ?_ (by omega) (by omega) <;> omega
    | exact len_way0 v (by omega)
end Go.Proofs.YtagmmbkgjomdlaaGreatDoor.Wd

/-
  Plain facts on rows of bools, and on words of 64 bits that hold them. No program is named here.
-/
namespace Go.Proofs.YtagmmbkgjomdlaaGreatDoor.Bt
open Go.Proofs.YtagmmbkgjomdlaaGreatDoor.Wd

/-- How many of k are so. -/
def cnt (f : Nat → Bool) : Nat → Nat
  | 0 => 0
  | k + 1 => cnt f k + (f k).toNat
theorem cnt_congr {f g : Nat → Bool} (k : Nat) (h : ∀ j, j < k → f j = g j) : cnt f k = cnt g k := by
  induction k with
  | zero => rfl
  | succ k ih =>
    show cnt f k + (f k).toNat = cnt g k + (g k).toNat
    rw [ih fun j hj => h j (by omega), h k (by omega)]
theorem cnt_add (f : Nat → Bool) (a b : Nat) : cnt f (a + b) = cnt f a + cnt (fun j => f (a + j)) b := by
  induction b with
  | zero => rfl
  | succ b ih =>
    show cnt f (a + b) + (f (a + b)).toNat = cnt f a + (cnt (fun j => f (a + j)) b + (f (a + b)).toNat)
    omega
theorem ones_cnt (v k : Nat) : ones v k = cnt v.testBit k := by
  induction k with
  | zero => rfl
  | succ k ih =>
    show ones v k + v / 2 ^ k % 2 = cnt v.testBit k + (v.testBit k).toNat
    rw [ih, bit_tb]
/-- The first of k from s on that is so. -/
def nextV (f : Nat → Bool) : Nat → Nat → Option Nat
  | 0, _ => none
  | k + 1, s => if f s then some s else nextV f k (s + 1)
theorem nextV_skip (f : Nat → Bool) (m : Nat) : ∀ (k s : Nat), (∀ j, j < k → f (s + j) = false) → nextV f (k + m) s = nextV f m (s + k)
  | 0, s, _ => by rw [Nat.zero_add]; rfl
  | k + 1, s, h => by
    have h0 := h 0 (by omega)
    rw [Nat.add_zero] at h0
    rw [show k + 1 + m = (k + m) + 1 by omega]
    show (if f s then some s else nextV f (k + m) (s + 1)) = _
    rw [h0, if_neg (by decide), nextV_skip f m k (s + 1) (fun j hj => by rw [show s + 1 + j = s + (j + 1) by omega]; exact h (j + 1) (by omega)), show s + 1 + k = s + (k + 1) by omega]
theorem nextV_hit (f : Nat → Bool) (k s t : Nat) (ht : t < k) (h : ∀ j, j < t → f (s + j) = false) (hf : f (s + t) = true) : nextV f k s = some (s + t) := by
  rw [show k = t + ((k - t - 1) + 1) by omega, nextV_skip f _ t s h]
  show (if f (s + t) then some (s + t) else _) = _
  rw [hf, if_pos rfl]
theorem nextV_none (f : Nat → Bool) (k s : Nat) (h : ∀ j, j < k → f (s + j) = false) : nextV f k s = none := by
  have := nextV_skip f 0 k s h
  rw [Nat.add_zero] at this
  rw [this]
  rfl
theorem nextV_some {f : Nat → Bool} : ∀ {k s x : Nat}, nextV f k s = some x → s ≤ x ∧ x < s + k ∧ f x = true ∧ ∀ j, s ≤ j → j < x → f j = false
  | 0, _, _, h => by cases h
  | k + 1, s, x, h => by
    have h' : (if f s then some s else nextV f k (s + 1)) = some x := h
    cases hs : f s with
    | true =>
      rw [hs, if_pos rfl] at h'
      injection h' with h'
      subst h'
      exact ⟨Nat.le_refl _, by omega, hs, fun j h1 h2 => by omega⟩
    | false =>
      rw [hs, if_neg (by decide)] at h'
      obtain ⟨a, b, c, d⟩ := nextV_some h'
      refine ⟨by omega, by omega, c, fun j h1 h2 => ?_⟩
      by_cases e : j = s
      · subst e; exact hs
      · exact d j (by omega) h2
theorem nextV_no {f : Nat → Bool} : ∀ {k s : Nat}, nextV f k s = none → ∀ j, s ≤ j → j < s + k → f j = false
  | 0, _, _, j, h1, h2 => by omega
  | k + 1, s, h, j, h1, h2 => by
    have h' : (if f s then some s else nextV f k (s + 1)) = none := h
    cases hs : f s with
    | true => rw [hs, if_pos rfl] at h'; cases h'
    | false =>
      rw [hs, if_neg (by decide)] at h'
      by_cases e : j = s
      · subst e; exact hs
      · exact nextV_no h' j (by omega) (by omega)
/-- The last below k that is so. -/
def prevV (f : Nat → Bool) : Nat → Option Nat
  | 0 => none
  | k + 1 => if f k then some k else prevV f k
theorem prevV_skip (f : Nat → Bool) (c : Nat) : ∀ (m : Nat), (∀ j, c ≤ j → j < c + m → f j = false) → prevV f (c + m) = prevV f c
  | 0, _ => rfl
  | m + 1, h => by
    show (if f (c + m) then some (c + m) else prevV f (c + m)) = _
    rw [h (c + m) (by omega) (by omega), if_neg (by decide)]
    exact prevV_skip f c m fun j h1 h2 => h j h1 (by omega)
theorem prevV_hit (f : Nat → Bool) (k c : Nat) (hk : k < c) (hf : f k = true) (h : ∀ j, k < j → j < c → f j = false) : prevV f c = some k := by
  have e := prevV_skip f (k + 1) (c - (k + 1)) (fun j h1 h2 => h j (by omega) (by omega))
  rw [show k + 1 + (c - (k + 1)) = c by omega] at e
  rw [e]
  show (if f k then some k else prevV f k) = _
  rw [hf, if_pos rfl]
theorem prevV_none (f : Nat → Bool) (c : Nat) (h : ∀ j, j < c → f j = false) : prevV f c = none := by
  have e := prevV_skip f 0 c (fun j _ h2 => h j (by omega))
  rw [Nat.zero_add] at e
  rw [e]
  rfl

/-- What a call answers of a place: 0 if there is none. -/
def atI (o : Option Nat) : Int := (o.getD 0 : Nat)

/-- A bit of a row; none beyond the end is set. -/
def bit (bs : List Bool) (j : Nat) : Bool := bs.getD j false
theorem bit_out (bs : List Bool) (j : Nat) (h : bs.length ≤ j) : bit bs j = false := by
  unfold bit
  rw [List.getD, List.getElem?_eq_none h]
  rfl
theorem bit_ext {a b : List Bool} (hl : a.length = b.length) (h : ∀ j, j < a.length → bit a j = bit b j) : a = b := by
  apply List.ext_getElem hl
  intro j h1 h2
  have := h j h1
  unfold bit at this
  rw [List.getD, List.getD, List.getElem?_eq_getElem h1, List.getElem?_eq_getElem h2] at this
  exact this
/-- n bits from the bit i on as st. -/
def laid (bs : List Bool) (i n : Nat) (st : Bool) : List Bool := (List.range bs.length).map fun j => if i ≤ j ∧ j < i + n then st else bit bs j
theorem laid_length (bs : List Bool) (i n : Nat) (st : Bool) : (laid bs i n st).length = bs.length := by unfold laid; rw [List.length_map, List.length_range]
theorem laid_bit (bs : List Bool) (i n : Nat) (st : Bool) (j : Nat) (hj : j < bs.length) : bit (laid bs i n st) j = if i ≤ j ∧ j < i + n then st else bit bs j := by
  have e : bit (laid bs i n st) j = (laid bs i n st).getD j false := rfl
  rw [e, laid, List.getD, List.getElem?_map, List.getElem?_range hj]
  rfl
theorem laid_none (bs : List Bool) (i : Nat) (st : Bool) : laid bs i 0 st = bs :=
  bit_ext (laid_length _ _ _ _) fun j hj => by
    rw [laid_length] at hj
    rw [laid_bit _ _ _ _ j hj, if_neg (by omega)]
theorem laid_more (bs : List Bool) (i n m : Nat) (st : Bool) : laid (laid bs i n st) (i + n) m st = laid bs i (n + m) st :=
  bit_ext (by rw [laid_length, laid_length, laid_length]) fun j hj => by
    rw [laid_length, laid_length] at hj
    rw [laid_bit _ _ _ _ j (by rw [laid_length]; exact hj), laid_bit _ _ _ _ j hj, laid_bit _ _ _ _ j hj]
    by_cases h1 : i + n ≤ j ∧ j < i + n + m
    · rw [if_pos h1, if_pos (by omega)]
    · rw [if_neg h1]
      by_cases h2 : i ≤ j ∧ j < i + n
      · rw [if_pos h2, if_pos (by omega)]
      · rw [if_neg h2, if_neg (by omega)]

/-- These words hold these bits. -/
def Means (bs : List Bool) (ws : List Int) : Prop := ∀ i, i < bs.length → bit bs i = (ws.getD (i / 64) 0).toNat.testBit (i % 64)
/-- The field that the piece from the bit s on is: its bits are the row's. -/
theorem Means.field {bs : List Bool} {ws : List Int} (h : Means bs ws) (s n j : Nat) (hn : n ≤ 64 - s % 64) (hs : s + n ≤ bs.length) (hj : j < n) :
    (fld (ws.getD (s / 64) 0).toNat (s % 64) n).testBit j = bit bs (s + j) := by
  rw [fld_tb, decide_eq_true hj, Bool.true_and, h (s + j) (by omega), show (s + j) / 64 = s / 64 by omega, show (s + j) % 64 = s % 64 + j by omega]
theorem field_beyond (v a n j : Nat) (hj : n ≤ j) : (fld v a n).testBit j = false := by
  rw [fld_tb, decide_eq_false (by omega), Bool.false_and]
theorem Means.count {bs : List Bool} {ws : List Int} (h : Means bs ws) (s n : Nat) (hn : n ≤ 64 - s % 64) (hs : s + n ≤ bs.length) :
    ones (fld (ws.getD (s / 64) 0).toNat (s % 64) n) 64 = cnt (fun j => bit bs (s + j)) n := by
  rw [ones_top _ n (fld_lt _ _ _) 64 (by omega), ones_cnt]
  exact cnt_congr n fun j hj => h.field s n j hn hs hj
/-- The lowest bit that is 1, of y: below n just if one of these is. -/
theorem low_hit (y n : Nat) (hn : n ≤ 64) (h : lowFrom y 0 64 < n) : y.testBit (lowFrom y 0 64) = true ∧ ∀ j, j < lowFrom y 0 64 → y.testBit j = false := by
  have hb : ∀ j, y / 2 ^ j % 2 = (y.testBit j).toNat := bit_tb y
  by_cases hex : ∃ t, t < 64 ∧ y.testBit t = true ∧ ∀ j, j < t → y.testBit j = false
  · obtain ⟨t, ht, h1, h2⟩ := hex
    have e := low_iff y 0 64 t (by omega) (by omega) (by rw [hb, h1]; rfl) (fun j hj => by rw [hb, h2 j hj]; rfl)
    rw [e]
    exact ⟨h1, h2⟩
  · exfalso
    have hall : ∀ t, t < 64 → y.testBit t = false := by
      intro t
      induction t using Nat.strongRecOn with
      | _ t ih =>
        intro ht
        cases hh : y.testBit t with
        | false => rfl
        | true => exact absurd ⟨t, ht, hh, fun j hj => ih j hj (by omega)⟩ hex
    have : ∀ k i, i + k = 64 → lowFrom y i k = 64 := by
      intro k
      induction k with
      | zero => intro i hi; show i = 64; omega
      | succ k ih =>
        intro i hi
        show (if y / 2 ^ i % 2 = 1 then i else lowFrom y (i + 1) k) = 64
        rw [if_neg (by rw [hb, hall i (by omega)]; decide)]
        exact ih (i + 1) (by omega)
    rw [this 64 0 rfl] at h
    omega
theorem low_miss (y n : Nat) (hn : n ≤ 64) (h : ¬ lowFrom y 0 64 < n) : ∀ j, j < n → y.testBit j = false := by
  have hb : ∀ j, y / 2 ^ j % 2 = (y.testBit j).toNat := bit_tb y
  intro j
  induction j using Nat.strongRecOn with
  | _ j ih =>
    intro hj
    cases hh : y.testBit j with
    | false => rfl
    | true =>
      exfalso
      have e := low_iff y 0 64 j (by omega) (by omega) (by rw [hb, hh]; rfl) (fun t ht => by rw [hb, ih t ht (by omega)]; rfl)
      rw [e] at h
      exact h hj
/-- The word with the piece laid anew. -/
theorem Means.put {bs : List Bool} {ws : List Int} (h : Means bs ws) (hl : ws.length = 1024) (hb : bs.length ≤ 65536) (s n : Nat) (st : Bool) (x : Nat) (hn : n ≤ 64 - s % 64) (hs : s + n ≤ bs.length) (h1 : 1 ≤ n)
    (hv : (ws.getD (s / 64) 0).toNat < 18446744073709551616) (hx : x < 2 ^ n) (hbit : ∀ j, j < n → x.testBit j = st) :
    Means (laid bs s n st) (ws.set (s / 64) ((put (ws.getD (s / 64) 0).toNat (s % 64) n x : Nat) : Int)) := by
  intro i hi
  rw [laid_length] at hi
  rw [laid_bit _ _ _ _ i hi]
  by_cases hk : i / 64 = s / 64
  · have e : (ws.set (s / 64) ((Wd.put (ws.getD (s / 64) 0).toNat (s % 64) n x : Nat) : Int)).getD (i / 64) 0 = ((Wd.put (ws.getD (s / 64) 0).toNat (s % 64) n x : Nat) : Int) := by
      rw [hk, List.getD, List.getElem?_set_self (by rw [hl]; omega)]
      rfl
    rw [e, Int.toNat_natCast, put_tb _ _ _ _ _ hv (by omega) hx]
    by_cases hc : s ≤ i ∧ i < s + n
    · rw [if_pos hc, if_pos (by omega), hbit _ (by omega)]
    · rw [if_neg hc, if_neg (by omega), h i hi, hk]
  · have e : (ws.set (s / 64) ((Wd.put (ws.getD (s / 64) 0).toNat (s % 64) n x : Nat) : Int)).getD (i / 64) 0 = ws.getD (i / 64) 0 := by
      rw [List.getD, List.getElem?_set_ne (Ne.symm hk), ← List.getD]
    rw [e, if_neg (by omega)]
    exact h i hi
/-- What a word is xored with: nothing, or all bits. -/
theorem flip_bit (x m j : Nat) (hj : j < 64) (hm : m = 0 ∨ m = 18446744073709551615) : (x ^^^ m).testBit j = (x.testBit j == decide (m = 0)) := by
  rw [Nat.testBit_xor]
  rcases hm with rfl | rfl
  · rw [Nat.zero_testBit]
    cases x.testBit j <;> rfl
  · have : (18446744073709551615 : Nat).testBit j = true := by
      rw [show (18446744073709551615 : Nat) = 2 ^ 64 - 1 from rfl, Nat.testBit_two_pow_sub_one]
      exact decide_eq_true hj
    rw [this]
    cases x.testBit j <;> rfl
/-- The highest bit of a number that is not 0. -/
theorem top_bit (x : Nat) (h : x ≠ 0) : x.testBit (Nat.log2 x) = true ∧ ∀ j, Nat.log2 x < j → x.testBit j = false := by
  have e := (Nat.log2_eq_iff h (k := Nat.log2 x)).1 rfl
  refine ⟨?_, fun j hj => Nat.testBit_lt_two_pow (Nat.lt_of_lt_of_le e.2 (Nat.pow_le_pow_right (by decide) hj))⟩
  rw [Nat.testBit_eq_decide_div_mod_eq]
  have hd : x / 2 ^ Nat.log2 x = 1 := by
    have hp := Nat.two_pow_pos (Nat.log2 x)
    have h1 := (Nat.le_div_iff_mul_le hp (x := 1) (y := x)).2 (by omega)
    have h2 := (Nat.div_lt_iff_lt_mul hp (x := x) (y := 2)).2 (by rw [Nat.pow_succ] at e; omega)
    omega
  rw [hd]
  rfl
end Go.Proofs.YtagmmbkgjomdlaaGreatDoor.Bt
