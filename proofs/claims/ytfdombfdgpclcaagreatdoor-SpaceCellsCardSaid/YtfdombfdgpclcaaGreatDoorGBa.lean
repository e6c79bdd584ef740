/-
  Several texts in one: WordMath, BtWord, BtLen, BtMem, BtKeep, BtUp, BtDown, BtMath.
-/
import Derived.Test.YtfdombfdgpclcaaGreatDoorProg
import Derived.WalkKit
import Derived.RegionTactic
import Derived.Outline
import Derived.IntWalk
import Derived.Deep.QuietTactic
import Derived.BigQuiet
import Derived.Lib.Hide
import Derived.Laws.Externs
import Derived.Laws.MathBits
import Derived.Laws.BitsAllLaws
import Derived.Lib.Strings
import Derived.Lib.Slices
import Derived.Lib.Small
import Derived.Lib.Walk
import Derived.Lib.BitFns
import Derived.Test.YtfdombfdgpclcaaGreatDoorGB
import Derived.Lib.QuietBelow
import Derived.RangeFuncNested
import Derived.RangeFuncLeaves
import Derived.RangeFuncBound
import Derived.RangeFuncCalls
import Derived.Shelf.Abstract
import Derived.OwnWalkIn
import Derived.TacticsInMore
import Derived.LoopNIn
import Derived.LoopIn
/-
  Plain facts on numbers below 2^64, their fields of bits, how many of their bits are 1 and which is the lowest one. No program is named here.
-/
namespace Go.Proofs.YtfdombfdgpclcaaGreatDoor.Wd

def big : Nat := 18446744073709551616
theorem big_eq : big = 2 ^ 64 := rfl

/-! ### The answers, as functions of numbers -/
def addV (a b : Int) : Int := if a + b < 18446744073709551616 then a + b else 0
def addE (a b : Int) : Int := if a + b < 18446744073709551616 then 0 else 10
def subV (a b : Int) : Int := if b ≤ a then a - b else 0
def subE (a b : Int) : Int := if b ≤ a then 0 else 10
def mulV (a b : Int) : Int := if a * b < 18446744073709551616 then a * b else 0
def mulE (a b : Int) : Int := if a * b < 18446744073709551616 then 0 else 10
def upV (n : Int) : Int := if n < 1 then 0 else (n - 1) / 2 + 1
def downV (n : Int) : Int := if n < 1 then 0 else n / 2

/-- May a field be there? -/
def okB (at' n : Int) : Bool := decide (1 ≤ n) && decide (n ≤ 64) && decide (0 ≤ at') && decide (at' ≤ 64 - n)
/-- The field of n bits from the bit p on. -/
def fld (v p n : Nat) : Nat := v / 2 ^ p % 2 ^ n
/-- The word v with x as that field: a number, no machine word in sight. -/
def put (v p n x : Nat) : Nat := (v &&& (18446744073709551615 - fld v p n * 2 ^ p)) ||| (x * 2 ^ p)
def bitsV (v at' n : Int) : Int := if okB at' n then (fld v.toNat at'.toNat n.toNat : Nat) else 0
def bitsE (at' n : Int) : Int := if okB at' n then 0 else 2
def layB (at' n x : Int) : Bool := okB at' n && decide (x.toNat < 2 ^ n.toNat)
def layV (v at' n x : Int) : Int := if layB at' n x then (put v.toNat at'.toNat n.toNat x.toNat : Nat) else 0
def layE (at' n x : Int) : Int := if layB at' n x then 0 else 2
/-- How many of the lowest k bits are 1. -/
def ones (v : Nat) : Nat → Nat
  | 0 => 0
  | k + 1 => ones v k + v / 2 ^ k % 2
def onesV (v : Int) : Int := (ones v.toNat 64 : Nat)
/-- The lowest bit from i on that is 1, of k bits; i + k if there is none. -/
def lowFrom (v i : Nat) : Nat → Nat
  | 0 => i
  | k + 1 => if v / 2 ^ i % 2 = 1 then i else lowFrom v (i + 1) k
def lowV (v : Int) : Int := (lowFrom v.toNat 0 64 : Nat)

/-! ### Bits -/
theorem bit_tb (v i : Nat) : v / 2 ^ i % 2 = (v.testBit i).toNat := by
  rw [Nat.testBit_eq_decide_div_mod_eq]
  by_cases h : v / 2 ^ i % 2 = 1
  · simp [h]
  · have : v / 2 ^ i % 2 = 0 := by omega
    simp [this]
theorem fld_tb (v p n i : Nat) : (fld v p n).testBit i = (decide (i < n) && v.testBit (p + i)) := by
  unfold fld
  rw [Nat.testBit_mod_two_pow, ← Nat.shiftRight_eq_div_pow, Nat.testBit_shiftRight]
theorem fld_lt (v p n : Nat) : fld v p n < 2 ^ n := Nat.mod_lt _ (Nat.two_pow_pos n)
theorem fld_zero (v p : Nat) : fld v p 0 = 0 := by unfold fld; rw [Nat.pow_zero, Nat.mod_one]
/-- One bit more at the lower end. -/
theorem fld_step (v p n : Nat) : fld v p (n + 1) = 2 * fld v (p + 1) n + v / 2 ^ p % 2 := by
  unfold fld
  rw [Nat.pow_succ 2 p, ← Nat.div_div_eq_div_mul, Nat.pow_succ, Nat.mul_comm (2 ^ n) 2, Nat.mod_mul]
  omega
theorem shl_tb (x p i : Nat) : (x * 2 ^ p).testBit i = (decide (p ≤ i) && x.testBit (i - p)) := by
  rw [← Nat.shiftLeft_eq, Nat.testBit_shiftLeft]
theorem hole_tb (v p n i : Nat) (h : p + n ≤ 64) : (18446744073709551615 - fld v p n * 2 ^ p).testBit i = (decide (i < 64) && !(decide (p ≤ i) && (decide (i - p < n) && v.testBit (p + (i - p))))) := by
  have hl : fld v p n * 2 ^ p < 2 ^ 64 := by
    calc fld v p n * 2 ^ p < 2 ^ n * 2 ^ p := Nat.mul_lt_mul_of_pos_right (fld_lt v p n) (Nat.two_pow_pos p)
      _ = 2 ^ (n + p) := (Nat.pow_add 2 n p).symm
      _ ≤ 2 ^ 64 := Nat.pow_le_pow_right (by decide) (by omega)
  have e : 18446744073709551615 - fld v p n * 2 ^ p = 2 ^ 64 - (fld v p n * 2 ^ p + 1) := by omega
  rw [e, Nat.testBit_two_pow_sub_succ hl, shl_tb, fld_tb]
/-- Which bits a word has behind a Lay. -/
theorem put_tb (v p n x i : Nat) (hv : v < 18446744073709551616) (h : p + n ≤ 64) (hx : x < 2 ^ n) :
    (put v p n x).testBit i = if p ≤ i ∧ i < p + n then x.testBit (i - p) else v.testBit i := by
  unfold put
  rw [Nat.testBit_or, Nat.testBit_and, hole_tb v p n i h, shl_tb]
  by_cases h1 : p ≤ i
  · by_cases h2 : i < p + n
    · have e : p + (i - p) = i := by omega
      have h3 : i - p < n := by omega
      have h4 : i < 64 := by omega
      rw [if_pos ⟨h1, h2⟩]
      simp [h1, h3, h4, e]
    · have h3 : ¬ i - p < n := by omega
      have hx0 : x.testBit (i - p) = false := Nat.testBit_lt_two_pow (Nat.lt_of_lt_of_le hx (Nat.pow_le_pow_right (by decide) (by omega)))
      rw [if_neg (by omega)]
      simp [h1, h3, hx0]
      intro hvi
      by_cases h4 : i < 64
      · exact h4
      · have : v.testBit i = false := Nat.testBit_lt_two_pow (Nat.lt_of_lt_of_le hv (by rw [show (18446744073709551616 : Nat) = 2 ^ 64 from rfl]; exact Nat.pow_le_pow_right (by decide) (by omega)))
        rw [this] at hvi; cases hvi
  · rw [if_neg (by omega)]
    have h4 : i < 64 := by omega
    simp [h1, h4]
theorem put_lt (v p n x : Nat) (hv : v < 18446744073709551616) (h : p + n ≤ 64) (hx : x < 2 ^ n) : put v p n x < 18446744073709551616 := by
  show _ < 2 ^ 64
  apply Nat.lt_pow_two_of_testBit
  intro i hi
  rw [put_tb v p n x i hv h hx, if_neg (by omega)]
  exact Nat.testBit_lt_two_pow (Nat.lt_of_lt_of_le (show v < 2 ^ 64 from hv) (Nat.pow_le_pow_right (by decide) hi))
/-- What was laid is the field. -/
theorem fld_put (v p n x : Nat) (hv : v < 18446744073709551616) (h : p + n ≤ 64) (hx : x < 2 ^ n) : fld (put v p n x) p n = x := by
  apply Nat.eq_of_testBit_eq
  intro i
  rw [fld_tb, put_tb v p n x _ hv h hx]
  by_cases h1 : i < n
  · rw [if_pos (by omega), show p + i - p = i by omega]; simp [h1]
  · have : x.testBit i = false := Nat.testBit_lt_two_pow (Nat.lt_of_lt_of_le hx (Nat.pow_le_pow_right (by decide) (by omega)))
    simp [h1, this]
/-- The field that was there, laid again, brings the word back. -/
theorem put_back (v p n x : Nat) (hv : v < 18446744073709551616) (h : p + n ≤ 64) (hx : x < 2 ^ n) : put (put v p n x) p n (fld v p n) = v := by
  apply Nat.eq_of_testBit_eq
  intro i
  rw [put_tb _ p n _ i (put_lt v p n x hv h hx) h (fld_lt v p n), put_tb v p n x i hv h hx, fld_tb]
  by_cases h1 : p ≤ i ∧ i < p + n
  · rw [if_pos h1, show p + (i - p) = i by omega]
    have : i - p < n := by omega
    simp [this]
  · rw [if_neg h1, if_neg h1]
/-- No bit beside the field is another one. -/
theorem put_beside (v p n x : Nat) (hv : v < 18446744073709551616) (h : p + n ≤ 64) (hx : x < 2 ^ n) : (v ^^^ put v p n x) &&& (18446744073709551615 - (2 ^ n - 1) * 2 ^ p) = 0 := by
  have hm : (2 ^ n - 1) * 2 ^ p < 2 ^ 64 := by
    calc (2 ^ n - 1) * 2 ^ p < 2 ^ n * 2 ^ p := Nat.mul_lt_mul_of_pos_right (Nat.sub_lt (Nat.two_pow_pos n) (by decide)) (Nat.two_pow_pos p)
      _ = 2 ^ (n + p) := (Nat.pow_add 2 n p).symm
      _ ≤ 2 ^ 64 := Nat.pow_le_pow_right (by decide) (by omega)
  have e : 18446744073709551615 - (2 ^ n - 1) * 2 ^ p = 2 ^ 64 - ((2 ^ n - 1) * 2 ^ p + 1) := by omega
  apply Nat.eq_of_testBit_eq
  intro i
  rw [e, Nat.testBit_and, Nat.testBit_xor, put_tb v p n x i hv h hx, Nat.testBit_two_pow_sub_succ hm, shl_tb, Nat.testBit_two_pow_sub_one, Nat.zero_testBit]
  by_cases h1 : p ≤ i ∧ i < p + n
  · have : i - p < n := by omega
    rw [if_pos h1]; simp [h1.1, this]
  · rw [if_neg h1]; simp

theorem fld_all (x n : Nat) (hx : x < 2 ^ n) : fld x 0 n = x := by unfold fld; rw [Nat.pow_zero, Nat.div_one]; exact Nat.mod_eq_of_lt hx
theorem fld_same (x n : Nat) : fld x 0 n = x ↔ x < 2 ^ n := by
  unfold fld
  rw [Nat.pow_zero, Nat.div_one]
  exact ⟨fun h => by rw [← h]; exact Nat.mod_lt _ (Nat.two_pow_pos n), fun h => Nat.mod_eq_of_lt h⟩
theorem field_lt (y n p : Nat) (hy : y < 2 ^ n) (h : p + n ≤ 64) : y * 2 ^ p < 18446744073709551616 := by
  show _ < 2 ^ 64
  calc y * 2 ^ p < 2 ^ n * 2 ^ p := Nat.mul_lt_mul_of_pos_right hy (Nat.two_pow_pos p)
    _ = 2 ^ (n + p) := (Nat.pow_add 2 n p).symm
    _ ≤ 2 ^ 64 := Nat.pow_le_pow_right (by decide) (by omega)
/-- One bit more at the lower end of what has been read from the top. -/
theorem top_step (f i : Nat) : f / 2 ^ i = 2 * (f / 2 ^ (i + 1)) + (f.testBit i).toNat := by
  rw [← bit_tb, Nat.pow_succ, ← Nat.div_div_eq_div_mul]; omega

/-! ### How many bits are 1 -/
theorem ones_le (v k : Nat) : ones v k ≤ k := by
  induction k with
  | zero => exact Nat.le_refl _
  | succ k ih => unfold ones; have := Nat.mod_lt (v / 2 ^ k) (show 0 < 2 by decide); omega
theorem ones_put (v p n x : Nat) (hv : v < 18446744073709551616) (h : p + n ≤ 64) (hx : x < 2 ^ n) (k : Nat) :
    ones (put v p n x) k + ones (fld v p n) (min (k - p) n) = ones v k + ones x (min (k - p) n) := by
  induction k with
  | zero => simp [ones]
  | succ k ih =>
    have s1 : ones (put v p n x) (k + 1) = ones (put v p n x) k + (put v p n x) / 2 ^ k % 2 := rfl
    have s2 : ones v (k + 1) = ones v k + v / 2 ^ k % 2 := rfl
    rw [s1, s2, bit_tb (put v p n x), bit_tb v, put_tb v p n x k hv h hx]
    by_cases h1 : p ≤ k ∧ k < p + n
    · have e : min (k + 1 - p) n = min (k - p) n + 1 := by omega
      have e2 : min (k - p) n = k - p := by omega
      have s3 : ones (fld v p n) (min (k - p) n + 1) = ones (fld v p n) (min (k - p) n) + fld v p n / 2 ^ (min (k - p) n) % 2 := rfl
      have s4 : ones x (min (k - p) n + 1) = ones x (min (k - p) n) + x / 2 ^ (min (k - p) n) % 2 := rfl
      rw [if_pos h1, e, s3, s4, bit_tb, bit_tb, fld_tb, e2, show p + (k - p) = k by omega]
      rw [e2] at ih
      have : k - p < n := by omega
      simp only [this, decide_true, Bool.true_and]
      omega
    · have e : min (k + 1 - p) n = min (k - p) n := by omega
      rw [if_neg h1, e]
      omega
theorem ones_top (x n : Nat) (hx : x < 2 ^ n) (k : Nat) (h : n ≤ k) : ones x k = ones x n := by
  induction k with
  | zero => rw [show n = 0 by omega]
  | succ k ih =>
    rcases Nat.lt_or_ge n (k + 1) with h1 | h1
    · have s : ones x (k + 1) = ones x k + x / 2 ^ k % 2 := rfl
      have : x / 2 ^ k = 0 := Nat.div_eq_of_lt (Nat.lt_of_lt_of_le hx (Nat.pow_le_pow_right (by decide) (by omega)))
      rw [s, this, ih (by omega), Nat.zero_mod, Nat.add_zero]
    · rw [show n = k + 1 by omega]
theorem ones_laid (v p n x : Nat) (hv : v < 18446744073709551616) (h : p + n ≤ 64) (hx : x < 2 ^ n) :
    (ones (put v p n x) 64 : Int) - (ones v 64 : Nat) = (ones x 64 : Nat) - (ones (fld v p n) 64 : Nat) := by
  have e := ones_put v p n x hv h hx 64
  rw [show min (64 - p) n = n by omega] at e
  rw [ones_top x n hx 64 (by omega), ones_top _ n (fld_lt v p n) 64 (by omega)]
  omega

/-! ### The lowest bit -/
theorem low_iff (v i k t : Nat) (h1 : i ≤ t) (h2 : t < i + k) (h3 : v / 2 ^ t % 2 = 1) (h4 : ∀ j, j < t → v / 2 ^ j % 2 = 0) : lowFrom v i k = t := by
  induction k generalizing i with
  | zero => omega
  | succ k ih =>
    unfold lowFrom
    by_cases e : i = t
    · subst e; rw [if_pos h3]
    · rw [if_neg (by rw [h4 i (by omega)]; decide)]
      exact ih (i + 1) (by omega) (by omega)
theorem low_none (i k : Nat) : lowFrom 0 i k = i + k := by
  induction k generalizing i with
  | zero => rfl
  | succ k ih => unfold lowFrom; rw [if_neg (by simp), ih]; omega
theorem low_le (v i k : Nat) : lowFrom v i k ≤ i + k := by
  induction k generalizing i with
  | zero => exact Nat.le_refl _
  | succ k ih =>
    unfold lowFrom
    by_cases h : v / 2 ^ i % 2 = 1
    · rw [if_pos h]; omega
    · rw [if_neg h]; have := ih (i + 1); omega
theorem low_zero : lowV 0 = 64 := by show ((lowFrom 0 0 64 : Nat) : Int) = 64; rw [low_none]; rfl
/-- x has a lowest bit t; x and its negative have just that bit in common. -/
theorem low_and (k x : Nat) (h0 : 0 < x) (hx : x < 2 ^ k) : ∃ t, t < k ∧ x &&& (2 ^ k - x) = 2 ^ t ∧ x / 2 ^ t % 2 = 1 ∧ ∀ j, j < t → x / 2 ^ j % 2 = 0 := by
  induction k generalizing x with
  | zero => omega
  | succ k ih =>
    have hp := Nat.two_pow_pos k
    rw [Nat.pow_succ] at hx
    by_cases ho : x % 2 = 1
    · refine ⟨0, by omega, ?_, by simpa using ho, fun j hj => by omega⟩
      apply Nat.eq_of_testBit_eq
      intro i
      have e : 2 ^ (k + 1) - x = 2 ^ (k + 1) - ((x - 1) + 1) := by omega
      rw [Nat.testBit_and, e, Nat.testBit_two_pow_sub_succ (by rw [Nat.pow_succ]; omega)]
      cases i with
      | zero =>
        have : (x - 1) % 2 = 0 := by omega
        simp [Nat.testBit_zero, ho, this]
      | succ i =>
        rw [Nat.testBit_succ, Nat.testBit_succ, show (x - 1) / 2 = x / 2 by omega]
        rw [show (2 ^ 0 : Nat) = 1 from rfl, Nat.testBit_succ, show 1 / 2 = 0 from rfl, Nat.zero_testBit]
        cases (x / 2).testBit i <;> simp
    · obtain ⟨t, ht, h1, h2, h3⟩ := ih (x / 2) (by omega) (by omega)
      refine ⟨t + 1, by omega, ?_, ?_, ?_⟩
      · have ex : x = 2 * (x / 2) := by omega
        have e2 : 2 ^ (k + 1) - x = 2 * (2 ^ k - x / 2) := by rw [Nat.pow_succ]; omega
        rw [e2]
        apply Nat.eq_of_testBit_eq
        intro i
        cases i with
        | zero =>
          rw [Nat.testBit_and, Nat.pow_succ]
          simp [Nat.testBit_zero]
        | succ i =>
          rw [Nat.testBit_and, Nat.testBit_succ, Nat.testBit_succ, Nat.testBit_succ, Nat.pow_succ, Nat.mul_div_cancel_left _ (by decide : 0 < 2), Nat.mul_div_cancel _ (by decide : 0 < 2), ← h1, Nat.testBit_and]
      · rw [Nat.pow_succ, Nat.mul_comm, ← Nat.div_div_eq_div_mul]; exact h2
      · intro j hj
        cases j with
        | zero => simp; omega
        | succ j => rw [Nat.pow_succ, Nat.mul_comm, ← Nat.div_div_eq_div_mul]; exact h3 j (by omega)

def tab : List Int := [0, 1, 56, 2, 57, 49, 28, 3, 61, 58, 42, 50, 38, 29, 17, 4, 62, 47, 59, 36, 45, 43, 51, 22, 53, 39, 33, 30, 24, 18, 12, 5, 63, 55, 48, 27, 60, 41, 37, 16, 46, 35, 44, 21, 52, 32, 23, 11, 54, 26, 40, 15, 34, 20, 31, 10, 25, 14, 19, 9, 13, 8, 7, 6]
def place (m : Nat) : Nat := m * 285870213051353865 % 18446744073709551616 / 2 ^ 58
theorem place_tab : ∀ t : Fin 64, place (2 ^ t.val) < 64 ∧ tab.getD (place (2 ^ t.val)) 0 = (t.val : Int) := by decide +kernel
theorem low_tab (x : Nat) (h0 : 0 < x) (hx : x < 18446744073709551616) : place (x &&& (18446744073709551616 - x)) < 64 ∧ tab.getD (place (x &&& (18446744073709551616 - x))) 0 = (lowFrom x 0 64 : Nat) := by
  obtain ⟨t, ht, h1, h2, h3⟩ := low_and 64 x h0 hx
  have := place_tab ⟨t, ht⟩
  rw [show (18446744073709551616 : Nat) = 2 ^ 64 from rfl, h1, low_iff x 0 64 t (by omega) (by omega) h2 h3]
  exact this
theorem low_place (v : Nat) (h0 : 0 < v) (hv : v < 18446744073709551616) : ∃ m L : Nat, m < 64 ∧ L ≤ 64 ∧ tab.getD m 0 = (L : Int) ∧ lowV v = L ∧ place (v &&& (18446744073709551616 - v)) = m := by
  obtain ⟨l1, l2⟩ := low_tab v h0 hv
  refine ⟨_, _, l1, low_le v 0 64, l2, ?_, rfl⟩
  unfold lowV
  rw [Int.toNat_natCast]
end Go.Proofs.YtfdombfdgpclcaaGreatDoor.Wd

/-
  The contracts of the functions of package word that package bits calls, and of math/bits.Len64: each is what a function of numbers says.
-/
namespace Go.Proofs.YtfdombfdgpclcaaGreatDoor.Wd
open Go.RowKit

theorem wrapN (a : Nat) (ha : a < 18446744073709551616) : IntKind.u64.wrap (a : Int) = (a : Int) := by rw [IntKind.wrap_u64]; omega
theorem isField_any (p n : Int) (h1 : -9223372036854775808 ≤ n) (h2 : n ≤ 9223372036854775807) (w : World) :
    Calls Tryz.prog 79 #[.int .i64 p, .int .i64 n] w fun e w' => e = .returned (.bool (okB p n)) ∧ w = w' := by
  by_cases c1 : 1 ≤ n
  · by_cases c2 : 0 ≤ p
    · by_cases c3 : p ≤ 64 - n
      · have e : okB p n = true := by unfold okB; simp [c1, c2, c3]; omega
        rw [e]; clear e
        go_enter Tryz.func79, Tryz.ntmps79
        go_wp2
        go_ret
        exact ⟨rfl, rfl⟩
      · have e : okB p n = false := by unfold okB; simp [c1, c2, c3]
        rw [e]; clear e
        go_enter Tryz.func79, Tryz.ntmps79
        go_wp2
        go_ret
        exact ⟨rfl, rfl⟩
    · have e : okB p n = false := by unfold okB; simp [c1, c2]
      rw [e]; clear e
      go_enter Tryz.func79, Tryz.ntmps79
      go_wp2
      go_ret
      exact ⟨rfl, rfl⟩
  · have e : okB p n = false := by unfold okB; simp [c1]
    rw [e]; clear e
    go_enter Tryz.func79, Tryz.ntmps79
    go_wp2
    go_ret
    exact ⟨rfl, rfl⟩
theorem two_pow_lt (n : Nat) (hn : n < 64) : (2 : Nat) ^ n < 18446744073709551616 := Nat.pow_lt_pow_right (by decide) hn
theorem cast_two (n : Nat) : (2 : Int) ^ n = ((2 ^ n : Nat) : Int) := by rw [Int.natCast_pow]; rfl
theorem mask_num (n : Nat) (hn : n ≤ 64) : IntKind.u64.wrap (IntKind.u64.wrap ((2 : Int) ^ n) - 1) = ((2 ^ n - 1 : Nat) : Int) := by
  rw [IntKind.wrap_u64, IntKind.wrap_u64, cast_two]
  by_cases h : n = 64
  · subst h; decide
  · have := two_pow_lt n (by omega)
    have hp := Nat.two_pow_pos n
    omega
theorem cut_num (v p n : Nat) (hv : v < 18446744073709551616) (hn : n ≤ 64) : bits .and .u64 ((v : Int) / 2 ^ p) (IntKind.u64.wrap (IntKind.u64.wrap ((2 : Int) ^ n) - 1)) = (fld v p n : Nat) := by
  have hm : 2 ^ n - 1 < 18446744073709551616 := by
    by_cases h : n = 64
    · subst h; decide
    · have := two_pow_lt n (by omega)
      omega
  have hd : v / 2 ^ p < 18446744073709551616 := Nat.lt_of_le_of_lt (Nat.div_le_self _ _) hv
  rw [mask_num n hn, cast_two, ← Int.natCast_ediv, u64_and_nat _ _ hd hm, Nat.and_two_pow_sub_one_eq_mod]
  rfl
theorem cut_nat (v p n : Nat) (hv : v < 18446744073709551616) (hp : p < 64) (hn : n ≤ 64) (w : World) :
    Calls Tryz.prog 80 #[.int .u64 v, .int .i64 p, .int .i64 n] w fun e w' => e = .returned (.int .u64 (fld v p n : Nat)) ∧ ∃ k, w' = w.drewN k := by
  have hc := Lib.hid (cut_num v p n hv hn)
  go_enter Tryz.func80, Tryz.ntmps80
  go_wp2
  go_quiet (fail)
  rw [hc.out]
  go_wp2
  go_ret
  exact ⟨rfl, _, rfl⟩
theorem cut_any (v p n : Int) (v0 : 0 ≤ v) (hv : v < 18446744073709551616) (p0 : 0 ≤ p) (hp : p < 64) (n0 : 0 ≤ n) (hn : n ≤ 64) (w : World) :
    Calls Tryz.prog 80 #[.int .u64 v, .int .i64 p, .int .i64 n] w fun e w' => e = .returned (.int .u64 (fld v.toNat p.toNat n.toNat : Nat)) ∧ ∃ k, w' = w.drewN k := by
  have h := cut_nat v.toNat p.toNat n.toNat (by omega) (by omega) (by omega) w
  rw [Int.toNat_of_nonneg v0, Int.toNat_of_nonneg p0, Int.toNat_of_nonneg n0] at h
  exact h
theorem okB_iff (p n : Int) : okB p n = true ↔ 1 ≤ n ∧ n ≤ 64 ∧ 0 ≤ p ∧ p ≤ 64 - n := by unfold okB; simp [and_assoc]
theorem bits_any (v p n : Int) (v0 : 0 ≤ v) (hv : v < 18446744073709551616) (p1 : -9223372036854775808 ≤ p) (p2 : p ≤ 9223372036854775807) (h1 : -9223372036854775808 ≤ n) (h2 : n ≤ 9223372036854775807) (w : World) :
    Calls Tryz.prog 62 #[.int .u64 v, .int .i64 p, .int .i64 n] w fun e w' => e = .returned (.tuple #[.int .u64 (bitsV v p n), .int .i64 (bitsE p n)]) ∧ ∃ k, w' = w.drewN k := by
  have hf := isField_any p n h1 h2
  by_cases h : okB p n = true
  · have e1 : bitsV v p n = (fld v.toNat p.toNat n.toNat : Nat) := by unfold bitsV; rw [if_pos h]
    have e2 : bitsE p n = 0 := by unfold bitsE; rw [if_pos h]
    rw [e1, e2]; clear e1 e2
    simp only [h] at hf
    obtain ⟨a1, a2, a3, a4⟩ := (okB_iff p n).1 h
    have hc := cut_any v p n v0 hv a3 (by omega) (by omega) a2
    have Hf := Lib.hid hf
    have Hc := Lib.hid hc
    clear hf hc h
    generalize fld v.toNat p.toNat n.toNat = q at *
    go_enter Tryz.func62, Tryz.ntmps62
    go_wp2_with (first | (go_at_call 79; refine (Hf.out _).mono ?_; rintro e w' ⟨rfl, rfl⟩) | (go_at_call 80; refine (Hc.out _).mono ?_; rintro e w' ⟨rfl, k, rfl⟩))
    go_ret2
    exact ⟨rfl, _, rfl⟩
  · have e1 : bitsV v p n = 0 := by unfold bitsV; rw [if_neg h]
    have e2 : bitsE p n = 2 := by unfold bitsE; rw [if_neg h]
    rw [e1, e2]; clear e1 e2
    simp only [h] at hf
    have Hf := Lib.hid hf
    clear hf h
    go_enter Tryz.func62, Tryz.ntmps62
    go_wp2_with (go_at_call 79; refine (Hf.out _).mono ?_; rintro e w' ⟨rfl, rfl⟩)
    go_ret2
    exact ⟨rfl, 0, rfl⟩
theorem layB_iff (p n x : Int) : layB p n x = true ↔ okB p n = true ∧ x.toNat < 2 ^ n.toNat := by unfold layB; simp
theorem put_num (v p n x : Nat) (hv : v < 18446744073709551616) (hp : p + n ≤ 64) (hx : x < 2 ^ n) :
    bits .or .u64 (bits .andNot .u64 (v : Int) (IntKind.u64.wrap (((fld v p n : Nat) : Int) * 2 ^ p))) (IntKind.u64.wrap ((x : Int) * 2 ^ p)) = (put v p n x : Nat) := by
  have h1 := field_lt _ n p (fld_lt v p n) hp
  have h2 := field_lt x n p hx hp
  rw [cast_two, ← Int.natCast_mul, ← Int.natCast_mul, wrapN _ h1, wrapN _ h2, u64_andNot_nat _ _ hv h1, u64_or_nat _ _ (Nat.lt_of_le_of_lt Nat.and_le_left hv) h2]
  rfl

theorem lay_any (v p n x : Int) (v0 : 0 ≤ v) (hv : v < 18446744073709551616) (x0 : 0 ≤ x) (hx : x < 18446744073709551616) (h1 : -9223372036854775808 ≤ n) (h2 : n ≤ 9223372036854775807) (w : World) :
    Calls Tryz.prog 84 #[.int .u64 v, .int .i64 p, .int .i64 n, .int .u64 x] w fun e w' => e = .returned (.tuple #[.int .u64 (layV v p n x), .int .i64 (layE p n x)]) ∧ ∃ k, w' = w.drewN k := by
  have hf := isField_any p n h1 h2
  by_cases h : okB p n = true
  · simp only [h] at hf
    obtain ⟨a1, a2, a3, a4⟩ := (okB_iff p n).1 h
    have hc := cut_any x 0 n x0 hx (by omega) (by omega) (by omega) a2
    have Hf := Lib.hid hf
    clear hf
    by_cases hl : x.toNat < 2 ^ n.toNat
    · have hB := (layB_iff p n x).2 ⟨h, hl⟩
      have e1 : layV v p n x = (put v.toNat p.toNat n.toNat x.toNat : Nat) := by unfold layV; rw [if_pos hB]
      have e2 : layE p n x = 0 := by unfold layE; rw [if_pos hB]
      rw [e1, e2]; clear e1 e2
      rw [show (0 : Int).toNat = 0 from rfl, fld_all _ _ hl] at hc
      have hd := cut_any v p n v0 hv a3 (by omega) (by omega) a2
      have hn := put_num v.toNat p.toNat n.toNat x.toNat (by omega) (by omega) hl
      rw [Int.toNat_of_nonneg v0, Int.toNat_of_nonneg x0] at hn
      rw [Int.toNat_of_nonneg x0] at hc
      generalize put v.toNat p.toNat n.toNat x.toNat = F at *
      have p64 : p < 64 := by omega
      generalize fld v.toNat p.toNat n.toNat = b at *
      have Hc := Lib.hid hc
      have Hd := Lib.hid hd
      have Hn := Lib.hid hn
      clear hc hd hn hB h hl
      go_enter Tryz.func84, Tryz.ntmps84
      go_wp2_with fail
      refine (Hf.out _).mono ?_; rintro e w' ⟨rfl, rfl⟩
      go_wp2_with fail
      refine (Hc.out _).mono ?_; rintro e w' ⟨rfl, k, rfl⟩
      go_wp2_with fail
      refine (Hd.out _).mono ?_; rintro e w' ⟨rfl, k2, rfl⟩
      go_wp2_with fail
      go_quiet (fail)
      go_wp2
      rw [Hn.out]
      go_ret2
      exact ⟨rfl, k + k2 + nq, World.drewN_drewN _ _ _⟩
    · have hB : ¬ layB p n x = true := fun hh => hl ((layB_iff p n x).1 hh).2
      have e1 : layV v p n x = 0 := by unfold layV; rw [if_neg hB]
      have e2 : layE p n x = 2 := by unfold layE; rw [if_neg hB]
      rw [e1, e2]; clear e1 e2
      have hne : (((fld x.toNat 0 n.toNat : Nat) : Int) != x) = true := by
        rw [bne_iff_ne]
        intro he
        exact hl ((fld_same _ _).1 (by omega))
      rw [show (0 : Int).toNat = 0 from rfl] at hc
      generalize fld x.toNat 0 n.toNat = b at *
      have Hc := Lib.hid hc
      clear hc hB h hl
      go_enter Tryz.func84, Tryz.ntmps84
      go_wp2_with fail
      refine (Hf.out _).mono ?_; rintro e w' ⟨rfl, rfl⟩
      go_wp2_with fail
      refine (Hc.out _).mono ?_; rintro e w' ⟨rfl, k, rfl⟩
      go_wp2_with fail
      go_ret2
      exact ⟨rfl, _, rfl⟩
  · have hB : ¬ layB p n x = true := fun hh => h ((layB_iff p n x).1 hh).1
    have e1 : layV v p n x = 0 := by unfold layV; rw [if_neg hB]
    have e2 : layE p n x = 2 := by unfold layE; rw [if_neg hB]
    rw [e1, e2]; clear e1 e2
    simp only [h] at hf
    have Hf := Lib.hid hf
    clear hf h hB
    go_enter Tryz.func84, Tryz.ntmps84
    go_wp2_with fail
    refine (Hf.out _).mono ?_; rintro e w' ⟨rfl, rfl⟩
    go_wp2_with fail
    go_ret2
    exact ⟨rfl, 0, rfl⟩

theorem tz_num (v : Nat) (h0 : 0 < v) (hv : v < 18446744073709551616) :
    IntKind.u64.wrap (bits .and .u64 (v : Int) (IntKind.u64.wrap (-(v : Int))) * 285870213051353865) / 288230376151711744 = (place (v &&& (18446744073709551616 - v)) : Nat) := by
  have e : IntKind.u64.wrap (-(v : Int)) = ((18446744073709551616 - v : Nat) : Int) := by rw [IntKind.wrap_u64]; omega
  rw [e, u64_and_nat _ _ hv (by omega), IntKind.wrap_u64]
  unfold place
  omega
theorem tz_zero (w : World) :
    Calls Tryz.prog 100 #[.int .u64 0] w fun e w' => e = .returned (.int .i64 64) ∧ w = w' := by
  go_enter Tryz.func100, Tryz.ntmps100
  go_wp2
  go_ret
  exact ⟨rfl, rfl⟩
theorem tz_more (v m L : Nat) (hne : ((v : Int) == 0) = false) (l1 : m < 64) (hL : L ≤ 64) (hn : IntKind.u64.wrap (bits .and .u64 (v : Int) (IntKind.u64.wrap (-(v : Int))) * 285870213051353865) / 288230376151711744 = (m : Int)) (w : World) (hc : w.cell? ⟨1, m, none⟩ = some (.int .u8 (L : Nat))) :
    Calls Tryz.prog 100 #[.int .u64 v] w fun e w' => e = .returned (.int .i64 (L : Nat)) ∧ w = w' := by
  go_enter Tryz.func100, Tryz.ntmps100
  go_wp2
  go_ret
  exact ⟨rfl, rfl⟩
theorem tz_any (v : Nat) (hv : v < 18446744073709551616) (w : World) (ht : ∀ i : Nat, i < 64 → w.cell? ⟨1, i, none⟩ = some (.int .u8 (tab.getD i 0))) :
    Calls Tryz.prog 100 #[.int .u64 v] w fun e w' => e = .returned (.int .i64 (lowV v)) ∧ w = w' := by
  by_cases h : v = 0
  · subst h
    have hz := tz_zero w
    rw [← low_zero] at hz
    exact hz
  · obtain ⟨m, L, l1, hL, e1, e2, e3⟩ := low_place v (by omega) hv
    have hn := tz_num v (by omega) hv
    have hc := ht m l1
    rw [e3] at hn
    rw [e1] at hc
    rw [e2]
    exact tz_more v m L (by simpa using h) l1 hL hn w hc
theorem low_any (v : Int) (v0 : 0 ≤ v) (hv : v < 18446744073709551616) (w : World) (ht : ∀ i : Nat, i < 64 → w.cell? ⟨1, i, none⟩ = some (.int .u8 (tab.getD i 0))) :
    Calls Tryz.prog 89 #[.int .u64 v] w fun e w' => e = .returned (.int .i64 (lowV v)) ∧ w = w' := by
  have hc := tz_any v.toNat (by omega) w ht
  rw [Int.toNat_of_nonneg v0] at hc
  have Hc := Lib.hid hc
  clear hc ht
  go_enter Tryz.func89, Tryz.ntmps89
  go_wp2_with fail
  refine (Hc.out).mono ?_; rintro e w' ⟨rfl, rfl⟩
  go_wp2_with fail
  go_ret
  exact ⟨rfl, rfl⟩
/-- The table of the lowest bits, as the program's text lays it. -/
def Table (w : World) : Prop := ∀ i : Nat, i < 64 → w.cell? ⟨1, i, none⟩ = some (.int .u8 (tab.getD i 0))
theorem Table.drewN {w : World} (h : Table w) (k : Nat) : Table (w.drewN k) := h

end Go.Proofs.YtfdombfdgpclcaaGreatDoor.Wd

/-
  The contract of math/bits.Len64 at a word that is not 0: one more than its highest bit.
-/
namespace Go.Proofs.YtfdombfdgpclcaaGreatDoor.Wd
open Go.RowKit

/-- One more than the highest bit that is 1; 0 of 0. -/
def lenN (v : Nat) : Nat := if v = 0 then 0 else Nat.log2 v + 1
theorem lenN_shift (v k : Nat) (h : 2 ^ k ≤ v) : lenN v = k + lenN (v / 2 ^ k) := by
  have hp := Nat.two_pow_pos k
  have h1 : v ≠ 0 := by omega
  have h2 : v / 2 ^ k ≠ 0 := by
    have := Nat.div_pos h hp
    omega
  unfold lenN
  rw [if_neg h1, if_neg h2]
  have e := (Nat.log2_eq_iff h2 (k := Nat.log2 (v / 2 ^ k))).1 rfl
  have : Nat.log2 v = k + Nat.log2 (v / 2 ^ k) := by
    rw [Nat.log2_eq_iff h1, Nat.pow_add, Nat.add_assoc, Nat.pow_add]
    exact ⟨(Nat.mul_comm _ _) ▸ (Nat.le_div_iff_mul_le hp).1 e.1, (Nat.mul_comm _ _) ▸ (Nat.div_lt_iff_lt_mul hp).1 e.2⟩
  omega
theorem lenN_bitLenAux : ∀ (f v : Nat), v < 2 ^ f → Lib.bitLenAux f v = lenN v
  | 0, v, h => by
    have : v = 0 := by simpa using h
    subst this; rfl
  | f + 1, v, h => by
    show (if v = 0 then 0 else 1 + Lib.bitLenAux f (v / 2)) = lenN v
    by_cases h0 : v = 0
    · subst h0; rfl
    · rw [if_neg h0, lenN_bitLenAux f (v / 2) (by rw [Nat.pow_succ] at h; omega)]
      by_cases h1 : v = 1
      · subst h1; decide
      · have := lenN_shift v 1 (by omega)
        simpa using this.symm
theorem lenN_bitLen (v : Nat) (h : v < 18446744073709551616) : Lib.bitLen v = lenN v := lenN_bitLenAux 64 v h
theorem len8N (y : Int) (h0 : 0 ≤ y) (h1 : y < 256) : Lib.bitLen y.toNat = lenN y.toNat := lenN_bitLen _ (by omega)

theorem tabSize : Lib.len8tab.size = 256 := by decide +kernel
theorem tabAll : ∀ k : Fin 256, (Lib.len8tab[k.val]'(by have := k.isLt; rw [tabSize]; exact this)).toNat = lenN k.val := by decide +kernel
theorem tabAt (k : Nat) (h : k < Lib.len8tab.size) : (Lib.len8tab[k]'h).toNat = lenN k := tabAll ⟨k, by rw [tabSize] at h; exact h⟩
theorem lenN_small (k : Nat) (h : k < 256) : lenN k ≤ 8 := by
  have := Lib.bitLen_le8 ⟨k, h⟩
  simp only at this
  rw [lenN_bitLen k (by omega)] at this
  exact this
theorem len_way (v y K : Int) (k : Nat) (hK : K = (k : Int)) (hk : k ≤ 56) (hy : y.toNat = v.toNat / 2 ^ k) (hg : 2 ^ k ≤ v.toNat) (h2 : y.toNat < 256) : wrap64 (K + wrap64 ((lenN y.toNat : Nat) : Int)) = ((lenN v.toNat : Nat) : Int) := by
  have hl := lenN_small _ h2
  rw [lenN_shift v.toNat k hg, ← hy]
  subst hK
  unfold wrap64
  omega
theorem len_way0 (v : Int) (h2 : v.toNat < 256) : wrap64 (wrap64 ((lenN v.toNat : Nat) : Int)) = ((lenN v.toNat : Nat) : Int) := by
  have hl := lenN_small _ h2
  unfold wrap64
  omega
set_option maxHeartbeats 4000000 in
set_option maxRecDepth 100000 in
theorem len64_any (v : Int) (h0 : 0 ≤ v) (h1 : v < 18446744073709551616) (w : World) :
    Calls Tryz.prog 71 #[.int .u64 v] w fun e w' => e = .returned (.int .i64 (lenN v.toNat : Nat)) ∧ w = w' := by
  have hs := tabSize
  go_enter Tryz.func71, Tryz.ntmps71
  go_wp2
  all_goals (go_ret; refine ⟨congrArg Ending.returned (congrArg (Value.int IntKind.i64) ?_), rfl⟩; rw [tabAt])
  all_goals first
    | refine len_way v _ _ 8 rfl (by omega) ?_ (by omega) (by omega) <;> omega
    | refine len_way v _ _ 16 rfl (by omega) ?_ (by omega) (by omega) <;> omega
    | refine len_way v _ _ 24 rfl (by omega) ?_ (by omega) (by omega) <;> omega
    | refine len_way v _ _ 32 rfl (by omega) ?_ (by omega) (by omega) <;> omega
    | refine len_way v _ _ 40 rfl (by omega) ?_ (by omega) (by omega) <;> omega
    | refine len_way v _ _ 48 rfl (by omega) ?_ (by omega) (by omega) <;> omega
    | refine len_way v _ _ 56 rfl (by omega) ?_ (by omega) (by omega) <;> omega
    | exact len_way0 v (by omega)
end Go.Proofs.YtfdombfdgpclcaaGreatDoor.Wd

/-
  Memory of package bits: a vector's struct, its words; the contracts of the functions that only look.
-/
namespace Go.Proofs.YtfdombfdgpclcaaGreatDoor.Bt
open Go.RowKit Go.Proofs.YtfdombfdgpclcaaGreatDoor.Ar Go.Proofs.YtfdombfdgpclcaaGreatDoor.Wd
set_option linter.unusedVariables false

theorem zeroWords (w : World) : Sem.run Tryz.prog (zeroValue 139) w = .ok (.agg (Array.replicate 1024 (.int .u64 0))) w := by
  kernel_rfl
theorem arrType : Tryz.prog.underlying 139 = some (.array (Tryz.prog.arrayLen 139) (Tryz.prog.elem 139)) := by kernel_rfl
theorem arrLen : Tryz.prog.arrayLen 139 = 1024 := by kernel_rfl
theorem arrElem (w : World) : (sizeOf (Tryz.prog.elem 139)).run Tryz.prog w = .ok 1 w := by kernel_rfl
theorem cutWords (k : Nat) (hk : k ≤ 1024) (b : Nat) (w : World) :
    (Instr.sliceAt 139 (.pointer (some ⟨b, 0, none⟩)) none (some (.int .i64 (k : Int))) none).run Tryz.prog w = .ok (.slice (some ⟨b, 0, none⟩) k 1024) w := by
  rw [run_sliceAt_array_h w _ _ arrType .i64 (k : Int) (by omega) (by rw [arrLen]; omega), arrElem, arrLen]
  simp [Result.andThen, slicedAt, add_at]

/-- A vector of n bits at block p, its words at block q. -/
structure Vec (w : World) (p q n : Nat) (ws : List Int) : Prop where
  head : Has w p 114 [.int .i64 (n : Int), .slice (some ⟨q, 0, none⟩) ((n + 63) / 64) 1024]
  row : Has w q 139 (ints ws)
  len : ws.length = 1024
  few : n ≤ 65536
  word : ∀ j, 0 ≤ ws.getD j 0 ∧ ws.getD j 0 < 18446744073709551616
namespace Vec
variable {w w' : World} {p q n : Nat} {ws : List Int}
theorem ne (h : Vec w p q n ws) : p ≠ q := Has.block_type h.head h.row (by decide)
theorem kept {S : List Nat} (h : Vec w p q n ws) (k : Kept S w w') (hp : p ∉ S) (hq : q ∉ S) : Vec w' p q n ws := ⟨h.head.kept k hp, h.row.kept k hq, h.len, h.few, h.word⟩
theorem keep0 (h : Vec w p q n ws) (k : Kept [] w w') : Vec w' p q n ws := h.kept k (by simp) (by simp)
theorem cell (h : Vec w p q n ws) (j : Nat) (hj : j < 1024) : w.cell? ⟨q, j, none⟩ = some (.int .u64 (ws.getD j 0)) := by
  rw [h.row.cell, ints_get ws j (by rw [h.len]; exact hj)]
theorem size (h : Vec w p q n ws) : w.cell? ⟨p, 0, none⟩ = some (.int .i64 (n : Int)) := by rw [h.head.cell]; rfl
theorem slice (h : Vec w p q n ws) : w.cell? ⟨p, 1, none⟩ = some (.slice (some ⟨q, 0, none⟩) ((n + 63) / 64) 1024) := by rw [h.head.cell]; rfl
end Vec

theorem vector_ok (n : Nat) (hn : n ≤ 65536) (w : World) :
    Calls Tryz.prog 61 #[.int .i64 n] w fun e w' => e = .returned (.pointer (some ⟨w.heap.size + 1, 0, none⟩)) ∧ Vec w' (w.heap.size + 1) w.heap.size n (List.replicate 1024 0) ∧ Kept [] w w' := by
  have zw := zeroWords
  have hc := cutWords ((n + 63) / 64) (by omega)
  have e : ((n : Int) + 64 - 1) / 64 = (((n + 63) / 64 : Nat) : Int) := by omega
  rw [← e] at hc
  have hz : Array.replicate 1024 (Value.int .u64 0) = (ints (List.replicate 1024 0)).toArray := by unfold ints; rw [List.map_replicate, List.toArray_replicate]
  rw [hz] at zw
  clear hz
  have Hl := Lib.hid (show (List.replicate 1024 (0 : Int)).length = 1024 by rw [List.length_replicate])
  have Hw : Hid (∀ j, 0 ≤ (List.replicate 1024 (0 : Int)).getD j 0 ∧ (List.replicate 1024 (0 : Int)).getD j 0 < 18446744073709551616) := Lib.hid (fun j => by
    have h0 : (List.replicate 1024 (0 : Int)).getD j 0 = 0 := by
      rw [List.getD, List.getElem?_replicate]
      split <;> rfl
    rw [h0]; omega)
  generalize List.replicate 1024 (0 : Int) = ws at *
  generalize hq : (n + 63) / 64 = nw at *
  have Hq := Lib.hid hq
  clear hq e
  go_enter Tryz.func61, Tryz.ntmps61
  go_wp2
  go_ret
  have h1 : Has (w.alloc (.cells (ints ws).toArray 139)) w.heap.size 139 (ints ws) := Has.new w _ _
  have h2 := Has.new (w.alloc (.cells (ints ws).toArray 139)) 114 [.int .i64 (n : Int), .slice (some ⟨w.heap.size, 0, none⟩) nw 1024]
  rw [World.size_alloc] at h2
  exact ⟨rfl, ⟨by rw [Hq.out]; exact h2, h1.alloc _, Hl.out, hn, Hw.out⟩, ((Kept.refl [] w).alloc _).alloc _⟩

theorem new_no (n : Int) (h : n < 0 ∨ 65536 < n) (w : World) :
    Calls Tryz.prog 40 #[.int .i64 n] w fun e w' => e = .returned (.tuple #[.pointer none, .int .i64 2]) ∧ w = w' := by
  rcases h with h | h
  · go_enter Tryz.func40, Tryz.ntmps40
    go_wp2_with fail
    go_ret2
    exact ⟨rfl, rfl⟩
  · have h' : ¬ n < 0 := by omega
    go_enter Tryz.func40, Tryz.ntmps40
    go_wp2_with fail
    go_ret2
    exact ⟨rfl, rfl⟩
theorem new_ok (n : Nat) (hn : n ≤ 65536) (w : World) :
    Calls Tryz.prog 40 #[.int .i64 n] w fun e w' => e = .returned (.tuple #[.pointer (some ⟨w.heap.size + 1, 0, none⟩), .int .i64 0]) ∧ Vec w' (w.heap.size + 1) w.heap.size n (List.replicate 1024 0) ∧ Kept [] w w' := by
  have h1 : ¬ (n : Int) < 0 := by omega
  have h2 : ¬ (65536 : Int) < n := by omega
  go_enter Tryz.func40, Tryz.ntmps40
  go_wp2_with fail
  refine (vector_ok n hn _).mono ?_
  rintro e w' ⟨rfl, h⟩
  have H := Lib.hid h
  clear h
  go_wp2_with fail
  go_ret2
  exact ⟨rfl, H.out⟩
theorem len_nil (w : World) : Calls Tryz.prog 69 #[.pointer none] w fun e w' => e = .returned (.int .i64 0) ∧ w = w' := by
  go_enter Tryz.func69, Tryz.ntmps69
  go_wp2_with fail
  go_ret
  exact ⟨rfl, rfl⟩
theorem len_ok {p q n : Nat} {ws : List Int} (w : World) (h : Vec w p q n ws) : Calls Tryz.prog 69 #[.pointer (some ⟨p, 0, none⟩)] w fun e w' => e = .returned (.int .i64 (n : Int)) ∧ w = w' := by
  have hc := h.size
  clear h
  go_enter Tryz.func69, Tryz.ntmps69
  go_wp2_with fail
  go_ret
  exact ⟨rfl, rfl⟩

/-- k bits from the bit i on lie within L. -/
def within (L : Nat) (i k : Int) : Bool := decide (0 ≤ i ∧ 0 ≤ k ∧ i + k ≤ L)
theorem within_iff (L : Nat) (i k : Int) : within L i k = true ↔ 0 ≤ i ∧ 0 ≤ k ∧ i + k ≤ L := by unfold within; exact decide_eq_true_iff
/-- OK or ErrArg. -/
def errOf (b : Bool) : Int := if b then 0 else 2

theorem check_nil (i k : Int) (w : World) : Calls Tryz.prog 34 #[.pointer none, .int .i64 i, .int .i64 k] w fun e w' => e = .returned (.int .i64 1) ∧ w = w' := by
  go_enter Tryz.func34, Tryz.ntmps34
  go_wp2_with fail
  go_ret
  exact ⟨rfl, rfl⟩
theorem check_ok {p q n : Nat} {ws : List Int} (w : World) (h : Vec w p q n ws) (i k : Int) (i1 : -9223372036854775808 ≤ i) (i2 : i ≤ 9223372036854775807) (k1 : -9223372036854775808 ≤ k) (k2 : k ≤ 9223372036854775807) :
    Calls Tryz.prog 34 #[.pointer (some ⟨p, 0, none⟩), .int .i64 i, .int .i64 k] w fun e w' => e = .returned (.int .i64 (errOf (within n i k))) ∧ w = w' := by
  have hc := h.size
  have hf := h.few
  clear h
  by_cases c1 : i < 0
  · have e : within n i k = false := by unfold within; exact decide_eq_false (by omega)
    rw [e]; clear e
    go_enter Tryz.func34, Tryz.ntmps34
    go_wp2_with fail
    go_ret
    exact ⟨rfl, rfl⟩
  · by_cases c2 : k < 0
    · have e : within n i k = false := by unfold within; exact decide_eq_false (by omega)
      rw [e]; clear e
      go_enter Tryz.func34, Tryz.ntmps34
      go_wp2_with fail
      go_ret
      exact ⟨rfl, rfl⟩
    · by_cases c3 : (n : Int) - i < k
      · have e : within n i k = false := by unfold within; exact decide_eq_false (by omega)
        rw [e]; clear e
        go_enter Tryz.func34, Tryz.ntmps34
        go_wp2_with fail
        go_ret
        exact ⟨rfl, rfl⟩
      · have e : within n i k = true := by unfold within; exact decide_eq_true (by omega)
        rw [e]; clear e
        go_enter Tryz.func34, Tryz.ntmps34
        go_wp2_with fail
        go_ret
        exact ⟨rfl, rfl⟩
theorem partsOf_ok (i : Nat) (hi : i ≤ 65536) (w : World) : Calls Tryz.prog 36 #[.int .i64 i] w fun e w' => e = .returned (.agg #[.int .i64 ((i / 64 : Nat) : Int), .int .i64 ((i % 64 : Nat) : Int)]) ∧ Kept [] w w' := by
  have Ed := Lib.hid (show (i : Int) / 64 = ((i / 64 : Nat) : Int) by omega)
  have Em := Lib.hid (show (i : Int) % 64 = ((i % 64 : Nat) : Int) by omega)
  go_enter Tryz.func36, Tryz.ntmps36
  go_wp2_with fail
  rw [Ed.out, Em.out]
  exact bodyPost_ret (v := .agg #[.int .i64 ((i / 64 : Nat) : Int), .int .i64 ((i % 64 : Nat) : Int)]) (by simp [results, Tryz.results36, go_sem]) rfl ⟨rfl, (Kept.refl [] w).alloc _⟩

/-- A piece, as a value: which word, from which bit on, how many. -/
def pieceV (k a n : Nat) : Value := .agg #[.int .i64 (k : Int), .int .i64 (a : Int), .int .i64 (n : Int)]
theorem first_ok (k a n : Nat) (hk : k ≤ 65536) (ha : a ≤ 65536) (w : World) : Calls Tryz.prog 70 #[pieceV k a n] w fun e w' => e = .returned (.int .i64 ((k * 64 + a : Nat) : Int)) ∧ Kept [] w w' := by
  have E := Lib.hid (show (k : Int) * 64 + (a : Int) = ((k * 64 + a : Nat) : Int) by omega)
  unfold pieceV
  go_enter Tryz.func70, Tryz.ntmps70
  go_wp2_with fail
  rw [E.out]
  go_ret
  exact ⟨rfl, (Kept.refl [] w).alloc _⟩
theorem bitsV_ok (v : Int) (a n : Nat) (h1 : 1 ≤ n) (h2 : a + n ≤ 64) : bitsV v a n = ((fld v.toNat a n : Nat) : Int) := by
  unfold bitsV
  rw [if_pos ((okB_iff _ _).2 (by omega))]
  rfl
theorem cut_ok {p q N : Nat} {ws : List Int} (w : World) (h : Vec w p q N ws) (k a n : Nat) (hk : k < (N + 63) / 64) (h1 : 1 ≤ n) (h2 : a + n ≤ 64) :
    Calls Tryz.prog 35 #[.pointer (some ⟨p, 0, none⟩), pieceV k a n] w fun e w' => e = .returned (.int .u64 ((fld (ws.getD k 0).toNat a n : Nat) : Int)) ∧ Kept [] w w' := by
  have hf := h.few
  have hw := h.word k
  have hsl : ∀ o, (w.alloc o).cell? ⟨p, 1, none⟩ = some (.slice (some ⟨q, 0, none⟩) ((N + 63) / 64) 1024) := fun o => (h.keep0 ((Kept.refl [] w).alloc o)).slice
  have hc : ∀ o, (w.alloc o).cell? ⟨q, k, none⟩ = some (.int .u64 (ws.getD k 0)) := fun o => (h.keep0 ((Kept.refl [] w).alloc o)).cell k (by omega)
  have hb : ∀ w, Calls Tryz.prog 62 #[.int .u64 (ws.getD k 0), .int .i64 a, .int .i64 n] w _ := fun w => bits_any (ws.getD k 0) a n hw.1 hw.2 (by omega) (by omega) (by omega) (by omega) w
  rw [bitsV_ok _ _ _ h1 h2] at hb
  generalize ws.getD k 0 = v at *
  generalize fld v.toNat a n = x at *
  generalize (N + 63) / 64 = nw at *
  clear h
  have Hb := Lib.hid hb
  clear hb
  unfold pieceV
  go_enter Tryz.func35, Tryz.ntmps35
  go_wp2_with fail
  go_quiet ((go_at_call 62; exact Calls.quiet_of (Hb.out _)))
  go_wp2_with fail
  go_ret
  exact ⟨rfl, ((Kept.refl [] w).alloc _).drewN _⟩
theorem up_ok (p i e : Int) (b : Option Addr) (w : World) :
    Calls Tryz.prog 83 #[.pointer b, .int .i64 i, .int .i64 e] w fun r w' => r = .returned (.func (.func 96) #[] #[.pointer (some ⟨w.heap.size + 1, 0, none⟩), .pointer (some ⟨w.heap.size + 2, 0, none⟩), .pointer (some ⟨w.heap.size, 0, none⟩)]) ∧ w' = ((w.alloc (.cells #[.pointer b] 50)).alloc (.cells #[.int .i64 i] 3)).alloc (.cells #[.int .i64 e] 3) := by
  go_enter Tryz.func83, Tryz.ntmps83
  go_wp2_with fail
  go_ret
  exact ⟨rfl, rfl⟩
theorem down_ok (p i : Int) (b : Option Addr) (w : World) :
    Calls Tryz.prog 68 #[.pointer b, .int .i64 i] w fun r w' => r = .returned (.func (.func 85) #[] #[.pointer (some ⟨w.heap.size + 1, 0, none⟩), .pointer (some ⟨w.heap.size, 0, none⟩)]) ∧ w' = (w.alloc (.cells #[.pointer b] 50)).alloc (.cells #[.int .i64 i] 3) := by
  go_enter Tryz.func68, Tryz.ntmps68
  go_wp2_with fail
  go_ret
  exact ⟨rfl, rfl⟩
end Go.Proofs.YtfdombfdgpclcaaGreatDoor.Bt

/-
  What a round of a loop over a vector's pieces keeps, and which pieces come.
-/
namespace Go.Proofs.YtfdombfdgpclcaaGreatDoor.Bt
open Go.RowKit Go.Proofs.YtfdombfdgpclcaaGreatDoor.Ar Go.Proofs.YtfdombfdgpclcaaGreatDoor.Wd
set_option linter.unusedVariables false

/-- Whatever is cells, and not in S, lies as it lay. -/
structure CellsKept (S : List Nat) (W W' : World) : Prop where
  size : W.heap.size ≤ W'.heap.size
  same : ∀ k o, k ∉ S → W.heap[k]? = some o → o.isCells = true → W'.heap[k]? = some o
namespace CellsKept
theorem trans {S : List Nat} {A B C : World} (h : CellsKept S A B) (k : CellsKept S B C) : CellsKept S A C :=
  ⟨Nat.le_trans h.size k.size, fun i o hi ho hc => k.same i o hi (h.same i o hi ho hc) hc⟩
theorem of_kept {S : List Nat} {A B : World} (h : Kept S A B) : CellsKept S A B :=
  ⟨h.more, fun i o hi ho _ => (h.old i (Array.getElem?_eq_some_iff.1 ho).1 hi).trans ho⟩
theorem put {S : List Nat} (W : World) (l : Nat) (o o' : Obj) (h : W.heap[l]? = some o) (hc : o.isCells = false) : CellsKept S W (W.putObj l o') :=
  ⟨(grownBy_putObj' W l o').size, fun i x _ hx hxc => by
    have hne : i ≠ l := by rintro rfl; rw [h] at hx; injection hx with hx; rw [hx, hxc] at hc; cases hc
    exact ((grownBy_putObj' W l o').block i (Array.getElem?_eq_some_iff.1 hx).1 (fun e => hne (by injection e))).trans hx⟩
theorem has {S : List Nat} {W W' : World} (h : CellsKept S W W') {b : Nat} {t : TypeId} {cs : List Value} (hb : b ∉ S) (hh : Has W b t cs) : Has W' b t cs := h.same b _ hb hh rfl
end CellsKept
/-- What a round that goes on keeps: cells that are not in S; the words' block is words still. -/
def Keeps (G : List Int → Prop) (S : List Nat) (q : Nat) (W W' : World) : Prop :=
  CellsKept S W W' ∧ ((∃ ws, G ws ∧ Has W q 139 (ints ws)) → ∃ ws, G ws ∧ Has W' q 139 (ints ws))
theorem Keeps.trans {G : List Int → Prop} {S : List Nat} {q : Nat} {A B C : World} (h : Keeps G S q A B) (k : Keeps G S q B C) : Keeps G S q A C := ⟨h.1.trans k.1, fun x => k.2 (h.2 x)⟩
theorem Keeps.put {G : List Int → Prop} {S : List Nat} {q : Nat} (W : World) (l : Nat) (o o' : Obj) (h : W.heap[l]? = some o) (hc : o.isCells = false) : Keeps G S q W (W.putObj l o') :=
  ⟨CellsKept.put W l o o' h hc, fun ⟨ws, hG, hq⟩ => ⟨ws, hG, (CellsKept.put (S := []) W l o o' h hc).has (by simp) hq⟩⟩
/-- Where the words' block is not in S. -/
theorem Keeps.of {G : List Int → Prop} {S : List Nat} {q : Nat} {W W' : World} (h : CellsKept S W W') (hq : q ∉ S) : Keeps G S q W W' := ⟨h, fun ⟨ws, hG, hh⟩ => ⟨ws, hG, h.has hq hh⟩⟩
/-- A caller's word on what it has kept abides the loop's book-keeping. -/
theorem own_kept {β : Type} {S : List Nat} {w0 : World} {B : Nat} (hB : w0.heap.size ≤ B) : OwnFrom B (fun (_ : β) W => Kept S w0 W) :=
  fun _ X Y row hs hg hr => hs.grown hg fun g e => .inr (Nat.le_trans hB (hr g e).1)
theorem own_has {β : Type} {B b : Nat} {t : TypeId} {f : β → List Value} : OwnFrom B (fun s W => Has W b t (f s)) :=
  fun s X Y row hs hg hr => (hg.block b (Has.lt hs) fun e => by
    obtain ⟨_, o, ho, hc⟩ := hr b e.symm
    have hs' : X.heap[b]? = some (.cells (f s).toArray t (0, 0)) := hs
    rw [ho] at hs'
    injection hs' with hs'
    subst hs'
    cases hc).trans hs
theorem keepsFrom_of {S : List Nat} {B : Nat} {W W' : World} (h : Kept S W W') (hS : ∀ b ∈ S, ∃ t cs, Has W b t cs) : KeepsFrom B W W' :=
  ⟨h.more, fun k o _ ho hc => (h.old k (Array.getElem?_eq_some_iff.1 ho).1 fun hk => by
    obtain ⟨t, cs, hh⟩ := hS k hk
    unfold Has at hh
    rw [ho] at hh
    injection hh with hh
    subst hh
    cases hc).trans ho⟩

/-- A piece: which word, from which bit on, how many; and its bits. -/
structure Pc where
  k : Nat
  a : Nat
  n : Nat
  v : Nat
def Pc.ok (nw : Nat) (x : Pc) : Prop := 1 ≤ x.n ∧ x.a + x.n ≤ 64 ∧ x.k < nw ∧ x.v < 18446744073709551616
abbrev Pcs (nw : Nat) := { x : Pc // x.ok nw }
def encs {nw : Nat} (x : Pcs nw) : Array Value := #[pieceV x.1.k x.1.a x.1.n, .int .u64 ((x.1.v : Nat) : Int)]
/-- The piece from the bit s on, below e. -/
def isAt (G : List Int → Prop) (e s : Nat) (x : Pc) : Prop :=
  x.k = s / 64 ∧ x.a = s % 64 ∧ x.n = min (64 - s % 64) (e - s) ∧ ∃ ws, G ws ∧ x.v = fld (ws.getD (s / 64) 0).toNat x.a x.n
def Goes (G : List Int → Prop) (e : Nat) {nw : Nat} : Nat → List (Pcs nw) → Nat → Prop
  | s, [], t => t = s
  | s, x :: xs, t => s < e ∧ isAt G e s x.1 ∧ Goes G e (s + x.1.n) xs t
theorem Goes.snoc {G : List Int → Prop} {e nw : Nat} {x : Pcs nw} : ∀ {xs : List (Pcs nw)} {s t : Nat}, Goes G e s xs t → t < e → isAt G e t x.1 → Goes G e s (xs ++ [x]) (t + x.1.n)
  | [], s, t, h, ht, hx => by
    have h' : t = s := h
    subst h'
    exact ⟨ht, hx, rfl⟩
  | y :: ys, s, t, ⟨h1, h2, h3⟩, ht, hx => ⟨h1, h2, Goes.snoc h3 ht hx⟩
theorem Goes.length {G : List Int → Prop} {e nw : Nat} : ∀ {xs : List (Pcs nw)} {s t : Nat}, Goes G e s xs t → xs.length + s ≤ t
  | [], s, t, h => by
    have h' : t = s := h
    simp
    omega
  | y :: ys, s, t, ⟨h1, h2, h3⟩ => by
    have := Goes.length h3
    have := y.2.1
    rw [List.length_cons]
    omega
theorem Goes.le {G : List Int → Prop} {e nw : Nat} : ∀ {xs : List (Pcs nw)} {s t : Nat}, Goes G e s xs t → s ≤ e → t ≤ e
  | [], s, t, h, hs => by
    have h' : t = s := h
    omega
  | y :: ys, s, t, ⟨h1, ⟨_, _, h4, _⟩, h3⟩, hs => Goes.le h3 (by omega)

/-- What the loop reads: the vector, and the boxes that its function has captured. -/
structure Reads (G : List Int → Prop) (W : World) (p q N bi be bb i e : Nat) : Prop where
  head : Has W p 114 [.int .i64 (N : Int), .slice (some ⟨q, 0, none⟩) ((N + 63) / 64) 1024]
  row : ∃ ws, G ws ∧ Has W q 139 (ints ws)
  from' : Has W bi 3 [.int .i64 (i : Int)]
  below : Has W be 3 [.int .i64 (e : Int)]
  vec : Has W bb 50 [.pointer (some ⟨p, 0, none⟩)]
theorem Reads.keep0 {G : List Int → Prop} {W W' : World} {p q N bi be bb i e : Nat} (h : Reads G W p q N bi be bb i e) (k : Kept [] W W') : Reads G W' p q N bi be bb i e :=
  ⟨h.head.keep0 k, let ⟨ws, hG, hq⟩ := h.row; ⟨ws, hG, hq.keep0 k⟩, h.from'.keep0 k, h.below.keep0 k, h.vec.keep0 k⟩
theorem Reads.kept {G : List Int → Prop} {S : List Nat} {W W' : World} {p q N bi be bb i e : Nat} (h : Reads G W p q N bi be bb i e) (k : Keeps G S q W W') (h1 : p ∉ S) (h2 : bi ∉ S) (h3 : be ∉ S) (h4 : bb ∉ S) : Reads G W' p q N bi be bb i e :=
  ⟨k.1.has h1 h.head, k.2 h.row, k.1.has h2 h.from', k.1.has h3 h.below, k.1.has h4 h.vec⟩
def Good (G : List Int → Prop) : Prop := ∀ ws, G ws → ws.length = 1024 ∧ ∀ j, 0 ≤ ws.getD j 0 ∧ ws.getD j 0 < 18446744073709551616
end Go.Proofs.YtfdombfdgpclcaaGreatDoor.Bt

/-
  The loop over a vector's pieces, upwards: the contract of the function that up hands back.
-/
namespace Go.Proofs.YtfdombfdgpclcaaGreatDoor.Bt
open Go.RowKit Go.Proofs.YtfdombfdgpclcaaGreatDoor.Ar Go.Proofs.YtfdombfdgpclcaaGreatDoor.Wd Go.Shelf Go.Sort
set_option linter.unusedVariables false
attribute [local go_sem] Oper.semAt_some

theorem up1_in (n : Nat) (hn : 1 ≤ n) (G : List Int → Prop) (hG : Good G) (S : List Nat) (p q N bi be bb i e : Nat) (hN : N ≤ 65536) (he : e ≤ N) (hS : p ∉ S ∧ bi ∉ S ∧ be ∉ S ∧ bb ∉ S)
    (l : Nat) (J Jx : List (Pcs ((N + 63) / 64)) → World → Prop) (W : World) (hB : ∀ b ∈ S, b < W.heap.size) (hJ : AbidesFrom W.heap.size J)
    (hY : ∀ pre x W1, J pre W1 → pre.length < e - i → YieldAt Fence.wide (n - 1) Tryz.prog l (encs x) W1 fun e W' =>
      (e = .returned (.bool true) ∧ J (pre ++ [x]) W' ∧ Keeps G S q W1 W') ∨ (e = .returned (.bool false) ∧ Jx (pre ++ [x]) W'))
    (hR : Reads G W p q N bi be bb i e) (h0 : J [] W) :
    CallsIn Fence.wide n Tryz.prog 96 #[.func (.yield l) #[] #[], .pointer (some ⟨bi, 0, none⟩), .pointer (some ⟨be, 0, none⟩), .pointer (some ⟨bb, 0, none⟩)] W fun e' W' => (∃ v, e' = .returned v) ∧
      ((∃ xs, (∃ t, Goes G e i xs t ∧ e ≤ t) ∧ J xs W') ∨ (∃ pre, (∃ t, Goes G e i pre t) ∧ Jx pre W')) := by
  have ci := hR.from'.cell 0
  simp at ci
  have HR := Lib.hid hR
  have HJ := Lib.hid hJ
  have HY := Lib.hid hY
  have HG := Lib.hid hG
  have H0 := Lib.hid h0
  have HS := Lib.hid hS
  have HB := Lib.hid hB
  clear hR hJ hY hG h0 hS hB
  refine callsIn_of_wp Tryz.func96 rfl trivial ?_ rfl
  simp only [Tryz.ntmps96, List.size_toArray, List.length_cons, List.length_nil, Nat.reduceAdd, Nat.reduceSub, Array.replicate_succ, Array.replicate_zero, List.push_toArray, List.append_toArray, List.nil_append, List.cons_append]
  gi_wp2
  gi_loopw [5] (fun v wr => ∃ (pre : List (Pcs ((N + 63) / 64))) (t : Nat), v = .int .i64 (t : Int) ∧ Hid (Goes G e i pre t ∧ J pre wr ∧ Reads G wr p q N bi be bb i e ∧ W.heap.size ≤ wr.heap.size))
    (fun v _ => e - (intOf v).toNat)
  case atStart => exact ⟨[], i, rfl, Lib.hid ⟨rfl, H0.out, HR.out, Nat.le_refl _⟩⟩
  case round =>
    obtain ⟨pre, t, rfl, hrel⟩ := hrel
    have ce := hrel.out.2.2.1.below.cell 0
    simp at ce
    by_cases hlt : t < e
    · have Hp := Lib.hid (partsOf_ok t (by omega) wr)
      have h64 : t % 64 < 64 := Nat.mod_lt _ (by decide)
      obtain ⟨m, hm⟩ : ∃ m, m = min (64 - t % 64) (e - t) := ⟨_, rfl⟩
      obtain ⟨a, ha⟩ : ∃ a, a = t % 64 := ⟨_, rfl⟩
      obtain ⟨k, hk⟩ : ∃ k, k = t / 64 := ⟨_, rfl⟩
      rw [← ha, ← hk] at Hp
      have Ha := Lib.hid ha
      have Hk := Lib.hid hk
      have Hm := Lib.hid hm
      have hm1 : (m : Int) ≤ 64 - (a : Int) := by omega
      have hm2 : (m : Int) ≤ (e : Int) - (t : Int) := by omega
      have hmin : ((64 - (a : Int) ≤ (e : Int) - (t : Int)) ∧ (m : Int) = 64 - (a : Int)) ∨ (((e : Int) - (t : Int) < 64 - (a : Int)) ∧ (m : Int) = (e : Int) - (t : Int)) := by omega
      have hm0 : 1 ≤ m := by omega
      have ham : a + m ≤ 64 := by omega
      clear hm ha hk h64
      gi_wp2_with (fail)
      refine ⟨trivial, (callsIn_wide.2 Hp.out).mono ?_⟩
      rintro e1 w1 ⟨rfl, hk1⟩
      have R1 := Lib.hid (hrel.out.2.2.1.keep0 hk1)
      have ce1 : ∀ o, (w1.alloc o).cell? ⟨be, 0, none⟩ = some (.int .i64 (e : Int)) := fun o => (R1.out.keep0 ((Kept.refl [] w1).alloc o)).below.cell 0
      have Hk1 := Lib.hid hk1
      clear hk1
      have Em := Lib.hid (show min (64 - (a : Int)) ((e : Int) - (t : Int)) = (m : Int) by omega)
      gi_wp2_with (fail)
      rw [Em.out]
      have hb2 : Has (w1.alloc (.cells #[.int .i64 (k : Int), .int .i64 (a : Int), .int .i64 (m : Int)] 88)) w1.heap.size 88 [.int .i64 (k : Int), .int .i64 (a : Int), .int .i64 (m : Int)] := Has.new w1 _ _
      have hk2 : Kept [] w1 (w1.alloc (.cells #[.int .i64 (k : Int), .int .i64 (a : Int), .int .i64 (m : Int)] 88)) := (Kept.refl [] w1).alloc _
      generalize w1.alloc (.cells #[.int .i64 (k : Int), .int .i64 (a : Int), .int .i64 (m : Int)] 88) = w2 at *
      generalize hB : w1.heap.size = B at hb2 ⊢
      have hBw := Lib.hid hB
      clear hB
      obtain ⟨ws, hGw, hws⟩ := (R1.out.keep0 hk2).row
      have hv2 : Vec w2 p q N ws := ⟨(R1.out.keep0 hk2).head, hws, (HG.out ws hGw).1, hN, (HG.out ws hGw).2⟩
      have hkn : k < (N + 63) / 64 := by have := Hk.out; omega
      have b0 := cell_regrown (show w2.cell? ⟨B, 0, none⟩ = some (.int .i64 (k : Int)) from hb2.cell 0)
      have b1 := cell_regrown (show w2.cell? ⟨B, 1, none⟩ = some (.int .i64 (a : Int)) from hb2.cell 1)
      have b2 := cell_regrown (show w2.cell? ⟨B, 2, none⟩ = some (.int .i64 (m : Int)) from hb2.cell 2)
      have bv := cell_regrown (show w2.cell? ⟨bb, 0, none⟩ = some (.pointer (some ⟨p, 0, none⟩)) from (R1.out.keep0 hk2).vec.cell 0)
      have cC : ∀ d os, Calls Tryz.prog 35 #[.pointer (some ⟨p, 0, none⟩), pieceV k a m] (grow (redrawn w2 d) os) fun e w'' => e = .returned (.int .u64 ((fld (ws.getD k 0).toNat a m : Nat) : Int)) ∧ ∃ p : Regrown, w'' = grow (redrawn w2 p.d) p.os :=
        fun d os => Calls.regrown_of ((cut_ok _ (hv2.keep0 (Kept.ofBelow (below_regrown w2 d os) [])) k a m hkn hm0 ham).mono fun _ _ ⟨he, hk⟩ => ⟨he, hk.below (Nat.le_refl _) (by simp)⟩)
      unfold pieceV at cC
      obtain ⟨x, hx⟩ : ∃ x, x = fld (ws.getD k 0).toNat a m := ⟨_, rfl⟩
      rw [← hx] at cC
      have hfl : x < 2 ^ m := by rw [hx]; exact fld_lt _ a m
      have hpw : 2 ^ m ≤ 18446744073709551616 := Nat.pow_le_pow_right (n := 2) (by decide) (show m ≤ 64 by omega)
      have hok : Pc.ok ((N + 63) / 64) ⟨k, a, m, x⟩ := ⟨hm0, ham, hkn, show x < _ by omega⟩
      have HX := Lib.hid hx
      clear hx hfl hpw
      have CC := Lib.hid cC
      have Hb2 := Lib.hid hb2
      have Hv2 := Lib.hid hv2
      have Hk2 := Lib.hid hk2
      have Hws := Lib.hid hws
      have HGw := Lib.hid hGw
      clear cC hb2 hv2 hk2 hws hGw ce1 Em
      refine Rk.wpIn_head (r := none) (C := fun w' => ∃ p : Regrown, w' = grow (redrawn w2 p.d) p.os) 5 (by kernel_rfl) (by kernel_rfl) ⟨⟨w2.drawn + 1, #[]⟩, by rw [grow_empty]; rfl⟩ ?_
      simp only [List.take_succ_cons, List.take_zero, List.drop_succ_cons, List.drop_zero]
      repeat (quiet_step (exact CC.out _ _))
      refine wpQuiet_nil ?_
      rintro _ ⟨⟨dq, osq⟩, rfl⟩
      rw [Rk.fence_none]
      have hk3 := Kept.ofBelow (below_regrown w2 dq osq) []
      show wpListIn _ _ _ _ _ _ _ (grow (redrawn w2 dq) osq)
      generalize grow (redrawn w2 dq) osq = w3 at hk3 ⊢
      have hk03 := (Hk1.out.trans Hk2.out).trans hk3
      have hlen : pre.length < e - i := by have := hrel.out.1.length; omega
      obtain ⟨fn, tmps, assign, body, hy, hR⟩ := HY.out pre ⟨⟨k, a, m, x⟩, hok⟩ w3
        (HJ.out pre wr w3 none hrel.out.2.1 ⟨hk03.os, hk03.tape, hk03.out, hk03.more, fun j hj _ => hk03.old j hj (by simp)⟩ (fun r h => by cases h)) hlen
      have Hx : Hid (isAt G e t ⟨k, a, m, x⟩) := Lib.hid ⟨Hk.out, Ha.out, Hm.out, ws, HGw.out, by rw [← Hk.out]; exact HX.out⟩
      dsimp only [encs, pieceV] at hy
      clear hlen b0 b1 b2 bv
      have HbS : Hid (B ∉ S ∧ W.heap.size ≤ B) := Lib.hid ⟨fun hb => by have h1 := HB.out B hb; have h2 := hrel.out.2.2.2; have h3 := hBw.out; have h4 := Hk1.out.more; omega, by have h2 := hrel.out.2.2.2; have h3 := hBw.out; have h4 := Hk1.out.more; omega⟩
      have Hk3 := Lib.hid hk3
      have Hk03 := Lib.hid hk03
      clear hk3 hk03
      gi_wp2_with (fail)
      refine hR.mono ?_
      rintro e3 W3 (⟨rfl, hJ3, hkp⟩ | ⟨rfl, hJx⟩)
      · have hb3 : Has W3 B 88 [.int .i64 (k : Int), .int .i64 (a : Int), .int .i64 (m : Int)] := hkp.1.has HbS.out.1 (Hb2.out.keep0 Hk3.out)
        have c3 := hb3.cell 2
        simp at c3
        have HRel : Hid (Goes G e i (pre ++ [⟨⟨k, a, m, x⟩, hok⟩]) (t + m) ∧ J (pre ++ [⟨⟨k, a, m, x⟩, hok⟩]) W3 ∧ Reads G W3 p q N bi be bb i e ∧ W.heap.size ≤ W3.heap.size) :=
          Lib.hid ⟨hrel.out.1.snoc hlt Hx.out, hJ3, (hrel.out.2.2.1.keep0 Hk03.out).kept hkp HS.out.1 HS.out.2.1 HS.out.2.2.1 HS.out.2.2.2, by have h1 := hrel.out.2.2.2; have h2 := Hk03.out.more; have h3 := hkp.1.size; omega⟩
        clear hJ3 hkp hb3
        gi_wp2_with (fail)
        go_roundw
        case rel => exact ⟨_, t + m, by go_num, HRel⟩
        case measure => simp [intOf]; omega
      · gi_wp2_with (fail)
        refine bodyPost_ret (results_none rfl _ _ _) rfl ?_
        exact ⟨⟨_, rfl⟩, .inr ⟨_, ⟨t + m, hrel.out.1.snoc hlt Hx.out⟩, hJx⟩⟩
    · gi_wp2_with (fail)
      go_end0
      exact ⟨⟨_, rfl⟩, .inl ⟨pre, ⟨t, hrel.out.1, by omega⟩, hrel.out.2.1⟩⟩

theorem up_stops (n : Nat) (hn : 1 ≤ n) (G : List Int → Prop) (hG : Good G) (S : List Nat) (p q N bi be bb i e : Nat) (hN : N ≤ 65536) (he : e ≤ N) (hS : p ∉ S ∧ bi ∉ S ∧ be ∉ S ∧ bb ∉ S) (w : World) (hB : ∀ b ∈ S, b < w.heap.size) (hR : Reads G w p q N bi be bb i e) :
    SeqStopsK Fence.wide n Tryz.prog 96 #[.pointer (some ⟨bi, 0, none⟩), .pointer (some ⟨be, 0, none⟩), .pointer (some ⟨bb, 0, none⟩)] (encs (nw := (N + 63) / 64)) (Keeps G S q) (fun xs => ∃ t, Goes G e i xs t ∧ e ≤ t) (fun pre => ∃ t, Goes G e i pre t) (e - i) w :=
  fun l J Jx W hW hJ _ hY h0 => up1_in n hn G hG S p q N bi be bb i e hN he hS l J Jx W (fun b hb => Nat.lt_of_lt_of_le (hB b hb) hW.size) hJ hY (hR.keep0 (Kept.ofBelow hW [])) h0
end Go.Proofs.YtfdombfdgpclcaaGreatDoor.Bt

/-
  The loop over a vector's pieces, downwards: the contract of the function that down hands back.
-/
namespace Go.Proofs.YtfdombfdgpclcaaGreatDoor.Bt
open Go.RowKit Go.Proofs.YtfdombfdgpclcaaGreatDoor.Ar Go.Proofs.YtfdombfdgpclcaaGreatDoor.Wd Go.Shelf Go.Sort
set_option linter.unusedVariables false
attribute [local go_sem] Oper.semAt_some

/-- The piece whose last bit is the bit c - 1. -/
def isAtD (G : List Int → Prop) (c : Nat) (x : Pc) : Prop :=
  x.k = (c - 1) / 64 ∧ x.a = 0 ∧ x.n = (c - 1) % 64 + 1 ∧ ∃ ws, G ws ∧ x.v = fld (ws.getD ((c - 1) / 64) 0).toNat x.a x.n
def Falls (G : List Int → Prop) {nw : Nat} : Nat → List (Pcs nw) → Nat → Prop
  | s, [], t => t = s
  | s, x :: xs, t => 0 < s ∧ isAtD G s x.1 ∧ Falls G (s - x.1.n) xs t
theorem Falls.snoc {G : List Int → Prop} {nw : Nat} {x : Pcs nw} : ∀ {xs : List (Pcs nw)} {s t : Nat}, Falls G s xs t → 0 < t → isAtD G t x.1 → Falls G s (xs ++ [x]) (t - x.1.n)
  | [], s, t, h, ht, hx => by
    have h' : t = s := h
    subst h'
    exact ⟨ht, hx, rfl⟩
  | y :: ys, s, t, ⟨h1, h2, h3⟩, ht, hx => ⟨h1, h2, Falls.snoc h3 ht hx⟩
theorem Falls.length {G : List Int → Prop} {nw : Nat} : ∀ {xs : List (Pcs nw)} {s t : Nat}, Falls G s xs t → xs.length + t ≤ s
  | [], s, t, h => by
    have h' : t = s := h
    simp
    omega
  | y :: ys, s, t, ⟨h1, ⟨_, _, h4, _⟩, h3⟩ => by
    have := Falls.length h3
    have := y.2.1
    rw [List.length_cons]
    omega
structure ReadsD (G : List Int → Prop) (W : World) (p q N bi bb : Nat) (i : Int) : Prop where
  head : Has W p 114 [.int .i64 (N : Int), .slice (some ⟨q, 0, none⟩) ((N + 63) / 64) 1024]
  row : ∃ ws, G ws ∧ Has W q 139 (ints ws)
  from' : Has W bi 3 [.int .i64 i]
  vec : Has W bb 50 [.pointer (some ⟨p, 0, none⟩)]
theorem ReadsD.keep0 {G : List Int → Prop} {W W' : World} {p q N bi bb : Nat} {i : Int} (h : ReadsD G W p q N bi bb i) (k : Kept [] W W') : ReadsD G W' p q N bi bb i :=
  ⟨h.head.keep0 k, let ⟨ws, hG, hq⟩ := h.row; ⟨ws, hG, hq.keep0 k⟩, h.from'.keep0 k, h.vec.keep0 k⟩
theorem ReadsD.kept {G : List Int → Prop} {S : List Nat} {W W' : World} {p q N bi bb : Nat} {i : Int} (h : ReadsD G W p q N bi bb i) (k : Keeps G S q W W') (h1 : p ∉ S) (h2 : bi ∉ S) (h4 : bb ∉ S) : ReadsD G W' p q N bi bb i :=
  ⟨k.1.has h1 h.head, k.2 h.row, k.1.has h2 h.from', k.1.has h4 h.vec⟩

theorem down1_in (n : Nat) (hn : 1 ≤ n) (G : List Int → Prop) (hG : Good G) (S : List Nat) (p q N bi bb : Nat) (i : Int) (hN : N ≤ 65536) (i1 : -9223372036854775808 ≤ i) (he : i < N) (hS : p ∉ S ∧ bi ∉ S ∧ bb ∉ S)
    (l : Nat) (J Jx : List (Pcs ((N + 63) / 64)) → World → Prop) (W : World) (hB : ∀ b ∈ S, b < W.heap.size) (hJ : AbidesFrom W.heap.size J)
    (hY : ∀ pre x W1, J pre W1 → pre.length < (i + 1).toNat → YieldAt Fence.wide (n - 1) Tryz.prog l (encs x) W1 fun e W' =>
      (e = .returned (.bool true) ∧ J (pre ++ [x]) W' ∧ Keeps G S q W1 W') ∨ (e = .returned (.bool false) ∧ Jx (pre ++ [x]) W'))
    (hR : ReadsD G W p q N bi bb i) (h0 : J [] W) :
    CallsIn Fence.wide n Tryz.prog 85 #[.func (.yield l) #[] #[], .pointer (some ⟨bi, 0, none⟩), .pointer (some ⟨bb, 0, none⟩)] W fun e' W' => (∃ v, e' = .returned v) ∧
      ((∃ xs, (Falls G (i + 1).toNat xs 0) ∧ J xs W') ∨ (∃ pre, (∃ t, Falls G (i + 1).toNat pre t) ∧ Jx pre W')) := by
  have ci := hR.from'.cell 0
  simp at ci
  have HR := Lib.hid hR
  have HJ := Lib.hid hJ
  have HY := Lib.hid hY
  have HG := Lib.hid hG
  have H0 := Lib.hid h0
  have HS := Lib.hid hS
  have HB := Lib.hid hB
  clear hR hJ hY hG h0 hS hB
  refine callsIn_of_wp Tryz.func85 rfl trivial ?_ rfl
  simp only [Tryz.ntmps85, List.size_toArray, List.length_cons, List.length_nil, Nat.reduceAdd, Nat.reduceSub, Array.replicate_succ, Array.replicate_zero, List.push_toArray, List.append_toArray, List.nil_append, List.cons_append]
  gi_wp2
  gi_loopw [4] (fun v wr => ∃ (pre : List (Pcs ((N + 63) / 64))) (z : Int), v = .int .i64 z ∧ (-9223372036854775808 ≤ z ∧ z < N) ∧ Hid (Falls G (i + 1).toNat pre (z + 1).toNat ∧ J pre wr ∧ ReadsD G wr p q N bi bb i ∧ W.heap.size ≤ wr.heap.size))
    (fun v _ => (intOf v + 1).toNat)
  case atStart => exact ⟨[], i, rfl, ⟨i1, he⟩, Lib.hid ⟨rfl, H0.out, HR.out, Nat.le_refl _⟩⟩
  case round =>
    obtain ⟨pre, z, rfl, ⟨z1, z2⟩, hrel⟩ := hrel
    by_cases hlt : 0 ≤ z
    · obtain ⟨t, rfl⟩ := Int.eq_ofNat_of_zero_le hlt
      have Hp := Lib.hid (partsOf_ok t (by omega) wr)
      obtain ⟨a, ha⟩ : ∃ a, a = t % 64 := ⟨_, rfl⟩
      obtain ⟨k, hk⟩ : ∃ k, k = t / 64 := ⟨_, rfl⟩
      rw [← ha, ← hk] at Hp
      have ha64 : a < 64 := by omega
      have Ha := Lib.hid ha
      have Hk := Lib.hid hk
      have hkb : k ≤ 65536 := by omega
      obtain ⟨m, hm⟩ : ∃ m, m = a + 1 := ⟨_, rfl⟩
      have hm0 : 1 ≤ m := by omega
      have ham : 0 + m ≤ 64 := by omega
      have Em := Lib.hid (show (a : Int) + 1 = (m : Int) by omega)
      have Hm := Lib.hid hm
      clear ha hk hm
      gi_wp2_with (fail)
      refine ⟨trivial, (callsIn_wide.2 Hp.out).mono ?_⟩
      rintro e1 w1 ⟨rfl, hk1⟩
      have R1 := Lib.hid (hrel.out.2.2.1.keep0 hk1)
      have Hk1 := Lib.hid hk1
      clear hk1
      gi_wp2_with (fail)
      rw [Em.out]
      have hk10 : Kept [] w1 (w1.alloc (.cells #[.int .i64 (k : Int), .int .i64 (a : Int)] 85)) := (Kept.refl [] w1).alloc _
      rw [show w1.heap.size + 1 = (w1.alloc (.cells #[.int .i64 (k : Int), .int .i64 (a : Int)] 85)).heap.size from (World.size_alloc _ _).symm]
      generalize w1.alloc (.cells #[.int .i64 (k : Int), .int .i64 (a : Int)] 85) = w10 at hk10 ⊢
      have hb2 : Has (w10.alloc (.cells #[.int .i64 (k : Int), .int .i64 0, .int .i64 (m : Int)] 88)) w10.heap.size 88 [.int .i64 (k : Int), .int .i64 0, .int .i64 (m : Int)] := Has.new w10 _ _
      have hk2 : Kept [] w1 (w10.alloc (.cells #[.int .i64 (k : Int), .int .i64 0, .int .i64 (m : Int)] 88)) := hk10.alloc _
      generalize w10.alloc (.cells #[.int .i64 (k : Int), .int .i64 0, .int .i64 (m : Int)] 88) = w2 at *
      generalize hB : w10.heap.size = B at hb2 ⊢
      have hBw := Lib.hid (show w1.heap.size ≤ B by have := hk10.more; omega)
      clear hB hk10
      obtain ⟨ws, hGw, hws⟩ := (R1.out.keep0 hk2).row
      have hv2 : Vec w2 p q N ws := ⟨(R1.out.keep0 hk2).head, hws, (HG.out ws hGw).1, hN, (HG.out ws hGw).2⟩
      have hkn : k < (N + 63) / 64 := by have := Hk.out; omega
      have b0 := cell_regrown (show w2.cell? ⟨B, 0, none⟩ = some (.int .i64 (k : Int)) from hb2.cell 0)
      have b1 := cell_regrown (show w2.cell? ⟨B, 1, none⟩ = some (.int .i64 0) from hb2.cell 1)
      have b2 := cell_regrown (show w2.cell? ⟨B, 2, none⟩ = some (.int .i64 (m : Int)) from hb2.cell 2)
      have bv := cell_regrown (show w2.cell? ⟨bb, 0, none⟩ = some (.pointer (some ⟨p, 0, none⟩)) from (R1.out.keep0 hk2).vec.cell 0)
      have cC : ∀ d os, Calls Tryz.prog 35 #[.pointer (some ⟨p, 0, none⟩), pieceV k 0 m] (grow (redrawn w2 d) os) fun e w'' => e = .returned (.int .u64 ((fld (ws.getD k 0).toNat 0 m : Nat) : Int)) ∧ ∃ p : Regrown, w'' = grow (redrawn w2 p.d) p.os :=
        fun d os => Calls.regrown_of ((cut_ok _ (hv2.keep0 (Kept.ofBelow (below_regrown w2 d os) [])) k 0 m hkn hm0 ham).mono fun _ _ ⟨he, hk⟩ => ⟨he, hk.below (Nat.le_refl _) (by simp)⟩)
      unfold pieceV at cC
      obtain ⟨x, hx⟩ : ∃ x, x = fld (ws.getD k 0).toNat 0 m := ⟨_, rfl⟩
      rw [← hx] at cC
      have hfl : x < 2 ^ m := by rw [hx]; exact fld_lt _ 0 m
      have hpw : 2 ^ m ≤ 18446744073709551616 := Nat.pow_le_pow_right (n := 2) (by decide) (show m ≤ 64 by omega)
      have hok : Pc.ok ((N + 63) / 64) ⟨k, 0, m, x⟩ := ⟨hm0, ham, hkn, show x < _ by omega⟩
      have HX := Lib.hid hx
      clear hx hfl hpw
      have CC := Lib.hid cC
      have Hb2 := Lib.hid hb2
      have Hv2 := Lib.hid hv2
      have Hk2 := Lib.hid hk2
      have Hws := Lib.hid hws
      have HGw := Lib.hid hGw
      clear cC hb2 hv2 hk2 hws hGw Em
      refine Rk.wpIn_head (r := none) (C := fun w' => ∃ p : Regrown, w' = grow (redrawn w2 p.d) p.os) 5 (by kernel_rfl) (by kernel_rfl) ⟨⟨w2.drawn + 1, #[]⟩, by rw [grow_empty]; rfl⟩ ?_
      simp only [List.take_succ_cons, List.take_zero, List.drop_succ_cons, List.drop_zero]
      repeat (quiet_step (exact CC.out _ _))
      refine wpQuiet_nil ?_
      rintro _ ⟨⟨dq, osq⟩, rfl⟩
      rw [Rk.fence_none]
      have hk3 := Kept.ofBelow (below_regrown w2 dq osq) []
      show wpListIn _ _ _ _ _ _ _ (grow (redrawn w2 dq) osq)
      generalize grow (redrawn w2 dq) osq = w3 at hk3 ⊢
      have hk03 := (Hk1.out.trans Hk2.out).trans hk3
      have hlen : pre.length < (i + 1).toNat := by have := hrel.out.1.length; omega
      have Hx : Hid (isAtD G (t + 1) ⟨k, 0, m, x⟩) := Lib.hid ⟨Hk.out, rfl, by have := Hm.out; have := Ha.out; show m = t % 64 + 1; omega, ws, HGw.out, by show x = fld (ws.getD (t / 64) 0).toNat 0 m; rw [← Hk.out]; exact HX.out⟩
      obtain ⟨fn, tmps, assign, body, hy, hR⟩ := HY.out pre ⟨⟨k, 0, m, x⟩, hok⟩ w3
        (HJ.out pre wr w3 none hrel.out.2.1 ⟨hk03.os, hk03.tape, hk03.out, hk03.more, fun j hj _ => hk03.old j hj (by simp)⟩ (fun r h => by cases h)) hlen
      dsimp only [encs, pieceV] at hy
      rw [show ((0 : Nat) : Int) = 0 from rfl] at hy
      have hsn : Hid (Falls G (i + 1).toNat (pre ++ [⟨⟨k, 0, m, x⟩, hok⟩]) ((t : Int) - m + 1).toNat) := Lib.hid (by
        have h1 := Falls.snoc (x := ⟨⟨k, 0, m, x⟩, hok⟩) hrel.out.1 (by omega) (by rw [show ((t : Int) + 1).toNat = t + 1 by omega]; exact Hx.out)
        rw [show ((t : Int) + 1).toNat - m = ((t : Int) - m + 1).toNat by have := Ha.out; have := Hm.out; omega] at h1
        exact h1)
      have hma : m ≤ t + 1 := by have := Ha.out; have := Hm.out; omega
      clear hlen b0 b1 b2 bv
      have HbS : Hid (B ∉ S ∧ W.heap.size ≤ B) := Lib.hid ⟨fun hb => by have h1 := HB.out B hb; have h2 := hrel.out.2.2.2; have h3 := hBw.out; have h4 := Hk1.out.more; omega, by have h2 := hrel.out.2.2.2; have h3 := hBw.out; have h4 := Hk1.out.more; omega⟩
      have Hk3 := Lib.hid hk3
      have Hk03 := Lib.hid hk03
      clear hk3 hk03
      gi_wp2_with (fail)
      refine hR.mono ?_
      rintro e3 W3 (⟨rfl, hJ3, hkp⟩ | ⟨rfl, hJx⟩)
      · have hb3 : Has W3 B 88 [.int .i64 (k : Int), .int .i64 0, .int .i64 (m : Int)] := hkp.1.has HbS.out.1 (Hb2.out.keep0 Hk3.out)
        have c3 := hb3.cell 2
        simp at c3
        have HRel : Hid (Falls G (i + 1).toNat (pre ++ [⟨⟨k, 0, m, x⟩, hok⟩]) ((t : Int) - m + 1).toNat ∧ J (pre ++ [⟨⟨k, 0, m, x⟩, hok⟩]) W3 ∧ ReadsD G W3 p q N bi bb i ∧ W.heap.size ≤ W3.heap.size) :=
          Lib.hid ⟨hsn.out, hJ3, (hrel.out.2.2.1.keep0 Hk03.out).kept hkp HS.out.1 HS.out.2.1 HS.out.2.2, by have h1 := hrel.out.2.2.2; have h2 := Hk03.out.more; have h3 := hkp.1.size; omega⟩
        clear hJ3 hkp hb3
        gi_wp2_with (fail)
        go_roundw
        case rel => exact ⟨_, (t : Int) - m, rfl, by omega, HRel⟩
        case measure => simp [intOf]; omega
      · gi_wp2_with (fail)
        refine bodyPost_ret (results_none rfl _ _ _) rfl ?_
        exact ⟨⟨_, rfl⟩, .inr ⟨_, ⟨_, hsn.out⟩, hJx⟩⟩
    · gi_wp2_with (fail)
      go_end0
      exact ⟨⟨_, rfl⟩, .inl ⟨pre, by have h1 := hrel.out.1; rw [show (z + 1).toNat = 0 by omega] at h1; exact h1, hrel.out.2.1⟩⟩

theorem down_stops (n : Nat) (hn : 1 ≤ n) (G : List Int → Prop) (hG : Good G) (S : List Nat) (p q N bi bb : Nat) (i : Int) (hN : N ≤ 65536) (i1 : -9223372036854775808 ≤ i) (he : i < N) (hS : p ∉ S ∧ bi ∉ S ∧ bb ∉ S) (w : World) (hB : ∀ b ∈ S, b < w.heap.size) (hR : ReadsD G w p q N bi bb i) :
    SeqStopsK Fence.wide n Tryz.prog 85 #[.pointer (some ⟨bi, 0, none⟩), .pointer (some ⟨bb, 0, none⟩)] (encs (nw := (N + 63) / 64)) (Keeps G S q) (fun xs => Falls G (i + 1).toNat xs 0) (fun pre => ∃ t, Falls G (i + 1).toNat pre t) (i + 1).toNat w :=
  fun l J Jx W hW hJ _ hY h0 => down1_in n hn G hG S p q N bi bb i hN i1 he hS l J Jx W (fun b hb => Nat.lt_of_lt_of_le (hB b hb) hW.size) hJ hY (hR.keep0 (Kept.ofBelow hW [])) h0
end Go.Proofs.YtfdombfdgpclcaaGreatDoor.Bt

/-
  Plain facts on rows of bools, and on words of 64 bits that hold them. No program is named here.
-/
namespace Go.Proofs.YtfdombfdgpclcaaGreatDoor.Bt
open Go.Proofs.YtfdombfdgpclcaaGreatDoor.Wd

/-- How many of k are so. -/
def cnt (f : Nat → Bool) : Nat → Nat
  | 0 => 0
  | k + 1 => cnt f k + (f k).toNat
theorem cnt_le (f : Nat → Bool) (k : Nat) : cnt f k ≤ k := by
  induction k with
  | zero => exact Nat.le_refl _
  | succ k ih =>
    have : (f k).toNat ≤ 1 := by cases f k <;> decide
    show cnt f k + (f k).toNat ≤ k + 1
    omega
theorem cnt_congr {f g : Nat → Bool} (k : Nat) (h : ∀ j, j < k → f j = g j) : cnt f k = cnt g k := by
  induction k with
  | zero => rfl
  | succ k ih =>
    show cnt f k + (f k).toNat = cnt g k + (g k).toNat
    rw [ih fun j hj => h j (by omega), h k (by omega)]
theorem cnt_add (f : Nat → Bool) (a b : Nat) : cnt f (a + b) = cnt f a + cnt (fun j => f (a + j)) b := by
  induction b with
  | zero => rfl
  | succ b ih =>
    show cnt f (a + b) + (f (a + b)).toNat = cnt f a + (cnt (fun j => f (a + j)) b + (f (a + b)).toNat)
    omega
theorem ones_cnt (v k : Nat) : ones v k = cnt v.testBit k := by
  induction k with
  | zero => rfl
  | succ k ih =>
    show ones v k + v / 2 ^ k % 2 = cnt v.testBit k + (v.testBit k).toNat
    rw [ih, bit_tb]
/-- The first of k from s on that is so. -/
def nextV (f : Nat → Bool) : Nat → Nat → Option Nat
  | 0, _ => none
  | k + 1, s => if f s then some s else nextV f k (s + 1)
theorem nextV_skip (f : Nat → Bool) (m : Nat) : ∀ (k s : Nat), (∀ j, j < k → f (s + j) = false) → nextV f (k + m) s = nextV f m (s + k)
  | 0, s, _ => by rw [Nat.zero_add]; rfl
  | k + 1, s, h => by
    have h0 := h 0 (by omega)
    rw [Nat.add_zero] at h0
    rw [show k + 1 + m = (k + m) + 1 by omega]
    show (if f s then some s else nextV f (k + m) (s + 1)) = _
    rw [h0, if_neg (by decide), nextV_skip f m k (s + 1) (fun j hj => by rw [show s + 1 + j = s + (j + 1) by omega]; exact h (j + 1) (by omega)), show s + 1 + k = s + (k + 1) by omega]
theorem nextV_hit (f : Nat → Bool) (k s t : Nat) (ht : t < k) (h : ∀ j, j < t → f (s + j) = false) (hf : f (s + t) = true) : nextV f k s = some (s + t) := by
  rw [show k = t + ((k - t - 1) + 1) by omega, nextV_skip f _ t s h]
  show (if f (s + t) then some (s + t) else _) = _
  rw [hf, if_pos rfl]
theorem nextV_none (f : Nat → Bool) (k s : Nat) (h : ∀ j, j < k → f (s + j) = false) : nextV f k s = none := by
  have := nextV_skip f 0 k s h
  rw [Nat.add_zero] at this
  rw [this]
  rfl
theorem nextV_some {f : Nat → Bool} : ∀ {k s x : Nat}, nextV f k s = some x → s ≤ x ∧ x < s + k ∧ f x = true ∧ ∀ j, s ≤ j → j < x → f j = false
  | 0, _, _, h => by cases h
  | k + 1, s, x, h => by
    have h' : (if f s then some s else nextV f k (s + 1)) = some x := h
    cases hs : f s with
    | true =>
      rw [hs, if_pos rfl] at h'
      injection h' with h'
      subst h'
      exact ⟨Nat.le_refl _, by omega, hs, fun j h1 h2 => by omega⟩
    | false =>
      rw [hs, if_neg (by decide)] at h'
      obtain ⟨a, b, c, d⟩ := nextV_some h'
      refine ⟨by omega, by omega, c, fun j h1 h2 => ?_⟩
      by_cases e : j = s
      · subst e; exact hs
      · exact d j (by omega) h2
theorem nextV_no {f : Nat → Bool} : ∀ {k s : Nat}, nextV f k s = none → ∀ j, s ≤ j → j < s + k → f j = false
  | 0, _, _, j, h1, h2 => by omega
  | k + 1, s, h, j, h1, h2 => by
    have h' : (if f s then some s else nextV f k (s + 1)) = none := h
    cases hs : f s with
    | true => rw [hs, if_pos rfl] at h'; cases h'
    | false =>
      rw [hs, if_neg (by decide)] at h'
      by_cases e : j = s
      · subst e; exact hs
      · exact nextV_no h' j (by omega) (by omega)
/-- The last below k that is so. -/
def prevV (f : Nat → Bool) : Nat → Option Nat
  | 0 => none
  | k + 1 => if f k then some k else prevV f k
theorem prevV_skip (f : Nat → Bool) (c : Nat) : ∀ (m : Nat), (∀ j, c ≤ j → j < c + m → f j = false) → prevV f (c + m) = prevV f c
  | 0, _ => rfl
  | m + 1, h => by
    show (if f (c + m) then some (c + m) else prevV f (c + m)) = _
    rw [h (c + m) (by omega) (by omega), if_neg (by decide)]
    exact prevV_skip f c m fun j h1 h2 => h j h1 (by omega)
theorem prevV_hit (f : Nat → Bool) (k c : Nat) (hk : k < c) (hf : f k = true) (h : ∀ j, k < j → j < c → f j = false) : prevV f c = some k := by
  have e := prevV_skip f (k + 1) (c - (k + 1)) (fun j h1 h2 => h j (by omega) (by omega))
  rw [show k + 1 + (c - (k + 1)) = c by omega] at e
  rw [e]
  show (if f k then some k else prevV f k) = _
  rw [hf, if_pos rfl]
theorem prevV_none (f : Nat → Bool) (c : Nat) (h : ∀ j, j < c → f j = false) : prevV f c = none := by
  have e := prevV_skip f 0 c (fun j _ h2 => h j (by omega))
  rw [Nat.zero_add] at e
  rw [e]
  rfl

/-- What a call answers of a place: 0 if there is none. -/
def atI (o : Option Nat) : Int := (o.getD 0 : Nat)

/-- A bit of a row; none beyond the end is set. -/
def bit (bs : List Bool) (j : Nat) : Bool := bs.getD j false
theorem bit_out (bs : List Bool) (j : Nat) (h : bs.length ≤ j) : bit bs j = false := by
  unfold bit
  rw [List.getD, List.getElem?_eq_none h]
  rfl
theorem bit_ext {a b : List Bool} (hl : a.length = b.length) (h : ∀ j, j < a.length → bit a j = bit b j) : a = b := by
  apply List.ext_getElem hl
  intro j h1 h2
  have := h j h1
  unfold bit at this
  rw [List.getD, List.getD, List.getElem?_eq_getElem h1, List.getElem?_eq_getElem h2] at this
  exact this
/-- n bits from the bit i on as st. -/
def laid (bs : List Bool) (i n : Nat) (st : Bool) : List Bool := (List.range bs.length).map fun j => if i ≤ j ∧ j < i + n then st else bit bs j
theorem laid_length (bs : List Bool) (i n : Nat) (st : Bool) : (laid bs i n st).length = bs.length := by unfold laid; rw [List.length_map, List.length_range]
theorem laid_bit (bs : List Bool) (i n : Nat) (st : Bool) (j : Nat) (hj : j < bs.length) : bit (laid bs i n st) j = if i ≤ j ∧ j < i + n then st else bit bs j := by
  have e : bit (laid bs i n st) j = (laid bs i n st).getD j false := rfl
  rw [e, laid, List.getD, List.getElem?_map, List.getElem?_range hj]
  rfl
theorem laid_none (bs : List Bool) (i : Nat) (st : Bool) : laid bs i 0 st = bs :=
  bit_ext (laid_length _ _ _ _) fun j hj => by
    rw [laid_length] at hj
    rw [laid_bit _ _ _ _ j hj, if_neg (by omega)]
theorem laid_more (bs : List Bool) (i n m : Nat) (st : Bool) : laid (laid bs i n st) (i + n) m st = laid bs i (n + m) st :=
  bit_ext (by rw [laid_length, laid_length, laid_length]) fun j hj => by
    rw [laid_length, laid_length] at hj
    rw [laid_bit _ _ _ _ j (by rw [laid_length]; exact hj), laid_bit _ _ _ _ j hj, laid_bit _ _ _ _ j hj]
    by_cases h1 : i + n ≤ j ∧ j < i + n + m
    · rw [if_pos h1, if_pos (by omega)]
    · rw [if_neg h1]
      by_cases h2 : i ≤ j ∧ j < i + n
      · rw [if_pos h2, if_pos (by omega)]
      · rw [if_neg h2, if_neg (by omega)]

/-- These words hold these bits. -/
def Means (bs : List Bool) (ws : List Int) : Prop := ∀ i, i < bs.length → bit bs i = (ws.getD (i / 64) 0).toNat.testBit (i % 64)
/-- The field that the piece from the bit s on is: its bits are the row's. -/
theorem Means.field {bs : List Bool} {ws : List Int} (h : Means bs ws) (s n j : Nat) (hn : n ≤ 64 - s % 64) (hs : s + n ≤ bs.length) (hj : j < n) :
    (fld (ws.getD (s / 64) 0).toNat (s % 64) n).testBit j = bit bs (s + j) := by
  rw [fld_tb, decide_eq_true hj, Bool.true_and, h (s + j) (by omega), show (s + j) / 64 = s / 64 by omega, show (s + j) % 64 = s % 64 + j by omega]
theorem field_beyond (v a n j : Nat) (hj : n ≤ j) : (fld v a n).testBit j = false := by
  rw [fld_tb, decide_eq_false (by omega), Bool.false_and]
theorem Means.count {bs : List Bool} {ws : List Int} (h : Means bs ws) (s n : Nat) (hn : n ≤ 64 - s % 64) (hs : s + n ≤ bs.length) :
    ones (fld (ws.getD (s / 64) 0).toNat (s % 64) n) 64 = cnt (fun j => bit bs (s + j)) n := by
  rw [ones_top _ n (fld_lt _ _ _) 64 (by omega), ones_cnt]
  exact cnt_congr n fun j hj => h.field s n j hn hs hj
/-- The lowest bit that is 1, of y: below n just if one of these is. -/
theorem low_hit (y n : Nat) (hn : n ≤ 64) (h : lowFrom y 0 64 < n) : y.testBit (lowFrom y 0 64) = true ∧ ∀ j, j < lowFrom y 0 64 → y.testBit j = false := by
  have hb : ∀ j, y / 2 ^ j % 2 = (y.testBit j).toNat := bit_tb y
  by_cases hex : ∃ t, t < 64 ∧ y.testBit t = true ∧ ∀ j, j < t → y.testBit j = false
  · obtain ⟨t, ht, h1, h2⟩ := hex
    have e := low_iff y 0 64 t (by omega) (by omega) (by rw [hb, h1]; rfl) (fun j hj => by rw [hb, h2 j hj]; rfl)
    rw [e]
    exact ⟨h1, h2⟩
  · exfalso
    have hall : ∀ t, t < 64 → y.testBit t = false := by
      intro t
      induction t using Nat.strongRecOn with
      | _ t ih =>
        intro ht
        cases hh : y.testBit t with
        | false => rfl
        | true => exact absurd ⟨t, ht, hh, fun j hj => ih j hj (by omega)⟩ hex
    have : ∀ k i, i + k = 64 → lowFrom y i k = 64 := by
      intro k
      induction k with
      | zero => intro i hi; show i = 64; omega
      | succ k ih =>
        intro i hi
        show (if y / 2 ^ i % 2 = 1 then i else lowFrom y (i + 1) k) = 64
        rw [if_neg (by rw [hb, hall i (by omega)]; decide)]
        exact ih (i + 1) (by omega)
    rw [this 64 0 rfl] at h
    omega
theorem low_miss (y n : Nat) (hn : n ≤ 64) (h : ¬ lowFrom y 0 64 < n) : ∀ j, j < n → y.testBit j = false := by
  have hb : ∀ j, y / 2 ^ j % 2 = (y.testBit j).toNat := bit_tb y
  intro j
  induction j using Nat.strongRecOn with
  | _ j ih =>
    intro hj
    cases hh : y.testBit j with
    | false => rfl
    | true =>
      exfalso
      have e := low_iff y 0 64 j (by omega) (by omega) (by rw [hb, hh]; rfl) (fun t ht => by rw [hb, ih t ht (by omega)]; rfl)
      rw [e] at h
      exact h hj
/-- The word with the piece laid anew. -/
theorem Means.put {bs : List Bool} {ws : List Int} (h : Means bs ws) (hl : ws.length = 1024) (hb : bs.length ≤ 65536) (s n : Nat) (st : Bool) (x : Nat) (hn : n ≤ 64 - s % 64) (hs : s + n ≤ bs.length) (h1 : 1 ≤ n)
    (hv : (ws.getD (s / 64) 0).toNat < 18446744073709551616) (hx : x < 2 ^ n) (hbit : ∀ j, j < n → x.testBit j = st) :
    Means (laid bs s n st) (ws.set (s / 64) ((put (ws.getD (s / 64) 0).toNat (s % 64) n x : Nat) : Int)) := by
  intro i hi
  rw [laid_length] at hi
  rw [laid_bit _ _ _ _ i hi]
  by_cases hk : i / 64 = s / 64
  · have e : (ws.set (s / 64) ((Wd.put (ws.getD (s / 64) 0).toNat (s % 64) n x : Nat) : Int)).getD (i / 64) 0 = ((Wd.put (ws.getD (s / 64) 0).toNat (s % 64) n x : Nat) : Int) := by
      rw [hk, List.getD, List.getElem?_set_self (by rw [hl]; omega)]
      rfl
    rw [e, Int.toNat_natCast, put_tb _ _ _ _ _ hv (by omega) hx]
    by_cases hc : s ≤ i ∧ i < s + n
    · rw [if_pos hc, if_pos (by omega), hbit _ (by omega)]
    · rw [if_neg hc, if_neg (by omega), h i hi, hk]
  · have e : (ws.set (s / 64) ((Wd.put (ws.getD (s / 64) 0).toNat (s % 64) n x : Nat) : Int)).getD (i / 64) 0 = ws.getD (i / 64) 0 := by
      rw [List.getD, List.getElem?_set_ne (Ne.symm hk), ← List.getD]
    rw [e, if_neg (by omega)]
    exact h i hi
/-- What a word is xored with: nothing, or all bits. -/
theorem flip_bit (x m j : Nat) (hj : j < 64) (hm : m = 0 ∨ m = 18446744073709551615) : (x ^^^ m).testBit j = (x.testBit j == decide (m = 0)) := by
  rw [Nat.testBit_xor]
  rcases hm with rfl | rfl
  · rw [Nat.zero_testBit]
    cases x.testBit j <;> rfl
  · have : (18446744073709551615 : Nat).testBit j = true := by
      rw [show (18446744073709551615 : Nat) = 2 ^ 64 - 1 from rfl, Nat.testBit_two_pow_sub_one]
      exact decide_eq_true hj
    rw [this]
    cases x.testBit j <;> rfl
/-- The highest bit of a number that is not 0. -/
theorem top_bit (x : Nat) (h : x ≠ 0) : x.testBit (Nat.log2 x) = true ∧ ∀ j, Nat.log2 x < j → x.testBit j = false := by
  have e := (Nat.log2_eq_iff h (k := Nat.log2 x)).1 rfl
  refine ⟨?_, fun j hj => Nat.testBit_lt_two_pow (Nat.lt_of_lt_of_le e.2 (Nat.pow_le_pow_right (by decide) hj))⟩
  rw [Nat.testBit_eq_decide_div_mod_eq]
  have hd : x / 2 ^ Nat.log2 x = 1 := by
    have hp := Nat.two_pow_pos (Nat.log2 x)
    have h1 := (Nat.le_div_iff_mul_le hp (x := 1) (y := x)).2 (by omega)
    have h2 := (Nat.div_lt_iff_lt_mul hp (x := x) (y := 2)).2 (by rw [Nat.pow_succ] at e; omega)
    omega
  rw [hd]
  rfl
end Go.Proofs.YtfdombfdgpclcaaGreatDoor.Bt
