/-
  Plain facts on numbers below 2^64, their fields of bits, how many of their bits are 1 and which is the lowest one. No program is named here.
-/
namespace Go.Proofs.YtijlaganpnoefaaDoor.Wd

def big : Nat := 18446744073709551616
theorem big_eq : big = 2 ^ 64 := rfl

/-! ### The answers, as functions of numbers -/
def addV (a b : Int) : Int := if a + b < 18446744073709551616 then a + b else 0
def addE (a b : Int) : Int := if a + b < 18446744073709551616 then 0 else 10
def subV (a b : Int) : Int := if b ≤ a then a - b else 0
def subE (a b : Int) : Int := if b ≤ a then 0 else 10
def mulV (a b : Int) : Int := if a * b < 18446744073709551616 then a * b else 0
def mulE (a b : Int) : Int := if a * b < 18446744073709551616 then 0 else 10
def upV (n : Int) : Int := if n < 1 then 0 else (n - 1) / 2 + 1
def downV (n : Int) : Int := if n < 1 then 0 else n / 2

/-- May a field be there? -/
def okB (at' n : Int) : Bool := decide (1 ≤ n) && decide (n ≤ 64) && decide (0 ≤ at') && decide (at' ≤ 64 - n)
/-- The field of n bits from the bit p on. -/
def fld (v p n : Nat) : Nat := v / 2 ^ p % 2 ^ n
/-- The word v with x as that field: a number, no machine word in sight. -/
def put (v p n x : Nat) : Nat := (v &&& (18446744073709551615 - fld v p n * 2 ^ p)) ||| (x * 2 ^ p)
def bitsV (v at' n : Int) : Int := if okB at' n then (fld v.toNat at'.toNat n.toNat : Nat) else 0
def bitsE (at' n : Int) : Int := if okB at' n then 0 else 2
def layB (at' n x : Int) : Bool := okB at' n && decide (x.toNat < 2 ^ n.toNat)
def layV (v at' n x : Int) : Int := if layB at' n x then (put v.toNat at'.toNat n.toNat x.toNat : Nat) else 0
def layE (at' n x : Int) : Int := if layB at' n x then 0 else 2
/-- How many of the lowest k bits are 1. -/
def ones (v : Nat) : Nat → Nat
  | 0 => 0
  | k + 1 => ones v k + v / 2 ^ k % 2
def onesV (v : Int) : Int := (ones v.toNat 64 : Nat)
/-- The lowest bit from i on that is 1, of k bits; i + k if there is none. -/
def lowFrom (v i : Nat) : Nat → Nat
  | 0 => i
  | k + 1 => if v / 2 ^ i % 2 = 1 then i else lowFrom v (i + 1) k
def lowV (v : Int) : Int := (lowFrom v.toNat 0 64 : Nat)

/-! ### Bits -/
theorem bit_tb (v i : Nat) : v / 2 ^ i % 2 = (v.testBit i).toNat := by
  rw [Nat.testBit_eq_decide_div_mod_eq]
  by_cases h : v / 2 ^ i % 2 = 1
  · simp [h]
  · have : v / 2 ^ i % 2 = 0 := by omega
    simp [this]
theorem fld_tb (v p n i : Nat) : (fld v p n).testBit i = (decide (i < n) && v.testBit (p + i)) := by
  unfold fld
  rw [Nat.testBit_mod_two_pow, ← Nat.shiftRight_eq_div_pow, Nat.testBit_shiftRight]
theorem fld_lt (v p n : Nat) : fld v p n < 2 ^ n := Nat.mod_lt _ (Nat.two_pow_pos n)
theorem fld_zero (v p : Nat) : fld v p 0 = 0 := by unfold fld; rw [Nat.pow_zero, Nat.mod_one]
/-- One bit more at the lower end. -/
theorem fld_step (v p n : Nat) : fld v p (n + 1) = 2 * fld v (p + 1) n + v / 2 ^ p % 2 := by
  unfold fld
  rw [Nat.pow_succ 2 p, ← Nat.div_div_eq_div_mul, Nat.pow_succ, Nat.mul_comm (2 ^ n) 2, Nat.mod_mul]
  omega
theorem shl_tb (x p i : Nat) : (x * 2 ^ p).testBit i = (decide (p ≤ i) && x.testBit (i - p)) := by
  rw [← Nat.shiftLeft_eq, Nat.testBit_shiftLeft]
theorem hole_tb (v p n i : Nat) (h : p + n ≤ 64) : (18446744073709551615 - fld v p n * 2 ^ p).testBit i = (decide (i < 64) && !(decide (p ≤ i) && (decide (i - p < n) && v.testBit (p + (i - p))))) := by
  have hl : fld v p n * 2 ^ p < 2 ^ 64 := by
    calc fld v p n * 2 ^ p < 2 ^ n * 2 ^ p := Nat.mul_lt_mul_of_pos_right (fld_lt v p n) (Nat.two_pow_pos p)
      _ = 2 ^ (n + p) := (Nat.pow_add 2 n p).symm
      _ ≤ 2 ^ 64 := Nat.pow_le_pow_right (by decide) (by omega)
  have e : 18446744073709551615 - fld v p n * 2 ^ p = 2 ^ 64 - (fld v p n * 2 ^ p + 1) := by omega
  rw [e, Nat.testBit_two_pow_sub_succ hl, shl_tb, fld_tb]
/-- Which bits a word has behind a Lay. -/
theorem put_tb (v p n x i : Nat) (hv : v < 18446744073709551616) (h : p + n ≤ 64) (hx : x < 2 ^ n) :
    (put v p n x).testBit i = if p ≤ i ∧ i < p + n then x.testBit (i - p) else v.testBit i := by
  unfold put
  rw [Nat.testBit_or, Nat.testBit_and, hole_tb v p n i h, shl_tb]
  by_cases h1 : p ≤ i
  · by_cases h2 : i < p + n
    · have e : p + (i - p) = i := by omega
      have h3 : i - p < n := by omega
      have h4 : i < 64 := by omega
      rw [if_pos ⟨h1, h2⟩]
      simp [h1, h3, h4, e]
    · have h3 : ¬ i - p < n := by omega
      have hx0 : x.testBit (i - p) = false := Nat.testBit_lt_two_pow (Nat.lt_of_lt_of_le hx (Nat.pow_le_pow_right (by decide) (by omega)))
      rw [if_neg (by omega)]
      simp [h1, h3, hx0]
      intro hvi
      by_cases h4 : i < 64
      · exact h4
      · have : v.testBit i = false := Nat.testBit_lt_two_pow (Nat.lt_of_lt_of_le hv (by rw [show (18446744073709551616 : Nat) = 2 ^ 64 from rfl]; exact Nat.pow_le_pow_right (by decide) (by omega)))
        rw [this] at hvi; cases hvi
  · rw [if_neg (by omega)]
    have h4 : i < 64 := by omega
    simp [h1, h4]
theorem put_lt (v p n x : Nat) (hv : v < 18446744073709551616) (h : p + n ≤ 64) (hx : x < 2 ^ n) : put v p n x < 18446744073709551616 := by
  show _ < 2 ^ 64
  apply Nat.lt_pow_two_of_testBit
  intro i hi
  rw [put_tb v p n x i hv h hx, if_neg (by omega)]
  exact Nat.testBit_lt_two_pow (Nat.lt_of_lt_of_le (show v < 2 ^ 64 from hv) (Nat.pow_le_pow_right (by decide) hi))
/-- What was laid is the field. -/
theorem fld_put (v p n x : Nat) (hv : v < 18446744073709551616) (h : p + n ≤ 64) (hx : x < 2 ^ n) : fld (put v p n x) p n = x := by
  apply Nat.eq_of_testBit_eq
  intro i
  rw [fld_tb, put_tb v p n x _ hv h hx]
  by_cases h1 : i < n
  · rw [if_pos (by omega), show p + i - p = i by omega]; simp [h1]
  · have : x.testBit i = false := Nat.testBit_lt_two_pow (Nat.lt_of_lt_of_le hx (Nat.pow_le_pow_right (by decide) (by omega)))
    simp [h1, this]
/-- The field that was there, laid again, brings the word back. -/
theorem put_back (v p n x : Nat) (hv : v < 18446744073709551616) (h : p + n ≤ 64) (hx : x < 2 ^ n) : put (put v p n x) p n (fld v p n) = v := by
  apply Nat.eq_of_testBit_eq
  intro i
  rw [put_tb _ p n _ i (put_lt v p n x hv h hx) h (fld_lt v p n), put_tb v p n x i hv h hx, fld_tb]
  by_cases h1 : p ≤ i ∧ i < p + n
  · rw [if_pos h1, show p + (i - p) = i by omega]
    have : i - p < n := by omega
    simp [this]
  · rw [if_neg h1, if_neg h1]
/-- No bit beside the field is another one. -/
theorem put_beside (v p n x : Nat) (hv : v < 18446744073709551616) (h : p + n ≤ 64) (hx : x < 2 ^ n) : (v ^^^ put v p n x) &&& (18446744073709551615 - (2 ^ n - 1) * 2 ^ p) = 0 := by
  have hm : (2 ^ n - 1) * 2 ^ p < 2 ^ 64 := by
    calc (2 ^ n - 1) * 2 ^ p < 2 ^ n * 2 ^ p := Nat.mul_lt_mul_of_pos_right (Nat.sub_lt (Nat.two_pow_pos n) (by decide)) (Nat.two_pow_pos p)
      _ = 2 ^ (n + p) := (Nat.pow_add 2 n p).symm
      _ ≤ 2 ^ 64 := Nat.pow_le_pow_right (by decide) (by omega)
  have e : 18446744073709551615 - (2 ^ n - 1) * 2 ^ p = 2 ^ 64 - ((2 ^ n - 1) * 2 ^ p + 1) := by omega
  apply Nat.eq_of_testBit_eq
  intro i
  rw [e, Nat.testBit_and, Nat.testBit_xor, put_tb v p n x i hv h hx, Nat.testBit_two_pow_sub_succ hm, shl_tb, Nat.testBit_two_pow_sub_one, Nat.zero_testBit]
  by_cases h1 : p ≤ i ∧ i < p + n
  · have : i - p < n := by omega
    rw [if_pos h1]; simp [h1.1, this]
  · rw [if_neg h1]; simp

theorem fld_all (x n : Nat) (hx : x < 2 ^ n) : fld x 0 n = x := by unfold fld; rw [Nat.pow_zero, Nat.div_one]; exact Nat.mod_eq_of_lt hx
theorem fld_same (x n : Nat) : fld x 0 n = x ↔ x < 2 ^ n := by
  unfold fld
  rw [Nat.pow_zero, Nat.div_one]
  exact ⟨fun h => by rw [← h]; exact Nat.mod_lt _ (Nat.two_pow_pos n), fun h => Nat.mod_eq_of_lt h⟩
theorem field_lt (y n p : Nat) (hy : y < 2 ^ n) (h : p + n ≤ 64) : y * 2 ^ p < 18446744073709551616 := by
  show _ < 2 ^ 64
  calc y * 2 ^ p < 2 ^ n * 2 ^ p := Nat.mul_lt_mul_of_pos_right hy (Nat.two_pow_pos p)
    _ = 2 ^ (n + p) := (Nat.pow_add 2 n p).symm
    _ ≤ 2 ^ 64 := Nat.pow_le_pow_right (by decide) (by omega)
/-- One bit more at the lower end of what has been read from the top. -/
theorem top_step (f i : Nat) : f / 2 ^ i = 2 * (f / 2 ^ (i + 1)) + (f.testBit i).toNat := by
  rw [← bit_tb, Nat.pow_succ, ← Nat.div_div_eq_div_mul]; omega

/-! ### How many bits are 1 -/
theorem ones_le (v k : Nat) : ones v k ≤ k := by
  induction k with
  | zero => exact Nat.le_refl _
  | succ k ih => unfold ones; have := Nat.mod_lt (v / 2 ^ k) (show 0 < 2 by decide); omega
theorem ones_put (v p n x : Nat) (hv : v < 18446744073709551616) (h : p + n ≤ 64) (hx : x < 2 ^ n) (k : Nat) :
    ones (put v p n x) k + ones (fld v p n) (min (k - p) n) = ones v k + ones x (min (k - p) n) := by
  induction k with
  | zero => simp [ones]
  | succ k ih =>
    have s1 : ones (put v p n x) (k + 1) = ones (put v p n x) k + (put v p n x) / 2 ^ k % 2 := rfl
    have s2 : ones v (k + 1) = ones v k + v / 2 ^ k % 2 := rfl
    rw [s1, s2, bit_tb (put v p n x), bit_tb v, put_tb v p n x k hv h hx]
    by_cases h1 : p ≤ k ∧ k < p + n
    · have e : min (k + 1 - p) n = min (k - p) n + 1 := by omega
      have e2 : min (k - p) n = k - p := by omega
      have s3 : ones (fld v p n) (min (k - p) n + 1) = ones (fld v p n) (min (k - p) n) + fld v p n / 2 ^ (min (k - p) n) % 2 := rfl
      have s4 : ones x (min (k - p) n + 1) = ones x (min (k - p) n) + x / 2 ^ (min (k - p) n) % 2 := rfl
      rw [if_pos h1, e, s3, s4, bit_tb, bit_tb, fld_tb, e2, show p + (k - p) = k by omega]
      rw [e2] at ih
      have : k - p < n := by omega
      simp only [this, decide_true, Bool.true_and]
      omega
    · have e : min (k + 1 - p) n = min (k - p) n := by omega
      rw [if_neg h1, e]
      omega
theorem ones_top (x n : Nat) (hx : x < 2 ^ n) (k : Nat) (h : n ≤ k) : ones x k = ones x n := by
  induction k with
  | zero => rw [show n = 0 by omega]
  | succ k ih =>
    rcases Nat.lt_or_ge n (k + 1) with h1 | h1
    · have s : ones x (k + 1) = ones x k + x / 2 ^ k % 2 := rfl
      have : x / 2 ^ k = 0 := Nat.div_eq_of_lt (Nat.lt_of_lt_of_le hx (Nat.pow_le_pow_right (by decide) (by omega)))
      rw [s, this, ih (by omega), Nat.zero_mod, Nat.add_zero]
    · rw [show n = k + 1 by omega]
theorem ones_laid (v p n x : Nat) (hv : v < 18446744073709551616) (h : p + n ≤ 64) (hx : x < 2 ^ n) :
    (ones (put v p n x) 64 : Int) - (ones v 64 : Nat) = (ones x 64 : Nat) - (ones (fld v p n) 64 : Nat) := by
  have e := ones_put v p n x hv h hx 64
  rw [show min (64 - p) n = n by omega] at e
  rw [ones_top x n hx 64 (by omega), ones_top _ n (fld_lt v p n) 64 (by omega)]
  omega

/-! ### The lowest bit -/
theorem low_iff (v i k t : Nat) (h1 : i ≤ t) (h2 : t < i + k) (h3 : v / 2 ^ t % 2 = 1) (h4 : ∀ j, j < t → v / 2 ^ j % 2 = 0) : lowFrom v i k = t := by
  induction k generalizing i with
  | zero => omega
  | succ k ih =>
    unfold lowFrom
    by_cases e : i = t
    · subst e; rw [if_pos h3]
    · rw [if_neg (by rw [h4 i (by omega)]; decide)]
      exact ih (i + 1) (by omega) (by omega)
theorem low_none (i k : Nat) : lowFrom 0 i k = i + k := by
  induction k generalizing i with
  | zero => rfl
  | succ k ih => unfold lowFrom; rw [if_neg (by simp), ih]; omega
theorem low_le (v i k : Nat) : lowFrom v i k ≤ i + k := by
  induction k generalizing i with
  | zero => exact Nat.le_refl _
  | succ k ih =>
    unfold lowFrom
    by_cases h : v / 2 ^ i % 2 = 1
    · rw [if_pos h]; omega
    · rw [if_neg h]; have := ih (i + 1); omega
theorem low_zero : lowV 0 = 64 := by show ((lowFrom 0 0 64 : Nat) : Int) = 64; rw [low_none]; rfl
/-- x has a lowest bit t; x and its negative have just that bit in common. -/
theorem low_and (k x : Nat) (h0 : 0 < x) (hx : x < 2 ^ k) : ∃ t, t < k ∧ x &&& (2 ^ k - x) = 2 ^ t ∧ x / 2 ^ t % 2 = 1 ∧ ∀ j, j < t → x / 2 ^ j % 2 = 0 := by
  induction k generalizing x with
  | zero => omega
  | succ k ih =>
    have hp := Nat.two_pow_pos k
    rw [Nat.pow_succ] at hx
    by_cases ho : x % 2 = 1
    · refine ⟨0, by omega, ?_, by simpa using ho, fun j hj => by omega⟩
      apply Nat.eq_of_testBit_eq
      intro i
      have e : 2 ^ (k + 1) - x = 2 ^ (k + 1) - ((x - 1) + 1) := by omega
      rw [Nat.testBit_and, e, Nat.testBit_two_pow_sub_succ (by rw [Nat.pow_succ]; omega)]
      cases i with
      | zero =>
        have : (x - 1) % 2 = 0 := by omega
        simp [Nat.testBit_zero, ho, this]
      | succ i =>
        rw [Nat.testBit_succ, Nat.testBit_succ, show (x - 1) / 2 = x / 2 by omega]
        rw [show (2 ^ 0 : Nat) = 1 from rfl, Nat.testBit_succ, show 1 / 2 = 0 from rfl, Nat.zero_testBit]
        cases (x / 2).testBit i <;> simp
    · obtain ⟨t, ht, h1, h2, h3⟩ := ih (x / 2) (by omega) (by omega)
      refine ⟨t + 1, by omega, ?_, ?_, ?_⟩
      · have ex : x = 2 * (x / 2) := by omega
        have e2 : 2 ^ (k + 1) - x = 2 * (2 ^ k - x / 2) := by rw [Nat.pow_succ]; omega
        rw [e2]
        apply Nat.eq_of_testBit_eq
        intro i
        cases i with
        | zero =>
          rw [Nat.testBit_and, Nat.pow_succ]
          simp [Nat.testBit_zero]
        | succ i =>
          rw [Nat.testBit_and, Nat.testBit_succ, Nat.testBit_succ, Nat.testBit_succ, Nat.pow_succ, Nat.mul_div_cancel_left _ (by decide : 0 < 2), Nat.mul_div_cancel _ (by decide : 0 < 2), ← h1, Nat.testBit_and]
      · rw [Nat.pow_succ, Nat.mul_comm, ← Nat.div_div_eq_div_mul]; exact h2
      · intro j hj
        cases j with
        | zero => simp; omega
        | succ j => rw [Nat.pow_succ, Nat.mul_comm, ← Nat.div_div_eq_div_mul]; exact h3 j (by omega)

def tab : List Int := [0, 1, 56, 2, 57, 49, 28, 3, 61, 58, 42, 50, 38, 29, 17, 4, 62, 47, 59, 36, 45, 43, 51, 22, 53, 39, 33, 30, 24, 18, 12, 5, 63, 55, 48, 27, 60, 41, 37, 16, 46, 35, 44, 21, 52, 32, 23, 11, 54, 26, 40, 15, 34, 20, 31, 10, 25, 14, 19, 9, 13, 8, 7, 6]
def place (m : Nat) : Nat := m * 285870213051353865 % 18446744073709551616 / 2 ^ 58
theorem place_tab : ∀ t : Fin 64, place (2 ^ t.val) < 64 ∧ tab.getD (place (2 ^ t.val)) 0 = (t.val : Int) := by decide +kernel
theorem low_tab (x : Nat) (h0 : 0 < x) (hx : x < 18446744073709551616) : place (x &&& (18446744073709551616 - x)) < 64 ∧ tab.getD (place (x &&& (18446744073709551616 - x))) 0 = (lowFrom x 0 64 : Nat) := by
  obtain ⟨t, ht, h1, h2, h3⟩ := low_and 64 x h0 hx
  have := place_tab ⟨t, ht⟩
  rw [show (18446744073709551616 : Nat) = 2 ^ 64 from rfl, h1, low_iff x 0 64 t (by omega) (by omega) h2 h3]
  exact this
theorem low_place (v : Nat) (h0 : 0 < v) (hv : v < 18446744073709551616) : ∃ m L : Nat, m < 64 ∧ L ≤ 64 ∧ tab.getD m 0 = (L : Int) ∧ lowV v = L ∧ place (v &&& (18446744073709551616 - v)) = m := by
  obtain ⟨l1, l2⟩ := low_tab v h0 hv
  refine ⟨_, _, l1, low_le v 0 64, l2, ?_, rfl⟩
  unfold lowV
  rw [Int.toNat_natCast]
end Go.Proofs.YtijlaganpnoefaaDoor.Wd
