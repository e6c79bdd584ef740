/-
  Several texts in one: HdOpen, WordMath, BtWord, SpOpen.
-/
import Derived.Test.YtoagghileebokaaGreatDoorRows
import Derived.Test.YtoagghileebokaaGreatDoorG04
import Derived.Test.YtoagghileebokaaGreatDoorG02
import Derived.Test.YtoagghileebokaaGreatDoorProg
import Derived.WalkKit
import Derived.RegionTactic
import Derived.Outline
import Derived.IntWalk
import Derived.Deep.QuietTactic
import Derived.BigQuiet
import Derived.Lib.Hide
import Derived.Laws.Externs
import Derived.Laws.MathBits
import Derived.Laws.BitsAllLaws
import Derived.ProofKit
import Derived.OpenShut
import Derived.ChangeOld
import Derived.Deep.Slices
import Derived.Deep.Fields
import Derived.Lib.LaidTab
/-
  What came in: a header, a byte; the table of the fields as the row's condition says it.
-/
namespace Go.Proofs.YtoagghileebokaaGreatDoor.Hd
open Go.ChangeShapes Go.WideShapes Go.ChangeAt Go.RowKit Go.Proofs.YtoagghileebokaaGreatDoor.Ar
set_option linter.unusedVariables false

theorem u8_of_wf {n : Int} (h : (Lit.int .u8 n).wf = true) : 0 ≤ n ∧ n ≤ 255 := by
  simp [Lit.wf, IntKind.min, IntKind.max, IntKind.signed, IntKind.bits] at h
  omega
section
variable {H : Type} {enc : TypeId × Value → H} {w : World} {base : Nat} {spare : Nat → Bool} {held : Bool} {fuel : Nat}
set_option maxRecDepth 100000 in
/-- One entry of the table. -/
theorem entry_of {c0 c1 : Value} {u v : Int} {x : DataW H × List MemPlace} (h : DataW.trod enc Tryz.prog w base spare held fuel 217 [c0, c1] = some x) (hx : x.1 = .agg [.lit (.int .i64 u), .lit (.int .i64 v)]) : c0 = .int .i64 u ∧ c1 = .int .i64 v := by
  obtain ⟨xs, m, _, e, hlen, hxl, hf⟩ := DataW.trod_struct Tryz.underlying217 h
  have hI : Tryz.prog.cellsOf 3 = 1 := by kernel_rfl
  match xs, hxl with
  | [y0, y1], _ =>
    have g0 := hf 0 _ rfl
    have g1 := hf 1 _ rfl
    simp [hI] at g0 g1
    obtain ⟨a, e0, f0, _⟩ := DataW.trod_int Tryz.underlying3 g0
    obtain ⟨b, e1, f1, _⟩ := DataW.trod_int Tryz.underlying3 g1
    subst e
    simp only [List.map_cons, List.map_nil, DataW.agg.injEq, List.cons.injEq, and_true, f0, f1, DataW.lit.injEq, Lit.int.injEq, true_and] at hx
    obtain ⟨rfl, rfl⟩ := hx
    simp at e0 e1
    exact ⟨e0, e1⟩
end
theorem gF : Tryz.prog.globalNamed "skerry/head.fields" = some 0 := by kernel_rfl
theorem gFType : (Tryz.prog.globals[0]?).map (·.type) = some 218 := by kernel_rfl
theorem cellsF : Tryz.prog.cellsOf 218 = 8 := by kernel_rfl
theorem cellsE : Tryz.prog.cellsOf 217 = 2 := by kernel_rfl
set_option maxRecDepth 100000 in
theorem fields_of {W : World} (h : laidMet Tryz.prog [("skerry/head.fields", Rows.laid_skerry_head_fields)] W) : Fields W := by
  obtain ⟨ps, ⟨g', t', cs, fuel, p, q, hg', ht', hvar, hd, _, _⟩, _⟩ := h
  obtain rfl := Option.some.inj (gF.symm.trans hg')
  obtain rfl := Option.some.inj (gFType.symm.trans ht')
  obtain ⟨xs, m, _, e, hlen, hxl, hat⟩ := DataW.trod_array Tryz.underlying218 hd
  rw [cellsF] at hlen
  have hcs : cs = fieldCells := by
    obtain ⟨cl⟩ := cs
    match cl, hlen, xs, hxl with
    | [c0, c1, c2, c3, c4, c5, c6, c7], _, [y0, y1, y2, y3], _ =>
      have a0 := hat 0 (by decide)
      have a1 := hat 1 (by decide)
      have a2 := hat 2 (by decide)
      have a3 := hat 3 (by decide)
      simp [cellsE] at a0 a1 a2 a3
      have ee := congrArg Prod.fst e
      simp only [Rows.laid_skerry_head_fields, List.map_cons, List.map_nil, DataW.agg.injEq, List.cons.injEq, and_true] at ee
      obtain ⟨f0, f1, f2, f3⟩ := ee
      obtain ⟨rfl, rfl⟩ := entry_of a0 f0.symm
      obtain ⟨rfl, rfl⟩ := entry_of a1 f1.symm
      obtain ⟨rfl, rfl⟩ := entry_of a2 f2.symm
      obtain ⟨rfl, rfl⟩ := entry_of a3 f3.symm
      rfl
  subst hcs
  simp only [World.var?, gF, Option.bind_some] at hvar
  split at hvar
  · rename_i cs' t fr hh
    injection hvar with hvar
    exact ⟨t, fr, by rw [← hvar]; exact hh⟩
  · cases hvar
end Go.Proofs.YtoagghileebokaaGreatDoor.Hd

/-
  Plain facts on numbers below 2^64, their fields of bits, how many of their bits are 1 and which is the lowest one. No program is named here.
-/
namespace Go.Proofs.YtoagghileebokaaGreatDoor.Wd

def big : Nat := 18446744073709551616
/-! ### The answers, as functions of numbers -/
def addE (a b : Int) : Int := if a + b < 18446744073709551616 then 0 else 10
/-- May a field be there? -/
def okB (at' n : Int) : Bool := decide (1 ≤ n) && decide (n ≤ 64) && decide (0 ≤ at') && decide (at' ≤ 64 - n)
/-- The field of n bits from the bit p on. -/
def fld (v p n : Nat) : Nat := v / 2 ^ p % 2 ^ n
/-- The word v with x as that field: a number, no machine word in sight. -/
def put (v p n x : Nat) : Nat := (v &&& (18446744073709551615 - fld v p n * 2 ^ p)) ||| (x * 2 ^ p)
def bitsV (v at' n : Int) : Int := if okB at' n then (fld v.toNat at'.toNat n.toNat : Nat) else 0
def bitsE (at' n : Int) : Int := if okB at' n then 0 else 2
def layB (at' n x : Int) : Bool := okB at' n && decide (x.toNat < 2 ^ n.toNat)
def layV (v at' n x : Int) : Int := if layB at' n x then (put v.toNat at'.toNat n.toNat x.toNat : Nat) else 0
def layE (at' n x : Int) : Int := if layB at' n x then 0 else 2
/-- How many of the lowest k bits are 1. -/
def ones (v : Nat) : Nat → Nat
  | 0 => 0
  | k + 1 => ones v k + v / 2 ^ k % 2
def onesV (v : Int) : Int := (ones v.toNat 64 : Nat)
/-- The lowest bit from i on that is 1, of k bits; i + k if there is none. -/
def lowFrom (v i : Nat) : Nat → Nat
  | 0 => i
  | k + 1 => if v / 2 ^ i % 2 = 1 then i else lowFrom v (i + 1) k
def lowV (v : Int) : Int := (lowFrom v.toNat 0 64 : Nat)

/-! ### Bits -/
theorem bit_tb (v i : Nat) : v / 2 ^ i % 2 = (v.testBit i).toNat := by
  rw [Nat.testBit_eq_decide_div_mod_eq]
  by_cases h : v / 2 ^ i % 2 = 1
  · simp [h]
  · have : v / 2 ^ i % 2 = 0 := by omega
    simp [this]
theorem fld_tb (v p n i : Nat) : (fld v p n).testBit i = (decide (i < n) && v.testBit (p + i)) := by
  unfold fld
  rw [Nat.testBit_mod_two_pow, ← Nat.shiftRight_eq_div_pow, Nat.testBit_shiftRight]
theorem fld_lt (v p n : Nat) : fld v p n < 2 ^ n := Nat.mod_lt _ (Nat.two_pow_pos n)
theorem shl_tb (x p i : Nat) : (x * 2 ^ p).testBit i = (decide (p ≤ i) && x.testBit (i - p)) := by
  rw [← Nat.shiftLeft_eq, Nat.testBit_shiftLeft]
theorem hole_tb (v p n i : Nat) (h : p + n ≤ 64) : (18446744073709551615 - fld v p n * 2 ^ p).testBit i = (decide (i < 64) && !(decide (p ≤ i) && (decide (i - p < n) && v.testBit (p + (i - p))))) := by
  have hl : fld v p n * 2 ^ p < 2 ^ 64 := by
    calc fld v p n * 2 ^ p < 2 ^ n * 2 ^ p := Nat.mul_lt_mul_of_pos_right (fld_lt v p n) (Nat.two_pow_pos p)
      _ = 2 ^ (n + p) := (Nat.pow_add 2 n p).symm
      _ ≤ 2 ^ 64 := Nat.pow_le_pow_right (by decide) (by omega)
  have e : 18446744073709551615 - fld v p n * 2 ^ p = 2 ^ 64 - (fld v p n * 2 ^ p + 1) := by omega
  rw [e, Nat.testBit_two_pow_sub_succ hl, shl_tb, fld_tb]
/-- Which bits a word has behind a Lay. -/
theorem put_tb (v p n x i : Nat) (hv : v < 18446744073709551616) (h : p + n ≤ 64) (hx : x < 2 ^ n) :
    (put v p n x).testBit i = if p ≤ i ∧ i < p + n then x.testBit (i - p) else v.testBit i := by
  unfold put
  rw [Nat.testBit_or, Nat.testBit_and, hole_tb v p n i h, shl_tb]
  by_cases h1 : p ≤ i
  · by_cases h2 : i < p + n
    · have e : p + (i - p) = i := by omega
      have h3 : i - p < n := by omega
      have h4 : i < 64 := by omega
      rw [if_pos ⟨h1, h2⟩]
      simp [h1, h3, h4, e]
    · have h3 : ¬ i - p < n := by omega
      have hx0 : x.testBit (i - p) = false := Nat.testBit_lt_two_pow (Nat.lt_of_lt_of_le hx (Nat.pow_le_pow_right (by decide) (by omega)))
      rw [if_neg (by omega)]
      simp [h1, h3, hx0]
      intro hvi
      by_cases h4 : i < 64
      · exact h4
      · have : v.testBit i = false := Nat.testBit_lt_two_pow (Nat.lt_of_lt_of_le hv (by rw [show (18446744073709551616 : Nat) = 2 ^ 64 from rfl]; exact Nat.pow_le_pow_right (by decide) (by omega)))
        rw [this] at hvi; cases hvi
  · rw [if_neg (by omega)]
    have h4 : i < 64 := by omega
    simp [h1, h4]
theorem put_lt (v p n x : Nat) (hv : v < 18446744073709551616) (h : p + n ≤ 64) (hx : x < 2 ^ n) : put v p n x < 18446744073709551616 := by
  show _ < 2 ^ 64
  apply Nat.lt_pow_two_of_testBit
  intro i hi
  rw [put_tb v p n x i hv h hx, if_neg (by omega)]
  exact Nat.testBit_lt_two_pow (Nat.lt_of_lt_of_le (show v < 2 ^ 64 from hv) (Nat.pow_le_pow_right (by decide) hi))
theorem fld_all (x n : Nat) (hx : x < 2 ^ n) : fld x 0 n = x := by unfold fld; rw [Nat.pow_zero, Nat.div_one]; exact Nat.mod_eq_of_lt hx
theorem fld_same (x n : Nat) : fld x 0 n = x ↔ x < 2 ^ n := by
  unfold fld
  rw [Nat.pow_zero, Nat.div_one]
  exact ⟨fun h => by rw [← h]; exact Nat.mod_lt _ (Nat.two_pow_pos n), fun h => Nat.mod_eq_of_lt h⟩
theorem field_lt (y n p : Nat) (hy : y < 2 ^ n) (h : p + n ≤ 64) : y * 2 ^ p < 18446744073709551616 := by
  show _ < 2 ^ 64
  calc y * 2 ^ p < 2 ^ n * 2 ^ p := Nat.mul_lt_mul_of_pos_right hy (Nat.two_pow_pos p)
    _ = 2 ^ (n + p) := (Nat.pow_add 2 n p).symm
    _ ≤ 2 ^ 64 := Nat.pow_le_pow_right (by decide) (by omega)
/-! ### How many bits are 1 -/
theorem ones_le (v k : Nat) : ones v k ≤ k := by
  induction k with
  | zero => exact Nat.le_refl _
  | succ k ih => unfold ones; have := Nat.mod_lt (v / 2 ^ k) (show 0 < 2 by decide); omega
theorem ones_top (x n : Nat) (hx : x < 2 ^ n) (k : Nat) (h : n ≤ k) : ones x k = ones x n := by
  induction k with
  | zero => rw [show n = 0 by omega]
  | succ k ih =>
    rcases Nat.lt_or_ge n (k + 1) with h1 | h1
    · have s : ones x (k + 1) = ones x k + x / 2 ^ k % 2 := rfl
      have : x / 2 ^ k = 0 := Nat.div_eq_of_lt (Nat.lt_of_lt_of_le hx (Nat.pow_le_pow_right (by decide) (by omega)))
      rw [s, this, ih (by omega), Nat.zero_mod, Nat.add_zero]
    · rw [show n = k + 1 by omega]
/-! ### The lowest bit -/
theorem low_iff (v i k t : Nat) (h1 : i ≤ t) (h2 : t < i + k) (h3 : v / 2 ^ t % 2 = 1) (h4 : ∀ j, j < t → v / 2 ^ j % 2 = 0) : lowFrom v i k = t := by
  induction k generalizing i with
  | zero => omega
  | succ k ih =>
    unfold lowFrom
    by_cases e : i = t
    · subst e; rw [if_pos h3]
    · rw [if_neg (by rw [h4 i (by omega)]; decide)]
      exact ih (i + 1) (by omega) (by omega)
theorem low_none (i k : Nat) : lowFrom 0 i k = i + k := by
  induction k generalizing i with
  | zero => rfl
  | succ k ih => unfold lowFrom; rw [if_neg (by simp), ih]; omega
theorem low_le (v i k : Nat) : lowFrom v i k ≤ i + k := by
  induction k generalizing i with
  | zero => exact Nat.le_refl _
  | succ k ih =>
    unfold lowFrom
    by_cases h : v / 2 ^ i % 2 = 1
    · rw [if_pos h]; omega
    · rw [if_neg h]; have := ih (i + 1); omega
theorem low_zero : lowV 0 = 64 := by show ((lowFrom 0 0 64 : Nat) : Int) = 64; rw [low_none]; rfl
/-- x has a lowest bit t; x and its negative have just that bit in common. -/
theorem low_and (k x : Nat) (h0 : 0 < x) (hx : x < 2 ^ k) : ∃ t, t < k ∧ x &&& (2 ^ k - x) = 2 ^ t ∧ x / 2 ^ t % 2 = 1 ∧ ∀ j, j < t → x / 2 ^ j % 2 = 0 := by
  induction k generalizing x with
  | zero => omega
  | succ k ih =>
    have hp := Nat.two_pow_pos k
    rw [Nat.pow_succ] at hx
    by_cases ho : x % 2 = 1
    · refine ⟨0, by omega, ?_, by simpa using ho, fun j hj => by omega⟩
      apply Nat.eq_of_testBit_eq
      intro i
      have e : 2 ^ (k + 1) - x = 2 ^ (k + 1) - ((x - 1) + 1) := by omega
      rw [Nat.testBit_and, e, Nat.testBit_two_pow_sub_succ (by rw [Nat.pow_succ]; omega)]
      cases i with
      | zero =>
        have : (x - 1) % 2 = 0 := by omega
        simp [Nat.testBit_zero, ho, this]
      | succ i =>
        rw [Nat.testBit_succ, Nat.testBit_succ, show (x - 1) / 2 = x / 2 by omega]
        rw [show (2 ^ 0 : Nat) = 1 from rfl, Nat.testBit_succ, show 1 / 2 = 0 from rfl, Nat.zero_testBit]
        cases (x / 2).testBit i <;> simp
    · obtain ⟨t, ht, h1, h2, h3⟩ := ih (x / 2) (by omega) (by omega)
      refine ⟨t + 1, by omega, ?_, ?_, ?_⟩
      · have ex : x = 2 * (x / 2) := by omega
        have e2 : 2 ^ (k + 1) - x = 2 * (2 ^ k - x / 2) := by rw [Nat.pow_succ]; omega
        rw [e2]
        apply Nat.eq_of_testBit_eq
        intro i
        cases i with
        | zero =>
          rw [Nat.testBit_and, Nat.pow_succ]
          simp [Nat.testBit_zero]
        | succ i =>
          rw [Nat.testBit_and, Nat.testBit_succ, Nat.testBit_succ, Nat.testBit_succ, Nat.pow_succ, Nat.mul_div_cancel_left _ (by decide : 0 < 2), Nat.mul_div_cancel _ (by decide : 0 < 2), ← h1, Nat.testBit_and]
      · rw [Nat.pow_succ, Nat.mul_comm, ← Nat.div_div_eq_div_mul]; exact h2
      · intro j hj
        cases j with
        | zero => simp; omega
        | succ j => rw [Nat.pow_succ, Nat.mul_comm, ← Nat.div_div_eq_div_mul]; exact h3 j (by omega)

def tab : List Int := [0, 1, 56, 2, 57, 49, 28, 3, 61, 58, 42, 50, 38, 29, 17, 4, 62, 47, 59, 36, 45, 43, 51, 22, 53, 39, 33, 30, 24, 18, 12, 5, 63, 55, 48, 27, 60, 41, 37, 16, 46, 35, 44, 21, 52, 32, 23, 11, 54, 26, 40, 15, 34, 20, 31, 10, 25, 14, 19, 9, 13, 8, 7, 6]
def place (m : Nat) : Nat := m * 285870213051353865 % 18446744073709551616 / 2 ^ 58
theorem place_tab : ∀ t : Fin 64, place (2 ^ t.val) < 64 ∧ tab.getD (place (2 ^ t.val)) 0 = (t.val : Int) := by decide +kernel
theorem low_tab (x : Nat) (h0 : 0 < x) (hx : x < 18446744073709551616) : place (x &&& (18446744073709551616 - x)) < 64 ∧ tab.getD (place (x &&& (18446744073709551616 - x))) 0 = (lowFrom x 0 64 : Nat) := by
  obtain ⟨t, ht, h1, h2, h3⟩ := low_and 64 x h0 hx
  have := place_tab ⟨t, ht⟩
  rw [show (18446744073709551616 : Nat) = 2 ^ 64 from rfl, h1, low_iff x 0 64 t (by omega) (by omega) h2 h3]
  exact this
theorem low_place (v : Nat) (h0 : 0 < v) (hv : v < 18446744073709551616) : ∃ m L : Nat, m < 64 ∧ L ≤ 64 ∧ tab.getD m 0 = (L : Int) ∧ lowV v = L ∧ place (v &&& (18446744073709551616 - v)) = m := by
  obtain ⟨l1, l2⟩ := low_tab v h0 hv
  refine ⟨_, _, l1, low_le v 0 64, l2, ?_, rfl⟩
  unfold lowV
  rw [Int.toNat_natCast]
end Go.Proofs.YtoagghileebokaaGreatDoor.Wd

/-
  The contracts of the functions of package word that package bits calls, and of math/bits.Len64: each is what a function of numbers says.
-/
namespace Go.Proofs.YtoagghileebokaaGreatDoor.Wd
open Go.RowKit

theorem wrapN (a : Nat) (ha : a < 18446744073709551616) : IntKind.u64.wrap (a : Int) = (a : Int) := by rw [IntKind.wrap_u64]; omega
theorem isField_any (p n : Int) (h1 : -9223372036854775808 ≤ n) (h2 : n ≤ 9223372036854775807) (w : World) :
    Calls Tryz.prog 159 #[.int .i64 p, .int .i64 n] w fun e w' => e = .returned (.bool (okB p n)) ∧ w = w' := by
  by_cases c1 : 1 ≤ n
  · by_cases c2 : 0 ≤ p
    · by_cases c3 : p ≤ 64 - n
      · have e : okB p n = true := by unfold okB; simp [c1, c2, c3]; omega
        rw [e]; clear e
        go_enter Tryz.func159, Tryz.ntmps159
        go_wp2
        go_ret
        exact ⟨rfl, rfl⟩
      · have e : okB p n = false := by unfold okB; simp [c1, c2, c3]
        rw [e]; clear e
        go_enter Tryz.func159, Tryz.ntmps159
        go_wp2
        go_ret
        exact ⟨rfl, rfl⟩
    · have e : okB p n = false := by unfold okB; simp [c1, c2]
      rw [e]; clear e
      go_enter Tryz.func159, Tryz.ntmps159
      go_wp2
      go_ret
      exact ⟨rfl, rfl⟩
  · have e : okB p n = false := by unfold okB; simp [c1]
    rw [e]; clear e
    go_enter Tryz.func159, Tryz.ntmps159
    go_wp2
    go_ret
    exact ⟨rfl, rfl⟩
theorem two_pow_lt (n : Nat) (hn : n < 64) : (2 : Nat) ^ n < 18446744073709551616 := Nat.pow_lt_pow_right (by decide) hn
theorem cast_two (n : Nat) : (2 : Int) ^ n = ((2 ^ n : Nat) : Int) := by rw [Int.natCast_pow]; rfl
theorem mask_num (n : Nat) (hn : n ≤ 64) : IntKind.u64.wrap (IntKind.u64.wrap ((2 : Int) ^ n) - 1) = ((2 ^ n - 1 : Nat) : Int) := by
  rw [IntKind.wrap_u64, IntKind.wrap_u64, cast_two]
  by_cases h : n = 64
  · subst h; decide
  · have := two_pow_lt n (by omega)
    have hp := Nat.two_pow_pos n
    omega
theorem cut_num (v p n : Nat) (hv : v < 18446744073709551616) (hn : n ≤ 64) : bits .and .u64 ((v : Int) / 2 ^ p) (IntKind.u64.wrap (IntKind.u64.wrap ((2 : Int) ^ n) - 1)) = (fld v p n : Nat) := by
  have hm : 2 ^ n - 1 < 18446744073709551616 := by
    by_cases h : n = 64
    · subst h; decide
    · have := two_pow_lt n (by omega)
      omega
  have hd : v / 2 ^ p < 18446744073709551616 := Nat.lt_of_le_of_lt (Nat.div_le_self _ _) hv
  rw [mask_num n hn, cast_two, ← Int.natCast_ediv, u64_and_nat _ _ hd hm, Nat.and_two_pow_sub_one_eq_mod]
  rfl
theorem cut_nat (v p n : Nat) (hv : v < 18446744073709551616) (hp : p < 64) (hn : n ≤ 64) (w : World) :
    Calls Tryz.prog 133 #[.int .u64 v, .int .i64 p, .int .i64 n] w fun e w' => e = .returned (.int .u64 (fld v p n : Nat)) ∧ ∃ k, w' = w.drewN k := by
  have hc := Lib.hid (cut_num v p n hv hn)
  go_enter Tryz.func133, Tryz.ntmps133
  go_wp2
  go_quiet (fail)
  rw [hc.out]
  go_wp2
  go_ret
  exact ⟨rfl, _, rfl⟩
theorem cut_any (v p n : Int) (v0 : 0 ≤ v) (hv : v < 18446744073709551616) (p0 : 0 ≤ p) (hp : p < 64) (n0 : 0 ≤ n) (hn : n ≤ 64) (w : World) :
    Calls Tryz.prog 133 #[.int .u64 v, .int .i64 p, .int .i64 n] w fun e w' => e = .returned (.int .u64 (fld v.toNat p.toNat n.toNat : Nat)) ∧ ∃ k, w' = w.drewN k := by
  have h := cut_nat v.toNat p.toNat n.toNat (by omega) (by omega) (by omega) w
  rw [Int.toNat_of_nonneg v0, Int.toNat_of_nonneg p0, Int.toNat_of_nonneg n0] at h
  exact h
theorem okB_iff (p n : Int) : okB p n = true ↔ 1 ≤ n ∧ n ≤ 64 ∧ 0 ≤ p ∧ p ≤ 64 - n := by unfold okB; simp [and_assoc]
theorem bits_any (v p n : Int) (v0 : 0 ≤ v) (hv : v < 18446744073709551616) (p1 : -9223372036854775808 ≤ p) (p2 : p ≤ 9223372036854775807) (h1 : -9223372036854775808 ≤ n) (h2 : n ≤ 9223372036854775807) (w : World) :
    Calls Tryz.prog 158 #[.int .u64 v, .int .i64 p, .int .i64 n] w fun e w' => e = .returned (.tuple #[.int .u64 (bitsV v p n), .int .i64 (bitsE p n)]) ∧ ∃ k, w' = w.drewN k := by
  have hf := isField_any p n h1 h2
  by_cases h : okB p n = true
  · have e1 : bitsV v p n = (fld v.toNat p.toNat n.toNat : Nat) := by unfold bitsV; rw [if_pos h]
    have e2 : bitsE p n = 0 := by unfold bitsE; rw [if_pos h]
    rw [e1, e2]; clear e1 e2
    simp only [h] at hf
    obtain ⟨a1, a2, a3, a4⟩ := (okB_iff p n).1 h
    have hc := cut_any v p n v0 hv a3 (by omega) (by omega) a2
    have Hf := Lib.hid hf
    have Hc := Lib.hid hc
    clear hf hc h
    generalize fld v.toNat p.toNat n.toNat = q at *
    go_enter Tryz.func158, Tryz.ntmps158
    go_wp2_with (first | (go_at_call 159; refine (Hf.out _).mono ?_; rintro e w' ⟨rfl, rfl⟩) | (go_at_call 133; refine (Hc.out _).mono ?_; rintro e w' ⟨rfl, k, rfl⟩))
    go_ret2
    exact ⟨rfl, _, rfl⟩
  · have e1 : bitsV v p n = 0 := by unfold bitsV; rw [if_neg h]
    have e2 : bitsE p n = 2 := by unfold bitsE; rw [if_neg h]
    rw [e1, e2]; clear e1 e2
    simp only [h] at hf
    have Hf := Lib.hid hf
    clear hf h
    go_enter Tryz.func158, Tryz.ntmps158
    go_wp2_with (go_at_call 159; refine (Hf.out _).mono ?_; rintro e w' ⟨rfl, rfl⟩)
    go_ret2
    exact ⟨rfl, 0, rfl⟩
theorem layB_iff (p n x : Int) : layB p n x = true ↔ okB p n = true ∧ x.toNat < 2 ^ n.toNat := by unfold layB; simp
theorem put_num (v p n x : Nat) (hv : v < 18446744073709551616) (hp : p + n ≤ 64) (hx : x < 2 ^ n) :
    bits .or .u64 (bits .andNot .u64 (v : Int) (IntKind.u64.wrap (((fld v p n : Nat) : Int) * 2 ^ p))) (IntKind.u64.wrap ((x : Int) * 2 ^ p)) = (put v p n x : Nat) := by
  have h1 := field_lt _ n p (fld_lt v p n) hp
  have h2 := field_lt x n p hx hp
  rw [cast_two, ← Int.natCast_mul, ← Int.natCast_mul, wrapN _ h1, wrapN _ h2, u64_andNot_nat _ _ hv h1, u64_or_nat _ _ (Nat.lt_of_le_of_lt Nat.and_le_left hv) h2]
  rfl

theorem lay_any (v p n x : Int) (v0 : 0 ≤ v) (hv : v < 18446744073709551616) (x0 : 0 ≤ x) (hx : x < 18446744073709551616) (h1 : -9223372036854775808 ≤ n) (h2 : n ≤ 9223372036854775807) (w : World) :
    Calls Tryz.prog 135 #[.int .u64 v, .int .i64 p, .int .i64 n, .int .u64 x] w fun e w' => e = .returned (.tuple #[.int .u64 (layV v p n x), .int .i64 (layE p n x)]) ∧ ∃ k, w' = w.drewN k := by
  have hf := isField_any p n h1 h2
  by_cases h : okB p n = true
  · simp only [h] at hf
    obtain ⟨a1, a2, a3, a4⟩ := (okB_iff p n).1 h
    have hc := cut_any x 0 n x0 hx (by omega) (by omega) (by omega) a2
    have Hf := Lib.hid hf
    clear hf
    by_cases hl : x.toNat < 2 ^ n.toNat
    · have hB := (layB_iff p n x).2 ⟨h, hl⟩
      have e1 : layV v p n x = (put v.toNat p.toNat n.toNat x.toNat : Nat) := by unfold layV; rw [if_pos hB]
      have e2 : layE p n x = 0 := by unfold layE; rw [if_pos hB]
      rw [e1, e2]; clear e1 e2
      rw [show (0 : Int).toNat = 0 from rfl, fld_all _ _ hl] at hc
      have hd := cut_any v p n v0 hv a3 (by omega) (by omega) a2
      have hn := put_num v.toNat p.toNat n.toNat x.toNat (by omega) (by omega) hl
      rw [Int.toNat_of_nonneg v0, Int.toNat_of_nonneg x0] at hn
      rw [Int.toNat_of_nonneg x0] at hc
      generalize put v.toNat p.toNat n.toNat x.toNat = F at *
      have p64 : p < 64 := by omega
      generalize fld v.toNat p.toNat n.toNat = b at *
      have Hc := Lib.hid hc
      have Hd := Lib.hid hd
      have Hn := Lib.hid hn
      clear hc hd hn hB h hl
      go_enter Tryz.func135, Tryz.ntmps135
      go_wp2_with fail
      refine (Hf.out _).mono ?_; rintro e w' ⟨rfl, rfl⟩
      go_wp2_with fail
      refine (Hc.out _).mono ?_; rintro e w' ⟨rfl, k, rfl⟩
      go_wp2_with fail
      refine (Hd.out _).mono ?_; rintro e w' ⟨rfl, k2, rfl⟩
      go_wp2_with fail
      go_quiet (fail)
      go_wp2
      rw [Hn.out]
      go_ret2
      exact ⟨rfl, k + k2 + nq, World.drewN_drewN _ _ _⟩
    · have hB : ¬ layB p n x = true := fun hh => hl ((layB_iff p n x).1 hh).2
      have e1 : layV v p n x = 0 := by unfold layV; rw [if_neg hB]
      have e2 : layE p n x = 2 := by unfold layE; rw [if_neg hB]
      rw [e1, e2]; clear e1 e2
      have hne : (((fld x.toNat 0 n.toNat : Nat) : Int) != x) = true := by
        rw [bne_iff_ne]
        intro he
        exact hl ((fld_same _ _).1 (by omega))
      rw [show (0 : Int).toNat = 0 from rfl] at hc
      generalize fld x.toNat 0 n.toNat = b at *
      have Hc := Lib.hid hc
      clear hc hB h hl
      go_enter Tryz.func135, Tryz.ntmps135
      go_wp2_with fail
      refine (Hf.out _).mono ?_; rintro e w' ⟨rfl, rfl⟩
      go_wp2_with fail
      refine (Hc.out _).mono ?_; rintro e w' ⟨rfl, k, rfl⟩
      go_wp2_with fail
      go_ret2
      exact ⟨rfl, _, rfl⟩
  · have hB : ¬ layB p n x = true := fun hh => h ((layB_iff p n x).1 hh).1
    have e1 : layV v p n x = 0 := by unfold layV; rw [if_neg hB]
    have e2 : layE p n x = 2 := by unfold layE; rw [if_neg hB]
    rw [e1, e2]; clear e1 e2
    simp only [h] at hf
    have Hf := Lib.hid hf
    clear hf h hB
    go_enter Tryz.func135, Tryz.ntmps135
    go_wp2_with fail
    refine (Hf.out _).mono ?_; rintro e w' ⟨rfl, rfl⟩
    go_wp2_with fail
    go_ret2
    exact ⟨rfl, 0, rfl⟩

theorem ones_any (v : Int) (v0 : 0 ≤ v) (hv : v < 18446744073709551616) (w : World) :
    Calls Tryz.prog 99 #[.int .u64 v] w fun e w' => e = .returned (.int .i64 (onesV v)) ∧ ∃ k, w' = w.drewN k := by
  go_enter Tryz.func99, Tryz.ntmps99
  go_wp2_with fail
  go_loopw [3, 5] (fun c i wr => ∃ k : Nat, k ≤ 64 ∧ i = .int .i64 k ∧ c = .int .i64 (ones v.toNat k : Nat) ∧ ∃ m, wr = w.drewN m) (fun _ i _ => 64 - (intOf i).toNat)
  case atStart => exact ⟨0, by omega, rfl, rfl, 0, rfl⟩
  case round =>
    obtain ⟨k, hk, rfl, rfl, m, rfl⟩ := hrel
    have hle := ones_le v.toNat k
    by_cases hlt : k < 64
    · have hb := cut_any v k 1 v0 hv (by omega) (by omega) (by omega) (by omega)
      have hs : ones v.toNat (k + 1) = ones v.toNat k + fld v.toNat k 1 := rfl
      rw [Int.toNat_natCast, show (1 : Int).toNat = 1 from rfl] at hb
      have hf := fld_lt v.toNat k 1
      generalize hq : ones v.toNat (k + 1) = y at *
      have Hq := Lib.hid hq
      generalize ones v.toNat k = x at *
      generalize fld v.toNat k 1 = b at *
      have Hb := Lib.hid hb
      have Hs := Lib.hid hs
      clear hq hb hs
      go_wp2_with fail
      refine (Hb.out _).mono ?_; rintro e w' ⟨rfl, m2, rfl⟩
      go_wp2_with fail
      go_roundw
      case rel => exact ⟨k + 1, by omega, by go_num, by rw [Hq.out, Hs.out]; go_num, _, rfl⟩
      case measure => simp [intOf]; omega
    · obtain rfl : k = 64 := by omega
      go_wp2_with fail
      go_ret
      exact ⟨rfl, _, rfl⟩

theorem tz_num (v : Nat) (h0 : 0 < v) (hv : v < 18446744073709551616) :
    IntKind.u64.wrap (bits .and .u64 (v : Int) (IntKind.u64.wrap (-(v : Int))) * 285870213051353865) / 288230376151711744 = (place (v &&& (18446744073709551616 - v)) : Nat) := by
  have e : IntKind.u64.wrap (-(v : Int)) = ((18446744073709551616 - v : Nat) : Int) := by rw [IntKind.wrap_u64]; omega
  rw [e, u64_and_nat _ _ hv (by omega), IntKind.wrap_u64]
  unfold place
  omega
theorem tz_zero (w : World) :
    Calls Tryz.prog 169 #[.int .u64 0] w fun e w' => e = .returned (.int .i64 64) ∧ w = w' := by
  go_enter Tryz.func169, Tryz.ntmps169
  go_wp2
  go_ret
  exact ⟨rfl, rfl⟩
theorem tz_more (v m L : Nat) (hne : ((v : Int) == 0) = false) (l1 : m < 64) (hL : L ≤ 64) (hn : IntKind.u64.wrap (bits .and .u64 (v : Int) (IntKind.u64.wrap (-(v : Int))) * 285870213051353865) / 288230376151711744 = (m : Int)) (w : World) (hc : w.cell? ⟨1, m, none⟩ = some (.int .u8 (L : Nat))) :
    Calls Tryz.prog 169 #[.int .u64 v] w fun e w' => e = .returned (.int .i64 (L : Nat)) ∧ w = w' := by
  go_enter Tryz.func169, Tryz.ntmps169
  go_wp2
  go_ret
  exact ⟨rfl, rfl⟩
theorem tz_any (v : Nat) (hv : v < 18446744073709551616) (w : World) (ht : ∀ i : Nat, i < 64 → w.cell? ⟨1, i, none⟩ = some (.int .u8 (tab.getD i 0))) :
    Calls Tryz.prog 169 #[.int .u64 v] w fun e w' => e = .returned (.int .i64 (lowV v)) ∧ w = w' := by
  by_cases h : v = 0
  · subst h
    have hz := tz_zero w
    rw [← low_zero] at hz
    exact hz
  · obtain ⟨m, L, l1, hL, e1, e2, e3⟩ := low_place v (by omega) hv
    have hn := tz_num v (by omega) hv
    have hc := ht m l1
    rw [e3] at hn
    rw [e1] at hc
    rw [e2]
    exact tz_more v m L (by simpa using h) l1 hL hn w hc
theorem low_any (v : Int) (v0 : 0 ≤ v) (hv : v < 18446744073709551616) (w : World) (ht : ∀ i : Nat, i < 64 → w.cell? ⟨1, i, none⟩ = some (.int .u8 (tab.getD i 0))) :
    Calls Tryz.prog 167 #[.int .u64 v] w fun e w' => e = .returned (.int .i64 (lowV v)) ∧ w = w' := by
  have hc := tz_any v.toNat (by omega) w ht
  rw [Int.toNat_of_nonneg v0] at hc
  have Hc := Lib.hid hc
  clear hc ht
  go_enter Tryz.func167, Tryz.ntmps167
  go_wp2_with fail
  refine (Hc.out).mono ?_; rintro e w' ⟨rfl, rfl⟩
  go_wp2_with fail
  go_ret
  exact ⟨rfl, rfl⟩
/-- The table of the lowest bits, as the program's text lays it. -/
def Table (w : World) : Prop := ∀ i : Nat, i < 64 → w.cell? ⟨1, i, none⟩ = some (.int .u8 (tab.getD i 0))
theorem Table.drewN {w : World} (h : Table w) (k : Nat) : Table (w.drewN k) := h

end Go.Proofs.YtoagghileebokaaGreatDoor.Wd

/-
  How the arguments of layer 9's law read: a row of Steps; and the two constant tables.
-/
namespace Go.Proofs.YtoagghileebokaaGreatDoor.Sp
open Go.Proofs.YtoagghileebokaaGreatDoor.Ar Go.RowKit Go.ChangeShapes Go.WideShapes
open Go.Proofs.YtoagghileebokaaGreatDoor.Wd (Table tab)
open Go.Proofs.YtoagghileebokaaGreatDoor.Hd (Fields)
set_option linter.unusedVariables false

section
variable {H : Type} {enc : TypeId × Value → H} {w : World} {base : Nat} {spare : Nat → Bool} {held : Bool} {fuel : Nat}

/-- A step: Do, G, Id, N, W, At. -/
structure Stp where
  d : Int
  g : Int
  i : Int
  n : Int
  u : Int
  A : Option Addr
  len : Nat
  cap : Nat
def I64 (n : Int) : Prop := -9223372036854775808 ≤ n ∧ n ≤ 9223372036854775807
def Stp.ok (s : Stp) : Prop := I64 s.d ∧ I64 s.g ∧ I64 s.i ∧ I64 s.n ∧ s.len ≤ maxLen
def Stp.cells (s : Stp) : List Value := [.int .i64 s.d, .int .i64 s.g, .int .i64 s.i, .int .i64 s.n, .int .u64 s.u, .slice s.A s.len s.cap]
theorem slice_of {c : Value} {x : DataW H × List MemPlace} (h : DataW.trod enc Tryz.prog w base spare held fuel 24 [c] = some x) : ∃ A len cap, c = .slice A len cap ∧ len ≤ maxLen := by
  rcases Go.Deep.open_slice Tryz.underlying24 h with ⟨hcs, _⟩ | ⟨a, l, c', m, n, D, Pl, hcs, _, hl, hm, hmm, _, hx⟩
  · simp at hcs
    exact ⟨_, _, _, hcs, by unfold maxLen; omega⟩
  · simp at hcs
    exact ⟨_, _, _, hcs, by omega⟩
/-- A row of steps that came in. -/
def Steps (w : World) (A : Option Addr) (L : List Stp) : Prop := L ≠ [] → ∃ g f, A = some ⟨g, f, none⟩ ∧ g < w.heap.size ∧ ∀ i s, L[i]? = some s → ∀ j v, s.cells[j]? = some v → w.cell? ⟨g, f + (i * 6 + j), none⟩ = some v
theorem Steps.keep0 {w w' : World} {A : Option Addr} {L : List Stp} (h : Steps w A L) (k : Kept [] w w') : Steps w' A L := by
  intro hL
  obtain ⟨g, f, e, hg, hc⟩ := h hL
  exact ⟨g, f, e, Nat.lt_of_lt_of_le hg k.more, fun i s hi j v hv => (World.cell?_of_block (w := w) (k.old g hg (by simp))).trans (hc i s hi j v hv)⟩
theorem exists_list {P : Nat → Stp → Prop} : ∀ n : Nat, (∀ i, i < n → ∃ s, P i s) → ∃ L : List Stp, L.length = n ∧ ∀ i s, L[i]? = some s → P i s
  | 0, _ => ⟨[], rfl, fun i s h => by simp at h⟩
  | n + 1, h => by
    obtain ⟨L, hL, hP⟩ := exists_list n fun i hi => h i (by omega)
    obtain ⟨s, hs⟩ := h n (by omega)
    refine ⟨L ++ [s], by simp [hL], fun i t ht => ?_⟩
    by_cases hi : i < L.length
    · rw [List.getElem?_append_left hi] at ht
      exact hP i t ht
    · rw [List.getElem?_append_right (by omega)] at ht
      have hin : i = n := by
        rcases Nat.lt_or_ge (i - L.length) 1 with h1 | h1
        · omega
        · rw [List.getElem?_eq_none (by simpa using h1)] at ht; cases ht
      subst hin
      rw [hL, Nat.sub_self] at ht
      simp at ht
      subst ht
      exact hs
end
theorem gTab : Tryz.prog.globalNamed "math/bits.deBruijn64tab" = some 1 := by kernel_rfl
theorem gTabType : (Tryz.prog.globals[1]?).map (·.type) = some 222 := by kernel_rfl
theorem cellsTab : Tryz.prog.cellsOf 222 = 64 := by kernel_rfl
theorem cellsByte : Tryz.prog.cellsOf 5 = 1 := by kernel_rfl
theorem table_of {W : World} (h : laidMet Tryz.prog [("math/bits.deBruijn64tab", Rows.laid_math_bits_deBruijn64tab), ("skerry/head.fields", Rows.laid_skerry_head_fields)] W) : Table W := fun i hi =>
  Lib.TabIs.cell (k := .u8) (zs := tab) (Lib.tabIs_of_head (rest := [("skerry/head.fields", Rows.laid_skerry_head_fields)]) gTab gTabType Tryz.underlying222 Tryz.underlying5 cellsByte cellsTab h) gTab i hi
theorem fields2_of {W : World} (h : laidMet Tryz.prog [("math/bits.deBruijn64tab", Rows.laid_math_bits_deBruijn64tab), ("skerry/head.fields", Rows.laid_skerry_head_fields)] W) : Fields W := by
  obtain ⟨ps, ⟨g', t', cs, fuel, p, q, _, _, _, _, hq, rfl⟩, hn, ha⟩ := h
  exact Hd.fields_of ⟨q, hq, (List.nodup_append.1 hn).2.1, fun b off hb => ha b off (List.mem_append_right _ hb)⟩
end Go.Proofs.YtoagghileebokaaGreatDoor.Sp
