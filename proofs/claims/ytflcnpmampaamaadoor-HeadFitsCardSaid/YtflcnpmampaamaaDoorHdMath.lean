/-
  Headers as plain numbers: which may be, the word of one, the header of a word; and bits joined and cut.
-/
import Derived.RowKit
import Derived.Laws.Bits128
import Derived.Laws.Bits64b
namespace Go.Proofs.YtflcnpmampaamaaDoor.Hd
open Go.RowKit
set_option linter.unusedVariables false

/-- A header: tag, type, length, size. -/
structure Hd where
  tg : Int
  ty : Int
  ln : Int
  sz : Int
theorem Hd.eq {a b : Hd} (h1 : a.tg = b.tg) (h2 : a.ty = b.ty) (h3 : a.ln = b.ln) (h4 : a.sz = b.sz) : a = b := by
  cases a; cases b; subst h1; subst h2; subst h3; subst h4; rfl
theorem Hd.eq_iff (a b : Hd) : (a.tg = b.tg ∧ a.ty = b.ty ∧ a.ln = b.ln ∧ a.sz = b.sz) ↔ a = b :=
  ⟨fun h => Hd.eq h.1 h.2.1 h.2.2.1 h.2.2.2, fun h => by subst h; exact ⟨rfl, rfl, rfl, rfl⟩⟩
instance : DecidableEq Hd := fun a b => decidable_of_decidable_of_iff (Hd.eq_iff a b)
def Hd.zero : Hd := ⟨0, 0, 0, 0⟩
def Hd.cells (h : Hd) : List Value := [.int .u8 h.tg, .int .i64 h.ty, .int .i64 h.ln, .int .i64 h.sz]
def Hd.val (h : Hd) : Value := .agg #[.int .u8 h.tg, .int .i64 h.ty, .int .i64 h.ln, .int .i64 h.sz]
/-- The numbers are a byte's and three ints'. -/
structure Hd.ok (h : Hd) : Prop where
  g0 : 0 ≤ h.tg
  g1 : h.tg ≤ 255
  t0 : -9223372036854775808 ≤ h.ty
  t1 : h.ty ≤ 9223372036854775807
  l0 : -9223372036854775808 ≤ h.ln
  l1 : h.ln ≤ 9223372036854775807
  s0 : -9223372036854775808 ≤ h.sz
  s1 : h.sz ≤ 9223372036854775807
theorem Hd.zero_ok : Hd.zero.ok := by constructor <;> decide
/-- Each number has room in its field. -/
def Hd.room (h : Hd) : Prop := 0 ≤ h.ty ∧ h.ty ≤ 4095 ∧ 0 ≤ h.ln ∧ h.ln ≤ 16777215 ∧ 0 ≤ h.sz ∧ h.sz ≤ 16777215
instance (h : Hd) : Decidable h.room := by unfold Hd.room; infer_instance
/-- It is valid. -/
def Hd.can (h : Hd) : Prop := (1 ≤ h.sz ∧ h.sz ≤ 16777215 ∧ 0 ≤ h.ln ∧ h.ln ≤ 16777215) ∧ ((h.tg = 1 ∧ 1 ≤ h.ty ∧ h.ty ≤ 4095) ∨ ((h.tg = 2 ∨ h.tg = 3) ∧ h.ty = 0 ∧ h.ln = 0))
instance (h : Hd) : Decidable h.can := by unfold Hd.can; infer_instance
theorem Hd.zero_not : ¬ Hd.zero.can := by decide
theorem Hd.can_room {h : Hd} (c : h.can) : h.room := by
  unfold Hd.can at c; unfold Hd.room; omega
def wordI (h : Hd) : Int := h.tg + 4 * h.ty + 65536 * h.ln + 1099511627776 * h.sz
def headI (w : Int) : Hd := ⟨w % 4, w / 4 % 4096, w / 65536 % 16777216, w / 1099511627776⟩
def errH (h : Hd) : Int := if h.can then 0 else 2
def encW (h : Hd) : Int := if h.can then wordI h else 0
def isHead (w : Int) : Bool := decide ((headI w).can ∧ wordI (headI w) = w)
def decH (w : Int) : Hd := if isHead w then headI w else Hd.zero
def decE (w : Int) : Int := if isHead w then 0 else 7
theorem word_range {h : Hd} (c : h.can) : 0 ≤ wordI h ∧ wordI h ≤ 18446744073709551615 := by
  unfold Hd.can at c; unfold wordI; omega
theorem head_word {h : Hd} (c : h.can) : headI (wordI h) = h := by
  unfold Hd.can at c
  have e1 : (headI (wordI h)).tg = h.tg := by simp only [headI, wordI]; omega
  have e2 : (headI (wordI h)).ty = h.ty := by simp only [headI, wordI]; omega
  have e3 : (headI (wordI h)).ln = h.ln := by simp only [headI, wordI]; omega
  have e4 : (headI (wordI h)).sz = h.sz := by simp only [headI, wordI]; omega
  exact Hd.eq e1 e2 e3 e4
theorem head_ok {w : Int} (h0 : 0 ≤ w) (h1 : w ≤ 18446744073709551615) : (headI w).ok := by
  constructor <;> (simp only [headI]; omega)
/-- What was encoded is decoded. -/
theorem isHead_word {h : Hd} (c : h.can) : isHead (wordI h) = true := by
  unfold isHead; rw [head_word c]; exact decide_eq_true ⟨c, rfl⟩
theorem errH_yes {h : Hd} (c : h.can) : errH h = 0 := if_pos c
theorem errH_no {h : Hd} (c : ¬ h.can) : errH h = 2 := if_neg c
theorem encW_yes {h : Hd} (c : h.can) : encW h = wordI h := if_pos c
theorem encW_no {h : Hd} (c : ¬ h.can) : encW h = 0 := if_neg c
theorem dec_yes {w : Int} (h : isHead w = true) : decH w = headI w ∧ decE w = 0 := by simp [decH, decE, h]
theorem dec_no {w : Int} (h : isHead w = false) : decH w = Hd.zero ∧ decE w = 7 := by simp [decH, decE, h]
theorem isHead_iff {w : Int} : isHead w = true ↔ (headI w).can ∧ wordI (headI w) = w := by
  unfold isHead; exact decide_eq_true_iff
/-- Unlike headers have unlike words. -/
theorem word_inj {h o : Hd} (c : h.can) (d : o.can) : wordI h = wordI o ↔ h = o :=
  ⟨fun e => by rw [← head_word c, e, head_word d], fun e => by rw [e]⟩

/-! ### Bits joined, bits cut -/
theorem or_lay (u v : Nat) (k : Nat) (hu : u < 2 ^ k) : u ||| 2 ^ k * v = 2 ^ k * v + u := by
  rw [Nat.or_comm, ← Nat.two_pow_add_eq_or_of_lt hu]
theorem lay_bits (u v : Nat) (k : Nat) (hu : u < 2 ^ k) (h : 2 ^ k * v + u < 18446744073709551616) (hk : 2 ^ k ≤ 18446744073709551616) : bits .or .u64 (u : Int) ((2 ^ k * v : Nat) : Int) = ((2 ^ k * v + u : Nat) : Int) := by
  rw [bits_or_u64_nat u (2 ^ k * v) (by omega) (by omega), or_lay u v k hu]
theorem lay2 (u v : Int) (hu0 : 0 ≤ u) (hu : u < 4) (hv0 : 0 ≤ v) (hv : v < 4611686018427387904) : bits .or .u64 u (v * 4) = u + 4 * v := by
  have h := lay_bits u.toNat v.toNat 2 (by omega) (by omega) (by decide)
  have e1 : ((u.toNat : Nat) : Int) = u := by omega
  have e2 : ((2 ^ 2 * v.toNat : Nat) : Int) = v * 4 := by omega
  have e3 : ((2 ^ 2 * v.toNat + u.toNat : Nat) : Int) = u + 4 * v := by omega
  rw [e1, e2, e3] at h
  exact h
theorem lay16 (u v : Int) (hu0 : 0 ≤ u) (hu : u < 65536) (hv0 : 0 ≤ v) (hv : v < 281474976710656) : bits .or .u64 u (v * 65536) = u + 65536 * v := by
  have h := lay_bits u.toNat v.toNat 16 (by omega) (by omega) (by decide)
  have e1 : ((u.toNat : Nat) : Int) = u := by omega
  have e2 : ((2 ^ 16 * v.toNat : Nat) : Int) = v * 65536 := by omega
  have e3 : ((2 ^ 16 * v.toNat + u.toNat : Nat) : Int) = u + 65536 * v := by omega
  rw [e1, e2, e3] at h
  exact h
theorem lay40 (u v : Int) (hu0 : 0 ≤ u) (hu : u < 1099511627776) (hv0 : 0 ≤ v) (hv : v < 16777216) : bits .or .u64 u (v * 1099511627776) = u + 1099511627776 * v := by
  have h := lay_bits u.toNat v.toNat 40 (by omega) (by omega) (by decide)
  have e1 : ((u.toNat : Nat) : Int) = u := by omega
  have e2 : ((2 ^ 40 * v.toNat : Nat) : Int) = v * 1099511627776 := by omega
  have e3 : ((2 ^ 40 * v.toNat + u.toNat : Nat) : Int) = u + 1099511627776 * v := by omega
  rw [e1, e2, e3] at h
  exact h
theorem lay0 (v : Int) (hv0 : 0 ≤ v) (hv : v < 18446744073709551616) : bits .or .u64 0 v = v := by
  have h := lay_bits 0 v.toNat 0 (by omega) (by omega) (by decide)
  have e2 : ((2 ^ 0 * v.toNat : Nat) : Int) = v := by omega
  have e3 : ((2 ^ 0 * v.toNat + 0 : Nat) : Int) = v := by omega
  rw [e2, e3] at h
  exact h
theorem and_mask (n m : Int) (k : Nat) (hk : k < 63) (hm : (BitVec.ofInt 64 m).toNat = 2 ^ k - 1) (hd : ((2 ^ k : Nat) : Int) ∣ 18446744073709551616) : bits .and .i64 n m = n % ((2 ^ k : Nat) : Int) := by
  have key : (BitVec.ofInt 64 n &&& BitVec.ofInt 64 m).toNat = (n % ((2 ^ 64 : Nat) : Int)).toNat % 2 ^ k := by
    rw [BitVec.toNat_and, BitVec.toNat_ofInt, hm, Nat.and_two_pow_sub_one_eq_mod]
  show IntKind.i64.wrap ((BitVec.ofInt 64 n &&& BitVec.ofInt 64 m).toNat : Nat) = _
  have hp : 2 ^ k < 2 ^ 63 := Nat.pow_lt_pow_right (by decide) hk
  have hlt : (n % ((2 ^ 64 : Nat) : Int)).toNat % 2 ^ k < 2 ^ k := Nat.mod_lt _ (Nat.two_pow_pos k)
  have e : (((n % ((2 ^ 64 : Nat) : Int)).toNat % 2 ^ k : Nat) : Int) = n % ((2 ^ k : Nat) : Int) := by
    rw [Int.natCast_emod, Int.toNat_of_nonneg (by omega)]
    exact Int.emod_emod_of_dvd n (by simpa using hd)
  rw [key, IntKind.wrap_i64, ← e]
  omega
theorem and3 (n : Int) : bits .and .i64 n 3 = n % 4 := and_mask n 3 2 (by decide) (by decide) (by decide)
theorem and4095 (n : Int) : bits .and .i64 n 4095 = n % 4096 := and_mask n 4095 12 (by decide) (by decide) (by decide)
theorem and24 (n : Int) : bits .and .i64 n 16777215 = n % 16777216 := and_mask n 16777215 24 (by decide) (by decide) (by decide)
theorem and255 (n : Int) : bits .and .i64 n 255 = n % 256 := and_mask n 255 8 (by decide) (by decide) (by decide)
end Go.Proofs.YtflcnpmampaamaaDoor.Hd
