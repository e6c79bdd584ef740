/-
  The contract of math/bits.Len64 at a word that is not 0: one more than its highest bit.
-/
import Derived.Test.YtijlaganpnoefaaDoorBtWord
import Derived.Lib.Strings
import Derived.Lib.Slices
import Derived.Lib.Small
import Derived.Lib.Walk
import Derived.Lib.BitFns




namespace Go.Proofs.YtijlaganpnoefaaDoor.Wd
open Go.RowKit

/-- One more than the highest bit that is 1; 0 of 0. -/
def lenN (v : Nat) : Nat := if v = 0 then 0 else Nat.log2 v + 1
theorem lenN_shift (v k : Nat) (h : 2 ^ k ≤ v) : lenN v = k + lenN (v / 2 ^ k) := by
  have hp := Nat.two_pow_pos k
  have h1 : v ≠ 0 := by omega
  have h2 : v / 2 ^ k ≠ 0 := by
    have := Nat.div_pos h hp
    omega
  unfold lenN
  rw [if_neg h1, if_neg h2]
  have e := (Nat.log2_eq_iff h2 (k := Nat.log2 (v / 2 ^ k))).1 rfl
  have : Nat.log2 v = k + Nat.log2 (v / 2 ^ k) := by
    rw [Nat.log2_eq_iff h1, Nat.pow_add, Nat.add_assoc, Nat.pow_add]
    exact ⟨(Nat.mul_comm _ _) ▸ (Nat.le_div_iff_mul_le hp).1 e.1, (Nat.mul_comm _ _) ▸ (Nat.div_lt_iff_lt_mul hp).1 e.2⟩
  omega
theorem lenN_bitLenAux : ∀ (f v : Nat), v < 2 ^ f → Lib.bitLenAux f v = lenN v
  | 0, v, h => by
    have : v = 0 := by simpa using h
    subst this; rfl
  | f + 1, v, h => by
    show (if v = 0 then 0 else 1 + Lib.bitLenAux f (v / 2)) = lenN v
    by_cases h0 : v = 0
    · subst h0; rfl
    · rw [if_neg h0, lenN_bitLenAux f (v / 2) (by rw [Nat.pow_succ] at h; omega)]
      by_cases h1 : v = 1
      · subst h1; decide
      · have := lenN_shift v 1 (by omega)
        simpa using this.symm
theorem lenN_bitLen (v : Nat) (h : v < 18446744073709551616) : Lib.bitLen v = lenN v := lenN_bitLenAux 64 v h
theorem len8N (y : Int) (h0 : 0 ≤ y) (h1 : y < 256) : Lib.bitLen y.toNat = lenN y.toNat := lenN_bitLen _ (by omega)

theorem tabSize : Lib.len8tab.size = 256 := by decide +kernel
theorem tabAll : ∀ k : Fin 256, (Lib.len8tab[k.val]'(by have := k.isLt; rw [tabSize]; exact this)).toNat = lenN k.val := by decide +kernel
theorem tabAt (k : Nat) (h : k < Lib.len8tab.size) : (Lib.len8tab[k]'h).toNat = lenN k := tabAll ⟨k, by rw [tabSize] at h; exact h⟩
theorem lenN_small (k : Nat) (h : k < 256) : lenN k ≤ 8 := by
  have := Lib.bitLen_le8 ⟨k, h⟩
  simp only at this
  rw [lenN_bitLen k (by omega)] at this
  exact this
theorem len_way (v y K : Int) (k : Nat) (hK : K = (k : Int)) (hk : k ≤ 56) (hy : y.toNat = v.toNat / 2 ^ k) (hg : 2 ^ k ≤ v.toNat) (h2 : y.toNat < 256) : wrap64 (K + wrap64 ((lenN y.toNat : Nat) : Int)) = ((lenN v.toNat : Nat) : Int) := by
  have hl := lenN_small _ h2
  rw [lenN_shift v.toNat k hg, ← hy]
  subst hK
  unfold wrap64
  omega
theorem len_way0 (v : Int) (h2 : v.toNat < 256) : wrap64 (wrap64 ((lenN v.toNat : Nat) : Int)) = ((lenN v.toNat : Nat) : Int) := by
  have hl := lenN_small _ h2
  unfold wrap64
  omega
set_option maxHeartbeats 4000000 in
set_option maxRecDepth 100000 in
theorem len64_any (v : Int) (h0 : 0 ≤ v) (h1 : v < 18446744073709551616) (w : World) :
    Calls Tryd.prog 47 #[.int .u64 v] w fun e w' => e = .returned (.int .i64 (lenN v.toNat : Nat)) ∧ w = w' := by
  have hs := tabSize
  go_enter Tryd.func47, Tryd.ntmps47
  go_wp2
  all_goals (go_ret; refine ⟨congrArg Ending.returned (congrArg (Value.int IntKind.i64) ?_), rfl⟩; rw [tabAt])
  all_goals first
    | refine len_way v _ _ 8 rfl (by omega) ?_ (by omega) (by omega) <;> omega
    | refine len_way v _ _ 16 rfl (by omega) ?_ (by omega) (by omega) <;> omega
    | refine len_way v _ _ 24 rfl (by omega) ?_ (by omega) (by omega) <;> omega
    | refine len_way v _ _ 32 rfl (by omega) ?_ (by omega) (by omega) <;> omega
    | refine len_way v _ _ 40 rfl (by omega) ?_ (by omega) (by omega) <;> omega
    | refine len_way v _ _ 48 rfl (by omega) ?_ (by omega) (by omega) <;> omega
    | refine len_way v _ _ 56 rfl (by omega) ?_ (by omega) (by omega) <;> omega
    | exact len_way0 v (by omega)
end Go.Proofs.YtijlaganpnoefaaDoor.Wd
