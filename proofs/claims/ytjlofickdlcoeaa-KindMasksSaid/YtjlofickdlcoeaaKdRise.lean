/-
  Plain facts on the slots that are references: they rise; those of a shorter row come first; how many there are.
-/
import Derived.Test.YtjlofickdlcoeaaKdMay
import Derived.Test.YtjlofickdlcoeaaKdRefs
namespace Go.Proofs.Ytjlofickdlcoeaa.Kd
open Go.RowKit
set_option linter.unusedVariables false

theorem refs_prefix (k : Nat) (wd : Int) (mk m : Nat) : ∀ d, ∃ rest, refsTo k wd mk (m + d) = refsTo k wd mk m ++ rest ∧ ∀ x ∈ rest, (m : Int) ≤ x
  | 0 => ⟨[], by simp, by simp⟩
  | d + 1 => by
    obtain ⟨rest, h, hx⟩ := refs_prefix k wd mk m d
    rw [← Nat.add_assoc, refsTo_succ, h]
    cases isRef k wd mk (m + d)
    · exact ⟨rest, by simp, hx⟩
    · refine ⟨rest ++ [((m + d : Nat) : Int)], by simp, fun x hm => ?_⟩
      rcases List.mem_append.1 hm with h1 | h1
      · exact hx x h1
      · rw [List.mem_singleton.1 h1]; omega
theorem refs_upto (k : Nat) (wd : Int) (mk : Nat) {m a : Nat} (h : m ≤ a) : ∃ rest, refsTo k wd mk a = refsTo k wd mk m ++ rest ∧ ∀ x ∈ rest, (m : Int) ≤ x := by
  obtain ⟨d, rfl⟩ := Nat.exists_eq_add_of_le h
  exact refs_prefix k wd mk m d
/-- The one that is reached, when all below i were passed. -/
theorem refs_here {k : Nat} {wd : Int} {mk i a : Nat} (hi : i < a) (h : isRef k wd mk i = true) : (refsTo k wd mk i).length < (refsTo k wd mk a).length ∧ (refsTo k wd mk a).getD (refsTo k wd mk i).length 0 = (i : Int) ∧ (refsTo k wd mk (i + 1)).length = (refsTo k wd mk i).length + 1 := by
  obtain ⟨rest, e, _⟩ := refs_upto k wd mk (show i + 1 ≤ a by omega)
  rw [refsTo_succ, if_pos h] at e
  refine ⟨?_, ?_, ?_⟩
  · rw [e]; simp
  · rw [e, List.getD]; simp
  · rw [refsTo_succ, if_pos h]; simp
theorem refs_not {k : Nat} {wd : Int} {mk i a : Nat} (hi : i < a) (h : isRef k wd mk i = false) : (refsTo k wd mk (i + 1)).length = (refsTo k wd mk i).length ∧ ((refsTo k wd mk i).length < (refsTo k wd mk a).length → (refsTo k wd mk a).getD (refsTo k wd mk i).length 0 ≠ (i : Int)) := by
  have hs : refsTo k wd mk (i + 1) = refsTo k wd mk i := by rw [refsTo_succ, h]; rfl
  refine ⟨by rw [hs], fun hl he => ?_⟩
  obtain ⟨rest, e, hx⟩ := refs_upto k wd mk (show i + 1 ≤ a by omega)
  rw [hs] at e
  rw [e, List.length_append] at hl
  rw [e, List.getD, List.getElem?_append_right (Nat.le_refl _), Nat.sub_self] at he
  cases rest with
  | nil => simp at hl
  | cons y ys =>
    have := hx y (by simp)
    simp at he
    omega
theorem refs_mono (k : Nat) (wd : Int) (mk : Nat) {m a : Nat} (h : m ≤ a) : (refsTo k wd mk m).length ≤ (refsTo k wd mk a).length := by
  obtain ⟨rest, e, _⟩ := refs_upto k wd mk h
  rw [e, List.length_append]
  omega
theorem slots_mono {k : Nat} {wd : Int} {mk : Nat} {n m : Int} (hn : err k wd mk n = 0) (hm : err k wd mk m = 0) (h : n ≤ m) : slots k wd n ≤ slots k wd m := by
  obtain ⟨hy, n0, n1, n2⟩ := err_zero hn
  obtain ⟨_, m0, m1, m2⟩ := err_zero hm
  obtain ⟨_, w0, w1, hk, w3⟩ := may_kind hy
  unfold slots
  by_cases c1 : k = 1
  · rw [if_pos c1, if_pos c1]; omega
  · rw [if_neg c1, if_neg c1]
    by_cases c3 : k = 3
    · rw [if_pos c3, if_pos c3]
      exact Int.mul_le_mul_of_nonneg_right h w0
    · rw [if_neg c3, if_neg c3]; exact h
/-! ### They rise -/
theorem refs_pair (k : Nat) (wd : Int) (mk m : Nat) : (refsTo k wd mk m).Pairwise (· < ·) := by
  unfold refsTo
  rw [List.pairwise_map]
  refine List.Pairwise.imp ?_ ((List.pairwise_lt_range (n := m)).filter _)
  intro a b h
  exact Int.ofNat_lt.2 h
theorem refs_mem (k : Nat) (wd : Int) (mk m : Nat) : ∀ x ∈ refsTo k wd mk m, 0 ≤ x ∧ x < (m : Int) := by
  intro x hx
  unfold refsTo at hx
  obtain ⟨j, hj, rfl⟩ := List.mem_map.1 hx
  have := List.mem_range.1 (List.mem_filter.1 hj).1
  exact ⟨Int.natCast_nonneg _, Int.ofNat_lt.2 this⟩
theorem refs_get (k : Nat) (wd : Int) (mk m i : Nat) (h : i < (refsTo k wd mk m).length) : 0 ≤ (refsTo k wd mk m).getD i 0 ∧ (refsTo k wd mk m).getD i 0 < (m : Int) := by
  rw [List.getD, List.getElem?_eq_getElem h]
  exact refs_mem k wd mk m _ (List.getElem_mem h)
theorem refs_lt (k : Nat) (wd : Int) (mk m i j : Nat) (hij : i < j) (h : j < (refsTo k wd mk m).length) : (refsTo k wd mk m).getD i 0 < (refsTo k wd mk m).getD j 0 := by
  rw [List.getD, List.getD, List.getElem?_eq_getElem h, List.getElem?_eq_getElem (Nat.lt_trans hij h)]
  exact List.pairwise_iff_getElem.1 (refs_pair k wd mk m) i j _ _ hij
/-! ### How many there are -/
/-- How many of the lowest m bits are 1. -/
def pc (mk : Nat) : Nat → Nat
  | 0 => 0
  | m + 1 => pc mk m + mk / 2 ^ m % 2
theorem pc_le (mk : Nat) : ∀ m, pc mk m ≤ m
  | 0 => Nat.le_refl _
  | m + 1 => by
    have := pc_le mk m
    show pc mk m + mk / 2 ^ m % 2 ≤ m + 1
    omega
theorem pc_rest {mk wd : Nat} (h : mk / 2 ^ wd = 0) : ∀ d, pc mk (wd + d) = pc mk wd
  | 0 => rfl
  | d + 1 => by
    have ih := pc_rest h d
    show pc mk (wd + d) + mk / 2 ^ (wd + d) % 2 = _
    rw [ih, Nat.pow_add, ← Nat.div_div_eq_div_mul, h]
    simp
theorem pc_all {mk wd : Nat} (h : mk / 2 ^ wd = 0) (hw : wd ≤ 64) : pc mk 64 = pc mk wd := by
  have := pc_rest h (64 - wd)
  rwa [show wd + (64 - wd) = 64 by omega] at this
theorem bit_count (b : Nat) : b % 2 = if decide (b % 2 = 1) then 1 else 0 := by
  by_cases h : b % 2 = 1
  · rw [decide_eq_true h, h]; rfl
  · rw [decide_eq_false h]
    simp
    omega
theorem len_step (k : Nat) (wd : Int) (mk m : Nat) : (refsTo k wd mk (m + 1)).length = (refsTo k wd mk m).length + if isRef k wd mk m then 1 else 0 := by
  rw [refsTo_succ]
  cases isRef k wd mk m <;> simp
theorem len_fixed (wd mk : Nat) : ∀ m, m ≤ wd → (refsTo 1 (wd : Int) mk m).length = pc mk m
  | 0, _ => rfl
  | m + 1, h => by
    have ih := len_fixed wd mk m (by omega)
    have e : isRef 1 (wd : Int) mk m = decide (mk / 2 ^ m % 2 = 1) := by
      show decide (mk / 2 ^ (m % wd) % 2 = 1) = _
      rw [show m % wd = m from Nat.mod_eq_of_lt (by omega)]
    rw [len_step, ih, e, ← bit_count]
    rfl
theorem len_elems (wd mk q : Nat) : ∀ r, r ≤ wd → (refsTo 3 (wd : Int) mk (q * wd + r)).length = (refsTo 3 (wd : Int) mk (q * wd)).length + pc mk r
  | 0, _ => rfl
  | r + 1, h => by
    have ih := len_elems wd mk q r (by omega)
    have e : isRef 3 (wd : Int) mk (q * wd + r) = decide (mk / 2 ^ r % 2 = 1) := by
      show decide (mk / 2 ^ ((q * wd + r) % wd) % 2 = 1) = _
      rw [show (q * wd + r) % wd = r by rw [Nat.add_comm, Nat.add_mul_mod_self_right]; exact Nat.mod_eq_of_lt (by omega)]
    rw [← Nat.add_assoc, len_step, ih, e, ← bit_count, Nat.add_assoc]
    rfl
theorem len_structs (wd mk : Nat) : ∀ q, (refsTo 3 (wd : Int) mk (q * wd)).length = q * pc mk wd
  | 0 => by rw [Nat.zero_mul, Nat.zero_mul]; rfl
  | q + 1 => by
    have ih := len_structs wd mk q
    rw [Nat.succ_mul, len_elems wd mk q wd (Nat.le_refl _), ih, Nat.succ_mul]
theorem len_refs (wd : Int) (mk : Nat) : ∀ m, (refsTo 2 wd mk m).length = m
  | 0 => rfl
  | m + 1 => by
    rw [len_step, len_refs wd mk m]
    rfl
theorem len_raw (wd : Int) (mk : Nat) : ∀ m, (refsTo 4 wd mk m).length = 0
  | 0 => rfl
  | m + 1 => by
    rw [len_step, len_raw wd mk m]
    rfl
/-- What a law wants them to be. -/
def wantV (k : Nat) (mk sl : Nat) (n : Int) : Int := if k = 3 then (pc mk 64 : Int) * n else if k = 2 then (sl : Int) else if k = 4 then 0 else (pc mk 64 : Int)
theorem want_ok {k : Nat} {wd : Int} {mk : Nat} {n : Int} (h : err k wd mk n = 0) {sl : Nat} (hs : slots k wd n = (sl : Int)) : ((refsTo k wd mk sl).length : Int) = wantV k mk sl n := by
  obtain ⟨hy, n0, n1, n2⟩ := err_zero h
  obtain ⟨_, w0, w1, hk, w3⟩ := may_kind hy
  have hz := hy.2
  obtain ⟨v, rfl⟩ := Int.eq_ofNat_of_zero_le w0
  obtain ⟨m, rfl⟩ := Int.eq_ofNat_of_zero_le n0
  rw [Int.toNat_natCast] at hz
  have hpc := pc_all hz (by omega)
  rcases hk with rfl | rfl | rfl | rfl
  · have e : sl = v := by have : (v : Int) = (sl : Int) := hs; omega
    subst e
    rw [len_fixed sl mk sl (Nat.le_refl _)]
    show (pc mk sl : Int) = (pc mk 64 : Int)
    rw [hpc]
  · rw [len_refs]; rfl
  · have e : sl = m * v := by have : (m : Int) * (v : Int) = (sl : Int) := hs; rw [← Int.natCast_mul] at this; omega
    subst e
    rw [len_structs]
    show ((m * pc mk v : Nat) : Int) = (pc mk 64 : Int) * (m : Int)
    rw [hpc, Nat.mul_comm, Int.natCast_mul]
  · rw [len_raw]; rfl
end Go.Proofs.Ytjlofickdlcoeaa.Kd
