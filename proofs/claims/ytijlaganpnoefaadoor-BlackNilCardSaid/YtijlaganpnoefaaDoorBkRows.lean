/-
  Stage 12, black: ages, told by two rows of bits: those that were hit behind the last Turn, and those that were hit ahead of it; in numbers.
-/
import Derived.Test.YtijlaganpnoefaaDoorBtSet
import Derived.Test.YtijlaganpnoefaaDoorBkRefDo
namespace Go.Proofs.YtijlaganpnoefaaDoor.Bk
open Go.RowKit Go.Proofs.YtijlaganpnoefaaDoor.Ar
open Go.Proofs.YtijlaganpnoefaaDoor.Bt (bit bit_out laid laid_length laid_bit layB hasV)
set_option linter.unusedVariables false

def ages (c d : List Bool) : List Int := (List.range c.length).map fun i => if bit c i = true then 2 else if bit d i = true then 1 else 0
theorem ages_length (c d : List Bool) : (ages c d).length = c.length := by unfold ages; rw [List.length_map, List.length_range]
theorem ages_get (c d : List Bool) {i : Nat} (h : i < c.length) : (ages c d).getD i 0 = if bit c i = true then 2 else if bit d i = true then 1 else 0 := by
  unfold ages
  rw [List.getD_eq_getElem?_getD, List.getElem?_map, List.getElem?_range h]
  rfl
theorem row_ext {a b : List Int} (hl : a.length = b.length) (h : ∀ j, j < a.length → a.getD j 0 = b.getD j 0) : a = b := by
  apply List.ext_getElem hl
  intro j h1 h2
  have := h j h1
  rw [List.getD_eq_getElem?_getD, List.getD_eq_getElem?_getD, List.getElem?_eq_getElem h1, List.getElem?_eq_getElem h2] at this
  exact this
theorem bit_no (n i : Nat) : bit (List.replicate n false) i = false := by
  unfold Bt.bit
  rw [List.getD_eq_getElem?_getD, List.getElem?_replicate]
  split <;> rfl
theorem ages_new (n : Nat) : ages (List.replicate n false) (List.replicate n false) = List.replicate n 0 :=
  row_ext (by rw [ages_length, List.length_replicate, List.length_replicate]) fun j hj => by
    rw [ages_length] at hj
    rw [ages_get _ _ hj, bit_no, List.getD_eq_getElem?_getD, List.getElem?_replicate, if_pos (show j < n by simpa using hj)]
    rfl
theorem ages_set (c d : List Bool) {k : Nat} (hk : k < c.length) : ages (laid c k 1 true) d = (ages c d).set k 2 :=
  row_ext (by rw [ages_length, List.length_set, ages_length, laid_length]) fun j hj => by
    rw [ages_length] at hj
    have hj2 : j < c.length := by rw [laid_length] at hj; exact hj
    rw [ages_get _ _ hj, laid_bit _ _ _ _ j hj2]
    by_cases he : j = k
    · subst he
      rw [if_pos (show j ≤ j ∧ j < j + 1 by omega), List.getD_eq_getElem?_getD, List.getElem?_set_self (by rw [ages_length]; exact hj2)]
      rfl
    · rw [if_neg (show ¬ (k ≤ j ∧ j < k + 1) by omega), List.getD_eq_getElem?_getD, List.getElem?_set_ne (by omega), ← List.getD_eq_getElem?_getD, ages_get _ _ hj2]
theorem ages_turn (c d : List Bool) : turnL (ages c d) = ages (List.replicate c.length false) c :=
  row_ext (by unfold turnL; rw [List.length_map, ages_length, ages_length, List.length_replicate]) fun j hj => by
    have hj2 : j < c.length := by unfold turnL at hj; rw [List.length_map, ages_length] at hj; exact hj
    have e : (turnL (ages c d)).getD j 0 = dec ((ages c d).getD j 0) := by
      unfold turnL
      rw [List.getD_eq_getElem?_getD, List.getD_eq_getElem?_getD, List.getElem?_map, List.getElem?_eq_getElem (by rw [ages_length]; exact hj2)]
      rfl
    rw [e, ages_get _ _ hj2, ages_get _ _ (by rw [List.length_replicate]; exact hj2), bit_no]
    cases bit c j <;> cases bit d j <;> decide
theorem ages_aged (c d : List Bool) : Aged (ages c d) := fun x hx => by
  unfold ages at hx
  obtain ⟨i, _, rfl⟩ := List.mem_map.1 hx
  split
  · decide
  · split <;> decide
theorem ages_has {c d : List Bool} (hl : d.length = c.length) (g : Int) : hasL (ages c d) g = (hasV c g || hasV d g) := by
  unfold hasL Bt.hasV
  rw [ages_length]
  by_cases h0 : 0 ≤ g
  · by_cases h1 : g < (c.length : Int)
    · rw [ages_get c d (show g.toNat < c.length by omega)]
      cases bit c g.toNat <;> cases bit d g.toNat <;> simp [h0, h1]
    · rw [bit_out c g.toNat (by omega), bit_out d g.toNat (by omega), decide_eq_false (by omega)]
      simp
  · rw [decide_eq_false (by omega), decide_eq_false h0]
    rfl
theorem layB_one {c : List Bool} {g : Int} (h : 0 ≤ g ∧ g < (c.length : Int)) : layB c g 1 true = laid c g.toNat 1 true := by
  unfold Bt.layB
  rw [if_pos ((Bt.within_iff _ _ _).2 (by omega))]
  rfl
end Go.Proofs.YtijlaganpnoefaaDoor.Bk
