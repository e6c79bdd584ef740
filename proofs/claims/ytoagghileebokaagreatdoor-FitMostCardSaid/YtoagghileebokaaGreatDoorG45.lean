/-
  Several texts in one: BkRefTurn, BkAges.
-/
import Derived.Test.YtoagghileebokaaGreatDoorG36
import Derived.Test.YtoagghileebokaaGreatDoorG27
/-
  Stage 12, black: the document's Turn and List.
-/
namespace Go.Proofs.YtoagghileebokaaGreatDoor.Bk
open Go.RowKit Go.Proofs.YtoagghileebokaaGreatDoor.Ar
set_option linter.unusedVariables false

section
variable {w : World} {p q : Nat} {ls : List Int}
end
end Go.Proofs.YtoagghileebokaaGreatDoor.Bk

/-
  Stage 12, black: what a granule's age is, by what was hit; in numbers.
-/
namespace Go.Proofs.YtoagghileebokaaGreatDoor.Bk
open Go.RowKit Go.Proofs.YtoagghileebokaaGreatDoor.Ar
set_option linter.unusedVariables false

theorem hitAll_get : ∀ (gs ls : List Int) (k : Nat), (∀ g ∈ gs, 0 ≤ g) → k < ls.length → (hitAll ls gs).getD k 0 = if (k : Int) ∈ gs then 2 else ls.getD k 0
  | [], ls, k, _, _ => by simp [hitAll]
  | g :: gs, ls, k, h, hk => by
    have e : hitAll ls (g :: gs) = hitAll (ls.set g.toNat 2) gs := rfl
    have hg := h g List.mem_cons_self
    rw [e, hitAll_get gs _ k (fun x hx => h x (List.mem_cons_of_mem _ hx)) (by rw [List.length_set]; exact hk)]
    by_cases h1 : (k : Int) ∈ gs
    · rw [if_pos h1, if_pos (List.mem_cons_of_mem _ h1)]
    · rw [if_neg h1]
      by_cases h2 : (k : Int) = g
      · rw [if_pos (by rw [h2]; exact List.mem_cons_self), show g.toNat = k by omega, List.getD_eq_getElem?_getD, List.getElem?_set_self hk]
        rfl
      · rw [if_neg (by intro hm; rcases List.mem_cons.1 hm with h3 | h3; exact h2 h3; exact h1 h3), List.getD_eq_getElem?_getD, List.getElem?_set_ne (by omega), ← List.getD_eq_getElem?_getD]
/-- Whether it was hit behind the last Turn, and behind the one ahead of that: its age. -/
def AgeIs (ls : List Int) (g : Int) (nb ab : Bool) : Prop :=
  ((0 ≤ g ∧ g < (ls.length : Int)) → ls.getD g.toNat 0 = if nb = true then 2 else if ab = true then 1 else 0) ∧ (¬ (0 ≤ g ∧ g < (ls.length : Int)) → nb = false ∧ ab = false)
theorem AgeIs.start (n : Nat) (g : Int) : AgeIs (List.replicate n 0) g false false := by
  refine ⟨fun h => ?_, fun _ => ⟨rfl, rfl⟩⟩
  rw [List.length_replicate] at h
  rw [List.getD_eq_getElem?_getD, List.getElem?_replicate, if_pos (by omega)]
  rfl
theorem AgeIs.hit {ls gs : List Int} {g : Int} {nb ab : Bool} (h : AgeIs ls g nb ab) (ha : inAll ls.length gs = true) : AgeIs (hitAll ls gs) g (nb || decide (g ∈ gs)) ab := by
  obtain ⟨h1, h2⟩ := h
  refine ⟨fun hr => ?_, fun hr => ?_⟩
  · rw [hitAll_length] at hr
    rw [hitAll_get gs ls g.toNat (fun x hx => (inAll_mem ha hx).1) (by omega), h1 hr, show ((g.toNat : Nat) : Int) = g by omega]
    by_cases hm : g ∈ gs
    · simp [hm]
    · simp [hm]
  · rw [hitAll_length] at hr
    obtain ⟨rfl, rfl⟩ := h2 hr
    exact ⟨by rw [decide_eq_false (fun hm => hr (inAll_mem ha hm))]; rfl, rfl⟩
theorem AgeIs.turn {ls : List Int} {g : Int} {nb ab : Bool} (h : AgeIs ls g nb ab) : AgeIs (turnL ls) g false nb := by
  obtain ⟨h1, h2⟩ := h
  have hl : (turnL ls).length = ls.length := List.length_map _
  refine ⟨fun hr => ?_, fun hr => ?_⟩
  · rw [hl] at hr
    have e : (turnL ls).getD g.toNat 0 = dec (ls.getD g.toNat 0) := by
      unfold turnL
      rw [List.getD_eq_getElem?_getD, List.getD_eq_getElem?_getD, List.getElem?_map, List.getElem?_eq_getElem (by omega)]
      rfl
    rw [e, h1 hr]
    cases nb <;> cases ab <;> decide
  · rw [hl] at hr
    exact ⟨rfl, (h2 hr).1⟩
theorem AgeIs.has {ls : List Int} {g : Int} {nb ab : Bool} (h : AgeIs ls g nb ab) : hasL ls g = (nb || ab) := by
  obtain ⟨h1, h2⟩ := h
  unfold hasL
  by_cases hr : 0 ≤ g ∧ g < (ls.length : Int)
  · rw [h1 hr]
    cases nb <;> cases ab <;> simp [hr]
  · rw [decide_eq_false (fun h => hr ⟨h.1, h.2.1⟩), (h2 hr).1, (h2 hr).2]
    rfl
theorem list_len (ls : List Int) : (listL ls).length ≤ ls.length := listFrom_len 0 ls
end Go.Proofs.YtoagghileebokaaGreatDoor.Bk
