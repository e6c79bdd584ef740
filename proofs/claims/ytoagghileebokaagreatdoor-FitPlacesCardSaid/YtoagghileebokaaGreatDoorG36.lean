/-
  Several texts in one: BkRef, BkRefDo, BkRows, BkRefFirst.
-/
import Derived.Test.YtoagghileebokaaGreatDoorG31
import Derived.Laws.Rows
import Derived.Deep.QuietTactic
import Derived.BigQuiet
import Derived.Lib.QuietBelow
import Derived.RegionTactic
import Derived.Test.YtoagghileebokaaGreatDoorG27
import Derived.Test.YtoagghileebokaaGreatDoorG20
/-
  Stage 12, black: the document's list, by ages, as an object in memory: New, Hit, Turn, Has, List.
-/
namespace Go.Proofs.YtoagghileebokaaGreatDoor.Bk
open Go.RowKit Go.Proofs.YtoagghileebokaaGreatDoor.Ar
set_option linter.unusedVariables false

/-! ### ages, in numbers -/
/-- All are granules. -/
def inAll (n : Nat) (gs : List Int) : Bool := gs.all fun g => decide (0 ≤ g ∧ g < (n : Int))
def hitAll (ls : List Int) (gs : List Int) : List Int := gs.foldl (fun l g => l.set g.toNat 2) ls
def hitL (ls gs : List Int) : List Int := if inAll ls.length gs = true then hitAll ls gs else ls
def hitE (n : Nat) (gs : List Int) : Int := if inAll n gs = true then 0 else 2
def dec (x : Int) : Int := max (x - 1) 0
def turnL (ls : List Int) : List Int := ls.map dec
def ones (ls : List Int) : Int := ((ls.filter fun x => decide (x = 1)).length : Nat)
def hasL (ls : List Int) (g : Int) : Bool := decide (0 ≤ g ∧ g < (ls.length : Int) ∧ 0 < ls.getD g.toNat 0)
/-- The black ones from granule i on. -/
def listFrom : Nat → List Int → List Int
  | _, [] => []
  | i, x :: ls => if 0 < x then (i : Int) :: listFrom (i + 1) ls else listFrom (i + 1) ls
def listL (ls : List Int) : List Int := listFrom 0 ls
theorem hitAll_length : ∀ (gs ls : List Int), (hitAll ls gs).length = ls.length
  | [], _ => rfl
  | g :: gs, ls => (hitAll_length gs (ls.set g.toNat 2)).trans (List.length_set ..)
theorem hitAll_snoc (ls gs : List Int) (g : Int) : hitAll ls (gs ++ [g]) = (hitAll ls gs).set g.toNat 2 := by
  unfold hitAll
  rw [List.foldl_append]
  rfl
theorem hitL_length (ls gs : List Int) : (hitL ls gs).length = ls.length := by
  unfold hitL
  split
  · exact hitAll_length _ _
  · rfl
theorem listFrom_len : ∀ (i : Nat) (ls : List Int), (listFrom i ls).length ≤ ls.length
  | _, [] => Nat.le_refl _
  | i, x :: ls => by
    have := listFrom_len (i + 1) ls
    show (if 0 < x then (i : Int) :: listFrom (i + 1) ls else listFrom (i + 1) ls).length ≤ ls.length + 1
    split
    · rw [List.length_cons]; omega
    · omega
/-- Each age is 0, 1 or 2. -/
def Aged (ls : List Int) : Prop := ∀ x ∈ ls, 0 ≤ x ∧ x ≤ 2
theorem Aged.set {ls : List Int} (h : Aged ls) (j : Nat) {v : Int} (hv : 0 ≤ v ∧ v ≤ 2) : Aged (ls.set j v) := fun x hx => by
  rcases List.mem_or_eq_of_mem_set hx with h1 | rfl
  · exact h x h1
  · exact hv
theorem Aged.hit : ∀ {gs ls : List Int}, Aged ls → Aged (hitAll ls gs)
  | [], _, h => h
  | g :: gs, ls, h => Aged.hit (gs := gs) (h.set g.toNat (by decide))
theorem Aged.hitL {ls gs : List Int} (h : Aged ls) : Aged (hitL ls gs) := by
  unfold Bk.hitL
  split
  · exact h.hit
  · exact h
theorem dec_of {x : Int} (h : 0 ≤ x ∧ x ≤ 2) : (x = 0 ∧ dec x = 0) ∨ (x = 1 ∧ dec x = 0) ∨ (x = 2 ∧ dec x = 1) := by
  rcases (show x = 0 ∨ x = 1 ∨ x = 2 by omega) with rfl | rfl | rfl
  · exact .inl ⟨rfl, by decide⟩
  · exact .inr (.inl ⟨rfl, by decide⟩)
  · exact .inr (.inr ⟨rfl, by decide⟩)
theorem Aged.turn {ls : List Int} (h : Aged ls) : Aged (turnL ls) := fun x hx => by
  obtain ⟨y, hy, rfl⟩ := List.mem_map.1 hx
  rcases dec_of (h y hy) with ⟨_, e⟩ | ⟨_, e⟩ | ⟨_, e⟩ <;> rw [e] <;> decide
theorem take_snoc {ls : List Int} {j : Nat} (hj : j < ls.length) : ls.take (j + 1) = ls.take j ++ [ls.getD j 0] := by
  rw [List.take_add_one, List.getElem?_eq_getElem hj, List.getD_eq_getElem?_getD, List.getElem?_eq_getElem hj]
  rfl
/-! ### in memory -/
namespace Bl
variable {w w' : World} {p q : Nat} {ls ls' : List Int}
end Bl
section
variable {w : World} {p q : Nat} {ls : List Int}
end
end Go.Proofs.YtoagghileebokaaGreatDoor.Bk

/-
  Stage 12, black: the document's Hit, Turn and List.
-/
namespace Go.Proofs.YtoagghileebokaaGreatDoor.Bk
open Go.RowKit Go.Proofs.YtoagghileebokaaGreatDoor.Ar
set_option linter.unusedVariables false

theorem inAll_snoc (n : Nat) (gs : List Int) (g : Int) : inAll n (gs ++ [g]) = (inAll n gs && decide (0 ≤ g ∧ g < (n : Int))) := by
  unfold inAll
  rw [List.all_append]
  simp
theorem inAll_mem {n : Nat} {gs : List Int} (h : inAll n gs = true) {g : Int} (hg : g ∈ gs) : 0 ≤ g ∧ g < (n : Int) := of_decide_eq_true (List.all_eq_true.1 h g hg)
theorem inAll_no {n : Nat} {gs : List Int} {g : Int} (hg : g ∈ gs) (h : ¬ (0 ≤ g ∧ g < (n : Int))) : inAll n gs = false := by
  cases hh : inAll n gs with
  | false => rfl
  | true => exact absurd (inAll_mem hh hg) h
theorem hit_no {ls gs : List Int} (h : inAll ls.length gs = false) : hitE ls.length gs = 2 ∧ hitL ls gs = ls := by
  unfold hitE hitL
  rw [h]
  exact ⟨rfl, rfl⟩
theorem hit_yes {ls gs : List Int} (h : inAll ls.length gs = true) : hitE ls.length gs = 0 ∧ hitL ls gs = hitAll ls gs := by
  unfold hitE hitL
  rw [h]
  exact ⟨rfl, rfl⟩
theorem num_mem {gs : List Int} {j : Nat} (hj : j < gs.length) : gs.getD j 0 ∈ gs := by
  rw [List.getD_eq_getElem?_getD, List.getElem?_eq_getElem hj]
  exact List.getElem_mem hj
section
variable {w : World} {p q : Nat} {ls : List Int}
end
end Go.Proofs.YtoagghileebokaaGreatDoor.Bk

/-
  Stage 12, black: ages, told by two rows of bits: those that were hit behind the last Turn, and those that were hit ahead of it; in numbers.
-/
namespace Go.Proofs.YtoagghileebokaaGreatDoor.Bk
open Go.RowKit Go.Proofs.YtoagghileebokaaGreatDoor.Ar
open Go.Proofs.YtoagghileebokaaGreatDoor.Bt (bit bit_out laid laid_length laid_bit layB hasV)
set_option linter.unusedVariables false

def ages (c d : List Bool) : List Int := (List.range c.length).map fun i => if bit c i = true then 2 else if bit d i = true then 1 else 0
theorem ages_length (c d : List Bool) : (ages c d).length = c.length := by unfold ages; rw [List.length_map, List.length_range]
theorem ages_get (c d : List Bool) {i : Nat} (h : i < c.length) : (ages c d).getD i 0 = if bit c i = true then 2 else if bit d i = true then 1 else 0 := by
  unfold ages
  rw [List.getD_eq_getElem?_getD, List.getElem?_map, List.getElem?_range h]
  rfl
theorem row_ext {a b : List Int} (hl : a.length = b.length) (h : ∀ j, j < a.length → a.getD j 0 = b.getD j 0) : a = b := by
  apply List.ext_getElem hl
  intro j h1 h2
  have := h j h1
  rw [List.getD_eq_getElem?_getD, List.getD_eq_getElem?_getD, List.getElem?_eq_getElem h1, List.getElem?_eq_getElem h2] at this
  exact this
theorem bit_no (n i : Nat) : bit (List.replicate n false) i = false := by
  unfold Bt.bit
  rw [List.getD_eq_getElem?_getD, List.getElem?_replicate]
  split <;> rfl
theorem ages_new (n : Nat) : ages (List.replicate n false) (List.replicate n false) = List.replicate n 0 :=
  row_ext (by rw [ages_length, List.length_replicate, List.length_replicate]) fun j hj => by
    rw [ages_length] at hj
    rw [ages_get _ _ hj, bit_no, List.getD_eq_getElem?_getD, List.getElem?_replicate, if_pos (show j < n by simpa using hj)]
    rfl
theorem ages_set (c d : List Bool) {k : Nat} (hk : k < c.length) : ages (laid c k 1 true) d = (ages c d).set k 2 :=
  row_ext (by rw [ages_length, List.length_set, ages_length, laid_length]) fun j hj => by
    rw [ages_length] at hj
    have hj2 : j < c.length := by rw [laid_length] at hj; exact hj
    rw [ages_get _ _ hj, laid_bit _ _ _ _ j hj2]
    by_cases he : j = k
    · subst he
      rw [if_pos (show j ≤ j ∧ j < j + 1 by omega), List.getD_eq_getElem?_getD, List.getElem?_set_self (by rw [ages_length]; exact hj2)]
      rfl
    · rw [if_neg (show ¬ (k ≤ j ∧ j < k + 1) by omega), List.getD_eq_getElem?_getD, List.getElem?_set_ne (by omega), ← List.getD_eq_getElem?_getD, ages_get _ _ hj2]
theorem ages_aged (c d : List Bool) : Aged (ages c d) := fun x hx => by
  unfold ages at hx
  obtain ⟨i, _, rfl⟩ := List.mem_map.1 hx
  split
  · decide
  · split <;> decide
theorem ages_has {c d : List Bool} (hl : d.length = c.length) (g : Int) : hasL (ages c d) g = (hasV c g || hasV d g) := by
  unfold hasL Bt.hasV
  rw [ages_length]
  by_cases h0 : 0 ≤ g
  · by_cases h1 : g < (c.length : Int)
    · rw [ages_get c d (show g.toNat < c.length by omega)]
      cases bit c g.toNat <;> cases bit d g.toNat <;> simp [h0, h1]
    · rw [bit_out c g.toNat (by omega), bit_out d g.toNat (by omega), decide_eq_false (by omega)]
      simp
  · rw [decide_eq_false (by omega), decide_eq_false h0]
    rfl
theorem layB_one {c : List Bool} {g : Int} (h : 0 ≤ g ∧ g < (c.length : Int)) : layB c g 1 true = laid c g.toNat 1 true := by
  unfold Bt.layB
  rw [if_pos ((Bt.within_iff _ _ _).2 (by omega))]
  rfl
end Go.Proofs.YtoagghileebokaaGreatDoor.Bk

/-
  Stage 12, black: the document's First.
-/
namespace Go.Proofs.YtoagghileebokaaGreatDoor.Bk
open Go.RowKit Go.Proofs.YtoagghileebokaaGreatDoor.Ar
set_option linter.unusedVariables false

/-- From granule g on m granules are not black. -/
def roomTo (ls : List Int) (g : Nat) : Nat → Bool
  | 0 => true
  | m + 1 => roomTo ls g m && decide (ls.getD (g + m) 0 = 0)
/-- The lowest of f granules, from g on, from which on n are not black. -/
def searchG (ls : List Int) (n : Nat) : Nat → Nat → Option Int
  | 0, _ => none
  | f + 1, g => if roomTo ls g n = true then some (g : Int) else searchG ls n f (g + 1)
def endL (ls : List Int) (to_ : Int) : Int := max (min to_ (ls.length : Int)) 0
def firstL (ls : List Int) (from_ to_ n : Int) : Option Int :=
  if n < 1 ∨ (ls.length : Int) < n then none else searchG ls n.toNat (endL ls to_ - n + 1 - max from_ 0).toNat (max from_ 0).toNat
section
variable {w : World} {p q : Nat} {ls : List Int}
end
end Go.Proofs.YtoagghileebokaaGreatDoor.Bk
