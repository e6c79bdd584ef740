/-
  Stage 12, black: what First tells, in numbers.
-/
import Derived.Test.YtijlaganpnoefaaDoorBkRefFirst
namespace Go.Proofs.YtijlaganpnoefaaDoor.Bk
open Go.RowKit Go.Proofs.YtijlaganpnoefaaDoor.Ar
set_option linter.unusedVariables false

theorem searchG_some {ls : List Int} {n : Nat} {v : Int} : ∀ (f g : Nat), searchG ls n f g = some v → ∃ i : Nat, v = ((g + i : Nat) : Int) ∧ i < f ∧ roomTo ls (g + i) n = true ∧ ∀ i', i' < i → roomTo ls (g + i') n = false
  | 0, g, h => by cases h
  | f + 1, g, h => by
    have e : searchG ls n (f + 1) g = if roomTo ls g n = true then some (g : Int) else searchG ls n f (g + 1) := rfl
    rw [e] at h
    by_cases hr : roomTo ls g n = true
    · rw [if_pos hr] at h
      obtain rfl := Option.some.inj h
      exact ⟨0, rfl, by omega, hr, fun i' hi => by omega⟩
    · rw [if_neg hr] at h
      obtain ⟨i, h1, h2, h3, h4⟩ := searchG_some f (g + 1) h
      refine ⟨i + 1, by rw [h1]; omega, by omega, by rw [show g + (i + 1) = g + 1 + i by omega]; exact h3, fun i' hi => ?_⟩
      rcases Nat.eq_zero_or_pos i' with h0 | h0
      · subst h0
        simpa using hr
      · have := h4 (i' - 1) (by omega)
        rw [show g + 1 + (i' - 1) = g + i' by omega] at this
        exact this
theorem searchG_none2 {ls : List Int} {n : Nat} : ∀ (f g : Nat), searchG ls n f g = none → ∀ i, i < f → roomTo ls (g + i) n = false
  | 0, g, h, i, hi => by omega
  | f + 1, g, h, i, hi => by
    have e : searchG ls n (f + 1) g = if roomTo ls g n = true then some (g : Int) else searchG ls n f (g + 1) := rfl
    rw [e] at h
    by_cases hr : roomTo ls g n = true
    · rw [if_pos hr] at h
      cases h
    · rw [if_neg hr] at h
      rcases Nat.eq_zero_or_pos i with h0 | h0
      · subst h0
        simpa using hr
      · have := searchG_none2 f (g + 1) h (i - 1) (by omega)
        rw [show g + 1 + (i - 1) = g + i by omega] at this
        exact this
theorem first_some {ls : List Int} {a b v : Int} {n : Nat} (h : firstL ls a b (n : Int) = some v) :
    0 ≤ v ∧ max a 0 ≤ v ∧ v ≤ endL ls b - (n : Int) ∧ ∀ g : Nat, max a 0 ≤ (g : Int) → (g : Int) ≤ v → roomTo ls g n = ((g : Int) == v) := by
  unfold firstL at h
  split at h
  · cases h
  · obtain ⟨i, h1, h2, h3, h4⟩ := searchG_some _ _ h
    rw [Int.toNat_natCast] at h3 h4
    refine ⟨by omega, by omega, by omega, fun g hg hv => ?_⟩
    by_cases he : (g : Int) = v
    · rw [show g = (max a 0).toNat + i by omega, h3, h1]
      simp
    · have := h4 (g - (max a 0).toNat) (by omega)
      rw [show (max a 0).toNat + (g - (max a 0).toNat) = g by omega] at this
      rw [this]
      exact (beq_eq_false_iff_ne.2 he).symm
theorem first_none {ls : List Int} {a b : Int} {n : Nat} (h : firstL ls a b (n : Int) = none) (hn : 1 ≤ n) : ∀ g : Nat, max a 0 ≤ (g : Int) → (g : Int) ≤ endL ls b - (n : Int) → roomTo ls g n = false := by
  intro g hg he
  unfold firstL at h
  split at h
  · unfold endL at he
    omega
  · have := searchG_none2 _ _ h (g - (max a 0).toNat) (by omega)
    rw [Int.toNat_natCast, show (max a 0).toNat + (g - (max a 0).toNat) = g by omega] at this
    exact this
theorem room_step {ls : List Int} (ha : Aged ls) {g m : Nat} (h : g + m < ls.length) : (roomTo ls g m && !hasL ls ((g : Int) + (m : Int))) = roomTo ls g (m + 1) := by
  show _ = (roomTo ls g m && decide (ls.getD (g + m) 0 = 0))
  congr 1
  have := ha.get (g + m)
  unfold hasL
  rw [show ((g : Int) + (m : Int)).toNat = g + m by omega]
  by_cases h0 : ls.getD (g + m) 0 = 0
  · rw [decide_eq_true h0, decide_eq_false (by omega)]
    rfl
  · rw [decide_eq_false h0, decide_eq_true (by omega)]
    rfl
theorem room_no {ls : List Int} {g m : Nat} (h : roomTo ls g m = false) : roomTo ls g (m + 1) = false := by
  show (roomTo ls g m && _) = false
  rw [h]
  rfl
theorem searchG_is {ls : List Int} {n : Nat} : ∀ (f g i : Nat), i < f → roomTo ls (g + i) n = true → (∀ i', i' < i → roomTo ls (g + i') n = false) → searchG ls n f g = some ((g + i : Nat) : Int)
  | 0, g, i, h, _, _ => by omega
  | f + 1, g, i, h, hr, hl => by
    have e : searchG ls n (f + 1) g = if roomTo ls g n = true then some (g : Int) else searchG ls n f (g + 1) := rfl
    rw [e]
    rcases Nat.eq_zero_or_pos i with h0 | h0
    · subst h0
      rw [Nat.add_zero] at hr
      rw [if_pos hr]
      rfl
    · rw [if_neg (by have := hl 0 h0; rw [Nat.add_zero] at this; rw [this]; decide)]
      have := searchG_is (ls := ls) (n := n) f (g + 1) (i - 1) (by omega) (by rw [show g + 1 + (i - 1) = g + i by omega]; exact hr) (fun i' hi => by rw [show g + 1 + i' = g + (i' + 1) by omega]; exact hl _ (by omega))
      rw [this, show g + 1 + (i - 1) = g + i by omega]
theorem searchG_no2 {ls : List Int} {n : Nat} : ∀ (f g : Nat), (∀ i, i < f → roomTo ls (g + i) n = false) → searchG ls n f g = none
  | 0, _, _ => rfl
  | f + 1, g, h => by
    have e : searchG ls n (f + 1) g = if roomTo ls g n = true then some (g : Int) else searchG ls n f (g + 1) := rfl
    rw [e, if_neg (by have := h 0 (by omega); rw [Nat.add_zero] at this; rw [this]; decide)]
    exact searchG_no2 f (g + 1) fun i hi => by rw [show g + 1 + i = g + (i + 1) by omega]; exact h _ (by omega)
/-- What First tells, by what it has to be. -/
theorem first_of_some {ls : List Int} {a b : Int} {v n : Nat} (hn : 1 ≤ n) (h1 : max a 0 ≤ (v : Int)) (h2 : (v : Int) ≤ endL ls b - (n : Int)) (hr : roomTo ls v n = true) (hl : ∀ g : Nat, max a 0 ≤ (g : Int) → g < v → roomTo ls g n = false) : firstL ls a b (n : Int) = some (v : Int) := by
  unfold firstL
  rw [if_neg (by unfold endL at h2; omega), Int.toNat_natCast]
  have := searchG_is (ls := ls) (n := n) (endL ls b - (n : Int) + 1 - max a 0).toNat (max a 0).toNat (v - (max a 0).toNat) (by omega) (by rw [show (max a 0).toNat + (v - (max a 0).toNat) = v by omega]; exact hr) (fun i' hi => hl _ (by omega) (by omega))
  rw [this, show (max a 0).toNat + (v - (max a 0).toNat) = v by omega]
theorem first_of_none {ls : List Int} {a b : Int} {n : Nat} (hl : ∀ g : Nat, max a 0 ≤ (g : Int) → (g : Int) ≤ endL ls b - (n : Int) → roomTo ls g n = false) : firstL ls a b (n : Int) = none := by
  unfold firstL
  split
  · rfl
  · rw [Int.toNat_natCast]
    exact searchG_no2 _ _ fun i hi => hl _ (by omega) (by omega)
theorem first_bad {ls : List Int} {a b n : Int} (h : n < 1 ∨ (ls.length : Int) < n) : firstL ls a b n = none := if_pos h
theorem room_black {ls : List Int} {k : Nat} (hk : hasL ls (k : Int) = true) : ∀ (n g : Nat), g ≤ k → k < g + n → roomTo ls g n = false
  | 0, g, h1, h2 => by omega
  | n + 1, g, h1, h2 => by
    show (roomTo ls g n && decide (ls.getD (g + n) 0 = 0)) = false
    rcases Nat.lt_or_ge k (g + n) with h | h
    · rw [room_black hk n g h1 h]
      rfl
    · rw [show g + n = k by omega]
      unfold hasL at hk
      rw [Int.toNat_natCast] at hk
      have := of_decide_eq_true hk
      rw [decide_eq_false (show ¬ ls.getD k 0 = 0 by omega)]
      exact Bool.and_false _
theorem room_free {ls : List Int} (ha : Aged ls) {k r : Nat} (hr : r ≤ k) (h : k < ls.length) (hk : hasL ls (k : Int) = false) (hp : roomTo ls (k - r) r = true) : roomTo ls (k - r) (r + 1) = true := by
  have := room_step ha (g := k - r) (m := r) (by omega)
  rw [← this, hp, show ((k - r : Nat) : Int) + (r : Int) = (k : Int) by omega, hk]
  rfl
end Go.Proofs.YtijlaganpnoefaaDoor.Bk
