/-
  Stage 12, black: the last one of a range of granules that is black, by both rows of bits; in numbers.
-/
import Derived.Test.YtijlaganpnoefaaDoorBkRows
import Derived.Test.YtijlaganpnoefaaDoorBkRoom
import Derived.Test.YtijlaganpnoefaaDoorBtCount
import Derived.Test.YtijlaganpnoefaaDoorBtPrev
namespace Go.Proofs.YtijlaganpnoefaaDoor.Bk
open Go.RowKit Go.Proofs.YtijlaganpnoefaaDoor.Ar
open Go.Proofs.YtijlaganpnoefaaDoor.Bt (bit cnt cntI prevO prevV prevV_hit within hasV)
set_option linter.unusedVariables false

theorem cnt_zero (f : Nat → Bool) : ∀ (n : Nat), cnt f n = 0 → ∀ j, j < n → f j = false
  | 0, _, j, h => by omega
  | n + 1, h, j, hj => by
    have e : cnt f n + (f n).toNat = 0 := h
    rcases Nat.lt_or_ge j n with h1 | h1
    · exact cnt_zero f n (by omega) j h1
    · rw [show j = n by omega]
      cases hf : f n
      · rfl
      · rw [hf] at e
        have : (true : Bool).toNat = 1 := rfl
        omega
theorem cnt_last (f : Nat → Bool) : ∀ (n : Nat), 0 < cnt f n → ∃ k, k < n ∧ f k = true ∧ ∀ j, k < j → j < n → f j = false
  | 0, h => by
    have : cnt f 0 = 0 := rfl
    omega
  | n + 1, h => by
    cases hf : f n
    · have e : cnt f (n + 1) = cnt f n + (f n).toNat := rfl
      rw [hf] at e
      have e0 : (false : Bool).toNat = 0 := rfl
      obtain ⟨k, h1, h2, h3⟩ := cnt_last f n (by omega)
      refine ⟨k, by omega, h2, fun j j1 j2 => ?_⟩
      rcases Nat.lt_or_ge j n with h | h
      · exact h3 j j1 h
      · rw [show j = n by omega, hf]
    · exact ⟨n, by omega, hf, fun j j1 j2 => by omega⟩
/-- o is the last one of the n from a on that is so, if all n are among L. -/
def RowP (f : Nat → Bool) (L : Nat) (a n : Int) : Option Nat → Prop
  | none => within L a n = true → ∀ j : Nat, a ≤ (j : Int) → (j : Int) < a + n → f j = false
  | some g => within L a n = true ∧ a ≤ (g : Int) ∧ (g : Int) < a + n ∧ f g = true ∧ ∀ j : Nat, g < j → (j : Int) < a + n → f j = false
theorem row_no {c : List Bool} {a n : Int} (h : ¬ 0 < cntI c a n) : RowP (bit c) c.length a n none := fun hw j j1 j2 => by
  obtain ⟨h1, h2, h3⟩ := (Bt.within_iff _ _ _).1 hw
  unfold Bt.cntI at h
  rw [if_pos hw] at h
  have := cnt_zero (fun j => bit c (a.toNat + j)) n.toNat (by omega) (j - a.toNat) (by omega)
  rw [show j = a.toNat + (j - a.toNat) by omega]
  exact this
theorem row_yes {c : List Bool} {a n : Int} (h : 0 < cntI c a n) : ∃ g : Nat, prevO c (a + n - 1) = some g ∧ RowP (bit c) c.length a n (some g) := by
  unfold Bt.cntI at h
  by_cases hw : within c.length a n = true
  · rw [if_pos hw] at h
    obtain ⟨h1, h2, h3⟩ := (Bt.within_iff _ _ _).1 hw
    obtain ⟨k, k1, k2, k3⟩ := cnt_last (fun j => bit c (a.toNat + j)) n.toNat (by omega)
    have hall : ∀ j : Nat, a.toNat + k < j → (j : Int) < a + n → bit c j = false := fun j j1 j2 => by
      have := k3 (j - a.toNat) (by omega) (by omega)
      rw [show j = a.toNat + (j - a.toNat) by omega]
      exact this
    refine ⟨a.toNat + k, ?_, hw, by omega, by omega, k2, hall⟩
    unfold Bt.prevO
    exact prevV_hit (bit c) (a.toNat + k) _ (by omega) k2 fun j j1 j2 => hall j j1 (by omega)
  · rw [if_neg hw] at h
    omega
def lastG : Option Nat → Option Nat → Option Nat
  | none, o => o
  | some a, none => some a
  | some a, some b => some (max a b)
theorem RowP.or {f g : Nat → Bool} {L : Nat} {a n : Int} : ∀ {o u : Option Nat}, RowP f L a n o → RowP g L a n u → RowP (fun j => f j || g j) L a n (lastG o u)
  | none, none, h, k => fun hw j j1 j2 => by
    show (f j || g j) = false
    rw [h hw j j1 j2, k hw j j1 j2]
    rfl
  | none, some v, h, ⟨hw, k1, k2, k3, k4⟩ => ⟨hw, k1, k2, by show (f v || g v) = true; rw [k3, Bool.or_true], fun j j1 j2 => by
    show (f j || g j) = false
    rw [h hw j (by omega) j2, k4 j j1 j2]
    rfl⟩
  | some u, none, ⟨hw, h1, h2, h3, h4⟩, k => ⟨hw, h1, h2, by show (f u || g u) = true; rw [h3, Bool.true_or], fun j j1 j2 => by
    show (f j || g j) = false
    rw [k hw j (by omega) j2, h4 j j1 j2]
    rfl⟩
  | some u, some v, ⟨hw, h1, h2, h3, h4⟩, ⟨_, k1, k2, k3, k4⟩ => by
    refine ⟨hw, by omega, by omega, ?_, fun j j1 j2 => ?_⟩
    · show (f (max u v) || g (max u v)) = true
      rcases Nat.le_total u v with e | e
      · rw [Nat.max_eq_right e, k3, Bool.or_true]
      · rw [Nat.max_eq_left e, h3, Bool.true_or]
    · show (f j || g j) = false
      rw [h4 j (by omega) j2, k4 j (by omega) j2]
      rfl
/-- What is told of the last black one. -/
def LastP (ls : List Int) (a n : Int) (o : Option Nat) : Prop := RowP (fun j => hasL ls (j : Int)) ls.length a n o
theorem last_both {c d : List Bool} (hl : d.length = c.length) {a n : Int} {o u : Option Nat} (h : RowP (bit c) c.length a n o) (k : RowP (bit d) d.length a n u) : LastP (ages c d) a n (lastG o u) := by
  have e : (fun j : Nat => hasL (ages c d) (j : Int)) = fun j => bit c j || bit d j := funext fun j => by
    have hb (e : List Bool) : hasV e (j : Int) = bit e j := by
      unfold Bt.hasV
      rw [Int.toNat_natCast, decide_eq_true (show (0 : Int) ≤ (j : Int) by omega), Bool.true_and]
    rw [ages_has hl, hb, hb]
  unfold LastP
  rw [e, ages_length]
  rw [hl] at k
  exact RowP.or h k
theorem last_has {ls : List Int} {g : Int} {o : Option Nat} (h : LastP ls g 1 o) : o.isSome = hasL ls g := by
  cases o with
  | none =>
    by_cases hw : within ls.length g 1 = true
    · obtain ⟨h1, h2, h3⟩ := (Bt.within_iff _ _ _).1 hw
      have h4 : hasL ls ((g.toNat : Nat) : Int) = false := h hw g.toNat (by omega) (by omega)
      rw [show ((g.toNat : Nat) : Int) = g by omega] at h4
      rw [h4]
      rfl
    · rw [Bt.within_iff] at hw
      unfold hasL
      rw [decide_eq_false (by omega)]
      rfl
  | some k =>
    obtain ⟨hw, h1, h2, h3, h4⟩ := h
    have h5 : hasL ls (k : Int) = true := h3
    rw [show (k : Int) = g by omega] at h5
    rw [h5]
    rfl
theorem room_all {ls : List Int} (ha : Aged ls) {g : Nat} : ∀ (n : Nat), (∀ j : Nat, g ≤ j → j < g + n → hasL ls (j : Int) = false) → g + n ≤ ls.length → roomTo ls g n = true
  | 0, _, _ => rfl
  | n + 1, h, hl => by
    rw [← room_step ha (g := g) (m := n) (by omega), room_all ha n (fun j j1 j2 => h j j1 (by omega)) (by omega)]
    have := h (g + n) (by omega) (by omega)
    rw [show ((g : Int) + (n : Int)) = ((g + n : Nat) : Int) by omega, this]
    rfl
end Go.Proofs.YtijlaganpnoefaaDoor.Bk
