/-
  What the law RunsApart holds a set to, as plain facts.
-/
import Derived.Test.YtbgonppichdhiaaRnDoes
namespace Go.Proofs.Ytbgonppichdhiaa.Rn
open Go.RowKit Go.Proofs.Ytbgonppichdhiaa.Bt
set_option linter.unusedVariables false

/-- Is the number in the run, as the law reckons it. -/
def inB (i a n : Int) : Bool := decide (a ≤ i) && decide (wrap64 (i - a) < n)
theorem inB_valid {i a n : Int} (i2 : i ≤ 9223372036854775807) (hv : valid a n = true) : inB i a n = decide (a ≤ i ∧ i < a + n) := by
  obtain ⟨v1, v2, v3⟩ := (valid_iff a n).1 hv
  unfold inB
  by_cases c : a ≤ i
  · rw [decide_eq_true c, Bool.true_and, decide_eq_decide, show wrap64 (i - a) = i - a by unfold wrap64; omega]
    omega
  · rw [decide_eq_false c, Bool.false_and, decide_eq_false (by omega)]
theorem inn_int {a n i : Int} (v1 : 0 ≤ a) (v2 : 1 ≤ n) : (decide (0 ≤ i) && inn (a.toNat, n.toNat) i.toNat) = decide (a ≤ i ∧ i < a + n) := by
  unfold inn
  rw [← Bool.decide_and, decide_eq_decide]
  simp only
  omega
theorem add_tells {rs : List R} (h : Fine 0 rs) {i a n : Int} (i2 : i ≤ 9223372036854775807) (he : addE rs a n = 0) :
    hasI (addW rs a n) i = (hasI rs i || inB i a n) ∧ (total (addW rs a n) : Int) = (total rs : Int) + n := by
  have hf := addW_fine h a n
  unfold addE at he
  unfold addW at *
  cases hv : valid a n with
  | false => rw [hv] at he; cases he
  | true =>
    rw [hv] at he hf
    obtain ⟨v1, v2, v3⟩ := (valid_iff a n).1 hv
    cases hq : freeB rs a.toNat n.toNat with
    | false => rw [hq] at he; cases he
    | true =>
      rw [hq] at hf
      obtain ⟨a1, a2, a3⟩ := add_ok h (a := a.toNat) (n := n.toNat) (by omega) (by omega) hq
      show hasI (addV rs a.toNat n.toNat) i = _ ∧ (total (addV rs a.toNat n.toNat) : Int) = _
      refine ⟨?_, by rw [a3]; omega⟩
      rw [hasI_has a1, hasI_has h, a2, inB_valid i2 hv, ← inn_int v1 v2]
      cases decide (0 ≤ i) <;> simp
theorem cut_tells {rs : List R} (h : Fine 0 rs) {i a n : Int} (i2 : i ≤ 9223372036854775807) (he : cutE rs a n = 0) :
    hasI (cutW rs a n) i = (hasI rs i && !inB i a n) ∧ (total (cutW rs a n) : Int) = (total rs : Int) - n := by
  have hf := cutW_fine h a n
  unfold cutE at he
  unfold cutW at *
  cases hv : valid a n with
  | false => rw [hv] at he; cases he
  | true =>
    rw [hv] at he hf
    obtain ⟨v1, v2, v3⟩ := (valid_iff a n).1 hv
    cases hq : allB rs a.toNat n.toNat with
    | false => rw [hq] at he; cases he
    | true =>
      rw [hq] at hf
      obtain ⟨a1, a2, a3⟩ := cut_ok h (a := a.toNat) (n := n.toNat) (by omega) hq
      show hasI (cutV rs a.toNat n.toNat) i = _ ∧ (total (cutV rs a.toNat n.toNat) : Int) = _
      refine ⟨?_, by omega⟩
      rw [hasI_has a1, hasI_has h, a2, inB_valid i2 hv, ← inn_int v1 v2]
      cases decide (0 ≤ i) <;> simp
theorem addW_no {rs : List R} {a n : Int} (he : addE rs a n ≠ 0) : addW rs a n = rs := by
  unfold addE at he
  unfold addW
  cases hv : valid a n with
  | false => rfl
  | true =>
    rw [hv] at he
    cases hq : freeB rs a.toNat n.toNat with
    | false => rfl
    | true => rw [hq] at he; exact absurd rfl he
theorem cutW_no {rs : List R} {a n : Int} (he : cutE rs a n ≠ 0) : cutW rs a n = rs := by
  unfold cutE at he
  unfold cutW
  cases hv : valid a n with
  | false => rfl
  | true =>
    rw [hv] at he
    cases hq : allB rs a.toNat n.toNat with
    | false => rfl
    | true => rw [hq] at he; exact absurd rfl he
theorem addE_len {rs : List R} {a n : Int} (he : addE rs a n = 0) : 1 ≤ n ∧ n ≤ 65536 := by
  unfold addE at he
  cases hv : valid a n with
  | false => rw [hv] at he; cases he
  | true => obtain ⟨v1, v2, v3⟩ := (valid_iff a n).1 hv; omega
theorem cutE_len {rs : List R} {a n : Int} (he : cutE rs a n = 0) : 1 ≤ n ∧ n ≤ 65536 := by
  unfold cutE at he
  cases hv : valid a n with
  | false => rw [hv] at he; cases he
  | true => obtain ⟨v1, v2, v3⟩ := (valid_iff a n).1 hv; omega
/-- Where the last one of them ends. -/
def endOf (P : List R) : Int := match P.getLast? with | none => -1 | some r => ((r.1 + r.2 : Nat) : Int)
theorem endOf_snoc (P : List R) (r : R) : endOf (P ++ [r]) = ((r.1 + r.2 : Nat) : Int) := by unfold endOf; rw [List.getLast?_concat]
theorem endOf_bound {P : List R} (h : Fine 0 P) : -1 ≤ endOf P ∧ endOf P ≤ 65536 := by
  rcases List.eq_nil_or_concat P with rfl | ⟨P0, r, rfl⟩
  · exact ⟨Int.le_refl _, by show (-1 : Int) ≤ 65536; omega⟩
  · rw [List.concat_eq_append] at *
    rw [endOf_snoc]
    have := h.mem r (by simp)
    omega
theorem endOf_lt {P : List R} {r : R} {Q : List R} (h : Fine 0 (P ++ r :: Q)) : endOf P < (r.1 : Int) := by
  rcases List.eq_nil_or_concat P with rfl | ⟨P0, p, rfl⟩
  · show (-1 : Int) < _
    omega
  · rw [List.concat_eq_append] at *
    rw [endOf_snoc]
    obtain ⟨a1, a2, a3⟩ := h.append
    have := (a3 p (by simp)).1
    omega
/-- A round of the law's second loop. -/
theorem apart_step {rs : List R} (h : Fine 0 rs) {t : Nat} (ht : t < rs.length) (r : R) (hr : r = rs.getD t (0, 0)) :
    -1 ≤ endOf (rs.take t) ∧ endOf (rs.take t) < (r.1 : Int) ∧ 1 ≤ r.2 ∧ r.1 + r.2 ≤ 65536 ∧ endOf (rs.take (t + 1)) = (r.1 : Int) + (r.2 : Int) ∧ total (rs.take (t + 1)) = total (rs.take t) + r.2 ∧ total (rs.take t) ≤ 65536 ∧
    ofO rs (r.1 : Int) = some r ∧ ofO rs ((r.1 : Int) + (r.2 : Int) - 1) = some r ∧ hasI rs ((r.1 : Int) + (r.2 : Int)) = false := by
  have hsp := at_split ht
  have htm := take_more ht
  rw [← hr] at hsp htm
  have hm := h.mem r (by rw [hr]; exact getD_mem ht)
  have h' := h
  rw [hsp] at h'
  obtain ⟨a1, a2, a3⟩ := h'.append
  have hof : ∀ j : Int, ((r.1 : Nat) : Int) ≤ j → j < ((r.1 + r.2 : Nat) : Int) → ofO rs j = some r := fun j j1 j2 => by
    have := ofO_mem h' j j1 j2
    rw [← hsp] at this
    exact this
  have hen := hasI_end h'
  rw [← hsp, Int.natCast_add] at hen
  have htt := total_append (rs.take t) (rs.drop t)
  rw [List.take_append_drop] at htt
  have htl := total_le h
  refine ⟨(endOf_bound a1).1, endOf_lt h', hm.2.1, hm.2.2, by rw [htm, endOf_snoc]; omega, by rw [htm, total_append, total_cons, total_nil]; rfl, by omega, hof _ (Int.le_refl _) (by omega), hof _ (by omega) (by omega), hen⟩
end Go.Proofs.Ytbgonppichdhiaa.Rn
