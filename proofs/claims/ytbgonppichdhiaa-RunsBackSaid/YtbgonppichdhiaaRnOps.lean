/-
  Plain facts on what Add, Cut, Of and First make of rising runs; what was added is cut again, and so the other way round.
-/
import Derived.Test.YtbgonppichdhiaaRnMath
namespace Go.Proofs.Ytbgonppichdhiaa.Rn
open Go.Proofs.Ytbgonppichdhiaa.Bt
set_option linter.unusedVariables false

theorem up_ok {a n : Nat} (hn : 1 ≤ n) (hv : a + n ≤ 65536) {Q : List R} (hq : Fine (a + n) Q) :
    ∃ m Q', up (a, n) Q = (a, m) :: Q' ∧ Fine a ((a, m) :: Q') ∧ (∀ j, has ((a, m) :: Q') j = (inn (a, n) j || has Q j)) ∧ total ((a, m) :: Q') = n + total Q := by
  cases Q with
  | nil => exact ⟨n, [], rfl, ⟨Nat.le_refl _, hn, hv, trivial⟩, fun j => has_cons _ _ _, total_cons _ _⟩
  | cons q Q =>
    obtain ⟨h1, h2, h3, h4⟩ := hq
    by_cases e : q.1 = a + n
    · refine ⟨n + q.2, Q, ?_, ⟨Nat.le_refl _, by omega, by omega, ?_⟩, fun j => ?_, ?_⟩
      · show (if q.1 = a + n then (a, n + q.2) :: Q else (a, n) :: q :: Q) = _
        rw [if_pos e]
      · rw [show a + (n + q.2) + 1 = q.1 + q.2 + 1 by omega]; exact h4
      · rw [has_cons, has_cons, ← Bool.or_assoc]
        congr 1
        unfold inn
        rw [← Bool.decide_or, decide_eq_decide]
        simp only
        omega
      · rw [total_cons, total_cons]; simp only; omega
    · refine ⟨n, q :: Q, ?_, ⟨Nat.le_refl _, hn, hv, by omega, h2, h3, h4⟩, fun j => has_cons _ _ _, total_cons _ _⟩
      show (if q.1 = a + n then (a, n + q.2) :: Q else (a, n) :: q :: Q) = _
      rw [if_neg e]
theorem down_ok {a m : Nat} {P Q : List R} (hP : Fine 0 P) (hU : Fine a ((a, m) :: Q)) (hl : ∀ r ∈ P, r.1 + r.2 ≤ a) :
    Fine 0 (down P ((a, m) :: Q)) ∧ (∀ j, has (down P ((a, m) :: Q)) j = (has P j || has ((a, m) :: Q) j)) ∧ total (down P ((a, m) :: Q)) = total P + total ((a, m) :: Q) := by
  have hd : down P ((a, m) :: Q) = match P.getLast? with | none => (a, m) :: Q | some p => if a = p.1 + p.2 then P.dropLast ++ (p.1, p.2 + m) :: Q else P ++ (a, m) :: Q := by
    cases P <;> rfl
  rw [hd]
  rcases List.eq_nil_or_concat P with rfl | ⟨P0, p, rfl⟩
  · exact ⟨hU.weak (by omega), fun j => by rw [has_nil]; rfl, by rw [total_nil, Nat.zero_add]; rfl⟩
  · rw [List.concat_eq_append] at *
    rw [List.getLast?_concat, List.dropLast_concat]
    obtain ⟨k1, k2, k3⟩ := hP.append
    obtain ⟨p1, p2, p3, _⟩ := k2
    obtain ⟨u1, u2, u3, u4⟩ := hU
    simp only at u1 u2 u3 u4
    have hpa := hl p (by simp)
    simp only
    by_cases e : a = p.1 + p.2
    · rw [if_pos e]
      refine ⟨k1.join ⟨by simp only; omega, by simp only; omega, by simp only; omega, ?_⟩ fun r hr => ?_, fun j => ?_, ?_⟩
      · show Fine (p.1 + (p.2 + m) + 1) Q
        rw [show p.1 + (p.2 + m) + 1 = a + m + 1 by omega]
        exact u4
      · have := (k3 r hr).1
        exact ⟨by simp only; omega, by simp only; omega, by simp only; omega, by show Fine (p.1 + (p.2 + m) + 1) Q; rw [show p.1 + (p.2 + m) + 1 = a + m + 1 by omega]; exact u4⟩
      · rw [has_append, has_append, has_cons, has_cons, has_cons, has_nil, Bool.or_false, Bool.or_assoc, ← Bool.or_assoc (inn p j)]
        congr 2
        unfold inn
        rw [← Bool.decide_or, decide_eq_decide]
        simp only
        omega
      · rw [total_append, total_append, total_cons, total_cons, total_cons, total_nil]; simp only; omega
    · rw [if_neg e]
      refine ⟨hP.join ⟨by omega, u2, u3, u4⟩ fun r hr => ⟨?_, u2, u3, u4⟩, fun j => has_append _ _ _, total_append _ _⟩
      show r.1 + r.2 + 1 ≤ a
      rcases List.mem_append.1 hr with hr | hr
      · have := (k3 r hr).1
        omega
      · obtain rfl := List.mem_singleton.1 hr
        omega
theorem post_free {rs : List R} (h : Fine 0 rs) {a n : Nat} (hf : freeB rs a n = true) : Fine (a + n) (post rs (a : Nat)) := by
  have h2 := (h.pre (a : Nat)).2.1
  unfold freeB at hf
  revert hf h2
  cases post rs (a : Nat) with
  | nil => exact fun _ _ => trivial
  | cons r Q =>
    intro hf h2
    have hf : (!decide (r.1 < a + n)) = true := hf
    rw [Bool.not_eq_true', decide_eq_false_iff_not] at hf
    exact ⟨by omega, h2.2⟩
theorem add_ok {rs : List R} (h : Fine 0 rs) {a n : Nat} (hn : 1 ≤ n) (hv : a + n ≤ 65536) (hf : freeB rs a n = true) :
    Fine 0 (addV rs a n) ∧ (∀ j, has (addV rs a n) j = (has rs j || inn (a, n) j)) ∧ total (addV rs a n) = total rs + n := by
  obtain ⟨h1, _, _⟩ := h.pre (a : Nat)
  have h2 := post_free h hf
  obtain ⟨m, Q', e, u1, u2, u3⟩ := up_ok hn hv h2
  obtain ⟨d1, d2, d3⟩ := down_ok h1 u1 fun r hr => by have := pre_low r hr; omega
  unfold addV
  rw [e]
  refine ⟨d1, fun j => ?_, ?_⟩
  · rw [d2, u2, has_parts rs (a : Nat) j, Bool.or_comm (inn _ _), ← Bool.or_assoc]
  · rw [d3, u3]
    have : total rs = total (pre rs (a : Nat)) + total (post rs (a : Nat)) := by rw [← total_append, pre_post]
    omega
theorem rest_ok {r : R} {a n : Nat} (hn : 1 ≤ n) (h1 : r.1 ≤ a) (h2 : a + n ≤ r.1 + r.2) (h3 : r.1 + r.2 ≤ 65536) {Q : List R} (hq : Fine (r.1 + r.2 + 1) Q) :
    Fine r.1 (rest r a n ++ Q) ∧ (∀ j, has (rest r a n) j = (inn r j && !inn (a, n) j)) ∧ total (rest r a n) + n = r.2 := by
  obtain ⟨b, m⟩ := r
  simp only at h1 h2 h3 hq
  unfold rest
  simp only
  by_cases c1 : b < a
  · rw [if_pos c1]
    by_cases c2 : a + n < b + m
    · rw [if_pos c2]
      refine ⟨⟨Nat.le_refl _, by simp only; omega, by simp only; omega, by simp only; omega, by simp only; omega, by simp only; omega, ?_⟩, fun j => ?_, ?_⟩
      · show Fine (a + n + (b + m - (a + n)) + 1) Q
        rw [show a + n + (b + m - (a + n)) + 1 = b + m + 1 by omega]; exact hq
      · rw [has_append, has_cons, has_nil, has_cons, has_nil]
        unfold inn
        simp only [Bool.or_false, ← Bool.decide_or, ← decide_not, ← Bool.decide_and, decide_eq_decide]
        omega
      · rw [total_append, total_cons, total_cons, total_nil]; simp only; omega
    · rw [if_neg c2]
      refine ⟨⟨Nat.le_refl _, by simp only; omega, by simp only; omega, hq.weak (show b + (a - b) + 1 ≤ b + m + 1 by omega)⟩, fun j => ?_, ?_⟩
      · rw [has_append, has_cons, has_nil]
        unfold inn
        simp only [Bool.or_false, ← decide_not, ← Bool.decide_and, decide_eq_decide]
        omega
      · rw [total_append, total_cons, total_nil]; simp only; omega
  · rw [if_neg c1]
    by_cases c2 : a + n < b + m
    · rw [if_pos c2]
      refine ⟨⟨by simp only; omega, by simp only; omega, by simp only; omega, ?_⟩, fun j => ?_, ?_⟩
      · show Fine (a + n + (b + m - (a + n)) + 1) Q
        rw [show a + n + (b + m - (a + n)) + 1 = b + m + 1 by omega]; exact hq
      · rw [has_append, has_cons, has_nil]
        unfold inn
        simp only [Bool.or_false, Bool.false_or, ← decide_not, ← Bool.decide_and, decide_eq_decide]
        omega
      · rw [total_append, total_cons, total_nil]; simp only; omega
    · rw [if_neg c2]
      refine ⟨hq.weak (show b ≤ b + m + 1 by omega), fun j => ?_, ?_⟩
      · rw [has_append, has_nil]
        unfold inn
        simp only [← decide_not, ← Bool.decide_and]
        exact (decide_eq_false (by omega)).symm
      · rw [total_append, total_nil]
        show 0 + 0 + n = m
        omega
theorem cut_ok {rs : List R} (h : Fine 0 rs) {a n : Nat} (hn : 1 ≤ n) (hf : allB rs a n = true) :
    Fine 0 (cutV rs a n) ∧ (∀ j, has (cutV rs a n) j = (has rs j && !inn (a, n) j)) ∧ total (cutV rs a n) + n = total rs := by
  obtain ⟨h1, h2, h3⟩ := h.pre (a : Nat)
  have hpl : ∀ r ∈ Rn.pre rs (a : Nat), ((r.1 + r.2 : Nat) : Int) ≤ (a : Nat) := pre_low
  have hpn : ∀ j : Nat, (a : Int) ≤ (j : Int) → has (Rn.pre rs (a : Nat)) j = false := fun j hj => pre_no hj
  have hparts := has_parts rs (a : Nat)
  have htot : total rs = total (Rn.pre rs (a : Nat)) + total (post rs (a : Nat)) := by rw [← total_append, pre_post]
  unfold allB at hf
  unfold cutV
  revert hf h2 h3 hparts htot
  cases post rs (a : Nat) with
  | nil => intro hf; cases hf
  | cons r Q =>
    intro hf h2 h3 hparts htot
    obtain ⟨g1, g2⟩ := of_decide_eq_true hf
    obtain ⟨e1, e2, e3⟩ := rest_ok hn g1 g2 h2.2.2.1 h2.2.2.2
    have hlow : ∀ j, has (Rn.pre rs (a : Nat)) j = true → inn (a, n) j = false := fun j hj => by
      refine inn_no _ _ fun hc => ?_
      rw [hpn j (by simp only at hc; omega)] at hj
      cases hj
    refine ⟨h1.join (e1.weak (Nat.zero_le _)) fun x hx => e1.weak (h3 x hx).1, fun j => ?_, ?_⟩
    · rw [hparts, has_append, has_append, e2, has_cons]
      have hq : has Q j = true → inn (a, n) j = false := fun hj => by
        refine inn_no _ _ fun hc => ?_
        rw [h2.2.2.2.low j (by simp only at hc; omega)] at hj
        cases hj
      cases x1 : has (Rn.pre rs (a : Nat)) j with
      | true => rw [hlow j x1]; rfl
      | false =>
        cases x2 : has Q j with
        | true => rw [hq x2]; simp
        | false => simp
    · rw [htot, total_append, total_append, total_cons]
      omega
theorem add_back {rs : List R} (h : Fine 0 rs) {a n : Nat} (hn : 1 ≤ n) (hv : a + n ≤ 65536) (hf : freeB rs a n = true) : allB (addV rs a n) a n = true ∧ cutV (addV rs a n) a n = rs := by
  obtain ⟨a1, a2, _⟩ := add_ok h hn hv hf
  have ha : allB (addV rs a n) a n = true := (all_iff a1 a n hn).2 fun j j1 j2 => by rw [a2, (inn_iff _ _).2 ⟨j1, j2⟩, Bool.or_true]
  obtain ⟨c1, c2, _⟩ := cut_ok a1 hn ha
  refine ⟨ha, c1.same h fun j => ?_⟩
  rw [c2, a2]
  cases hi : inn (a, n) j with
  | true =>
    have := (inn_iff _ _).1 hi
    rw [(free_iff h a n hn).1 hf j this.1 this.2]
    rfl
  | false => simp
theorem cut_back {rs : List R} (h : Fine 0 rs) {a n : Nat} (hn : 1 ≤ n) (hv : a + n ≤ 65536) (hf : allB rs a n = true) : freeB (cutV rs a n) a n = true ∧ addV (cutV rs a n) a n = rs := by
  obtain ⟨c1, c2, _⟩ := cut_ok h hn hf
  have ha : freeB (cutV rs a n) a n = true := (free_iff c1 a n hn).2 fun j j1 j2 => by rw [c2, (inn_iff _ _).2 ⟨j1, j2⟩]; simp
  obtain ⟨a1, a2, _⟩ := add_ok c1 hn hv ha
  refine ⟨ha, a1.same h fun j => ?_⟩
  rw [a2, c2]
  cases hi : inn (a, n) j with
  | true =>
    have := (inn_iff _ _).1 hi
    rw [(all_iff h a n hn).1 hf j this.1 this.2]
    rfl
  | false => simp

/-! ### Of, First -/
def innI (r : R) (i : Int) : Bool := decide (((r.1 : Nat) : Int) ≤ i ∧ i < ((r.1 + r.2 : Nat) : Int))
theorem ofO_find {rs : List R} (h : Fine 0 rs) (i : Int) : ofO rs i = rs.find? (innI · i) := by
  obtain ⟨h1, h2, h3⟩ := h.pre i
  have hn : (pre rs i).find? (innI · i) = none := List.find?_eq_none.2 fun r hr hc => by
    have := pre_low r hr
    have := of_decide_eq_true hc
    omega
  have hr : rs.find? (innI · i) = (post rs i).find? (innI · i) := by
    have e := List.find?_append (xs := pre rs i) (ys := post rs i) (p := (innI · i))
    rw [pre_post, hn] at e
    exact e
  rw [hr]
  unfold ofO
  cases hp : post rs i with
  | nil => rfl
  | cons r Q =>
    have hh := post_head hp
    rw [hp] at h2
    show (if ((r.1 : Nat) : Int) ≤ i then some r else none) = _
    rw [List.find?_cons]
    by_cases c : ((r.1 : Nat) : Int) ≤ i
    · rw [if_pos c, show innI r i = true from decide_eq_true ⟨c, hh⟩]
    · rw [if_neg c, show innI r i = false from decide_eq_false fun hc => c hc.1]
      refine (List.find?_eq_none.2 fun q hq hc => ?_).symm
      have h5 := h2.2.2.2.mem q hq
      have := of_decide_eq_true hc
      omega
theorem find_some {p : R → Bool} : ∀ (rs : List R), (rs.find? p).isSome = rs.any p
  | [] => rfl
  | r :: rs => by
    rw [List.find?_cons, List.any_cons]
    cases p r with
    | true => rfl
    | false => rw [Bool.false_or]; exact find_some rs
def hasI (rs : List R) (i : Int) : Bool := (ofO rs i).isSome
theorem hasI_has {rs : List R} (h : Fine 0 rs) (i : Int) : hasI rs i = (decide (0 ≤ i) && has rs i.toNat) := by
  unfold hasI has
  rw [ofO_find h, find_some]
  by_cases h0 : 0 ≤ i
  · rw [decide_eq_true h0, Bool.true_and]
    congr 1
    funext r
    unfold innI inn
    rw [decide_eq_decide]
    omega
  · rw [decide_eq_false h0, Bool.false_and, List.any_eq_false]
    intro r _ hc
    have := of_decide_eq_true hc
    omega
/-- Each run is told of its numbers. -/
theorem ofO_mem {A B : List R} {r : R} (h : Fine 0 (A ++ r :: B)) (i : Int) (h1 : ((r.1 : Nat) : Int) ≤ i) (h2 : i < ((r.1 + r.2 : Nat) : Int)) : ofO (A ++ r :: B) i = some r := by
  rw [ofO_find h]
  obtain ⟨a1, a2, a3⟩ := h.append
  rw [List.find?_append, List.find?_eq_none.2, List.find?_cons, show innI r i = true from decide_eq_true ⟨h1, h2⟩]
  · rfl
  · intro q hq hc
    have := (a3 q hq).1
    have := of_decide_eq_true hc
    omega
theorem hasI_end {A B : List R} {r : R} (h : Fine 0 (A ++ r :: B)) : hasI (A ++ r :: B) ((r.1 + r.2 : Nat) : Int) = false := by
  rw [hasI_has h, Int.toNat_natCast, has_append, has_cons, inn_no _ _ (by omega)]
  obtain ⟨a1, a2, a3⟩ := h.append
  have h5 : has A (r.1 + r.2) = false := by
    unfold has
    rw [List.any_eq_false]
    intro q hq hc
    have := (a3 q hq).1
    have := (inn_iff _ _).1 hc
    omega
  rw [h5, a2.2.2.2.low _ (by omega)]
  simp
def fits (n fr : Int) (r : R) : Bool := decide (n ≤ ((r.1 + r.2 : Nat) : Int) - max ((r.1 : Nat) : Int) fr)
/-- Where the first n numbers from fr on begin. -/
def firstO (rs : List R) (n fr : Int) : Option Int := if 1 ≤ n then (rs.find? (fits n fr)).map (fun r => max ((r.1 : Nat) : Int) fr) else none
theorem firstO_some {rs : List R} (h : Fine 0 rs) {n fr x : Int} (hx : firstO rs n fr = some x) : 1 ≤ n ∧ 0 ≤ x ∧ fr ≤ x ∧ x + n ≤ 65536 ∧ allB rs x.toNat n.toNat = true := by
  unfold firstO at hx
  split at hx
  · rename_i hn
    cases hf : rs.find? (fits n fr) with
    | none => rw [hf] at hx; cases hx
    | some r =>
      rw [hf] at hx
      have hx : some (max ((r.1 : Nat) : Int) fr) = some x := hx
      injection hx with hx
      subst hx
      have hr := List.mem_of_find?_eq_some hf
      have hp : fits n fr r = true := List.find?_some hf
      have hp := of_decide_eq_true hp
      have hm := h.mem r hr
      refine ⟨hn, by omega, by omega, by omega, (all_iff h _ _ (by omega)).2 fun j j1 j2 => ?_⟩
      unfold has
      rw [List.any_eq_true]
      exact ⟨r, hr, (inn_iff _ _).2 (by omega)⟩
  · cases hx
end Go.Proofs.Ytbgonppichdhiaa.Rn
