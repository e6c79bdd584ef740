/-
  Plain facts on rising runs of numbers, no two of which meet or touch: what Add, Cut, Of, First make of them, and the row of bits that they are.
-/
import Derived.Test.YtbgonppichdhiaaRunRow
namespace Go.Proofs.Ytbgonppichdhiaa.Rn
open Go.Proofs.Ytbgonppichdhiaa.Bt
set_option linter.unusedVariables false

abbrev R := Nat × Nat
/-- They rise from lo on, each with a gap ahead of the next one. -/
def Fine : Nat → List R → Prop
  | _, [] => True
  | lo, r :: rs => lo ≤ r.1 ∧ 1 ≤ r.2 ∧ r.1 + r.2 ≤ 65536 ∧ Fine (r.1 + r.2 + 1) rs
/-- Has a run the number? -/
def inn (r : R) (j : Nat) : Bool := decide (r.1 ≤ j ∧ j < r.1 + r.2)
def has (rs : List R) (j : Nat) : Bool := rs.any (inn · j)
theorem has_nil (j : Nat) : has [] j = false := rfl
theorem has_cons (r : R) (rs : List R) (j : Nat) : has (r :: rs) j = (inn r j || has rs j) := rfl
theorem has_append (a b : List R) (j : Nat) : has (a ++ b) j = (has a j || has b j) := by unfold has; exact List.any_append
theorem inn_iff (r : R) (j : Nat) : inn r j = true ↔ r.1 ≤ j ∧ j < r.1 + r.2 := by unfold inn; exact decide_eq_true_iff
theorem inn_no (r : R) (j : Nat) (h : ¬ (r.1 ≤ j ∧ j < r.1 + r.2)) : inn r j = false := by unfold inn; exact decide_eq_false h
theorem Fine.weak {lo lo' : Nat} : ∀ {rs : List R}, Fine lo rs → lo' ≤ lo → Fine lo' rs
  | [], _, _ => trivial
  | r :: rs, ⟨a, b, c, d⟩, h => ⟨Nat.le_trans h a, b, c, d⟩
theorem Fine.low {lo : Nat} : ∀ {rs : List R}, Fine lo rs → ∀ j, j < lo → has rs j = false
  | [], _, _, _ => rfl
  | r :: rs, ⟨a, b, c, d⟩, j, h => by rw [has_cons, inn_no _ _ (by omega), d.low j (by omega)]; rfl
theorem Fine.high {lo : Nat} : ∀ {rs : List R}, Fine lo rs → ∀ j, 65536 ≤ j → has rs j = false
  | [], _, _, _ => rfl
  | r :: rs, ⟨a, b, c, d⟩, j, h => by rw [has_cons, inn_no _ _ (by omega), d.high j h]; rfl
theorem Fine.append {lo : Nat} : ∀ {a b : List R}, Fine lo (a ++ b) → Fine lo a ∧ Fine lo b ∧ (∀ r ∈ a, Fine (r.1 + r.2 + 1) b)
  | [], b, h => ⟨trivial, h, fun r hr => by cases hr⟩
  | r :: a, b, ⟨h1, h2, h3, h4⟩ => by
    obtain ⟨k1, k2, k3⟩ := Fine.append h4
    refine ⟨⟨h1, h2, h3, k1⟩, k2.weak (by omega), fun x hx => ?_⟩
    rcases List.mem_cons.1 hx with rfl | hx
    · exact k2
    · exact k3 x hx
/-- What begins behind all of a is fine behind it. -/
theorem Fine.join {lo : Nat} : ∀ {a b : List R}, Fine lo a → Fine lo b → (∀ r ∈ a, Fine (r.1 + r.2 + 1) b) → Fine lo (a ++ b)
  | [], b, _, h, _ => h
  | r :: a, b, ⟨h1, h2, h3, h4⟩, _, hb => ⟨h1, h2, h3, h4.join (hb r (by simp)) fun x hx => hb x (List.mem_cons_of_mem _ hx)⟩
theorem Fine.mem {lo : Nat} : ∀ {rs : List R}, Fine lo rs → ∀ r ∈ rs, lo ≤ r.1 ∧ 1 ≤ r.2 ∧ r.1 + r.2 ≤ 65536
  | [], _, r, h => by cases h
  | x :: rs, ⟨a, b, c, d⟩, r, h => by
    rcases List.mem_cons.1 h with rfl | h
    · exact ⟨a, b, c⟩
    · have := d.mem r h
      exact ⟨by omega, this.2.1, this.2.2⟩
theorem Fine.len {lo : Nat} : ∀ {rs : List R}, Fine lo rs → lo + rs.length ≤ 65537 ∨ rs = []
  | [], _ => .inr rfl
  | r :: rs, ⟨a, b, c, d⟩ => by
    left
    rcases d.len with h | rfl
    · rw [List.length_cons]; omega
    · rw [List.length_singleton]; omega
theorem Fine.len0 {lo : Nat} {rs : List R} (h : Fine lo rs) : rs.length ≤ 65537 := by
  rcases h.len with h | rfl
  · omega
  · simp

/-! ### The bits that they are -/
def bitsOf (rs : List R) : List Bool := (List.range 65536).map (has rs)
theorem bitsOf_length (rs : List R) : (bitsOf rs).length = 65536 := by unfold bitsOf; rw [List.length_map, List.length_range]
theorem bitsOf_bit {lo : Nat} {rs : List R} (h : Fine lo rs) (j : Nat) : bit (bitsOf rs) j = has rs j := by
  by_cases hj : j < 65536
  · unfold bit bitsOf
    rw [List.getD, List.getElem?_map, List.getElem?_range hj]
    rfl
  · rw [bit_out _ _ (by rw [bitsOf_length]; omega), h.high j (by omega)]
theorem runsTo_tail (bs : List Bool) : ∀ (rs : List R) (lo : Nat), Fine lo rs → lo ≤ 65537 → (∀ j, lo ≤ j → bit bs j = has rs j) → (lo = 0 ∨ bit bs (lo - 1) = false) → runsTo bs 65537 = runsTo bs lo ++ rs
  | [], lo, _, hl, hb, _ => by
    rw [List.append_nil]
    exact runsTo_clear hl fun j h1 _ => hb j h1
  | r :: rs, lo, ⟨h1, h2, h3, h4⟩, hl, hb, h0 => by
    obtain ⟨a, l⟩ := r
    simp only at h1 h2 h3 h4
    have hin : ∀ j, a ≤ j → j < a + l → bit bs j = true := fun j j1 j2 => by rw [hb j (by omega), has_cons, (inn_iff _ _).2 ⟨j1, j2⟩]; rfl
    have hout : ∀ j, lo ≤ j → j < a → bit bs j = false := fun j j1 j2 => by rw [hb j j1, has_cons, inn_no _ _ (by simp only; omega), h4.low j (by omega)]; rfl
    have hend : bit bs (a + l) = false := by rw [hb _ (by omega), has_cons, inn_no _ _ (by simp only; omega), h4.low _ (by omega)]; rfl
    have ha : a = 0 ∨ bit bs (a - 1) = false := by
      by_cases e : a = lo
      · subst e; exact h0
      · exact .inr (hout _ (by omega) (by omega))
    have e1 : runsTo bs a = runsTo bs lo := runsTo_clear h1 hout
    have e2 := runsTo_set (show a < a + l by omega) ha hin
    have e3 : runsTo bs (a + l + 1) = runsTo bs (a + l) := runsTo_clear (by omega) fun j j1 j2 => by rw [show j = a + l by omega]; exact hend
    have ih := runsTo_tail bs rs (a + l + 1) h4 (by omega) (fun j j1 => by rw [hb j (by omega), has_cons, inn_no _ _ (by simp only; omega)]; rfl) (.inr (by rw [show a + l + 1 - 1 = a + l by omega]; exact hend))
    rw [ih, e3, e2, e1, show a + l - a = l by omega, List.append_assoc]
    rfl
theorem runs_of {bs : List Bool} {rs : List R} (hl : bs.length = 65536) (hf : Fine 0 rs) (hb : ∀ j, bit bs j = has rs j) : runsV bs = rs := by
  have h := runsTo_tail bs rs 0 hf (by omega) (fun j _ => hb j) (.inl rfl)
  have e : runsTo bs 65537 = runsTo bs 65536 := runsTo_clear (by omega) fun j j1 j2 => by rw [show j = 65536 by omega]; exact bit_out _ _ (by omega)
  unfold runsV
  rw [hl, ← e, h]
  rfl
/-- The same numbers: the same runs. -/
theorem Fine.same {a b : List R} (ha : Fine 0 a) (hb : Fine 0 b) (h : ∀ j, has a j = has b j) : a = b := by
  rw [← runs_of (bitsOf_length a) ha (bitsOf_bit ha), runs_of (bitsOf_length a) hb fun j => by rw [bitsOf_bit ha, h]]

/-! ### How many numbers -/
def total (rs : List R) : Nat := (rs.map (·.2)).sum
theorem total_nil : total [] = 0 := rfl
theorem total_cons (r : R) (rs : List R) : total (r :: rs) = r.2 + total rs := by simp [total]
theorem total_append (a b : List R) : total (a ++ b) = total a + total b := by simp [total]
theorem cnt_false (f : Nat → Bool) : ∀ k, (∀ j, j < k → f j = false) → cnt f k = 0
  | 0, _ => rfl
  | k + 1, h => by
    show cnt f k + (f k).toNat = 0
    rw [cnt_false f k fun j hj => h j (by omega), h k (by omega)]
    rfl
theorem cnt_true (f : Nat → Bool) : ∀ k, (∀ j, j < k → f j = true) → cnt f k = k
  | 0, _ => rfl
  | k + 1, h => by
    show cnt f k + (f k).toNat = k + 1
    rw [cnt_true f k fun j hj => h j (by omega), h k (by omega)]
    rfl
theorem cnt_pos (f : Nat → Bool) : ∀ k, (∃ j, j < k ∧ f j = true) → 0 < cnt f k
  | 0, ⟨j, h, _⟩ => by omega
  | k + 1, ⟨j, h, hf⟩ => by
    show 0 < cnt f k + (f k).toNat
    by_cases e : j = k
    · subst e
      rw [hf]
      show 0 < cnt f j + 1
      omega
    · have := cnt_pos f k ⟨j, by omega, hf⟩
      omega
theorem cnt_lt (f : Nat → Bool) : ∀ k, (∃ j, j < k ∧ f j = false) → cnt f k < k
  | 0, ⟨j, h, _⟩ => by omega
  | k + 1, ⟨j, h, hf⟩ => by
    show cnt f k + (f k).toNat < k + 1
    have hl := cnt_le f k
    by_cases e : j = k
    · subst e
      rw [hf]
      show cnt f j + 0 < j + 1
      omega
    · have := cnt_lt f k ⟨j, by omega, hf⟩
      have : (f k).toNat ≤ 1 := by cases f k <;> decide
      omega
theorem cnt_total : ∀ (rs : List R) (lo : Nat), Fine lo rs → lo ≤ 65537 → cnt (fun j => has rs (lo + j)) (65537 - lo) = total rs
  | [], lo, _, hl => cnt_false _ _ fun j _ => rfl
  | r :: rs, lo, ⟨h1, h2, h3, h4⟩, hl => by
    obtain ⟨a, l⟩ := r
    simp only at h1 h2 h3 h4
    have ih := cnt_total rs (a + l + 1) h4 (by omega)
    rw [show 65537 - lo = (a - lo) + (l + (1 + (65537 - (a + l + 1)))) by omega, cnt_add, cnt_add, cnt_add, total_cons]
    have c1 : cnt (fun j => has ((a, l) :: rs) (lo + j)) (a - lo) = 0 := cnt_false _ _ fun j hj => by rw [has_cons, inn_no _ _ (by simp only; omega), h4.low _ (by omega)]; rfl
    have c2 : cnt (fun j => (fun j => has ((a, l) :: rs) (lo + j)) (a - lo + j)) l = l := cnt_true _ _ fun j hj => by
      show has ((a, l) :: rs) (lo + (a - lo + j)) = true
      rw [has_cons, (inn_iff _ _).2 (by simp only; omega)]; rfl
    have c3 : cnt (fun j => (fun j => (fun j => has ((a, l) :: rs) (lo + j)) (a - lo + j)) (l + j)) 1 = 0 := cnt_false _ _ fun j hj => by
      show has ((a, l) :: rs) (lo + (a - lo + (l + j))) = false
      rw [has_cons, inn_no _ _ (by simp only; omega), h4.low _ (by omega)]; rfl
    have c4 : cnt (fun j => (fun j => (fun j => (fun j => has ((a, l) :: rs) (lo + j)) (a - lo + j)) (l + j)) (1 + j)) (65537 - (a + l + 1)) = total rs := by
      rw [← ih]
      refine cnt_congr _ fun j hj => ?_
      show has ((a, l) :: rs) (lo + (a - lo + (l + (1 + j)))) = has rs (a + l + 1 + j)
      rw [has_cons, inn_no _ _ (by simp only; omega), show lo + (a - lo + (l + (1 + j))) = a + l + 1 + j by omega]; rfl
    rw [c1, c2, c3, c4]
    omega
theorem cnt_all {rs : List R} (h : Fine 0 rs) : cnt (has rs) 65536 = total rs := by
  have h1 := cnt_total rs 0 h (by omega)
  have h2 : has rs 65536 = false := h.high _ (by omega)
  obtain ⟨N, hN⟩ : ∃ N : Nat, N = 65536 := ⟨_, rfl⟩
  rw [show 65537 - 0 = N + 1 by omega] at h1
  rw [← hN] at h2 ⊢
  have e : cnt (fun j => has rs (0 + j)) (N + 1) = cnt (fun j => has rs (0 + j)) N + (has rs (0 + N)).toNat := rfl
  rw [e, Nat.zero_add, h2] at h1
  rw [← h1]
  exact (cnt_congr N fun j _ => by rw [Nat.zero_add])
theorem total_le {rs : List R} (h : Fine 0 rs) : total rs ≤ 65536 := by rw [← cnt_all h]; exact cnt_le _ _

/-! ### Below a number, and from it on -/
def lowB (i : Int) (r : R) : Bool := decide (((r.1 + r.2 : Nat) : Int) ≤ i)
def pre (rs : List R) (i : Int) : List R := rs.takeWhile (lowB i)
def post (rs : List R) (i : Int) : List R := rs.dropWhile (lowB i)
theorem pre_post (rs : List R) (i : Int) : pre rs i ++ post rs i = rs := List.takeWhile_append_dropWhile
theorem takeWhile_all {p : R → Bool} : ∀ {rs : List R}, ∀ r ∈ rs.takeWhile p, p r = true
  | [], r, h => by cases h
  | x :: rs, r, h => by
    rw [List.takeWhile_cons] at h
    split at h
    · rcases List.mem_cons.1 h with rfl | h
      · assumption
      · exact takeWhile_all r h
    · cases h
theorem pre_low {rs : List R} {i : Int} : ∀ r ∈ pre rs i, ((r.1 + r.2 : Nat) : Int) ≤ i := fun r h => by
  have := takeWhile_all r h
  unfold lowB at this
  exact of_decide_eq_true this
theorem post_head {rs : List R} {i : Int} {r : R} {Q : List R} (h : post rs i = r :: Q) : i < ((r.1 + r.2 : Nat) : Int) := by
  have := List.head?_dropWhile_not (lowB i) rs
  unfold post at h
  rw [h] at this
  simp only [List.head?_cons] at this
  unfold lowB at this
  have := of_decide_eq_false this
  omega
/-- The run that has the number. -/
def ofO (rs : List R) (i : Int) : Option R := match post rs i with
  | [] => none
  | r :: _ => if ((r.1 : Nat) : Int) ≤ i then some r else none
def valid (a n : Int) : Bool := decide (0 ≤ a ∧ 1 ≤ n ∧ n ≤ 65536 - a)
theorem valid_iff (a n : Int) : valid a n = true ↔ 0 ≤ a ∧ 1 ≤ n ∧ n ≤ 65536 - a := by unfold valid; exact decide_eq_true_iff
/-- Is no number of the run there? -/
def freeB (rs : List R) (a n : Nat) : Bool := match post rs (a : Nat) with
  | [] => true
  | r :: _ => !decide (r.1 < a + n)
/-- Are all? -/
def allB (rs : List R) (a n : Nat) : Bool := match post rs (a : Nat) with
  | [] => false
  | r :: _ => decide (r.1 ≤ a ∧ a + n ≤ r.1 + r.2)
/-- The run, and those behind it, the first one of which it may touch. -/
def up (r : R) : List R → List R
  | [] => [r]
  | q :: Q => if q.1 = r.1 + r.2 then (r.1, r.2 + q.2) :: Q else r :: q :: Q
/-- And those ahead of it, the last one of which may touch it. -/
def down : List R → List R → List R
  | P, [] => P
  | P, q :: Q => match P.getLast? with
    | none => q :: Q
    | some p => if q.1 = p.1 + p.2 then P.dropLast ++ (p.1, p.2 + q.2) :: Q else P ++ q :: Q
def addV (rs : List R) (a n : Nat) : List R := down (pre rs (a : Nat)) (up (a, n) (post rs (a : Nat)))
/-- What is left of a run. -/
def rest (r : R) (a n : Nat) : List R := (if r.1 < a then [(r.1, a - r.1)] else []) ++ (if a + n < r.1 + r.2 then [(a + n, r.1 + r.2 - (a + n))] else [])
def cutV (rs : List R) (a n : Nat) : List R := match post rs (a : Nat) with
  | [] => rs
  | r :: Q => pre rs (a : Nat) ++ (rest r a n ++ Q)

theorem Fine.pre {rs : List R} {lo : Nat} (h : Fine lo rs) (i : Int) : Fine lo (pre rs i) ∧ Fine lo (post rs i) ∧ ∀ r ∈ Rn.pre rs i, Fine (r.1 + r.2 + 1) (post rs i) := Fine.append (by rw [pre_post]; exact h)
theorem pre_no {rs : List R} {i : Int} {j : Nat} (h : i ≤ j) : has (pre rs i) j = false := by
  unfold has
  rw [List.any_eq_false]
  intro r hr
  have := pre_low r hr
  rw [inn_no _ _ (by omega)]
  decide
theorem has_parts (rs : List R) (i : Int) (j : Nat) : has rs j = (has (pre rs i) j || has (post rs i) j) := by rw [← has_append, pre_post]
theorem free_iff {rs : List R} (h : Fine 0 rs) (a n : Nat) (hn : 1 ≤ n) : freeB rs a n = true ↔ ∀ j, a ≤ j → j < a + n → has rs j = false := by
  obtain ⟨h1, h2, h3⟩ := h.pre (a : Nat)
  unfold freeB
  constructor
  · intro hf j j1 j2
    rw [has_parts rs (a : Nat) j, pre_no (by omega), Bool.false_or]
    revert hf h2
    cases post rs (a : Nat) with
    | nil => exact fun _ _ => rfl
    | cons r Q =>
      intro h2 hf
      have hf : (!decide (r.1 < a + n)) = true := hf
      rw [Bool.not_eq_true', decide_eq_false_iff_not] at hf
      have h2' : Fine r.1 (r :: Q) := ⟨Nat.le_refl _, h2.2⟩
      exact h2'.low j (by omega)
  · intro hf
    cases hp : post rs (a : Nat) with
    | nil => rfl
    | cons r Q =>
      show (!decide (r.1 < a + n)) = true
      rw [Bool.not_eq_true', decide_eq_false_iff_not]
      intro hlt
      have hh := post_head hp
      rw [hp] at h2
      have h22 := h2.2.1
      have := hf (max a r.1) (by omega) (by omega)
      rw [has_parts rs (a : Nat), hp, has_cons, (inn_iff _ _).2 (by omega)] at this
      simp at this
theorem all_iff {rs : List R} (h : Fine 0 rs) (a n : Nat) (hn : 1 ≤ n) : allB rs a n = true ↔ ∀ j, a ≤ j → j < a + n → has rs j = true := by
  obtain ⟨h1, h2, h3⟩ := h.pre (a : Nat)
  unfold allB
  constructor
  · intro hf j j1 j2
    rw [has_parts rs (a : Nat) j]
    revert hf
    cases post rs (a : Nat) with
    | nil => intro hf; cases hf
    | cons r Q =>
      intro hf
      have hf := of_decide_eq_true hf
      rw [has_cons, (inn_iff _ _).2 (by omega)]
      simp
  · intro hf
    cases hp : post rs (a : Nat) with
    | nil =>
      have := hf a (Nat.le_refl _) (by omega)
      rw [has_parts rs (a : Nat), hp, pre_no (by omega)] at this
      cases this
    | cons r Q =>
      rw [hp] at h2
      have hh := post_head hp
      have key : ∀ j, a ≤ j → j < a + n → inn r j = true ∨ has Q j = true := fun j j1 j2 => by
        have := hf j j1 j2
        rw [has_parts rs (a : Nat), hp, pre_no (by omega), has_cons, Bool.false_or, Bool.or_eq_true] at this
        exact this
      have ka : r.1 ≤ a := by
        rcases key a (Nat.le_refl _) (by omega) with h4 | h4
        · exact ((inn_iff _ _).1 h4).1
        · rw [h2.2.2.2.low a (by omega)] at h4; cases h4
      refine decide_eq_true ⟨ka, ?_⟩
      rcases Nat.lt_or_ge (r.1 + r.2) (a + n) with hlt | hge
      · rcases key (r.1 + r.2) (by omega) hlt with h4 | h4
        · have := (inn_iff _ _).1 h4; omega
        · rw [h2.2.2.2.low _ (by omega)] at h4; cases h4
      · exact hge
end Go.Proofs.Ytbgonppichdhiaa.Rn
