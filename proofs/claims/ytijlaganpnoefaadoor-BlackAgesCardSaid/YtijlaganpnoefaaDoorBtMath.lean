/-
  Plain facts on rows of bools, and on words of 64 bits that hold them. No program is named here.
-/
import Derived.Test.YtijlaganpnoefaaDoorWordMath
namespace Go.Proofs.YtijlaganpnoefaaDoor.Bt
open Go.Proofs.YtijlaganpnoefaaDoor.Wd

/-- How many of k are so. -/
def cnt (f : Nat → Bool) : Nat → Nat
  | 0 => 0
  | k + 1 => cnt f k + (f k).toNat
theorem cnt_le (f : Nat → Bool) (k : Nat) : cnt f k ≤ k := by
  induction k with
  | zero => exact Nat.le_refl _
  | succ k ih =>
    have : (f k).toNat ≤ 1 := by cases f k <;> decide
    show cnt f k + (f k).toNat ≤ k + 1
    omega
theorem cnt_congr {f g : Nat → Bool} (k : Nat) (h : ∀ j, j < k → f j = g j) : cnt f k = cnt g k := by
  induction k with
  | zero => rfl
  | succ k ih =>
    show cnt f k + (f k).toNat = cnt g k + (g k).toNat
    rw [ih fun j hj => h j (by omega), h k (by omega)]
theorem cnt_add (f : Nat → Bool) (a b : Nat) : cnt f (a + b) = cnt f a + cnt (fun j => f (a + j)) b := by
  induction b with
  | zero => rfl
  | succ b ih =>
    show cnt f (a + b) + (f (a + b)).toNat = cnt f a + (cnt (fun j => f (a + j)) b + (f (a + b)).toNat)
    omega
theorem ones_cnt (v k : Nat) : ones v k = cnt v.testBit k := by
  induction k with
  | zero => rfl
  | succ k ih =>
    show ones v k + v / 2 ^ k % 2 = cnt v.testBit k + (v.testBit k).toNat
    rw [ih, bit_tb]
/-- The first of k from s on that is so. -/
def nextV (f : Nat → Bool) : Nat → Nat → Option Nat
  | 0, _ => none
  | k + 1, s => if f s then some s else nextV f k (s + 1)
theorem nextV_skip (f : Nat → Bool) (m : Nat) : ∀ (k s : Nat), (∀ j, j < k → f (s + j) = false) → nextV f (k + m) s = nextV f m (s + k)
  | 0, s, _ => by rw [Nat.zero_add]; rfl
  | k + 1, s, h => by
    have h0 := h 0 (by omega)
    rw [Nat.add_zero] at h0
    rw [show k + 1 + m = (k + m) + 1 by omega]
    show (if f s then some s else nextV f (k + m) (s + 1)) = _
    rw [h0, if_neg (by decide), nextV_skip f m k (s + 1) (fun j hj => by rw [show s + 1 + j = s + (j + 1) by omega]; exact h (j + 1) (by omega)), show s + 1 + k = s + (k + 1) by omega]
theorem nextV_hit (f : Nat → Bool) (k s t : Nat) (ht : t < k) (h : ∀ j, j < t → f (s + j) = false) (hf : f (s + t) = true) : nextV f k s = some (s + t) := by
  rw [show k = t + ((k - t - 1) + 1) by omega, nextV_skip f _ t s h]
  show (if f (s + t) then some (s + t) else _) = _
  rw [hf, if_pos rfl]
theorem nextV_none (f : Nat → Bool) (k s : Nat) (h : ∀ j, j < k → f (s + j) = false) : nextV f k s = none := by
  have := nextV_skip f 0 k s h
  rw [Nat.add_zero] at this
  rw [this]
  rfl
theorem nextV_some {f : Nat → Bool} : ∀ {k s x : Nat}, nextV f k s = some x → s ≤ x ∧ x < s + k ∧ f x = true ∧ ∀ j, s ≤ j → j < x → f j = false
  | 0, _, _, h => by cases h
  | k + 1, s, x, h => by
    have h' : (if f s then some s else nextV f k (s + 1)) = some x := h
    cases hs : f s with
    | true =>
      rw [hs, if_pos rfl] at h'
      injection h' with h'
      subst h'
      exact ⟨Nat.le_refl _, by omega, hs, fun j h1 h2 => by omega⟩
    | false =>
      rw [hs, if_neg (by decide)] at h'
      obtain ⟨a, b, c, d⟩ := nextV_some h'
      refine ⟨by omega, by omega, c, fun j h1 h2 => ?_⟩
      by_cases e : j = s
      · subst e; exact hs
      · exact d j (by omega) h2
theorem nextV_no {f : Nat → Bool} : ∀ {k s : Nat}, nextV f k s = none → ∀ j, s ≤ j → j < s + k → f j = false
  | 0, _, _, j, h1, h2 => by omega
  | k + 1, s, h, j, h1, h2 => by
    have h' : (if f s then some s else nextV f k (s + 1)) = none := h
    cases hs : f s with
    | true => rw [hs, if_pos rfl] at h'; cases h'
    | false =>
      rw [hs, if_neg (by decide)] at h'
      by_cases e : j = s
      · subst e; exact hs
      · exact nextV_no h' j (by omega) (by omega)
/-- The last below k that is so. -/
def prevV (f : Nat → Bool) : Nat → Option Nat
  | 0 => none
  | k + 1 => if f k then some k else prevV f k
theorem prevV_skip (f : Nat → Bool) (c : Nat) : ∀ (m : Nat), (∀ j, c ≤ j → j < c + m → f j = false) → prevV f (c + m) = prevV f c
  | 0, _ => rfl
  | m + 1, h => by
    show (if f (c + m) then some (c + m) else prevV f (c + m)) = _
    rw [h (c + m) (by omega) (by omega), if_neg (by decide)]
    exact prevV_skip f c m fun j h1 h2 => h j h1 (by omega)
theorem prevV_hit (f : Nat → Bool) (k c : Nat) (hk : k < c) (hf : f k = true) (h : ∀ j, k < j → j < c → f j = false) : prevV f c = some k := by
  have e := prevV_skip f (k + 1) (c - (k + 1)) (fun j h1 h2 => h j (by omega) (by omega))
  rw [show k + 1 + (c - (k + 1)) = c by omega] at e
  rw [e]
  show (if f k then some k else prevV f k) = _
  rw [hf, if_pos rfl]
theorem prevV_none (f : Nat → Bool) (c : Nat) (h : ∀ j, j < c → f j = false) : prevV f c = none := by
  have e := prevV_skip f 0 c (fun j _ h2 => h j (by omega))
  rw [Nat.zero_add] at e
  rw [e]
  rfl

/-- What a call answers of a place: 0 if there is none. -/
def atI (o : Option Nat) : Int := (o.getD 0 : Nat)

/-- A bit of a row; none beyond the end is set. -/
def bit (bs : List Bool) (j : Nat) : Bool := bs.getD j false
theorem bit_out (bs : List Bool) (j : Nat) (h : bs.length ≤ j) : bit bs j = false := by
  unfold bit
  rw [List.getD, List.getElem?_eq_none h]
  rfl
theorem bit_ext {a b : List Bool} (hl : a.length = b.length) (h : ∀ j, j < a.length → bit a j = bit b j) : a = b := by
  apply List.ext_getElem hl
  intro j h1 h2
  have := h j h1
  unfold bit at this
  rw [List.getD, List.getD, List.getElem?_eq_getElem h1, List.getElem?_eq_getElem h2] at this
  exact this
/-- n bits from the bit i on as st. -/
def laid (bs : List Bool) (i n : Nat) (st : Bool) : List Bool := (List.range bs.length).map fun j => if i ≤ j ∧ j < i + n then st else bit bs j
theorem laid_length (bs : List Bool) (i n : Nat) (st : Bool) : (laid bs i n st).length = bs.length := by unfold laid; rw [List.length_map, List.length_range]
theorem laid_bit (bs : List Bool) (i n : Nat) (st : Bool) (j : Nat) (hj : j < bs.length) : bit (laid bs i n st) j = if i ≤ j ∧ j < i + n then st else bit bs j := by
  have e : bit (laid bs i n st) j = (laid bs i n st).getD j false := rfl
  rw [e, laid, List.getD, List.getElem?_map, List.getElem?_range hj]
  rfl
theorem laid_none (bs : List Bool) (i : Nat) (st : Bool) : laid bs i 0 st = bs :=
  bit_ext (laid_length _ _ _ _) fun j hj => by
    rw [laid_length] at hj
    rw [laid_bit _ _ _ _ j hj, if_neg (by omega)]
theorem laid_more (bs : List Bool) (i n m : Nat) (st : Bool) : laid (laid bs i n st) (i + n) m st = laid bs i (n + m) st :=
  bit_ext (by rw [laid_length, laid_length, laid_length]) fun j hj => by
    rw [laid_length, laid_length] at hj
    rw [laid_bit _ _ _ _ j (by rw [laid_length]; exact hj), laid_bit _ _ _ _ j hj, laid_bit _ _ _ _ j hj]
    by_cases h1 : i + n ≤ j ∧ j < i + n + m
    · rw [if_pos h1, if_pos (by omega)]
    · rw [if_neg h1]
      by_cases h2 : i ≤ j ∧ j < i + n
      · rw [if_pos h2, if_pos (by omega)]
      · rw [if_neg h2, if_neg (by omega)]

/-- These words hold these bits. -/
def Means (bs : List Bool) (ws : List Int) : Prop := ∀ i, i < bs.length → bit bs i = (ws.getD (i / 64) 0).toNat.testBit (i % 64)
/-- The field that the piece from the bit s on is: its bits are the row's. -/
theorem Means.field {bs : List Bool} {ws : List Int} (h : Means bs ws) (s n j : Nat) (hn : n ≤ 64 - s % 64) (hs : s + n ≤ bs.length) (hj : j < n) :
    (fld (ws.getD (s / 64) 0).toNat (s % 64) n).testBit j = bit bs (s + j) := by
  rw [fld_tb, decide_eq_true hj, Bool.true_and, h (s + j) (by omega), show (s + j) / 64 = s / 64 by omega, show (s + j) % 64 = s % 64 + j by omega]
theorem field_beyond (v a n j : Nat) (hj : n ≤ j) : (fld v a n).testBit j = false := by
  rw [fld_tb, decide_eq_false (by omega), Bool.false_and]
theorem Means.count {bs : List Bool} {ws : List Int} (h : Means bs ws) (s n : Nat) (hn : n ≤ 64 - s % 64) (hs : s + n ≤ bs.length) :
    ones (fld (ws.getD (s / 64) 0).toNat (s % 64) n) 64 = cnt (fun j => bit bs (s + j)) n := by
  rw [ones_top _ n (fld_lt _ _ _) 64 (by omega), ones_cnt]
  exact cnt_congr n fun j hj => h.field s n j hn hs hj
/-- The lowest bit that is 1, of y: below n just if one of these is. -/
theorem low_hit (y n : Nat) (hn : n ≤ 64) (h : lowFrom y 0 64 < n) : y.testBit (lowFrom y 0 64) = true ∧ ∀ j, j < lowFrom y 0 64 → y.testBit j = false := by
  have hb : ∀ j, y / 2 ^ j % 2 = (y.testBit j).toNat := bit_tb y
  by_cases hex : ∃ t, t < 64 ∧ y.testBit t = true ∧ ∀ j, j < t → y.testBit j = false
  · obtain ⟨t, ht, h1, h2⟩ := hex
    have e := low_iff y 0 64 t (by omega) (by omega) (by rw [hb, h1]; rfl) (fun j hj => by rw [hb, h2 j hj]; rfl)
    rw [e]
    exact ⟨h1, h2⟩
  · exfalso
    have hall : ∀ t, t < 64 → y.testBit t = false := by
      intro t
      induction t using Nat.strongRecOn with
      | _ t ih =>
        intro ht
        cases hh : y.testBit t with
        | false => rfl
        | true => exact absurd ⟨t, ht, hh, fun j hj => ih j hj (by omega)⟩ hex
    have : ∀ k i, i + k = 64 → lowFrom y i k = 64 := by
      intro k
      induction k with
      | zero => intro i hi; show i = 64; omega
      | succ k ih =>
        intro i hi
        show (if y / 2 ^ i % 2 = 1 then i else lowFrom y (i + 1) k) = 64
        rw [if_neg (by rw [hb, hall i (by omega)]; decide)]
        exact ih (i + 1) (by omega)
    rw [this 64 0 rfl] at h
    omega
theorem low_miss (y n : Nat) (hn : n ≤ 64) (h : ¬ lowFrom y 0 64 < n) : ∀ j, j < n → y.testBit j = false := by
  have hb : ∀ j, y / 2 ^ j % 2 = (y.testBit j).toNat := bit_tb y
  intro j
  induction j using Nat.strongRecOn with
  | _ j ih =>
    intro hj
    cases hh : y.testBit j with
    | false => rfl
    | true =>
      exfalso
      have e := low_iff y 0 64 j (by omega) (by omega) (by rw [hb, hh]; rfl) (fun t ht => by rw [hb, ih t ht (by omega)]; rfl)
      rw [e] at h
      exact h hj
/-- The word with the piece laid anew. -/
theorem Means.put {bs : List Bool} {ws : List Int} (h : Means bs ws) (hl : ws.length = 1024) (hb : bs.length ≤ 65536) (s n : Nat) (st : Bool) (x : Nat) (hn : n ≤ 64 - s % 64) (hs : s + n ≤ bs.length) (h1 : 1 ≤ n)
    (hv : (ws.getD (s / 64) 0).toNat < 18446744073709551616) (hx : x < 2 ^ n) (hbit : ∀ j, j < n → x.testBit j = st) :
    Means (laid bs s n st) (ws.set (s / 64) ((put (ws.getD (s / 64) 0).toNat (s % 64) n x : Nat) : Int)) := by
  intro i hi
  rw [laid_length] at hi
  rw [laid_bit _ _ _ _ i hi]
  by_cases hk : i / 64 = s / 64
  · have e : (ws.set (s / 64) ((Wd.put (ws.getD (s / 64) 0).toNat (s % 64) n x : Nat) : Int)).getD (i / 64) 0 = ((Wd.put (ws.getD (s / 64) 0).toNat (s % 64) n x : Nat) : Int) := by
      rw [hk, List.getD, List.getElem?_set_self (by rw [hl]; omega)]
      rfl
    rw [e, Int.toNat_natCast, put_tb _ _ _ _ _ hv (by omega) hx]
    by_cases hc : s ≤ i ∧ i < s + n
    · rw [if_pos hc, if_pos (by omega), hbit _ (by omega)]
    · rw [if_neg hc, if_neg (by omega), h i hi, hk]
  · have e : (ws.set (s / 64) ((Wd.put (ws.getD (s / 64) 0).toNat (s % 64) n x : Nat) : Int)).getD (i / 64) 0 = ws.getD (i / 64) 0 := by
      rw [List.getD, List.getElem?_set_ne (Ne.symm hk), ← List.getD]
    rw [e, if_neg (by omega)]
    exact h i hi
/-- What a word is xored with: nothing, or all bits. -/
theorem flip_bit (x m j : Nat) (hj : j < 64) (hm : m = 0 ∨ m = 18446744073709551615) : (x ^^^ m).testBit j = (x.testBit j == decide (m = 0)) := by
  rw [Nat.testBit_xor]
  rcases hm with rfl | rfl
  · rw [Nat.zero_testBit]
    cases x.testBit j <;> rfl
  · have : (18446744073709551615 : Nat).testBit j = true := by
      rw [show (18446744073709551615 : Nat) = 2 ^ 64 - 1 from rfl, Nat.testBit_two_pow_sub_one]
      exact decide_eq_true hj
    rw [this]
    cases x.testBit j <;> rfl
/-- The highest bit of a number that is not 0. -/
theorem top_bit (x : Nat) (h : x ≠ 0) : x.testBit (Nat.log2 x) = true ∧ ∀ j, Nat.log2 x < j → x.testBit j = false := by
  have e := (Nat.log2_eq_iff h (k := Nat.log2 x)).1 rfl
  refine ⟨?_, fun j hj => Nat.testBit_lt_two_pow (Nat.lt_of_lt_of_le e.2 (Nat.pow_le_pow_right (by decide) hj))⟩
  rw [Nat.testBit_eq_decide_div_mod_eq]
  have hd : x / 2 ^ Nat.log2 x = 1 := by
    have hp := Nat.two_pow_pos (Nat.log2 x)
    have h1 := (Nat.le_div_iff_mul_le hp (x := 1) (y := x)).2 (by omega)
    have h2 := (Nat.div_lt_iff_lt_mul hp (x := x) (y := 2)).2 (by rw [Nat.pow_succ] at e; omega)
    omega
  rw [hd]
  rfl
end Go.Proofs.YtijlaganpnoefaaDoor.Bt
