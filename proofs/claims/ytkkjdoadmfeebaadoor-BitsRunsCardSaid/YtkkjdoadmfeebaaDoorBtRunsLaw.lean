/-
  What the runs come to: they are what is set, rising, apart.
-/
import Derived.Test.YtkkjdoadmfeebaaDoorBtRound
namespace Go.Proofs.YtkkjdoadmfeebaaDoor.Bt
open Go.RowKit Go.Proofs.YtkkjdoadmfeebaaDoor.Ar Go.Proofs.YtkkjdoadmfeebaaDoor.Wd
set_option linter.unusedVariables false

/-- From the bit e on, the runs l are what is set. -/
def Chain (bs : List Bool) : Nat → List (Nat × Nat) → Prop
  | e, [] => ∀ j, e ≤ j → j < bs.length → bit bs j = false
  | e, r :: l => e ≤ r.1 ∧ 1 ≤ r.2 ∧ r.1 + r.2 ≤ bs.length ∧ (∀ j, e ≤ j → j < r.1 → bit bs j = false) ∧ (∀ j, r.1 ≤ j → j < r.1 + r.2 → bit bs j = true) ∧ bit bs (r.1 + r.2) = false ∧ Chain bs (r.1 + r.2) l
theorem chain_from (bs : List Bool) : ∀ m e, bs.length - e < m → e ≤ bs.length → (e = 0 ∨ bit bs e = false) → ∃ l, runsV bs = runsTo bs e ++ l ∧ Chain bs e l
  | 0, e, h, _, _ => by omega
  | m + 1, e, h, he, hb => by
    cases hx : nextO bs (e : Int) true with
    | none =>
      have hz := nextO_none hx
      exact ⟨[], by rw [List.append_nil]; exact runsTo_clear he hz, hz⟩
    | some x =>
      obtain ⟨h1, h2, h3, h4⟩ := nextO_some hx
      obtain ⟨f1, f2, f3, f4⟩ := endV_spec h2 h3
      generalize endV bs x = f at *
      have hpre : x = 0 ∨ bit bs (x - 1) = false := by
        by_cases hxe : x = e
        · subst hxe
          rcases hb with hb | hb
          · exact .inl hb
          · rw [hb] at h3; cases h3
        · exact .inr (h4 (x - 1) (by omega) (by omega))
      obtain ⟨l, hl, hc⟩ := chain_from bs m f (by omega) f2 (.inr f3)
      refine ⟨(x, f - x) :: l, ?_, h1, by show 1 ≤ f - x; omega, by show x + (f - x) ≤ _; omega, h4, fun j j1 j2 => f4 j j1 (by have : j < x + (f - x) := j2; omega), ?_, ?_⟩
      · rw [hl, runsTo_set f1 hpre f4, runsTo_clear h1 h4, List.append_assoc]
        rfl
      · show bit bs (x + (f - x)) = false
        rw [show x + (f - x) = f by omega]
        exact f3
      · show Chain bs (x + (f - x)) l
        rw [show x + (f - x) = f by omega]
        exact hc
theorem chain_runs (bs : List Bool) : Chain bs 0 (runsV bs) := by
  obtain ⟨l, hl, hc⟩ := chain_from bs (bs.length + 1) 0 (by omega) (Nat.zero_le _) (.inl rfl)
  rw [hl]
  exact hc
theorem chain_step {bs : List Bool} {rs : List (Nat × Nat)} {j E : Nat} (h : Chain bs E (rs.drop j)) (hj : j < rs.length) (r : Nat × Nat) (hr : r = rs.getD j (0, 0)) :
    E ≤ r.1 ∧ 1 ≤ r.2 ∧ r.1 + r.2 ≤ bs.length ∧ (∀ j, E ≤ j → j < r.1 → bit bs j = false) ∧ (∀ j, r.1 ≤ j → j < r.1 + r.2 → bit bs j = true) ∧ bit bs (r.1 + r.2) = false ∧ Chain bs (r.1 + r.2) (rs.drop (j + 1)) := by
  have e : rs.getD j (0, 0) = rs[j] := by rw [List.getD, List.getElem?_eq_getElem hj]; rfl
  rw [List.drop_eq_getElem_cons hj, ← e, ← hr] at h
  exact h
theorem nextO_hit {bs : List Bool} {e x : Nat} {st : Bool} (h1 : e ≤ x) (h2 : x < bs.length) (hx : bit bs x = st) (hc : ∀ j, e ≤ j → j < x → bit bs j = !st) : nextO bs (e : Int) st = some x := by
  cases h : nextO bs (e : Int) st with
  | none =>
    have := nextO_none h x h1 h2
    rw [hx] at this
    cases st <;> cases this
  | some y =>
    obtain ⟨a, b, c, d⟩ := nextO_some h
    rcases Nat.lt_trichotomy x y with hl | rfl | hl
    · have := d x h1 hl
      rw [hx] at this
      cases st <;> cases this
    · rfl
    · have := hc y a hl
      rw [c] at this
      cases st <;> cases this
theorem nextO_miss {bs : List Bool} {e : Nat} {st : Bool} (hc : ∀ j, e ≤ j → j < bs.length → bit bs j = !st) : nextO bs (e : Int) st = none := by
  cases h : nextO bs (e : Int) st with
  | none => rfl
  | some y =>
    obtain ⟨a, b, c, d⟩ := nextO_some h
    have := hc y a b
    rw [c] at this
    cases st <;> cases this
theorem prevO_hit {bs : List Bool} {f : Nat} (h0 : 1 ≤ f) (h1 : f ≤ bs.length) (hs : bit bs (f - 1) = true) (hc : bit bs f = false) : prevO bs (f : Int) = some (f - 1) := by
  unfold prevO
  by_cases hl : f < bs.length
  · rw [show (min (f : Int) ((bs.length : Nat) - 1) + 1).toNat = f + 1 by omega]
    exact prevV_hit _ _ _ (by omega) hs fun j j1 j2 => by rw [show j = f by omega]; exact hc
  · rw [show (min (f : Int) ((bs.length : Nat) - 1) + 1).toNat = f by omega]
    exact prevV_hit _ _ _ (by omega) hs fun j j1 j2 => by omega
theorem cnt_run {bs : List Bool} {E A N : Nat} (h : E ≤ A) (h0 : ∀ j, E ≤ j → j < A → bit bs j = false) (h1 : ∀ j, A ≤ j → j < A + N → bit bs j = true) : cnt (bit bs) (A + N) = cnt (bit bs) E + N := by
  obtain ⟨d, rfl⟩ : ∃ d, A = E + d := ⟨A - E, by omega⟩
  rw [cnt_add, cnt_add, cnt_zero _ d fun j hj => h0 _ (by omega) (by omega), cnt_all _ N fun j hj => h1 _ (by omega) (by omega)]
  omega
theorem cnt_rest {bs : List Bool} {E : Nat} (h : E ≤ bs.length) (h0 : ∀ j, E ≤ j → j < bs.length → bit bs j = false) : cntI bs 0 (bs.length : Nat) = (cnt (bit bs) E : Nat) := by
  have h1 := cntI_nat bs 0 bs.length (by omega)
  rw [show (fun j => bit bs (0 + j)) = bit bs from funext fun j => by rw [Nat.zero_add]] at h1
  rw [show ((0 : Nat) : Int) = 0 from rfl] at h1
  rw [h1]
  obtain ⟨d, hd⟩ : ∃ d, bs.length = E + d := ⟨bs.length - E, by omega⟩
  rw [hd, cnt_add, cnt_zero _ d fun j hj => h0 _ (by omega) (by omega)]
  rfl
theorem hasV_nat (bs : List Bool) (k : Nat) : hasV bs (k : Int) = bit bs k := by
  unfold hasV
  rw [decide_eq_true (show (0 : Int) ≤ (k : Int) by omega), Int.toNat_natCast]
  rfl
/-- The law's end: -1, or the bit behind the last run. -/
def endI (E : Nat) : Int := if E = 0 then -1 else E
theorem endI_pos {E : Nat} (h : 1 ≤ E) : endI E = E := by unfold endI; rw [if_neg (by omega)]
theorem endI_max (E : Nat) : max (endI E) 0 = E := by unfold endI; split <;> omega
theorem endI_lt {bs : List Bool} {E A : Nat} (h : E ≤ A) (hE : E = 0 ∨ bit bs E = false) (hA : bit bs A = true) : endI E < A := by
  unfold endI
  split
  · omega
  · rcases hE with hE | hE
    · omega
    · by_cases he : E = A
      · subst he
        rw [hE] at hA; cases hA
      · omega
theorem endI_low (E : Nat) : -1 ≤ endI E := by unfold endI; split <;> omega
end Go.Proofs.YtkkjdoadmfeebaaDoor.Bt
