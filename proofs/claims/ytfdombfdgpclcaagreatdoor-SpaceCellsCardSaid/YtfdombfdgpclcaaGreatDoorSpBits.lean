/-
  The bits that tell where objects begin: what setting and clearing makes of them, and what is found by them.
-/
import Derived.Test.YtfdombfdgpclcaaGreatDoorSpMath
import Derived.Test.YtfdombfdgpclcaaGreatDoorGBb
namespace Go.Proofs.YtfdombfdgpclcaaGreatDoor.Sp
open Go.RowKit Go.Proofs.YtfdombfdgpclcaaGreatDoor.Ar Go.Proofs.YtfdombfdgpclcaaGreatDoor.Sh
open Go.Proofs.YtfdombfdgpclcaaGreatDoor.Hd (Hd)
open Go.Proofs.YtfdombfdgpclcaaGreatDoor.Bt (bit laid laid_bit laid_length layB layB_length prevO nextO prevV prevV_hit prevV_none nextV nextV_hit nextV_none atI)
set_option linter.unusedVariables false

/-- The bits tell where these objects begin. -/
def Agree (bs : List Bool) (os : List Cel) : Prop := ∀ i : Nat, bit bs i = true ↔ ∃ c ∈ os, c.a = (i : Int)
theorem bit_lt {bs : List Bool} {i : Nat} (h : bit bs i = true) : i < bs.length := by
  rcases Nat.lt_or_ge i bs.length with k | k
  · exact k
  · rw [Bt.bit_out _ _ k] at h; cases h
theorem bit_none (n i : Nat) : bit (List.replicate n false) i = false := by
  unfold bit
  rw [List.getD, List.getElem?_replicate]
  split <;> rfl
theorem agree_none (n : Nat) : Agree (List.replicate n false) [] := fun i => by
  rw [bit_none]
  constructor
  · intro h; cases h
  · rintro ⟨c, hc, _⟩; cases hc
theorem layB_bit (bs : List Bool) (i n : Int) (st : Bool) (h0 : 0 ≤ i) (hn : 0 ≤ n) (h1 : i + n ≤ bs.length) (j : Nat) : bit (layB bs i n st) j = if i ≤ (j : Int) ∧ (j : Int) < i + n then st else bit bs j := by
  unfold layB
  rw [if_pos ((Bt.within_iff _ _ _).2 ⟨h0, hn, h1⟩)]
  by_cases hj : j < bs.length
  · rw [laid_bit _ _ _ _ _ hj]
    by_cases h : i ≤ (j : Int) ∧ (j : Int) < i + n
    · rw [if_pos h, if_pos (by omega)]
    · rw [if_neg h, if_neg (by omega)]
  · rw [Bt.bit_out _ _ (by rw [laid_length]; omega), Bt.bit_out _ _ (by omega), if_neg (by omega)]
/-- The bits behind clearing a range and setting where objects begin. -/
def setAll (bs : List Bool) (cs : List Cel) : List Bool := cs.foldl (fun b c => layB b c.a 1 true) bs
def becomeB (bs : List Bool) (f : Int) (cs : List Cel) (e : Int) : List Bool := setAll (layB bs f (e - f) false) cs
theorem setAll_snoc (bs : List Bool) (cs : List Cel) (c : Cel) : setAll bs (cs ++ [c]) = layB (setAll bs cs) c.a 1 true := by unfold setAll; rw [List.foldl_append]; rfl
theorem setAll_length : ∀ (cs : List Cel) (bs : List Bool), (setAll bs cs).length = bs.length
  | [], bs => rfl
  | c :: cs, bs => (setAll_length cs _).trans (layB_length _ _ _ _)
theorem becomeB_length (bs : List Bool) (f : Int) (cs : List Cel) (e : Int) : (becomeB bs f cs e).length = bs.length := (setAll_length _ _).trans (layB_length _ _ _ _)
theorem setAll_bit : ∀ (cs : List Cel) (bs : List Bool), (∀ c ∈ cs, 0 ≤ c.a ∧ c.a < (bs.length : Int)) → ∀ j : Nat, bit (setAll bs cs) j = true ↔ bit bs j = true ∨ ∃ c ∈ cs, c.a = (j : Int)
  | [], bs, _, j => by
    constructor
    · exact fun h => .inl h
    · rintro (h | ⟨c, hc, _⟩)
      · exact h
      · cases hc
  | c :: cs, bs, h, j => by
    have hc := h c List.mem_cons_self
    have ih := setAll_bit cs (layB bs c.a 1 true) (fun d hd => by rw [layB_length]; exact h d (List.mem_cons_of_mem _ hd)) j
    show bit (setAll (layB bs c.a 1 true) cs) j = true ↔ _
    rw [ih, layB_bit _ _ _ _ hc.1 (by omega) (by omega)]
    by_cases e : c.a ≤ (j : Int) ∧ (j : Int) < c.a + 1
    · rw [if_pos e]
      exact ⟨fun _ => .inr ⟨c, List.mem_cons_self, by omega⟩, fun _ => .inl rfl⟩
    · rw [if_neg e]
      constructor
      · rintro (k | ⟨d, hd, k⟩)
        · exact .inl k
        · exact .inr ⟨d, List.mem_cons_of_mem _ hd, k⟩
      · rintro (k | ⟨d, hd, k⟩)
        · exact .inl k
        · rcases List.mem_cons.1 hd with rfl | hd
          · omega
          · exact .inr ⟨d, hd, k⟩
theorem become_agree {bs : List Bool} {a m b cs : List Cel} {f e : Int} (h : Agree bs (a ++ m ++ b)) (h0 : 0 ≤ f) (hf : f ≤ e) (he : e ≤ (bs.length : Int)) (ha : ∀ c ∈ a, c.a < f) (hm : ∀ c ∈ m, f ≤ c.a ∧ c.a < e) (hb : ∀ c ∈ b, e ≤ c.a) (hc : ∀ c ∈ cs, f ≤ c.a ∧ c.a < e) : Agree (becomeB bs f cs e) (a ++ cs ++ b) := by
  intro j
  unfold becomeB
  rw [setAll_bit _ _ (fun c k => by rw [layB_length]; have := hc c k; omega), layB_bit _ _ _ _ h0 (by omega) (by omega)]
  by_cases k : f ≤ (j : Int) ∧ (j : Int) < f + (e - f)
  · rw [if_pos k]
    constructor
    · rintro (x | ⟨c, hx, hy⟩)
      · cases x
      · exact ⟨c, by simp [hx], hy⟩
    · rintro ⟨c, hx, hy⟩
      simp only [List.mem_append] at hx
      rcases hx with (hx | hx) | hx
      · have := ha c hx; omega
      · exact .inr ⟨c, hx, hy⟩
      · have := hb c hx; omega
  · rw [if_neg k, h j]
    constructor
    · rintro (⟨c, hx, hy⟩ | ⟨c, hx, hy⟩)
      · simp only [List.mem_append] at hx
        rcases hx with (hx | hx) | hx
        · exact ⟨c, by simp [hx], hy⟩
        · have := hm c hx; omega
        · exact ⟨c, by simp [hx], hy⟩
      · have := hc c hx; omega
    · rintro ⟨c, hx, hy⟩
      simp only [List.mem_append] at hx
      rcases hx with (hx | hx) | hx
      · exact .inl ⟨c, by simp [hx], hy⟩
      · have := hc c hx; omega
      · exact .inl ⟨c, by simp [hx], hy⟩

/-! ### What is found -/
theorem prevV_some {f : Nat → Bool} : ∀ {k x : Nat}, prevV f k = some x → x < k ∧ f x = true ∧ ∀ j, x < j → j < k → f j = false
  | 0, x, h => by cases h
  | k + 1, x, h => by
    have h' : (if f k then some k else prevV f k) = some x := h
    cases hs : f k with
    | true =>
      rw [hs, if_pos rfl] at h'
      injection h' with h'
      subst h'
      exact ⟨by omega, hs, fun j h1 h2 => by omega⟩
    | false =>
      rw [hs, if_neg (by decide)] at h'
      obtain ⟨a, b, c⟩ := prevV_some h'
      refine ⟨by omega, b, fun j h1 h2 => ?_⟩
      by_cases e : j = k
      · rw [e]; exact hs
      · exact c j h1 (by omega)
theorem prevV_no {f : Nat → Bool} : ∀ {k : Nat}, prevV f k = none → ∀ j, j < k → f j = false
  | 0, _, j, h => by omega
  | k + 1, h, j, hj => by
    have h' : (if f k then some k else prevV f k) = none := h
    cases hs : f k with
    | true => rw [hs, if_pos rfl] at h'; cases h'
    | false =>
      rw [hs, if_neg (by decide)] at h'
      by_cases e : j = k
      · rw [e]; exact hs
      · exact prevV_no h' j (by omega)
/-- The last object that begins at g or below: there is one, or none. -/
theorem prevO_some {bs : List Bool} {g : Int} {x : Nat} (h : prevO bs g = some x) : (x : Int) ≤ g ∧ bit bs x = true ∧ ∀ j : Nat, x < j → (j : Int) ≤ g → bit bs j = false := by
  unfold prevO at h
  obtain ⟨a, b, c⟩ := prevV_some h
  have := bit_lt b
  refine ⟨by omega, b, fun j h1 h2 => ?_⟩
  rcases Nat.lt_or_ge j bs.length with k | k
  · exact c j h1 (by omega)
  · exact Bt.bit_out _ _ k
theorem prevO_none {bs : List Bool} {g : Int} (h : prevO bs g = none) : ∀ j : Nat, (j : Int) ≤ g → bit bs j = false := by
  unfold prevO at h
  intro j hj
  rcases Nat.lt_or_ge j bs.length with k | k
  · exact prevV_no h j (by omega)
  · exact Bt.bit_out _ _ k
theorem nextO_some {bs : List Bool} {g : Int} {x : Nat} (h0 : 0 ≤ g) (h : nextO bs g true = some x) : g ≤ (x : Int) ∧ bit bs x = true ∧ ∀ j : Nat, g ≤ (j : Int) → j < x → bit bs j = false := by
  unfold nextO at h
  obtain ⟨a, b, c, d⟩ := Bt.nextV_some h
  refine ⟨by omega, by simpa using c, fun j h1 h2 => ?_⟩
  have := d j (by omega) h2
  simpa using this
theorem nextO_none {bs : List Bool} {g : Int} (h0 : 0 ≤ g) (h : nextO bs g true = none) : ∀ j : Nat, g ≤ (j : Int) → bit bs j = false := by
  unfold nextO at h
  intro j hj
  rcases Nat.lt_or_ge j bs.length with k | k
  · have := Bt.nextV_no h j (by omega) (by omega)
    simpa using this
  · exact Bt.bit_out _ _ k
theorem prevO_bound (bs : List Bool) (g : Int) : 0 ≤ atI (prevO bs g) ∧ atI (prevO bs g) ≤ bs.length := by
  cases h : prevO bs g with
  | none => exact ⟨Int.le_refl _, by show (0 : Int) ≤ _; omega⟩
  | some x =>
    have := bit_lt (prevO_some h).2.1
    show 0 ≤ ((x : Nat) : Int) ∧ ((x : Nat) : Int) ≤ _
    omega
end Go.Proofs.YtfdombfdgpclcaaGreatDoor.Sp
