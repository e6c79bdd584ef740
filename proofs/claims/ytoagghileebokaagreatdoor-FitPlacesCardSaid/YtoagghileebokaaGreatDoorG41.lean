/-
  Several texts in one: BkRoom, BkLast, FtScan, FtCut.
-/
import Derived.Test.YtoagghileebokaaGreatDoorG36
import Derived.Test.YtoagghileebokaaGreatDoorG14
import Derived.Test.YtoagghileebokaaGreatDoorG17
import Derived.Test.YtoagghileebokaaGreatDoorG39
/-
  Stage 12, black: what First tells, in numbers.
-/
namespace Go.Proofs.YtoagghileebokaaGreatDoor.Bk
open Go.RowKit Go.Proofs.YtoagghileebokaaGreatDoor.Ar
set_option linter.unusedVariables false

theorem searchG_some {ls : List Int} {n : Nat} {v : Int} : ∀ (f g : Nat), searchG ls n f g = some v → ∃ i : Nat, v = ((g + i : Nat) : Int) ∧ i < f ∧ roomTo ls (g + i) n = true ∧ ∀ i', i' < i → roomTo ls (g + i') n = false
  | 0, g, h => by cases h
  | f + 1, g, h => by
    have e : searchG ls n (f + 1) g = if roomTo ls g n = true then some (g : Int) else searchG ls n f (g + 1) := rfl
    rw [e] at h
    by_cases hr : roomTo ls g n = true
    · rw [if_pos hr] at h
      obtain rfl := Option.some.inj h
      exact ⟨0, rfl, by omega, hr, fun i' hi => by omega⟩
    · rw [if_neg hr] at h
      obtain ⟨i, h1, h2, h3, h4⟩ := searchG_some f (g + 1) h
      refine ⟨i + 1, by rw [h1]; omega, by omega, by rw [show g + (i + 1) = g + 1 + i by omega]; exact h3, fun i' hi => ?_⟩
      rcases Nat.eq_zero_or_pos i' with h0 | h0
      · subst h0
        simpa using hr
      · have := h4 (i' - 1) (by omega)
        rw [show g + 1 + (i' - 1) = g + i' by omega] at this
        exact this
theorem searchG_none2 {ls : List Int} {n : Nat} : ∀ (f g : Nat), searchG ls n f g = none → ∀ i, i < f → roomTo ls (g + i) n = false
  | 0, g, h, i, hi => by omega
  | f + 1, g, h, i, hi => by
    have e : searchG ls n (f + 1) g = if roomTo ls g n = true then some (g : Int) else searchG ls n f (g + 1) := rfl
    rw [e] at h
    by_cases hr : roomTo ls g n = true
    · rw [if_pos hr] at h
      cases h
    · rw [if_neg hr] at h
      rcases Nat.eq_zero_or_pos i with h0 | h0
      · subst h0
        simpa using hr
      · have := searchG_none2 f (g + 1) h (i - 1) (by omega)
        rw [show g + 1 + (i - 1) = g + i by omega] at this
        exact this
theorem first_some {ls : List Int} {a b v : Int} {n : Nat} (h : firstL ls a b (n : Int) = some v) :
    0 ≤ v ∧ max a 0 ≤ v ∧ v ≤ endL ls b - (n : Int) ∧ ∀ g : Nat, max a 0 ≤ (g : Int) → (g : Int) ≤ v → roomTo ls g n = ((g : Int) == v) := by
  unfold firstL at h
  split at h
  · cases h
  · obtain ⟨i, h1, h2, h3, h4⟩ := searchG_some _ _ h
    rw [Int.toNat_natCast] at h3 h4
    refine ⟨by omega, by omega, by omega, fun g hg hv => ?_⟩
    by_cases he : (g : Int) = v
    · rw [show g = (max a 0).toNat + i by omega, h3, h1]
      simp
    · have := h4 (g - (max a 0).toNat) (by omega)
      rw [show (max a 0).toNat + (g - (max a 0).toNat) = g by omega] at this
      rw [this]
      exact (beq_eq_false_iff_ne.2 he).symm
theorem first_none {ls : List Int} {a b : Int} {n : Nat} (h : firstL ls a b (n : Int) = none) (hn : 1 ≤ n) : ∀ g : Nat, max a 0 ≤ (g : Int) → (g : Int) ≤ endL ls b - (n : Int) → roomTo ls g n = false := by
  intro g hg he
  unfold firstL at h
  split at h
  · unfold endL at he
    omega
  · have := searchG_none2 _ _ h (g - (max a 0).toNat) (by omega)
    rw [Int.toNat_natCast, show (max a 0).toNat + (g - (max a 0).toNat) = g by omega] at this
    exact this
theorem first_bad {ls : List Int} {a b n : Int} (h : n < 1 ∨ (ls.length : Int) < n) : firstL ls a b n = none := if_pos h
end Go.Proofs.YtoagghileebokaaGreatDoor.Bk

/-
  Stage 12, black: the last one of a range of granules that is black, by both rows of bits; in numbers.
-/
namespace Go.Proofs.YtoagghileebokaaGreatDoor.Bk
open Go.RowKit Go.Proofs.YtoagghileebokaaGreatDoor.Ar
open Go.Proofs.YtoagghileebokaaGreatDoor.Bt (bit cnt cntI prevO prevV prevV_hit hasV)
set_option linter.unusedVariables false

theorem cnt_zero (f : Nat → Bool) : ∀ (n : Nat), cnt f n = 0 → ∀ j, j < n → f j = false
  | 0, _, j, h => by omega
  | n + 1, h, j, hj => by
    have e : cnt f n + (f n).toNat = 0 := h
    rcases Nat.lt_or_ge j n with h1 | h1
    · exact cnt_zero f n (by omega) j h1
    · rw [show j = n by omega]
      cases hf : f n
      · rfl
      · rw [hf] at e
        have : (true : Bool).toNat = 1 := rfl
        omega
theorem cnt_last (f : Nat → Bool) : ∀ (n : Nat), 0 < cnt f n → ∃ k, k < n ∧ f k = true ∧ ∀ j, k < j → j < n → f j = false
  | 0, h => by
    have : cnt f 0 = 0 := rfl
    omega
  | n + 1, h => by
    cases hf : f n
    · have e : cnt f (n + 1) = cnt f n + (f n).toNat := rfl
      rw [hf] at e
      have e0 : (false : Bool).toNat = 0 := rfl
      obtain ⟨k, h1, h2, h3⟩ := cnt_last f n (by omega)
      refine ⟨k, by omega, h2, fun j j1 j2 => ?_⟩
      rcases Nat.lt_or_ge j n with h | h
      · exact h3 j j1 h
      · rw [show j = n by omega, hf]
    · exact ⟨n, by omega, hf, fun j j1 j2 => by omega⟩
/-- o is the last one of the n from a on that is so, if all n are among L. -/
def RowP (f : Nat → Bool) (L : Nat) (a n : Int) : Option Nat → Prop
  | none => Bt.within L a n = true → ∀ j : Nat, a ≤ (j : Int) → (j : Int) < a + n → f j = false
  | some g => Bt.within L a n = true ∧ a ≤ (g : Int) ∧ (g : Int) < a + n ∧ f g = true ∧ ∀ j : Nat, g < j → (j : Int) < a + n → f j = false
theorem row_no {c : List Bool} {a n : Int} (h : ¬ 0 < cntI c a n) : RowP (bit c) c.length a n none := fun hw j j1 j2 => by
  obtain ⟨h1, h2, h3⟩ := (Bt.within_iff _ _ _).1 hw
  unfold Bt.cntI at h
  rw [if_pos hw] at h
  have := cnt_zero (fun j => bit c (a.toNat + j)) n.toNat (by omega) (j - a.toNat) (by omega)
  rw [show j = a.toNat + (j - a.toNat) by omega]
  exact this
theorem row_yes {c : List Bool} {a n : Int} (h : 0 < cntI c a n) : ∃ g : Nat, prevO c (a + n - 1) = some g ∧ RowP (bit c) c.length a n (some g) := by
  unfold Bt.cntI at h
  by_cases hw : Bt.within c.length a n = true
  · rw [if_pos hw] at h
    obtain ⟨h1, h2, h3⟩ := (Bt.within_iff _ _ _).1 hw
    obtain ⟨k, k1, k2, k3⟩ := cnt_last (fun j => bit c (a.toNat + j)) n.toNat (by omega)
    have hall : ∀ j : Nat, a.toNat + k < j → (j : Int) < a + n → bit c j = false := fun j j1 j2 => by
      have := k3 (j - a.toNat) (by omega) (by omega)
      rw [show j = a.toNat + (j - a.toNat) by omega]
      exact this
    refine ⟨a.toNat + k, ?_, hw, by omega, by omega, k2, hall⟩
    unfold Bt.prevO
    exact prevV_hit (bit c) (a.toNat + k) _ (by omega) k2 fun j j1 j2 => hall j j1 (by omega)
  · rw [if_neg hw] at h
    omega
def lastG : Option Nat → Option Nat → Option Nat
  | none, o => o
  | some a, none => some a
  | some a, some b => some (max a b)
theorem RowP.or {f g : Nat → Bool} {L : Nat} {a n : Int} : ∀ {o u : Option Nat}, RowP f L a n o → RowP g L a n u → RowP (fun j => f j || g j) L a n (lastG o u)
  | none, none, h, k => fun hw j j1 j2 => by
    show (f j || g j) = false
    rw [h hw j j1 j2, k hw j j1 j2]
    rfl
  | none, some v, h, ⟨hw, k1, k2, k3, k4⟩ => ⟨hw, k1, k2, by show (f v || g v) = true; rw [k3, Bool.or_true], fun j j1 j2 => by
    show (f j || g j) = false
    rw [h hw j (by omega) j2, k4 j j1 j2]
    rfl⟩
  | some u, none, ⟨hw, h1, h2, h3, h4⟩, k => ⟨hw, h1, h2, by show (f u || g u) = true; rw [h3, Bool.true_or], fun j j1 j2 => by
    show (f j || g j) = false
    rw [k hw j (by omega) j2, h4 j j1 j2]
    rfl⟩
  | some u, some v, ⟨hw, h1, h2, h3, h4⟩, ⟨_, k1, k2, k3, k4⟩ => by
    refine ⟨hw, by omega, by omega, ?_, fun j j1 j2 => ?_⟩
    · show (f (max u v) || g (max u v)) = true
      rcases Nat.le_total u v with e | e
      · rw [Nat.max_eq_right e, k3, Bool.or_true]
      · rw [Nat.max_eq_left e, h3, Bool.true_or]
    · show (f j || g j) = false
      rw [h4 j (by omega) j2, k4 j (by omega) j2]
      rfl
/-- What is told of the last black one. -/
def LastP (ls : List Int) (a n : Int) (o : Option Nat) : Prop := RowP (fun j => hasL ls (j : Int)) ls.length a n o
theorem last_both {c d : List Bool} (hl : d.length = c.length) {a n : Int} {o u : Option Nat} (h : RowP (bit c) c.length a n o) (k : RowP (bit d) d.length a n u) : LastP (ages c d) a n (lastG o u) := by
  have e : (fun j : Nat => hasL (ages c d) (j : Int)) = fun j => bit c j || bit d j := funext fun j => by
    have hb (e : List Bool) : hasV e (j : Int) = bit e j := by
      unfold Bt.hasV
      rw [Int.toNat_natCast, decide_eq_true (show (0 : Int) ≤ (j : Int) by omega), Bool.true_and]
    rw [ages_has hl, hb, hb]
  unfold LastP
  rw [e, ages_length]
  rw [hl] at k
  exact RowP.or h k
theorem last_has {ls : List Int} {g : Int} {o : Option Nat} (h : LastP ls g 1 o) : o.isSome = hasL ls g := by
  cases o with
  | none =>
    by_cases hw : Bt.within ls.length g 1 = true
    · obtain ⟨h1, h2, h3⟩ := (Bt.within_iff _ _ _).1 hw
      have h4 : hasL ls ((g.toNat : Nat) : Int) = false := h hw g.toNat (by omega) (by omega)
      rw [show ((g.toNat : Nat) : Int) = g by omega] at h4
      rw [h4]
      rfl
    · rw [Bt.within_iff] at hw
      unfold hasL
      rw [decide_eq_false (by omega)]
      rfl
  | some k =>
    obtain ⟨hw, h1, h2, h3, h4⟩ := h
    have h5 : hasL ls (k : Int) = true := h3
    rw [show (k : Int) = g by omega] at h5
    rw [h5]
    rfl
end Go.Proofs.YtoagghileebokaaGreatDoor.Bk

/-
  Stage 13, fit: what First, Most and Free tell, cell by cell: for whatever way of going over the cells; in numbers.
-/
namespace Go.Proofs.YtoagghileebokaaGreatDoor.Ft
open Go.RowKit Go.Proofs.YtoagghileebokaaGreatDoor.Ar
open Go.Proofs.YtoagghileebokaaGreatDoor.Sp (Cel objs objs_mem tot Tiled can_sz)
open Go.Proofs.YtoagghileebokaaGreatDoor.Tb (Ty)
open Go.Proofs.YtoagghileebokaaGreatDoor.Bt (nextV nextV_none nextV_some prevV cnt cnt_le cnt_add cnt_congr)
open Go.Proofs.YtoagghileebokaaGreatDoor.Bk (roomTo hasL Aged)
set_option linter.unusedVariables false

/-- There is space for n granules at g, in this cell. -/
def RoomIn (bl : Nat → Bool) (c : Cel) (n g : Nat) : Prop := c.h.tg ≠ 1 ∧ c.a ≤ (g : Int) ∧ (g : Int) + (n : Int) ≤ c.a + c.h.sz ∧ ∀ k, k < n → bl (g + k) = false
theorem room_in {bl : Nat → Bool} {cs : List Cel} {n g : Nat} : roomB bl cs n g = true ↔ ∃ c ∈ cs, RoomIn bl c n g := by
  rw [room_iff]
  exact ⟨fun ⟨⟨c, h1, h2, h3, h4⟩, h5⟩ => ⟨c, h1, h2, h3, h4, h5⟩, fun ⟨c, h1, h2, h3, h4, h5⟩ => ⟨⟨c, h1, h2, h3, h4⟩, h5⟩⟩
theorem roomIn_less {bl : Nat → Bool} {c : Cel} {n m g : Nat} (h : RoomIn bl c n g) (hm : m ≤ n) : RoomIn bl c m g := ⟨h.1, h.2.1, by have := h.2.2.1; omega, fun k hk => h.2.2.2 k (by omega)⟩
section
variable {ws : List Int} {l : List Ty} {cs : List Cel} {N : Int} {bl : Nat → Bool}
theorem scan_none {n : Nat} (h : ∀ c ∈ cs, ∀ g, ¬ RoomIn bl c n g) : firstF bl cs n = none :=
  nextV_none _ _ _ fun j _ => by
    cases hr : roomB bl cs n (0 + j) with
    | false => rfl
    | true =>
      obtain ⟨c, hc, hh⟩ := room_in.1 hr
      exact absurd hh (h c hc _)
/-- .. of cells. -/
def MostTo (bl : Nat → Bool) (P : List Cel) (m : Nat) : Prop := (m = 0 ∨ ∃ c ∈ P, ∃ g, RoomIn bl c m g) ∧ ∀ n, m < n → ∀ c ∈ P, ∀ g, ¬ RoomIn bl c n g
theorem mostTo_all (hT : Tiled ws l 0 cs N) {m : Nat} (h : MostTo bl cs m) : mostF bl cs = m := by
  have hN := hT.sum
  have hfit : ∀ {n g : Nat} {c : Cel}, c ∈ cs → RoomIn bl c n g → (g : Int) + (n : Int) ≤ tot cs := fun {n g c} hc hh => room_fit hT (room_in.2 ⟨c, hc, hh⟩)
  refine most_is ?_ ?_ ?_
  · rcases h.1 with e | ⟨c, hc, g, hg⟩
    · exact .inl e
    · rcases Nat.eq_zero_or_pos m with e | e
      · exact .inl e
      · have := hfit hc hg
        obtain ⟨y, hy, _⟩ := first_at (bl := bl) (cs := cs) (n := m) (x := g) (by omega) (room_in.2 ⟨c, hc, hg⟩)
        exact .inr ⟨y, hy⟩
  · rcases h.1 with e | ⟨c, hc, g, hg⟩
    · omega
    · have := hfit hc hg
      omega
  · exact fun n hn _ => scan_none fun c hc g => h.2 n hn c hc g
/-- The granules of a cell that are free. -/
def freeIn (bl : Nat → Bool) (c : Cel) : Nat := if c.h.tg = 1 then 0 else cnt (fun j => !bl (c.a.toNat + j)) c.h.sz.toNat
def freeSum (bl : Nat → Bool) : List Cel → Nat
  | [] => 0
  | c :: cs => freeIn bl c + freeSum bl cs
theorem freeSum_from : ∀ {cs : List Cel} {f N : Int}, Tiled ws l f cs N → 0 ≤ f → cnt (fun j => gapB cs (f.toNat + j) && !bl (f.toNat + j)) (tot cs).toNat = freeSum bl cs
  | [], f, N, h, hf => rfl
  | c :: cs, f, N, h, hf => by
    have hs := can_sz h.2.1
    have ha := h.1
    have hl := h.2.2.2.2.sum
    have hle := h.2.2.2.2.le
    have ih := freeSum_from h.2.2.2.2 (by omega)
    have e : (tot (c :: cs)).toNat = c.h.sz.toNat + (tot cs).toNat := by
      have : tot (c :: cs) = c.h.sz + tot cs := rfl
      omega
    have h2 : ∀ j, cnt (fun i => gapB (c :: cs) (f.toNat + (c.h.sz.toNat + i)) && !bl (f.toNat + (c.h.sz.toNat + i))) j = cnt (fun i => gapB cs ((f + c.h.sz).toNat + i) && !bl ((f + c.h.sz).toNat + i)) j := fun j => cnt_congr j fun i hi => by
      rw [show f.toNat + (c.h.sz.toNat + i) = (f + c.h.sz).toNat + i by omega]
      congr 1
      show (decide (c.h.tg ≠ 1 ∧ c.a ≤ (((f + c.h.sz).toNat + i : Nat) : Int) ∧ (((f + c.h.sz).toNat + i : Nat) : Int) < c.a + c.h.sz) || gapB cs _) = _
      rw [decide_eq_false (by omega), Bool.false_or]
    have h3 : ∀ d ∈ cs, f + c.h.sz ≤ d.a := fun d hd => (h.2.2.2.2.mem d hd).1
    rw [e, cnt_add, h2, ih]
    show _ = freeIn bl c + freeSum bl cs
    congr 1
    unfold freeIn
    by_cases ht : c.h.tg = 1
    · rw [if_pos ht]
      refine cnt_no _ fun j hj => ?_
      show ((decide (c.h.tg ≠ 1 ∧ c.a ≤ ((f.toNat + j : Nat) : Int) ∧ ((f.toNat + j : Nat) : Int) < c.a + c.h.sz) || gapB cs (f.toNat + j)) && _) = false
      rw [decide_eq_false (by omega), Bool.false_or]
      cases hg : gapB cs (f.toNat + j) with
      | false => rfl
      | true =>
        obtain ⟨d, d1, d2, d3, d4⟩ := gap_iff.1 hg
        have := h3 d d1
        omega
    · rw [if_neg ht]
      refine cnt_congr _ fun j hj => ?_
      show ((decide (c.h.tg ≠ 1 ∧ c.a ≤ ((f.toNat + j : Nat) : Int) ∧ ((f.toNat + j : Nat) : Int) < c.a + c.h.sz) || gapB cs (f.toNat + j)) && !bl (f.toNat + j)) = _
      rw [decide_eq_true ⟨ht, by omega, by omega⟩, Bool.true_or, Bool.true_and, ha]
theorem free_sum (hT : Tiled ws l 0 cs N) : freeF bl cs = freeSum bl cs := by
  rw [← freeSum_from (bl := bl) hT (Int.le_refl _)]
  unfold freeF
  congr 1
  funext g
  show (gapB cs g && !bl g) = (gapB cs (0 + g) && !bl (0 + g))
  rw [Nat.zero_add]
end
end Go.Proofs.YtoagghileebokaaGreatDoor.Ft

/-
  Stage 13, fit: the stretches of granules that are free, of a gap and of all gaps, in order; First, Most and Free by these; in numbers.
-/
namespace Go.Proofs.YtoagghileebokaaGreatDoor.Ft
open Go.RowKit Go.Proofs.YtoagghileebokaaGreatDoor.Ar
open Go.Proofs.YtoagghileebokaaGreatDoor.Sp (Cel tot Tiled can_sz)
open Go.Proofs.YtoagghileebokaaGreatDoor.Tb (Ty)
open Go.Proofs.YtoagghileebokaaGreatDoor.Bt (cnt cnt_add cnt_congr)
set_option linter.unusedVariables false

/-- The lowest black one of k granules from a on; what is behind them, if none is. -/
def nxB (bl : Nat → Bool) : Nat → Nat → Nat
  | 0, a => a
  | k + 1, a => if bl a = true then a else nxB bl k (a + 1)
section
variable {bl : Nat → Bool}
theorem nxB_spec : ∀ k a, a ≤ nxB bl k a ∧ nxB bl k a ≤ a + k ∧ (∀ j, a ≤ j → j < nxB bl k a → bl j = false) ∧ (nxB bl k a < a + k → bl (nxB bl k a) = true)
  | 0, a => ⟨Nat.le_refl _, Nat.le_refl _, fun j h1 h2 => by have h2 : j < a := h2; omega, fun h => by have h : a < a + 0 := h; omega⟩
  | k + 1, a => by
    have e : nxB bl (k + 1) a = if bl a = true then a else nxB bl k (a + 1) := rfl
    rw [e]
    by_cases h : bl a = true
    · rw [if_pos h]
      exact ⟨Nat.le_refl _, by omega, fun j h1 h2 => by omega, fun _ => h⟩
    · rw [if_neg h]
      obtain ⟨h1, h2, h3, h4⟩ := nxB_spec k (a + 1)
      refine ⟨by omega, by omega, fun j j1 j2 => ?_, fun hk => h4 (by omega)⟩
      rcases Nat.lt_or_ge a j with h5 | h5
      · exact h3 j h5 j2
      · rw [show j = a by omega]
        simpa using h
theorem nxB_is {k a h : Nat} (h1 : a ≤ h) (h2 : h ≤ a + k) (h3 : ∀ j, a ≤ j → j < h → bl j = false) (h4 : h < a + k → bl h = true) : nxB bl k a = h := by
  obtain ⟨k1, k2, k3, k4⟩ := nxB_spec (bl := bl) k a
  rcases Nat.lt_trichotomy (nxB bl k a) h with e | e | e
  · have a1 := h3 _ k1 e
    rw [k4 (by omega)] at a1
    cases a1
  · exact e
  · have a1 := k3 h h1 e
    rw [h4 (by omega)] at a1
    cases a1
/-- The stretches from a up to e. -/
def cutB (bl : Nat → Bool) : Nat → Nat → Nat → List (Nat × Nat)
  | 0, _, _ => []
  | f + 1, a, e => if a < e then (if a < nxB bl (e - a) a then [(a, nxB bl (e - a) a - a)] else []) ++ cutB bl f (nxB bl (e - a) a + 1) e else []
theorem cutB_end {f a e : Nat} (h : e ≤ a) : cutB bl f a e = [] := by
  cases f with
  | zero => rfl
  | succ f => exact if_neg (show ¬ a < e by omega)
theorem cutB_step {f a e h : Nat} (ha : a < e) (hf : e - a ≤ f + 1) (hh : nxB bl (e - a) a = h) : cutB bl (f + 1) a e = (if a < h then [(a, h - a)] else []) ++ cutB bl f (h + 1) e := by
  show (if a < e then _ else _) = _
  rw [if_pos ha, hh]
theorem cut_in : ∀ (f a e : Nat), e - a ≤ f → ∀ p ∈ cutB bl f a e, 1 ≤ p.2 ∧ a ≤ p.1 ∧ p.1 + p.2 ≤ e ∧ ∀ j, j < p.2 → bl (p.1 + j) = false
  | 0, a, e, _, p, hp => by cases hp
  | f + 1, a, e, hf, p, hp => by
    by_cases ha : a < e
    · rw [cutB_step ha hf rfl] at hp
      obtain ⟨k1, k2, k3, k4⟩ := nxB_spec (bl := bl) (e - a) a
      generalize nxB bl (e - a) a = h at *
      rcases List.mem_append.1 hp with q | q
      · by_cases hh : a < h
        · rw [if_pos hh] at q
          rw [List.mem_singleton.1 q]
          exact ⟨by show 1 ≤ h - a; omega, Nat.le_refl _, by show a + (h - a) ≤ e; omega, fun j hj => k3 _ (by omega) (by have : j < h - a := hj; omega)⟩
        · rw [if_neg hh] at q
          cases q
      · obtain ⟨r1, r2, r3, r4⟩ := cut_in f (h + 1) e (by omega) p q
        exact ⟨r1, by omega, r3, r4⟩
    · rw [cutB_end (by omega)] at hp
      cases hp
theorem cut_all : ∀ (f a e : Nat), e - a ≤ f → ∀ g n, 1 ≤ n → a ≤ g → g + n ≤ e → (∀ j, j < n → bl (g + j) = false) → ∃ p ∈ cutB bl f a e, p.1 ≤ g ∧ g + n ≤ p.1 + p.2
  | 0, a, e, hf, g, n, h1, h2, h3, _ => by omega
  | f + 1, a, e, hf, g, n, h1, h2, h3, h4 => by
    rw [cutB_step (show a < e by omega) hf rfl]
    obtain ⟨k1, k2, k3, k4⟩ := nxB_spec (bl := bl) (e - a) a
    generalize nxB bl (e - a) a = h at *
    rcases Nat.lt_or_ge h g with c | c
    · obtain ⟨p, hp, q1, q2⟩ := cut_all f (h + 1) e (by omega) g n h1 (by omega) h3 h4
      exact ⟨p, List.mem_append_right _ hp, q1, q2⟩
    · have hle : g + n ≤ h := by
        rcases Nat.lt_or_ge h (g + n) with d | d
        · have := h4 (h - g) (by omega)
          rw [show g + (h - g) = h by omega, k4 (by omega)] at this
          cases this
        · exact d
      refine ⟨(a, h - a), List.mem_append_left _ ?_, h2, by show g + n ≤ a + (h - a); omega⟩
      rw [if_pos (by omega)]
      simp
theorem cut_rise : ∀ (f a e : Nat), e - a ≤ f → (cutB bl f a e).Pairwise (fun p q => p.1 ≤ q.1)
  | 0, _, _, _ => List.Pairwise.nil
  | f + 1, a, e, hf => by
    by_cases ha : a < e
    · rw [cutB_step ha hf rfl]
      obtain ⟨k1, k2, k3, k4⟩ := nxB_spec (bl := bl) (e - a) a
      generalize nxB bl (e - a) a = h at *
      refine List.pairwise_append.2 ⟨?_, cut_rise f (h + 1) e (by omega), fun p hp q hq => ?_⟩
      · by_cases hh : a < h
        · rw [if_pos hh]; simp
        · rw [if_neg hh]; exact List.Pairwise.nil
      · have := (cut_in f (h + 1) e (by omega) q hq).2.1
        by_cases hh : a < h
        · rw [if_pos hh] at hp
          rw [List.mem_singleton.1 hp]
          show a ≤ q.1
          omega
        · rw [if_neg hh] at hp
          cases hp
    · rw [cutB_end (by omega)]
      exact List.Pairwise.nil
/-- How many granules stretches have together. -/
def sumL : List (Nat × Nat) → Nat
  | [] => 0
  | p :: L => p.2 + sumL L
theorem sumL_append : ∀ A B : List (Nat × Nat), sumL (A ++ B) = sumL A + sumL B
  | [], B => (Nat.zero_add _).symm
  | p :: A, B => by
    show p.2 + sumL (A ++ B) = p.2 + sumL A + sumL B
    rw [sumL_append A B]
    omega
theorem sumL_snoc (A : List (Nat × Nat)) (p : Nat × Nat) : sumL (A ++ [p]) = sumL A + p.2 := by
  rw [sumL_append]
  rfl
theorem cut_sum : ∀ (f a e : Nat), e - a ≤ f → sumL (cutB bl f a e) = cnt (fun j => !bl (a + j)) (e - a)
  | 0, a, e, h => by
    rw [show e - a = 0 by omega]
    rfl
  | f + 1, a, e, hf => by
    by_cases ha : a < e
    · rw [cutB_step ha hf rfl, sumL_append]
      obtain ⟨k1, k2, k3, k4⟩ := nxB_spec (bl := bl) (e - a) a
      generalize nxB bl (e - a) a = h at *
      have e1 : sumL (if a < h then [(a, h - a)] else []) = h - a := by
        by_cases hh : a < h
        · rw [if_pos hh]
          show h - a + 0 = h - a
          omega
        · rw [if_neg hh]
          show 0 = h - a
          omega
      rw [e1, cut_sum f (h + 1) e (by omega)]
      rcases Nat.lt_or_ge h e with c | c
      · have hb := k4 (by omega)
        rw [show e - a = (h - a) + (1 + (e - (h + 1))) by omega, cnt_add, cnt_add, cnt_yes (h - a) fun j hj => by rw [k3 (a + j) (by omega) (by omega)]; rfl]
        have z : cnt (fun i => !bl (a + (h - a + i))) 1 = 0 := cnt_no 1 fun j hj => by rw [show a + (h - a + j) = h by omega, hb]; rfl
        have z2 : cnt (fun j => !bl (a + (h - a + (1 + j)))) (e - (h + 1)) = cnt (fun j => !bl (h + 1 + j)) (e - (h + 1)) := cnt_congr _ fun j hj => by rw [show a + (h - a + (1 + j)) = h + 1 + j by omega]
        rw [z, z2]
        omega
      · rw [show e - (h + 1) = 0 by omega, show h - a = e - a by omega, cnt_yes (e - a) fun j hj => by rw [k3 (a + j) (by omega) (by omega)]; rfl]
        rfl
    · rw [cutB_end (by omega), show e - a = 0 by omega]
      rfl
/-- The stretches of a cell. -/
def strC (bl : Nat → Bool) (c : Cel) : List (Nat × Nat) := if c.h.tg = 1 then [] else cutB bl c.h.sz.toNat c.a.toNat (c.a.toNat + c.h.sz.toNat)
def strF (bl : Nat → Bool) : List Cel → List (Nat × Nat)
  | [] => []
  | c :: cs => strC bl c ++ strF bl cs
theorem strF_append : ∀ A B : List Cel, strF bl (A ++ B) = strF bl A ++ strF bl B
  | [], B => rfl
  | c :: A, B => by
    show strC bl c ++ strF bl (A ++ B) = strC bl c ++ strF bl A ++ strF bl B
    rw [strF_append A B, List.append_assoc]
theorem mem_strF {p : Nat × Nat} : ∀ {cs : List Cel}, p ∈ strF bl cs ↔ ∃ c ∈ cs, p ∈ strC bl c
  | [] => ⟨fun h => (by cases h), fun ⟨c, h, _⟩ => (by cases h)⟩
  | c :: cs => by
    show p ∈ strC bl c ++ strF bl cs ↔ _
    rw [List.mem_append, mem_strF]
    constructor
    · rintro (h | ⟨d, h1, h2⟩)
      · exact ⟨c, by simp, h⟩
      · exact ⟨d, List.mem_cons_of_mem _ h1, h2⟩
    · rintro ⟨d, h1, h2⟩
      rcases List.mem_cons.1 h1 with h1 | h1
      · exact .inl (h1 ▸ h2)
      · exact .inr ⟨d, h1, h2⟩
section
variable {ws : List Int} {l : List Ty} {cs : List Cel} {N f : Int}
theorem strC_in {c : Cel} (ha : 0 ≤ c.a) (hs : 0 ≤ c.h.sz) {p : Nat × Nat} (h : p ∈ strC bl c) : 1 ≤ p.2 ∧ RoomIn bl c p.2 p.1 := by
  unfold strC at h
  by_cases ht : c.h.tg = 1
  · rw [if_pos ht] at h
    cases h
  · rw [if_neg ht] at h
    obtain ⟨h1, h2, h3, h4⟩ := cut_in _ _ _ (by omega) p h
    exact ⟨h1, ht, by omega, by omega, h4⟩
theorem strC_all {c : Cel} (ha : 0 ≤ c.a) (hs : 0 ≤ c.h.sz) {n g : Nat} (hn : 1 ≤ n) (h : RoomIn bl c n g) : ∃ p ∈ strC bl c, p.1 ≤ g ∧ g + n ≤ p.1 + p.2 := by
  obtain ⟨h1, h2, h3, h4⟩ := h
  unfold strC
  rw [if_neg h1]
  exact cut_all _ _ _ (by omega) g n hn (by omega) (by omega) h4
theorem strF_in (hT : Tiled ws l f cs N) (hf : 0 ≤ f) {p : Nat × Nat} (h : p ∈ strF bl cs) : 1 ≤ p.2 ∧ f ≤ (p.1 : Int) ∧ ∃ c ∈ cs, RoomIn bl c p.2 p.1 := by
  obtain ⟨c, hc, hp⟩ := mem_strF.1 h
  obtain ⟨m1, m2, m3, m4⟩ := hT.mem c hc
  have := can_sz m3
  obtain ⟨h1, h2⟩ := strC_in (by omega) (by omega) hp
  have := h2.2.1
  exact ⟨h1, by omega, c, hc, h2⟩
theorem strF_all (hT : Tiled ws l f cs N) (hf : 0 ≤ f) {n g : Nat} (hn : 1 ≤ n) {c : Cel} (hc : c ∈ cs) (h : RoomIn bl c n g) : ∃ p ∈ strF bl cs, p.1 ≤ g ∧ g + n ≤ p.1 + p.2 := by
  obtain ⟨m1, m2, m3, m4⟩ := hT.mem c hc
  have := can_sz m3
  obtain ⟨p, h1, h2, h3⟩ := strC_all (by omega) (by omega) hn h
  exact ⟨p, mem_strF.2 ⟨c, hc, h1⟩, h2, h3⟩
theorem strF_rise : ∀ {cs : List Cel} {f : Int}, Tiled ws l f cs N → 0 ≤ f → (strF bl cs).Pairwise (fun p q => p.1 ≤ q.1)
  | [], _, _, _ => List.Pairwise.nil
  | c :: cs, f, hT, hf => by
    have hs := can_sz hT.2.1
    have ha := hT.1
    refine List.pairwise_append.2 ⟨?_, strF_rise hT.2.2.2.2 (by omega), fun p hp q hq => ?_⟩
    · unfold strC
      by_cases ht : c.h.tg = 1
      · rw [if_pos ht]; exact List.Pairwise.nil
      · rw [if_neg ht]; exact cut_rise _ _ _ (by omega)
    · have h1 := (strC_in (by omega) (by omega) hp).2
      have h2 := (strF_in hT.2.2.2.2 (by omega) hq).2.1
      have := h1.2.2.1
      omega
theorem strF_sum : ∀ (cs : List Cel), (∀ c ∈ cs, 0 ≤ c.h.sz) → sumL (strF bl cs) = freeSum bl cs
  | [], _ => rfl
  | c :: cs, h => by
    show sumL (strC bl c ++ strF bl cs) = freeIn bl c + freeSum bl cs
    rw [sumL_append, strF_sum cs fun d hd => h d (List.mem_cons_of_mem _ hd)]
    congr 1
    unfold strC freeIn
    by_cases ht : c.h.tg = 1
    · rw [if_pos ht, if_pos ht]
      rfl
    · rw [if_neg ht, if_neg ht, cut_sum _ _ _ (by omega), show c.a.toNat + c.h.sz.toNat - c.a.toNat = c.h.sz.toNat by omega]
/-- What First tells. -/
theorem first_none_of (hT : Tiled ws l 0 cs N) {n : Nat} (hn : 1 ≤ n) (h : ∀ p ∈ strF bl cs, p.2 < n) : firstF bl cs n = none :=
  scan_none fun c hc g hr => by
    obtain ⟨p, hp, h1, h2⟩ := strF_all hT (Int.le_refl _) hn hc hr
    have := h p hp
    omega
theorem first_some_of (hT : Tiled ws l 0 cs N) {n : Nat} (hn : 1 ≤ n) {A B : List (Nat × Nat)} {p : Nat × Nat} (e : strF bl cs = A ++ p :: B) (hA : ∀ q ∈ A, q.2 < n) (hp : n ≤ p.2) : firstF bl cs n = some p.1 := by
  obtain ⟨h1, h2, c, hc, hr⟩ := strF_in (bl := bl) hT (Int.le_refl _) (p := p) (by rw [e]; simp)
  have hb : roomB bl cs n p.1 = true := room_in.2 ⟨c, hc, roomIn_less hr hp⟩
  have hN := hT.sum
  refine first_is (by have := room_fit hT hb; omega) hb fun j hj => ?_
  cases hj' : roomB bl cs n j with
  | false => rfl
  | true =>
    obtain ⟨d, hd, hd'⟩ := room_in.1 hj'
    obtain ⟨q, hq, q1, q2⟩ := strF_all hT (Int.le_refl _) hn hd hd'
    have hri := strF_rise (bl := bl) hT (Int.le_refl _)
    rw [e] at hq hri
    rcases List.mem_append.1 hq with k | k
    · have := hA q k
      omega
    · rcases List.mem_cons.1 k with k | k
      · subst k; omega
      · have := (List.pairwise_cons.1 (List.pairwise_append.1 hri).2.1).1 q k
        omega
/-- The greatest of stretches. -/
def maxL : List (Nat × Nat) → Nat
  | [] => 0
  | p :: L => max p.2 (maxL L)
theorem maxL_snoc : ∀ (A : List (Nat × Nat)) (p : Nat × Nat), maxL (A ++ [p]) = max (maxL A) p.2
  | [], p => by
    show max p.2 0 = max 0 p.2
    omega
  | q :: A, p => by
    show max q.2 (maxL (A ++ [p])) = max (max q.2 (maxL A)) p.2
    rw [maxL_snoc A p]
    omega
theorem maxL_ge : ∀ {A : List (Nat × Nat)} {p : Nat × Nat}, p ∈ A → p.2 ≤ maxL A
  | q :: A, p, h => by
    show p.2 ≤ max q.2 (maxL A)
    rcases List.mem_cons.1 h with h | h
    · subst h; omega
    · have := maxL_ge h
      omega
theorem maxL_at : ∀ (A : List (Nat × Nat)), maxL A = 0 ∨ ∃ p ∈ A, p.2 = maxL A
  | [] => .inl rfl
  | q :: A => by
    have e : maxL (q :: A) = max q.2 (maxL A) := rfl
    rw [e]
    rcases Nat.le_total q.2 (maxL A) with h | h
    · rw [Nat.max_eq_right h]
      exact (maxL_at A).imp id fun ⟨p, h1, h2⟩ => ⟨p, List.mem_cons_of_mem _ h1, h2⟩
    · rw [Nat.max_eq_left h]
      exact .inr ⟨q, by simp, rfl⟩
theorem most_of (hT : Tiled ws l 0 cs N) : mostF bl cs = maxL (strF bl cs) := by
  refine mostTo_all hT ⟨?_, fun n hn c hc g hr => ?_⟩
  · rcases maxL_at (strF bl cs) with h | ⟨p, h1, h2⟩
    · exact .inl h
    · obtain ⟨_, _, c, hc, hr⟩ := strF_in hT (Int.le_refl _) h1
      rw [← h2]
      exact .inr ⟨c, hc, _, hr⟩
  · obtain ⟨p, h1, h2, h3⟩ := strF_all hT (Int.le_refl _) (by omega) hc hr
    have := maxL_ge h1
    omega
theorem free_of (hT : Tiled ws l 0 cs N) : freeF bl cs = sumL (strF bl cs) := by
  rw [free_sum hT, strF_sum cs fun c hc => by have := can_sz (hT.mem c hc).2.2.1; omega]
/-- No stretch, nor all together, is greater than the space. -/
theorem strF_few (hT : Tiled ws l 0 cs N) : sumL (strF bl cs) ≤ (tot cs).toNat := by
  rw [← free_of hT]
  exact free_le bl
theorem sum_mem : ∀ {L : List (Nat × Nat)} {p : Nat × Nat}, p ∈ L → p.2 ≤ sumL L
  | q :: L, p, h => by
    show p.2 ≤ q.2 + sumL L
    rcases List.mem_cons.1 h with h | h
    · subst h; omega
    · have := sum_mem h
      omega
end
end
end Go.Proofs.YtoagghileebokaaGreatDoor.Ft
