/-
  A round of the laws that only play: a step taken beside a fresh row.
-/
import Derived.Test.YtkkjdoadmfeebaaDoorBtDoes
namespace Go.Proofs.YtkkjdoadmfeebaaDoor.Bt
open Go.RowKit Go.Proofs.YtkkjdoadmfeebaaDoor.Ar Go.Proofs.YtkkjdoadmfeebaaDoor.Wd
set_option linter.unusedVariables false

/-- Where such a law stands between two steps. -/
def Stands (w x : World) (p q n : Nat) (bs : List Bool) : Prop := Bv x p q bs ∧ bs.length = n ∧ w.heap.size ≤ p ∧ w.heap.size ≤ q ∧ Kept [] w x
theorem Stands.stay {w x y : World} {p q n : Nat} {bs : List Bool} (h : Stands w x p q n bs) (k : Kept [] x y) : Stands w y p q n bs :=
  ⟨h.1.keep0 k, h.2.1, h.2.2.1, h.2.2.2.1, h.2.2.2.2.trans k⟩
/-- The vector was written to. -/
theorem Stands.put {w x y : World} {p q n : Nat} {bs vs : List Bool} (h : Stands w x p q n bs) (hv : Bv y p q vs) (hl : vs.length = bs.length) (k : Kept [q] x y) : Stands w y p q n vs :=
  ⟨hv, hl.trans h.2.1, h.2.2.1, h.2.2.2.1, h.2.2.2.2.forget k fun i hi => by rw [List.mem_singleton.1 hi]; exact h.2.2.2.1⟩
theorem good_new {w : World} {n : Nat} {x : World} (hv : Bv x (w.heap.size + 1) w.heap.size (List.replicate n false)) (hk : Kept [] w x) : Stands w x (w.heap.size + 1) w.heap.size n (List.replicate n false) :=
  ⟨hv, List.length_replicate, Nat.le_succ _, Nat.le_refl _, hk⟩
theorem fresh_next (n : Nat) (hn : n ≤ 65536) (x y : World) (hk : Kept [] x y) :
    Calls Tryd.prog 11 #[.int .i64 n] y fun e z => ∃ s0, e = .returned (.pointer (some ⟨s0 + 1, 0, none⟩)) ∧ x.heap.size ≤ s0 ∧ Rf z (s0 + 1) s0 (List.replicate n false) ∧ Kept [] x z :=
  (refNew_ok n hn y).mono fun _ _ ⟨he, hr, hz⟩ => ⟨_, he, hk.more, hr, hk.trans hz⟩
theorem does_next {w x : World} {p q n : Nat} {bs : List Bool} (h : Stands w x p q n bs) (s : Stp) (hs : s.ok) (s0 : Nat) (z u : World) (h0 : x.heap.size ≤ s0) (hR : Rf z (s0 + 1) s0 (List.replicate n false)) (hz : Kept [] x z) (hu : Kept [] z u) :
    Calls Tryd.prog 15 #[.pointer (some ⟨p, 0, none⟩), .pointer (some ⟨s0 + 1, 0, none⟩), .agg #[.int .i64 s.d, .int .i64 s.a, .int .i64 s.n]] u fun e t => e = .returned (.bool true) ∧ Stands w t p q n (stepB bs s) := by
  have hm := h.2.2.2.2.more
  refine (does_ok (h.1.keep0 (hz.trans hu)) (hR.keep0 hu) (by rw [List.length_replicate]; exact h.2.1.symm) s hs).mono ?_
  rintro e t ⟨rfl, hB, _, hK⟩
  refine ⟨rfl, hB, (stepB_length _ _).trans h.2.1, h.2.2.1, h.2.2.2.1, (h.2.2.2.2.trans (hz.trans hu)).forget hK fun i hi => ?_⟩
  have h4 := h.2.2.2.1
  simp at hi
  omega
/-- A step of a row that came in, read in a later world. -/
theorem Steps.later {w : World} {A : Option Addr} {L : List Stp} (h : Steps w A L) (hne : L ≠ []) : ∃ g f, A = some ⟨g, f, none⟩ ∧ ∀ x, Kept [] w x → ∀ j s, L[j]? = some s → ∀ k v, s.cells[k]? = some v → x.cell? ⟨g, f + (j * 3 + k), none⟩ = some v := by
  obtain ⟨g, f, e, hg, hc⟩ := h hne
  exact ⟨g, f, e, fun x hx j s hj k v hv => (World.cell?_of_block (w := w) (hx.old g hg (by simp))).trans (hc j s hj k v hv)⟩

/-! ## What the counts come to -/
theorem within_parts {L : Nat} {a m c : Int} (h : within L a m = true) (c0 : 0 ≤ c) (c1 : c ≤ m) : within L a c = true ∧ within L (a + c) (m - c) = true := by
  obtain ⟨h1, h2, h3⟩ := (within_iff _ _ _).1 h
  exact ⟨(within_iff _ _ _).2 ⟨h1, c0, by omega⟩, (within_iff _ _ _).2 ⟨by omega, by omega, by omega⟩⟩
theorem cntI_out {bs : List Bool} {a m : Int} (h : within bs.length a m = false) : cntI bs a m = 0 := by
  unfold cntI; rw [h]; rfl
theorem cntI_nat (bs : List Bool) (a m : Nat) (h : a + m ≤ bs.length) : cntI bs a m = (cnt (fun j => bit bs (a + j)) m : Nat) := by
  unfold cntI
  rw [if_pos ((within_iff _ _ _).2 ⟨by omega, by omega, by omega⟩), Int.toNat_natCast, Int.toNat_natCast]
theorem cntI_le {bs : List Bool} {a m : Int} (h : within bs.length a m = true) : 0 ≤ cntI bs a m ∧ cntI bs a m ≤ m := by
  obtain ⟨h1, h2, h3⟩ := (within_iff _ _ _).1 h
  obtain ⟨a, rfl⟩ := Int.eq_ofNat_of_zero_le h1
  obtain ⟨m, rfl⟩ := Int.eq_ofNat_of_zero_le h2
  have := cnt_le (fun j => bit bs (a + j)) m
  rw [cntI_nat bs a m (by omega)]
  omega
theorem layB_nat (bs : List Bool) (a m : Nat) (st : Bool) (h : a + m ≤ bs.length) : layB bs a m st = laid bs a m st := by
  unfold layB
  rw [if_pos ((within_iff _ _ _).2 ⟨by omega, by omega, by omega⟩), Int.toNat_natCast, Int.toNat_natCast]
theorem cnt_all (f : Nat → Bool) (k : Nat) (h : ∀ j, j < k → f j = true) : cnt f k = k := by
  induction k with
  | zero => rfl
  | succ k ih =>
    rw [cnt_add f k 1, ih fun j hj => h j (by omega)]
    show k + cnt (fun j => f (k + j)) 1 = k + 1
    have : cnt (fun j => f (k + j)) 1 = 1 := by simp [cnt, h k (by omega)]
    rw [this]
theorem cnt_zero (f : Nat → Bool) (k : Nat) (h : ∀ j, j < k → f j = false) : cnt f k = 0 := by
  induction k with
  | zero => rfl
  | succ k ih =>
    rw [cnt_add f k 1, ih fun j hj => h j (by omega)]
    have : cnt (fun j => f (k + j)) 1 = 0 := by simp [cnt, h k (by omega)]
    rw [this]
theorem cntI_parts {bs : List Bool} {a m c : Int} (h : within bs.length a m = true) (c0 : 0 ≤ c) (c1 : c ≤ m) : cntI bs a c + cntI bs (a + c) (m - c) = cntI bs a m := by
  obtain ⟨h1, h2, h3⟩ := (within_iff _ _ _).1 h
  obtain ⟨a, rfl⟩ := Int.eq_ofNat_of_zero_le h1
  obtain ⟨m, rfl⟩ := Int.eq_ofNat_of_zero_le h2
  obtain ⟨c, rfl⟩ := Int.eq_ofNat_of_zero_le c0
  obtain ⟨d, rfl⟩ : ∃ d, m = c + d := ⟨m - c, by omega⟩
  rw [show ((a : Int) + (c : Int)) = ((a + c : Nat) : Int) by omega, show (((c + d : Nat) : Int) - (c : Int)) = (d : Int) by omega, cntI_nat bs a c (by omega), cntI_nat bs (a + c) d (by omega), cntI_nat bs a (c + d) (by omega), cnt_add]
  simp only [Nat.add_assoc]
  omega
theorem cntI_set {bs : List Bool} {a m c : Int} (h : within bs.length a m = true) (c0 : 0 ≤ c) (c1 : c ≤ m) : cntI (layB bs a c true) a m = c + cntI bs (a + c) (m - c) := by
  obtain ⟨h1, h2, h3⟩ := (within_iff _ _ _).1 h
  obtain ⟨a, rfl⟩ := Int.eq_ofNat_of_zero_le h1
  obtain ⟨m, rfl⟩ := Int.eq_ofNat_of_zero_le h2
  obtain ⟨c, rfl⟩ := Int.eq_ofNat_of_zero_le c0
  obtain ⟨d, rfl⟩ : ∃ d, m = c + d := ⟨m - c, by omega⟩
  rw [show ((a : Int) + (c : Int)) = ((a + c : Nat) : Int) by omega, show (((c + d : Nat) : Int) - (c : Int)) = (d : Int) by omega, layB_nat bs a c true (by omega), cntI_nat _ a (c + d) (by rw [laid_length]; omega), cntI_nat bs (a + c) d (by omega), cnt_add]
  rw [cnt_all _ c fun j hj => by rw [laid_bit _ _ _ _ _ (by omega), if_pos ⟨by omega, by omega⟩], cnt_congr (g := fun j => bit bs (a + c + j)) d fun j hj => by rw [laid_bit _ _ _ _ _ (by omega), if_neg (by omega), Nat.add_assoc]]
  omega
theorem cntI_clear {bs : List Bool} {a m : Int} (h : within bs.length a m = true) : cntI (layB bs a m false) a m = 0 := by
  obtain ⟨h1, h2, h3⟩ := (within_iff _ _ _).1 h
  obtain ⟨a, rfl⟩ := Int.eq_ofNat_of_zero_le h1
  obtain ⟨m, rfl⟩ := Int.eq_ofNat_of_zero_le h2
  rw [layB_nat bs a m false (by omega), cntI_nat _ a m (by rw [laid_length]; omega), cnt_zero _ m fun j hj => by rw [laid_bit _ _ _ _ _ (by omega), if_pos ⟨by omega, by omega⟩]]
  rfl
end Go.Proofs.YtkkjdoadmfeebaaDoor.Bt
