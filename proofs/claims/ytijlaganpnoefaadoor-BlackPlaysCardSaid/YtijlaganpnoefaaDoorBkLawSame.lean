/-
  Stage 12, black: the law's Same: a list has the document's black ones.
-/
import Derived.Test.YtijlaganpnoefaaDoorBkCtr
import Derived.Deep.RegionHeld3
namespace Go.Proofs.YtijlaganpnoefaaDoor.Bk
open Go.RowKit Go.Proofs.YtijlaganpnoefaaDoor.Ar
set_option linter.unusedVariables false
section
variable {G : World → Prop} {P : World → World → Nat → List Nat → List Int → Prop} {w x : World} {p r q : Nat} {T : List Nat} {ls : List Int}
set_option maxRecDepth 100000 in
set_option maxHeartbeats 16000000 in
theorem lsame_ok (C : Ctr G P) (h : BDuo P w x p T ls r q ls) :
    Calls Tryd.prog 16 #[.pointer (some ⟨p, 0, none⟩), .pointer (some ⟨r, 0, none⟩)] x fun e y => e = .returned (.bool true) ∧ Kept [] x y := by
  have hfew := h.doc.few
  have hll : (listL ls).length ≤ 65536 := Nat.le_trans (listFrom_len 0 ls) hfew
  have c0 := h.doc.c0
  have H0 := Lib.hid h
  have HC := Lib.hid C
  have HCl : Hid (∀ y, Kept [] x y → y.cell? ⟨r, 0, none⟩ = some (.slice (some ⟨q, 0, none⟩) ls.length ls.length)) := Lib.hid fun y k => (H0.out.keep0 HC.out k).doc.c0
  have CLen : Hid (∀ y0 y, Kept [] x y0 → Kept [] y0 y → Calls Tryd.prog 22 #[.pointer (some ⟨p, 0, none⟩)] y fun e z => e = .returned (.int .i64 ls.length) ∧ Hid (Kept [] x z) ∧ z.cell? ⟨r, 0, none⟩ = some (.slice (some ⟨q, 0, none⟩) ls.length ls.length)) := Lib.hid fun y0 y k0 k => by
    have hk := k0.trans k
    refine (HC.out.len (H0.out.keep0 HC.out hk).ours).mono ?_
    rintro e z ⟨he, kz⟩
    exact ⟨he, Lib.hid (hk.trans kz), HCl.out z (hk.trans kz)⟩
  have CCount : Hid (∀ y0 y, Kept [] x y0 → Kept [] y0 y → Calls Tryd.prog 21 #[.pointer (some ⟨p, 0, none⟩)] y fun e z => e = .returned (.int .i64 (listL ls).length) ∧ Hid (Kept [] x z) ∧ z.cell? ⟨r, 0, none⟩ = some (.slice (some ⟨q, 0, none⟩) ls.length ls.length)) := Lib.hid fun y0 y k0 k => by
    have hk := k0.trans k
    refine (HC.out.count (H0.out.keep0 HC.out hk).ours).mono ?_
    rintro e z ⟨he, kz⟩
    exact ⟨he, Lib.hid (hk.trans kz), HCl.out z (hk.trans kz)⟩
  have CList : Hid (∀ y0 y, Kept [] x y0 → Kept [] y0 y → Calls Tryd.prog 23 #[.pointer (some ⟨p, 0, none⟩)] y fun e z => ∃ v, e = .returned v ∧ Hid (Kept [] x z ∧ Ir.Own z v (listL ls)) ∧ z.cell? ⟨r, 0, none⟩ = some (.slice (some ⟨q, 0, none⟩) ls.length ls.length)) := Lib.hid fun y0 y k0 k => by
    have hk := k0.trans k
    refine (HC.out.list (H0.out.keep0 HC.out hk).ours).mono ?_
    rintro e z ⟨v, he, ho, _, kz⟩
    exact ⟨v, he, Lib.hid ⟨hk.trans kz, ho⟩, HCl.out z (hk.trans kz)⟩
  have CDoc : Hid (∀ y0 y, Kept [] x y0 → Kept [] y0 y → Calls Tryd.prog 30 #[.pointer (some ⟨r, 0, none⟩)] y fun e z => ∃ A c, e = .returned (.slice A (listL ls).length c) ∧ Hid (Kept [] x z ∧ Ir.Own z (.slice A (listL ls).length c) (listL ls) ∧ ∀ v l, Ir.Own y0 v l → Ir.Own z v l) ∧ z.cell? ⟨r, 0, none⟩ = some (.slice (some ⟨q, 0, none⟩) ls.length ls.length)) := Lib.hid fun y0 y k0 k => by
    have hk := k0.trans k
    refine (blist_ok (H0.out.keep0 HC.out hk).doc).mono ?_
    rintro e z ⟨v, he, ho, _, kz⟩
    obtain ⟨A, c, rfl, _⟩ := Ir.back_own (Kept.refl [] _) ho
    exact ⟨A, c, he, Lib.hid ⟨hk.trans kz, ho, fun v l hv => (hv.keep0 k).keep0 kz⟩, HCl.out z (hk.trans kz)⟩
  have CSame : Hid (∀ y0 y v1 v2, Kept [] x y0 → Kept [] y0 y → Ir.Own y0 v1 (listL ls) → Ir.Own y0 v2 (listL ls) → Calls Tryd.prog 24 #[v1, v2] y fun e z => e = .returned (.bool true) ∧ Hid (Kept [] x z) ∧ z.cell? ⟨r, 0, none⟩ = some (.slice (some ⟨q, 0, none⟩) ls.length ls.length)) := Lib.hid fun y0 y v1 v2 k0 k h1 h2 => by
    have hk := k0.trans k
    refine (same_own (h1.keep0 k) (h2.keep0 k) hll hll).mono ?_
    rintro e z ⟨he, kz⟩
    rw [decide_eq_true rfl] at he
    exact ⟨he, Lib.hid (hk.trans kz), HCl.out z (hk.trans kz)⟩
  have HK : Hid (Kept [] x x) := Lib.hid (Kept.refl _ _)
  clear h C HC HCl
  generalize (listL ls).length = m at *
  generalize ls.length = n at *
  go_enter Tryd.func16, Tryd.ntmps16
  go_wp2_with fail
  go_region_held3 (fun y => y.cell? ⟨r, 0, none⟩ = some (.slice (some ⟨q, 0, none⟩) n n)) (go_keep)
    (first
      | (go_at_call 22; refine (CLen.out _ _ HK.out ?_).mono ?_; (first | exact Kept.refl _ _ | exact (Kept.refl _ _).drew | exact (Kept.refl _ _).drewN _); rintro e z1 ⟨rfl, K1, w1⟩)
      | (go_at_call 23; refine (CList.out _ _ K1.out ?_).mono ?_; (first | exact Kept.refl _ _ | exact (Kept.refl _ _).drew | exact (Kept.refl _ _).drewN _); rintro e z2 ⟨v2, rfl, K2, w2⟩)
      | (go_at_call 30; (first | (refine (CDoc.out _ _ K5.out ?_).mono ?_; (first | exact Kept.refl _ _ | exact (Kept.refl _ _).drew | exact (Kept.refl _ _).drewN _); rintro e z6 ⟨A6, c6, rfl, K6, w6⟩) | (refine (CDoc.out _ _ K2.out.1 ?_).mono ?_; (first | exact Kept.refl _ _ | exact (Kept.refl _ _).drew | exact (Kept.refl _ _).drewN _); rintro e z3 ⟨A3, c3, rfl, K3, w3⟩)))
      | (go_at_call 24; refine (CSame.out _ _ _ _ K3.out.1 ?_ (K3.out.2.2 _ _ K2.out.2) K3.out.2.1).mono ?_; (first | exact Kept.refl _ _ | exact (Kept.refl _ _).drew | exact (Kept.refl _ _).drewN _); rintro e z4 ⟨rfl, K4, w4⟩)
      | (go_at_call 21; refine (CCount.out _ _ K4.out ?_).mono ?_; (first | exact Kept.refl _ _ | exact (Kept.refl _ _).drew | exact (Kept.refl _ _).drewN _); rintro e z5 ⟨rfl, K5, w5⟩)
      | fail)
  all_goals
    go_wp2_with fail
    go_ret
    exact ⟨rfl, by first | exact K6.out.1 | exact K6.out.1.drewN _⟩
end
end Go.Proofs.YtijlaganpnoefaaDoor.Bk
