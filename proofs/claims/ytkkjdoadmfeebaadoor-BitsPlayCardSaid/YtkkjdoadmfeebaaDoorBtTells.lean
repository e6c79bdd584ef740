/-
  What is told of a place, and the law's Same.
-/
import Derived.Test.YtkkjdoadmfeebaaDoorBtRound
namespace Go.Proofs.YtkkjdoadmfeebaaDoor.Bt
open Go.RowKit Go.Proofs.YtkkjdoadmfeebaaDoor.Ar Go.Proofs.YtkkjdoadmfeebaaDoor.Wd
set_option linter.unusedVariables false
attribute [local go_sem ↓] Go.wp_at_zero Go.wp_at_succ

set_option maxRecDepth 100000 in
set_option maxHeartbeats 1600000 in
theorem tells_ok (bs : List Bool) (p q r s : Nat) (w : World) (h : Bv w p q bs) (hr : Rf w r s bs) (hT : Table w) (i n : Int) (i1 : -9223372036854775808 ≤ i) (i2 : i ≤ 9223372036854775807) (n1 : -9223372036854775808 ≤ n) (n2 : n ≤ 9223372036854775807) :
    Calls Tryd.prog 16 #[.pointer (some ⟨p, 0, none⟩), .pointer (some ⟨r, 0, none⟩), .int .i64 i, .int .i64 n] w fun e w' => e = .returned (.bool true) ∧ Kept [] w w' := by
  have A1 := Lib.hid (fun x (hk : Kept [] w x) => next_ok bs p q x (h.keep0 hk) (tableKeep hT hk) i i1 i2)
  have A2 := Lib.hid (fun x (hk : Kept [] w x) => nextClear_ok bs p q x (h.keep0 hk) (tableKeep hT hk) i i1 i2)
  have A3 := Lib.hid (fun x (hk : Kept [] w x) => prev_ok bs p q x (h.keep0 hk) i i1 i2)
  have A4 := Lib.hid (fun x (hk : Kept [] w x) => count_ok bs p q x (h.keep0 hk) i n i1 i2 n1 n2)
  have A5 := Lib.hid (fun x (hk : Kept [] w x) => has_ok bs p q x (h.keep0 hk) i i1 i2)
  have B1 := Lib.hid (fun x (hk : Kept [] w x) => refNext_ok x (hr.keep0 hk) i i1 i2 true)
  have B2 := Lib.hid (fun x (hk : Kept [] w x) => refNext_ok x (hr.keep0 hk) i i1 i2 false)
  have B3 := Lib.hid (fun x (hk : Kept [] w x) => refPrev_ok x (hr.keep0 hk) i i1 i2)
  have B4 := Lib.hid (fun x (hk : Kept [] w x) => refCount_ok x (hr.keep0 hk) i n i1 i2 n1 n2)
  have B5 := Lib.hid (fun x (hk : Kept [] w x) => refHas_ok x (hr.keep0 hk) i i1 i2)
  clear h hr hT
  generalize atI (nextO bs i true) = x1, (nextO bs i true).isSome = y1 at *
  generalize atI (nextO bs i false) = x2, (nextO bs i false).isSome = y2 at *
  generalize atI (prevO bs i) = x3, (prevO bs i).isSome = y3 at *
  generalize cntI bs i n = x4, errOf (within bs.length i n) = y4 at *
  generalize hasV bs i = y5 at *
  have hk0 : Kept [] w w := Kept.refl _ _
  go_enter Tryd.func16, Tryd.ntmps16
  go_wp2_with fail
  refine (A1.out _ hk0).mono ?_; rintro e w1 ⟨rfl, hk⟩
  have hk1 := hk0.trans hk
  clear hk
  go_wp2_with fail
  refine (B1.out _ hk1).mono ?_; rintro e w' ⟨rfl, rfl⟩
  go_wp2_with fail
  refine (A2.out _ hk1).mono ?_; rintro e w2 ⟨rfl, hk⟩
  have hk2 := hk1.trans hk
  clear hk
  go_wp2_with fail
  refine (B2.out _ hk2).mono ?_; rintro e w' ⟨rfl, rfl⟩
  go_wp2_with fail
  refine (A3.out _ hk2).mono ?_; rintro e w3 ⟨rfl, hk⟩
  have hk3 := hk2.trans hk
  clear hk
  go_wp2_with fail
  refine (B3.out _ hk3).mono ?_; rintro e w' ⟨rfl, rfl⟩
  go_wp2_with fail
  refine (A4.out _ hk3).mono ?_; rintro e w4 ⟨rfl, hk⟩
  have hk4 := hk3.trans hk
  clear hk
  go_wp2_with fail
  refine (B4.out _ hk4).mono ?_; rintro e w' ⟨rfl, rfl⟩
  go_wp2_with fail
  refine (A5.out _ hk4).mono ?_; rintro e w5 ⟨rfl, hk⟩
  have hk5 := hk4.trans hk
  clear hk
  go_wp2_with fail
  refine (B5.out _ hk5).mono ?_; rintro e w' ⟨rfl, rfl⟩
  go_wp2_with fail
  go_ret
  exact ⟨rfl, hk5⟩

set_option maxRecDepth 100000 in
set_option maxHeartbeats 1600000 in
theorem lawSame_ok (bs : List Bool) (p q r s : Nat) (w : World) (h : Bv w p q bs) (hr : Rf w r s bs) (hT : Table w) :
    Calls Tryd.prog 17 #[.pointer (some ⟨p, 0, none⟩), .pointer (some ⟨r, 0, none⟩)] w fun e w' => e = .returned (.bool true) ∧ Kept [] w w' := by
  have hl := runs_len bs
  have hf := hr.few
  have CL := Lib.hid (fun x (hk : Kept [] w x) => let ⟨ws, hV, _⟩ := h.keep0 hk; len_ok x hV)
  have cb : ∀ x, Kept [] w x → Calls Tryd.prog 18 #[.pointer (some ⟨p, 0, none⟩)] x fun e z => ∃ v, e = .returned v ∧ OwnR z v (runsV bs) ∧ Kept [] x z ∧ Kept [] w z := fun x hk => (runs_ok bs p q x (h.keep0 hk) (tableKeep hT hk)).mono fun e z ⟨v, he, ho, _, hz⟩ => ⟨v, he, ho, hz, hk.trans hz⟩
  have cr : ∀ x, Kept [] w x → Calls Tryd.prog 34 #[.pointer (some ⟨r, 0, none⟩)] x fun e z => ∃ v, e = .returned v ∧ OwnR z v (runsV bs) ∧ Kept [] x z ∧ Kept [] w z := fun x hk => (refRuns_ok bs r s x (hr.keep0 hk)).mono fun e z ⟨v, he, ho, _, hz⟩ => ⟨v, he, ho, hz, hk.trans hz⟩
  have CB := Lib.hid cb
  have CR := Lib.hid cr
  clear cb cr
  have CS := Lib.hid (fun x v1 v2 h1 h2 => sameRuns_ok x v1 v2 (runsV bs) (runsV bs) h1 h2 (by omega) (by omega))
  rw [decide_eq_true (show runsV bs = runsV bs from rfl)] at CS
  have c0 := hr.head.cell 0
  clear h hr hT
  generalize runsV bs = R at *
  generalize bs.length = n at *
  go_enter Tryd.func17, Tryd.ntmps17
  go_wp2_with fail
  go_region_with (first | (go_at_call 10; refine (CL.out _ ?_).mono ?_; (first | exact Kept.refl _ _ | exact (Kept.refl _ _).drewN _); rintro e y ⟨rfl, rfl⟩) | (go_at_call 18; refine (CB.out _ ?_).mono ?_; (first | exact Kept.refl _ _ | exact (Kept.refl _ _).drewN _ | exact xR | exact xR.drewN _); rintro e y ⟨vB, rfl, oB, kB, xB⟩) | (go_at_call 34; refine (CR.out _ ?_).mono ?_; (first | exact Kept.refl _ _ | exact (Kept.refl _ _).drewN _ | exact xB | exact xB.drewN _); rintro e y ⟨vR, rfl, oR, kR, xR⟩) | (go_at_call 26; refine (CS.out _ _ _ ?_ ?_).mono ?_; (first | exact oB | exact oB.keep0 ((Kept.refl _ _).drewN _) | exact oB.keep0 kR | exact oB.keep0 (kR.drewN _) | exact oB.keep0 (((Kept.refl _ _).drewN _).trans kR) | exact oB.keep0 ((((Kept.refl _ _).drewN _).trans kR).drewN _)); (first | exact oR | exact oR.keep0 ((Kept.refl _ _).drewN _) | exact oR.keep0 kB | exact oR.keep0 (kB.drewN _) | exact oR.keep0 (((Kept.refl _ _).drewN _).trans kB) | exact oR.keep0 ((((Kept.refl _ _).drewN _).trans kB).drewN _)); rintro e y ⟨rfl, m, rfl⟩))
  all_goals
    go_wp2_with fail
    go_ret
    refine ⟨rfl, ?_⟩
    first | exact xB.drewN _ | exact xR.drewN _ | exact (xB.drewN _).drewN _ | exact (xR.drewN _).drewN _
end Go.Proofs.YtkkjdoadmfeebaaDoor.Bt
