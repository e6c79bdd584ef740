/-
  The document's set: the contracts of Add and Cut.
-/
import Derived.Test.YtbgonppichdhiaaRnRef
namespace Go.Proofs.Ytbgonppichdhiaa.Rn
open Go.RowKit Go.Proofs.Ytbgonppichdhiaa.Ar Go.Proofs.Ytbgonppichdhiaa.Bt Go.Proofs.Ytbgonppichdhiaa.Lk Go.Sort
set_option linter.unusedVariables false

theorem refAdd_bad (w : World) (r : Nat) (a n : Int) (a1 : -9223372036854775808 ≤ a) (a2 : a ≤ 9223372036854775807) (n1 : -9223372036854775808 ≤ n) (n2 : n ≤ 9223372036854775807) (hv : valid a n = false) :
    Calls Try.prog 32 #[.pointer (some ⟨r, 0, none⟩), runV a n] w fun e w' => e = .returned (.int .i64 2) ∧ Kept [] w w' := by
  have hka : ∀ o, Kept [] w (w.alloc o) := fun o => (Kept.refl [] w).alloc o
  have HM := Lib.hid (fun x => mayR_ok a n x a1 a2 n1 n2)
  rw [hv] at HM
  clear hv
  unfold runV at *
  go_enter Try.func32, Try.ntmps32
  go_wp2_with fail
  refine (HM.out _).mono ?_
  rintro e w1 ⟨rfl, hk⟩
  have Hk := Lib.hid ((hka (.cells #[.int .i64 a, .int .i64 n] 29)).trans hk)
  clear hk
  go_wp2_with fail
  go_ret
  exact ⟨rfl, Hk.out⟩
theorem refCut_bad (w : World) (r : Nat) (a n : Int) (a1 : -9223372036854775808 ≤ a) (a2 : a ≤ 9223372036854775807) (n1 : -9223372036854775808 ≤ n) (n2 : n ≤ 9223372036854775807) (hv : valid a n = false) :
    Calls Try.prog 33 #[.pointer (some ⟨r, 0, none⟩), runV a n] w fun e w' => e = .returned (.int .i64 2) ∧ Kept [] w w' := by
  have hka : ∀ o, Kept [] w (w.alloc o) := fun o => (Kept.refl [] w).alloc o
  have HM := Lib.hid (fun x => mayR_ok a n x a1 a2 n1 n2)
  rw [hv] at HM
  clear hv
  unfold runV at *
  go_enter Try.func33, Try.ntmps33
  go_wp2_with fail
  refine (HM.out _).mono ?_
  rintro e w1 ⟨rfl, hk⟩
  have Hk := Lib.hid ((hka (.cells #[.int .i64 a, .int .i64 n] 29)).trans hk)
  clear hk
  go_wp2_with fail
  go_ret
  exact ⟨rfl, Hk.out⟩
set_option maxHeartbeats 2000000 in
theorem refAdd_have (w : World) {r p q : Nat} {rs : List R} (h : RefAt w r p q rs) (a n : Nat) (hn : 1 ≤ n) (hv : a + n ≤ 65536) (hc : 0 < cntR rs a n) :
    Calls Try.prog 32 #[.pointer (some ⟨r, 0, none⟩), runV a n] w fun e w' => e = .returned (.int .i64 9) ∧ Kept [] w w' := by
  have HM := Lib.hid (fun x => mayR_ok (a : Nat) (n : Nat) x (by omega) (by omega) (by omega) (by omega))
  rw [(valid_iff (a : Nat) (n : Nat)).2 (by omega)] at HM
  have HR := Lib.hid h
  have hcl := cntR_le rs a n
  clear h
  unfold runV at *
  go_enter Try.func32, Try.ntmps32
  go_wp2_with fail
  have hB : Has (w.alloc (.cells #[.int .i64 (a : Int), .int .i64 (n : Int)] 29)) w.heap.size 29 [.int .i64 (a : Int), .int .i64 (n : Int)] := Has.new w _ [.int .i64 (a : Int), .int .i64 (n : Int)]
  have hk0 : Kept [] w (w.alloc (.cells #[.int .i64 (a : Int), .int .i64 (n : Int)] 29)) := (Kept.refl [] w).alloc _
  generalize w.alloc (.cells #[.int .i64 (a : Int), .int .i64 (n : Int)] 29) = W0 at *
  obtain ⟨bx, hbx⟩ : ∃ bx, bx = w.heap.size := ⟨_, rfl⟩
  rw [← hbx] at hB ⊢
  have HB := Lib.hid hB
  have Hk0 := Lib.hid hk0
  clear hB hk0 hbx
  refine (HM.out _).mono ?_
  rintro e W1 ⟨rfl, hk1⟩
  have HB1 := Lib.hid (HB.out.keep0 hk1)
  have Hk1 := Lib.hid (Hk0.out.trans hk1)
  clear hk1 HM
  go_wp2_with fail
  have HR1 := Lib.hid (HR.out.keep0 Hk1.out)
  have c0 := HR1.out.c0
  have d0 := HB1.out.cell 0
  have d1 := HB1.out.cell 1
  simp at d0 d1
  have CC := Lib.hid (fun k => countR_ok (W1.drewN k) (HR1.out.keep0 ((Kept.refl [] W1).drewN k)) a n hv)
  go_quiet (exact Calls.quiet_of (CC.out _))
  clear CC c0 d0 d1
  have hk2 : Kept [] W1 (W1.drewN nq) := (Kept.refl [] W1).drewN nq
  generalize W1.drewN nq = W2 at *
  have HB2 := Lib.hid (HB1.out.keep0 hk2)
  have HR2 := Lib.hid (HR1.out.keep0 hk2)
  have Hk2 := Lib.hid (Hk1.out.trans hk2)
  clear hk2
  generalize cntR rs a n = c at *
  go_wp2_with fail
  go_ret
  exact ⟨rfl, Hk2.out⟩
set_option maxHeartbeats 2000000 in
theorem refCut_none (w : World) {r p q : Nat} {rs : List R} (h : RefAt w r p q rs) (a n : Nat) (hn : 1 ≤ n) (hv : a + n ≤ 65536) (hc : cntR rs a n < n) :
    Calls Try.prog 33 #[.pointer (some ⟨r, 0, none⟩), runV a n] w fun e w' => e = .returned (.int .i64 3) ∧ Kept [] w w' := by
  have HM := Lib.hid (fun x => mayR_ok (a : Nat) (n : Nat) x (by omega) (by omega) (by omega) (by omega))
  rw [(valid_iff (a : Nat) (n : Nat)).2 (by omega)] at HM
  have HR := Lib.hid h
  have hcl := cntR_le rs a n
  clear h
  unfold runV at *
  go_enter Try.func33, Try.ntmps33
  go_wp2_with fail
  have hB : Has (w.alloc (.cells #[.int .i64 (a : Int), .int .i64 (n : Int)] 29)) w.heap.size 29 [.int .i64 (a : Int), .int .i64 (n : Int)] := Has.new w _ [.int .i64 (a : Int), .int .i64 (n : Int)]
  have hk0 : Kept [] w (w.alloc (.cells #[.int .i64 (a : Int), .int .i64 (n : Int)] 29)) := (Kept.refl [] w).alloc _
  generalize w.alloc (.cells #[.int .i64 (a : Int), .int .i64 (n : Int)] 29) = W0 at *
  obtain ⟨bx, hbx⟩ : ∃ bx, bx = w.heap.size := ⟨_, rfl⟩
  rw [← hbx] at hB ⊢
  have HB := Lib.hid hB
  have Hk0 := Lib.hid hk0
  clear hB hk0 hbx
  refine (HM.out _).mono ?_
  rintro e W1 ⟨rfl, hk1⟩
  have HB1 := Lib.hid (HB.out.keep0 hk1)
  have Hk1 := Lib.hid (Hk0.out.trans hk1)
  clear hk1 HM
  go_wp2_with fail
  have HR1 := Lib.hid (HR.out.keep0 Hk1.out)
  have c0 := HR1.out.c0
  have d0 := HB1.out.cell 0
  have d1 := HB1.out.cell 1
  simp at d0 d1
  have CC := Lib.hid (fun k => countR_ok (W1.drewN k) (HR1.out.keep0 ((Kept.refl [] W1).drewN k)) a n hv)
  go_quiet (exact Calls.quiet_of (CC.out _))
  clear CC c0 d0 d1
  have hk2 : Kept [] W1 (W1.drewN nq) := (Kept.refl [] W1).drewN nq
  generalize W1.drewN nq = W2 at *
  have HB2 := Lib.hid (HB1.out.keep0 hk2)
  have HR2 := Lib.hid (HR1.out.keep0 hk2)
  have Hk2 := Lib.hid (Hk1.out.trans hk2)
  clear hk2
  generalize cntR rs a n = c at *
  have d1 := HB2.out.cell 1
  simp at d1
  go_wp2_with fail
  go_ret
  exact ⟨rfl, Hk2.out⟩
set_option maxHeartbeats 2000000 in
theorem refAdd_yes (w : World) {r p q : Nat} {rs rs' : List R} (h : RefAt w r p q rs) (a n : Nat) (hn : 1 ≤ n) (hv : a + n ≤ 65536) (hc : cntR rs a n = 0) (hst : ∀ j, has rs' j = if a ≤ j ∧ j < a + n then true else has rs j) :
    Calls Try.prog 32 #[.pointer (some ⟨r, 0, none⟩), runV a n] w fun e w' => e = .returned (.int .i64 0) ∧ RefAt w' r p q rs' ∧ Kept [q] w w' := by
  have HM := Lib.hid (fun x => mayR_ok (a : Nat) (n : Nat) x (by omega) (by omega) (by omega) (by omega))
  rw [(valid_iff (a : Nat) (n : Nat)).2 (by omega)] at HM
  have HR := Lib.hid h
  have hcl := cntR_le rs a n
  have Hst := Lib.hid hst
  clear h hst
  unfold runV at *
  go_enter Try.func32, Try.ntmps32
  go_wp2_with fail
  have hB : Has (w.alloc (.cells #[.int .i64 (a : Int), .int .i64 (n : Int)] 29)) w.heap.size 29 [.int .i64 (a : Int), .int .i64 (n : Int)] := Has.new w _ [.int .i64 (a : Int), .int .i64 (n : Int)]
  have hk0 : Kept [] w (w.alloc (.cells #[.int .i64 (a : Int), .int .i64 (n : Int)] 29)) := (Kept.refl [] w).alloc _
  generalize w.alloc (.cells #[.int .i64 (a : Int), .int .i64 (n : Int)] 29) = W0 at *
  obtain ⟨bx, hbx⟩ : ∃ bx, bx = w.heap.size := ⟨_, rfl⟩
  rw [← hbx] at hB ⊢
  have HB := Lib.hid hB
  have Hk0 := Lib.hid hk0
  clear hB hk0 hbx
  refine (HM.out _).mono ?_
  rintro e W1 ⟨rfl, hk1⟩
  have HB1 := Lib.hid (HB.out.keep0 hk1)
  have Hk1 := Lib.hid (Hk0.out.trans hk1)
  clear hk1 HM
  go_wp2_with fail
  have HR1 := Lib.hid (HR.out.keep0 Hk1.out)
  have c0 := HR1.out.c0
  have d0 := HB1.out.cell 0
  have d1 := HB1.out.cell 1
  simp at d0 d1
  have CC := Lib.hid (fun k => countR_ok (W1.drewN k) (HR1.out.keep0 ((Kept.refl [] W1).drewN k)) a n hv)
  go_quiet (exact Calls.quiet_of (CC.out _))
  clear CC c0 d0 d1
  have hk2 : Kept [] W1 (W1.drewN nq) := (Kept.refl [] W1).drewN nq
  generalize W1.drewN nq = W2 at *
  have HB2 := Lib.hid (HB1.out.keep0 hk2)
  have HR2 := Lib.hid (HR1.out.keep0 hk2)
  have Hk2 := Lib.hid (Hk1.out.trans hk2)
  clear hk2
  rw [hc]
  clear hc hcl
  go_wp2_with fail
  have c0 := HR2.out.c0
  have d0 := HB2.out.cell 0
  have d1 := HB2.out.cell 1
  simp at d0 d1
  go_still_tail 8, (by kernel_rfl)
  change wpList _ _ _ _ _ W2.drew
  have hk3 : Kept [] W2 W2.drew := (Kept.refl [] W2).drew
  clear c0 d0 d1
  generalize W2.drew = W3 at hk3 ⊢
  have HL := Lib.hid (layR_ok W3 (HR2.out.keep0 hk3) a n hv true Hst.out)
  have Hk3 := Lib.hid (Hk2.out.trans hk3)
  clear hk3
  go_wp2_with fail
  refine HL.out.mono ?_
  rintro e W4 ⟨rfl, hR4, hk4⟩
  have HR4 := Lib.hid hR4
  have Hk4 := Lib.hid ((Hk3.out.none [q]).trans hk4)
  clear hR4 hk4
  go_wp2_with fail
  go_ret
  exact ⟨rfl, HR4.out, Hk4.out⟩
set_option maxHeartbeats 2000000 in
theorem refCut_yes (w : World) {r p q : Nat} {rs rs' : List R} (h : RefAt w r p q rs) (a n : Nat) (hn : 1 ≤ n) (hv : a + n ≤ 65536) (hc : cntR rs a n = n) (hst : ∀ j, has rs' j = if a ≤ j ∧ j < a + n then false else has rs j) :
    Calls Try.prog 33 #[.pointer (some ⟨r, 0, none⟩), runV a n] w fun e w' => e = .returned (.int .i64 0) ∧ RefAt w' r p q rs' ∧ Kept [q] w w' := by
  have HM := Lib.hid (fun x => mayR_ok (a : Nat) (n : Nat) x (by omega) (by omega) (by omega) (by omega))
  rw [(valid_iff (a : Nat) (n : Nat)).2 (by omega)] at HM
  have HR := Lib.hid h
  have hcl := cntR_le rs a n
  have Hst := Lib.hid hst
  clear h hst
  unfold runV at *
  go_enter Try.func33, Try.ntmps33
  go_wp2_with fail
  have hB : Has (w.alloc (.cells #[.int .i64 (a : Int), .int .i64 (n : Int)] 29)) w.heap.size 29 [.int .i64 (a : Int), .int .i64 (n : Int)] := Has.new w _ [.int .i64 (a : Int), .int .i64 (n : Int)]
  have hk0 : Kept [] w (w.alloc (.cells #[.int .i64 (a : Int), .int .i64 (n : Int)] 29)) := (Kept.refl [] w).alloc _
  generalize w.alloc (.cells #[.int .i64 (a : Int), .int .i64 (n : Int)] 29) = W0 at *
  obtain ⟨bx, hbx⟩ : ∃ bx, bx = w.heap.size := ⟨_, rfl⟩
  rw [← hbx] at hB ⊢
  have HB := Lib.hid hB
  have Hk0 := Lib.hid hk0
  clear hB hk0 hbx
  refine (HM.out _).mono ?_
  rintro e W1 ⟨rfl, hk1⟩
  have HB1 := Lib.hid (HB.out.keep0 hk1)
  have Hk1 := Lib.hid (Hk0.out.trans hk1)
  clear hk1 HM
  go_wp2_with fail
  have HR1 := Lib.hid (HR.out.keep0 Hk1.out)
  have c0 := HR1.out.c0
  have d0 := HB1.out.cell 0
  have d1 := HB1.out.cell 1
  simp at d0 d1
  have CC := Lib.hid (fun k => countR_ok (W1.drewN k) (HR1.out.keep0 ((Kept.refl [] W1).drewN k)) a n hv)
  go_quiet (exact Calls.quiet_of (CC.out _))
  clear CC c0 d0 d1
  have hk2 : Kept [] W1 (W1.drewN nq) := (Kept.refl [] W1).drewN nq
  generalize W1.drewN nq = W2 at *
  have HB2 := Lib.hid (HB1.out.keep0 hk2)
  have HR2 := Lib.hid (HR1.out.keep0 hk2)
  have Hk2 := Lib.hid (Hk1.out.trans hk2)
  clear hk2
  rw [hc]
  clear hc hcl
  have d1 := HB2.out.cell 1
  simp at d1
  go_wp2_with fail
  have c0 := HR2.out.c0
  have d0 := HB2.out.cell 0
  have d1 := HB2.out.cell 1
  simp at d0 d1
  go_still_tail 8, (by kernel_rfl)
  change wpList _ _ _ _ _ W2.drew
  have hk3 : Kept [] W2 W2.drew := (Kept.refl [] W2).drew
  clear c0 d0 d1
  generalize W2.drew = W3 at hk3 ⊢
  have HL := Lib.hid (layR_ok W3 (HR2.out.keep0 hk3) a n hv false Hst.out)
  have Hk3 := Lib.hid (Hk2.out.trans hk3)
  clear hk3
  go_wp2_with fail
  refine HL.out.mono ?_
  rintro e W4 ⟨rfl, hR4, hk4⟩
  have HR4 := Lib.hid hR4
  have Hk4 := Lib.hid ((Hk3.out.none [q]).trans hk4)
  clear hR4 hk4
  go_wp2_with fail
  go_ret
  exact ⟨rfl, HR4.out, Hk4.out⟩
/-- What has become of the document's set. -/
theorem refAdd_ok (w : World) {r p q : Nat} {rs : List R} (h : RefAt w r p q rs) (hf : Fine 0 rs) (a n : Int) (a1 : -9223372036854775808 ≤ a) (a2 : a ≤ 9223372036854775807) (n1 : -9223372036854775808 ≤ n) (n2 : n ≤ 9223372036854775807) :
    Calls Try.prog 32 #[.pointer (some ⟨r, 0, none⟩), runV a n] w fun e w' => e = .returned (.int .i64 (addE rs a n)) ∧ RefAt w' r p q (addW rs a n) ∧ Kept [q] w w' := by
  unfold addE addW
  cases hv : valid a n with
  | false => exact (refAdd_bad w r a n a1 a2 n1 n2 hv).mono fun e w' ⟨he, hk⟩ => ⟨he, h.keep0 hk, hk.none _⟩
  | true =>
    obtain ⟨v1, v2, v3⟩ := (valid_iff a n).1 hv
    obtain ⟨x, rfl⟩ := Int.eq_ofNat_of_zero_le v1
    obtain ⟨y, rfl⟩ := Int.eq_ofNat_of_zero_le (show 0 ≤ n by omega)
    simp only [Int.toNat_natCast, Bool.true_and, cond_true]
    by_cases hc : cntR rs x y = 0
    · have hq : freeB rs x y = true := by rw [cntR_free hf x y (by omega), decide_eq_true hc]
      rw [hq]
      refine refAdd_yes w h x y (by omega) (by omega) hc fun j => ?_
      have := (add_ok hf (by omega) (by omega) hq).2.1 j
      show has (addV rs x y) j = _
      rw [this]
      by_cases hj : x ≤ j ∧ j < x + y
      · rw [if_pos hj, (inn_iff _ _).2 hj, Bool.or_true]
      · rw [if_neg hj, inn_no _ _ hj, Bool.or_false]
    · have hq : freeB rs x y = false := by rw [cntR_free hf x y (by omega), decide_eq_false hc]
      rw [hq]
      exact (refAdd_have w h x y (by omega) (by omega) (by omega)).mono fun e w' ⟨he, hk⟩ => ⟨he, h.keep0 hk, hk.none _⟩
theorem refCut_ok (w : World) {r p q : Nat} {rs : List R} (h : RefAt w r p q rs) (hf : Fine 0 rs) (a n : Int) (a1 : -9223372036854775808 ≤ a) (a2 : a ≤ 9223372036854775807) (n1 : -9223372036854775808 ≤ n) (n2 : n ≤ 9223372036854775807) :
    Calls Try.prog 33 #[.pointer (some ⟨r, 0, none⟩), runV a n] w fun e w' => e = .returned (.int .i64 (cutE rs a n)) ∧ RefAt w' r p q (cutW rs a n) ∧ Kept [q] w w' := by
  unfold cutE cutW
  cases hv : valid a n with
  | false => exact (refCut_bad w r a n a1 a2 n1 n2 hv).mono fun e w' ⟨he, hk⟩ => ⟨he, h.keep0 hk, hk.none _⟩
  | true =>
    obtain ⟨v1, v2, v3⟩ := (valid_iff a n).1 hv
    obtain ⟨x, rfl⟩ := Int.eq_ofNat_of_zero_le v1
    obtain ⟨y, rfl⟩ := Int.eq_ofNat_of_zero_le (show 0 ≤ n by omega)
    simp only [Int.toNat_natCast, Bool.true_and, cond_true]
    have hle := cntR_le rs x y
    by_cases hc : cntR rs x y = y
    · have hq : allB rs x y = true := by rw [cntR_all hf x y (by omega), decide_eq_true hc]
      rw [hq]
      refine refCut_yes w h x y (by omega) (by omega) hc fun j => ?_
      have := (cut_ok hf (by omega) hq).2.1 j
      show has (cutV rs x y) j = _
      rw [this]
      by_cases hj : x ≤ j ∧ j < x + y
      · rw [if_pos hj, (inn_iff _ _).2 hj]; simp
      · rw [if_neg hj, inn_no _ _ hj]; simp
    · have hq : allB rs x y = false := by rw [cntR_all hf x y (by omega), decide_eq_false hc]
      rw [hq]
      exact (refCut_none w h x y (by omega) (by omega) (by omega)).mono fun e w' ⟨he, hk⟩ => ⟨he, h.keep0 hk, hk.none _⟩
theorem addW_fine {rs : List R} (hf : Fine 0 rs) (a n : Int) : Fine 0 (addW rs a n) := by
  unfold addW
  cases hv : valid a n with
  | false => exact hf
  | true =>
    obtain ⟨v1, v2, v3⟩ := (valid_iff a n).1 hv
    cases hq : freeB rs a.toNat n.toNat with
    | false => exact hf
    | true => exact (add_ok hf (by omega) (by omega) hq).1
theorem cutW_fine {rs : List R} (hf : Fine 0 rs) (a n : Int) : Fine 0 (cutW rs a n) := by
  unfold cutW
  cases hv : valid a n with
  | false => exact hf
  | true =>
    obtain ⟨v1, v2, v3⟩ := (valid_iff a n).1 hv
    cases hq : allB rs a.toNat n.toNat with
    | false => exact hf
    | true => exact (cut_ok hf (by omega) hq).1
end Go.Proofs.Ytbgonppichdhiaa.Rn
