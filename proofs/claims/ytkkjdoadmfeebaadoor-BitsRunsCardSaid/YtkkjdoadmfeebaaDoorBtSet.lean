/-
  The contracts of SetRun, ClearRun, Set, Clear and Has, whole.
-/
import Derived.Test.YtkkjdoadmfeebaaDoorBtLay
namespace Go.Proofs.YtkkjdoadmfeebaaDoor.Bt
open Go.RowKit Go.Proofs.YtkkjdoadmfeebaaDoor.Ar Go.Proofs.YtkkjdoadmfeebaaDoor.Wd
set_option linter.unusedVariables false

theorem lay_no (bs : List Bool) (p q : Nat) (w : World) (hv : Bv w p q bs) (i n : Int) (s : Int) (i1 : -9223372036854775808 ≤ i) (i2 : i ≤ 9223372036854775807) (n1 : -9223372036854775808 ≤ n) (n2 : n ≤ 9223372036854775807) (hin : within bs.length i n = false) :
    Calls Tryd.prog 28 #[.pointer (some ⟨p, 0, none⟩), .int .i64 i, .int .i64 n, .int .u64 s] w fun e w' => e = .returned (.int .i64 2) ∧ Bv w' p q bs ∧ Kept [q] w w' := by
  have hb := hv
  obtain ⟨ws, hV, hM⟩ := hv
  have hk : Kept [] w ((w.alloc (.cells #[.pointer (some ⟨p, 0, none⟩)] 24)).alloc (.cells #[.int .u64 s] 60)) := ((Kept.refl [] w).alloc _).alloc _
  have hck := check_ok _ (hV.keep0 hk) i n i1 i2 n1 n2
  have c4 := ((Has.new w 24 [.pointer (some ⟨p, 0, none⟩)]).alloc (.cells #[.int .u64 s] 60)).cell 0
  rw [hin] at hck
  have Hck : Hid (Calls Tryd.prog 36 #[.pointer (some ⟨p, 0, none⟩), .int .i64 i, .int .i64 n] ((w.alloc (.cells #[.pointer (some ⟨p, 0, none⟩)] 24)).alloc (.cells #[.int .u64 s] 60)) fun e w' => e = .returned (.int .i64 2) ∧ _ = w') := Lib.hid hck
  simp at c4
  have Hk := Lib.hid hk
  have Hb := Lib.hid (hb.keep0 hk)
  clear hck hV hM hin hb hk
  go_enter Tryd.func28, Tryd.ntmps28
  go_wp2_with fail
  refine (Hck.out).mono ?_
  rintro e w' ⟨rfl, rfl⟩
  go_wp2_with fail
  go_ret
  exact ⟨rfl, Hb.out, Hk.out.none _⟩
theorem lay_nil (w : World) (i n s : Int) :
    Calls Tryd.prog 28 #[.pointer none, .int .i64 i, .int .i64 n, .int .u64 s] w fun e w' => e = .returned (.int .i64 1) ∧ Kept [] w w' := by
  have Hck := Lib.hid (check_nil i n ((w.alloc (.cells #[.pointer none] 24)).alloc (.cells #[.int .u64 s] 60)))
  have c4 := ((Has.new w 24 [.pointer none]).alloc (.cells #[.int .u64 s] 60)).cell 0
  simp at c4
  go_enter Tryd.func28, Tryd.ntmps28
  go_wp2_with fail
  refine (Hck.out).mono ?_
  rintro e w' ⟨rfl, rfl⟩
  go_wp2_with fail
  go_ret
  exact ⟨rfl, ((Kept.refl [] w).alloc _).alloc _⟩
/-- The bits behind n bits from the bit i on were made as st. -/
def layB (bs : List Bool) (i n : Int) (st : Bool) : List Bool := if within bs.length i n then laid bs i.toNat n.toNat st else bs
theorem layB_length (bs : List Bool) (i n : Int) (st : Bool) : (layB bs i n st).length = bs.length := by
  unfold layB
  split
  · exact laid_length _ _ _ _
  · rfl
theorem lay_ok (bs : List Bool) (p q : Nat) (w : World) (hv : Bv w p q bs) (i n : Int) (i1 : -9223372036854775808 ≤ i) (i2 : i ≤ 9223372036854775807) (n1 : -9223372036854775808 ≤ n) (n2 : n ≤ 9223372036854775807) (st : Bool) :
    Calls Tryd.prog 28 #[.pointer (some ⟨p, 0, none⟩), .int .i64 i, .int .i64 n, .int .u64 (full st : Nat)] w fun e w' => e = .returned (.int .i64 (errOf (within bs.length i n))) ∧ Bv w' p q (layB bs i n st) ∧ Kept [q] w w' := by
  unfold layB
  cases h : within bs.length i n with
  | true =>
    obtain ⟨a, b, c⟩ := (within_iff _ _ _).1 h
    have := lay_yes bs p q w hv i.toNat n.toNat (by omega) st
    rw [Int.toNat_of_nonneg a, Int.toNat_of_nonneg b] at this
    exact this
  | false => exact lay_no bs p q w hv i n _ i1 i2 n1 n2 h
theorem setRun_ok (bs : List Bool) (p q : Nat) (w : World) (hv : Bv w p q bs) (i n : Int) (i1 : -9223372036854775808 ≤ i) (i2 : i ≤ 9223372036854775807) (n1 : -9223372036854775808 ≤ n) (n2 : n ≤ 9223372036854775807) :
    Calls Tryd.prog 13 #[.pointer (some ⟨p, 0, none⟩), .int .i64 i, .int .i64 n] w fun e w' => e = .returned (.int .i64 (errOf (within bs.length i n))) ∧ Bv w' p q (layB bs i n true) ∧ Kept [q] w w' := by
  have H := Lib.hid (lay_ok bs p q w hv i n i1 i2 n1 n2 true)
  have e : full true = 18446744073709551615 := rfl
  rw [e] at H
  clear hv e
  generalize errOf (within bs.length i n) = r at *
  go_enter Tryd.func13, Tryd.ntmps13
  go_wp2_with fail
  refine (H.out).mono ?_
  rintro e w' ⟨rfl, h⟩
  go_wp2_with fail
  go_ret
  exact ⟨rfl, h⟩
theorem setRun_nil (w : World) (i n : Int) :
    Calls Tryd.prog 13 #[.pointer none, .int .i64 i, .int .i64 n] w fun e w' => e = .returned (.int .i64 1) ∧ Kept [] w w' := by
  have H := Lib.hid (lay_nil w i n 18446744073709551615)
  go_enter Tryd.func13, Tryd.ntmps13
  go_wp2_with fail
  refine (H.out).mono ?_
  rintro e w' ⟨rfl, h⟩
  go_wp2_with fail
  go_ret
  exact ⟨rfl, h⟩
theorem clearRun_ok (bs : List Bool) (p q : Nat) (w : World) (hv : Bv w p q bs) (i n : Int) (i1 : -9223372036854775808 ≤ i) (i2 : i ≤ 9223372036854775807) (n1 : -9223372036854775808 ≤ n) (n2 : n ≤ 9223372036854775807) :
    Calls Tryd.prog 14 #[.pointer (some ⟨p, 0, none⟩), .int .i64 i, .int .i64 n] w fun e w' => e = .returned (.int .i64 (errOf (within bs.length i n))) ∧ Bv w' p q (layB bs i n false) ∧ Kept [q] w w' := by
  have H := Lib.hid (lay_ok bs p q w hv i n i1 i2 n1 n2 false)
  have e : full false = 0 := rfl
  rw [e] at H
  clear hv e
  generalize errOf (within bs.length i n) = r at *
  go_enter Tryd.func14, Tryd.ntmps14
  go_wp2_with fail
  refine (H.out).mono ?_
  rintro e w' ⟨rfl, h⟩
  go_wp2_with fail
  go_ret
  exact ⟨rfl, h⟩
theorem clearRun_nil (w : World) (i n : Int) :
    Calls Tryd.prog 14 #[.pointer none, .int .i64 i, .int .i64 n] w fun e w' => e = .returned (.int .i64 1) ∧ Kept [] w w' := by
  have H := Lib.hid (lay_nil w i n 0)
  go_enter Tryd.func14, Tryd.ntmps14
  go_wp2_with fail
  refine (H.out).mono ?_
  rintro e w' ⟨rfl, h⟩
  go_wp2_with fail
  go_ret
  exact ⟨rfl, h⟩
theorem set_ok (bs : List Bool) (p q : Nat) (w : World) (hv : Bv w p q bs) (i : Int) (i1 : -9223372036854775808 ≤ i) (i2 : i ≤ 9223372036854775807) :
    Calls Tryd.prog 24 #[.pointer (some ⟨p, 0, none⟩), .int .i64 i] w fun e w' => e = .returned (.int .i64 (errOf (within bs.length i 1))) ∧ Bv w' p q (layB bs i 1 true) ∧ Kept [q] w w' := by
  have H := Lib.hid (setRun_ok bs p q w hv i 1 i1 i2 (by omega) (by omega))
  clear hv
  generalize errOf (within bs.length i 1) = r at *
  go_enter Tryd.func24, Tryd.ntmps24
  go_wp2_with fail
  refine (H.out).mono ?_
  rintro e w' ⟨rfl, h⟩
  go_wp2_with fail
  go_ret
  exact ⟨rfl, h⟩
theorem set_nil (w : World) (i : Int) :
    Calls Tryd.prog 24 #[.pointer none, .int .i64 i] w fun e w' => e = .returned (.int .i64 1) ∧ Kept [] w w' := by
  have H := Lib.hid (setRun_nil w i 1)
  go_enter Tryd.func24, Tryd.ntmps24
  go_wp2_with fail
  refine (H.out).mono ?_
  rintro e w' ⟨rfl, h⟩
  go_wp2_with fail
  go_ret
  exact ⟨rfl, h⟩
theorem clear_ok (bs : List Bool) (p q : Nat) (w : World) (hv : Bv w p q bs) (i : Int) (i1 : -9223372036854775808 ≤ i) (i2 : i ≤ 9223372036854775807) :
    Calls Tryd.prog 25 #[.pointer (some ⟨p, 0, none⟩), .int .i64 i] w fun e w' => e = .returned (.int .i64 (errOf (within bs.length i 1))) ∧ Bv w' p q (layB bs i 1 false) ∧ Kept [q] w w' := by
  have H := Lib.hid (clearRun_ok bs p q w hv i 1 i1 i2 (by omega) (by omega))
  clear hv
  generalize errOf (within bs.length i 1) = r at *
  go_enter Tryd.func25, Tryd.ntmps25
  go_wp2_with fail
  refine (H.out).mono ?_
  rintro e w' ⟨rfl, h⟩
  go_wp2_with fail
  go_ret
  exact ⟨rfl, h⟩
theorem clear_nil (w : World) (i : Int) :
    Calls Tryd.prog 25 #[.pointer none, .int .i64 i] w fun e w' => e = .returned (.int .i64 1) ∧ Kept [] w w' := by
  have H := Lib.hid (clearRun_nil w i 1)
  go_enter Tryd.func25, Tryd.ntmps25
  go_wp2_with fail
  refine (H.out).mono ?_
  rintro e w' ⟨rfl, h⟩
  go_wp2_with fail
  go_ret
  exact ⟨rfl, h⟩
/-- Is there such a bit, and is it set? -/
def hasV (bs : List Bool) (i : Int) : Bool := decide (0 ≤ i) && bit bs i.toNat
theorem has_ok (bs : List Bool) (p q : Nat) (w : World) (hv : Bv w p q bs) (i : Int) (i1 : -9223372036854775808 ≤ i) (i2 : i ≤ 9223372036854775807) :
    Calls Tryd.prog 19 #[.pointer (some ⟨p, 0, none⟩), .int .i64 i] w fun e w' => e = .returned (.bool (hasV bs i)) ∧ Kept [] w w' := by
  obtain ⟨ws, hV, hM⟩ := hv
  have hck := check_ok w hV i 1 i1 i2 (by omega) (by omega)
  cases hin : within bs.length i 1 with
  | false =>
    rw [hin] at hck
    have hh : hasV bs i = false := by
      unfold hasV
      by_cases h0 : 0 ≤ i
      · rw [bit_out bs i.toNat (by
          rcases Nat.lt_or_ge i.toNat bs.length with h | h
          · have := (within_iff bs.length i 1).2 (by omega)
            rw [this] at hin
            cases hin
          · exact h), Bool.and_false]
      · rw [decide_eq_false h0, Bool.false_and]
    rw [hh]
    have Hck : Hid (Calls Tryd.prog 36 #[.pointer (some ⟨p, 0, none⟩), .int .i64 i, .int .i64 1] w fun e w' => e = .returned (.int .i64 2) ∧ w = w') := Lib.hid hck
    clear hck hV hM hin hh
    go_enter Tryd.func19, Tryd.ntmps19
    go_wp2_with fail
    refine (Hck.out).mono ?_
    rintro e w' ⟨rfl, rfl⟩
    go_wp2_with fail
    go_ret
    exact ⟨rfl, Kept.refl _ _⟩
  | true =>
    obtain ⟨h0, _, h2⟩ := (within_iff _ _ _).1 hin
    obtain ⟨k, rfl⟩ := Int.eq_ofNat_of_zero_le h0
    rw [hin] at hck
    have hf := hV.few
    have hbit := hM.field k 1 0 (by omega) (by omega) (by omega)
    have hlt := fld_lt (ws.getD (k / 64) 0).toNat (k % 64) 1
    have hcut := fun w' (hk : Kept [] w w') => cut_ok w' (hV.keep0 hk) (k / 64) (k % 64) 1 (by omega) (by omega) (by omega)
    have hp := partsOf_ok k (by omega) w
    have hh : hasV bs k = bit bs k := by unfold hasV; rw [decide_eq_true h0, Bool.true_and, Int.toNat_natCast]
    rw [hh, ← Nat.add_zero k, ← hbit]
    generalize fld (ws.getD (k / 64) 0).toNat (k % 64) 1 = x at *
    have Hck : Hid (Calls Tryd.prog 36 #[.pointer (some ⟨p, 0, none⟩), .int .i64 (k : Int), .int .i64 1] w fun e w' => e = .returned (.int .i64 0) ∧ w = w') := Lib.hid hck
    have Hcut := Lib.hid hcut
    have Hp := Lib.hid hp
    have hx : x = 0 ∨ x = 1 := by omega
    rw [Nat.add_zero]
    clear hck hV hM hin hh hcut hbit hlt hp
    unfold pieceV at Hcut
    rcases hx with rfl | rfl
    · rw [Nat.zero_testBit]
      go_enter Tryd.func19, Tryd.ntmps19
      go_wp2_with fail
      refine (Hck.out).mono ?_
      rintro e w' ⟨rfl, rfl⟩
      go_wp2_with fail
      refine (Hp.out).mono ?_
      rintro e w1 ⟨rfl, hk1⟩
      have Hk1 := Lib.hid hk1
      clear hk1
      go_wp2_with fail
      refine (Hcut.out w1 Hk1.out).mono ?_
      rintro e w2 ⟨rfl, hk2⟩
      have Hk2 := Lib.hid hk2
      clear hk2
      go_wp2_with fail
      go_ret
      exact ⟨rfl, Hk1.out.trans Hk2.out⟩
    · rw [show Nat.testBit 1 0 = true from rfl]
      go_enter Tryd.func19, Tryd.ntmps19
      go_wp2_with fail
      refine (Hck.out).mono ?_
      rintro e w' ⟨rfl, rfl⟩
      go_wp2_with fail
      refine (Hp.out).mono ?_
      rintro e w1 ⟨rfl, hk1⟩
      have Hk1 := Lib.hid hk1
      clear hk1
      go_wp2_with fail
      refine (Hcut.out w1 Hk1.out).mono ?_
      rintro e w2 ⟨rfl, hk2⟩
      have Hk2 := Lib.hid hk2
      clear hk2
      go_wp2_with fail
      go_ret
      exact ⟨rfl, Hk1.out.trans Hk2.out⟩
theorem has_nil (w : World) (i : Int) :
    Calls Tryd.prog 19 #[.pointer none, .int .i64 i] w fun e w' => e = .returned (.bool false) ∧ Kept [] w w' := by
  have Hck := Lib.hid (check_nil i 1 w)
  go_enter Tryd.func19, Tryd.ntmps19
  go_wp2_with fail
  refine (Hck.out).mono ?_
  rintro e w' ⟨rfl, rfl⟩
  go_wp2_with fail
  go_ret
  exact ⟨rfl, Kept.refl _ _⟩
end Go.Proofs.YtkkjdoadmfeebaaDoor.Bt
