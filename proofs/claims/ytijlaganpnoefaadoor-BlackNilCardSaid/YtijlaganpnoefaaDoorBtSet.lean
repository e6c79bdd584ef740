/-
  The contracts of SetRun, ClearRun, Set, Clear and Has, whole.
-/
import Derived.Test.YtijlaganpnoefaaDoorBtLay
namespace Go.Proofs.YtijlaganpnoefaaDoor.Bt
open Go.RowKit Go.Proofs.YtijlaganpnoefaaDoor.Ar Go.Proofs.YtijlaganpnoefaaDoor.Wd
set_option linter.unusedVariables false

theorem lay_no (bs : List Bool) (p q : Nat) (w : World) (hv : Bv w p q bs) (i n : Int) (s : Int) (i1 : -9223372036854775808 ≤ i) (i2 : i ≤ 9223372036854775807) (n1 : -9223372036854775808 ≤ n) (n2 : n ≤ 9223372036854775807) (hin : within bs.length i n = false) :
    Calls Tryd.prog 44 #[.pointer (some ⟨p, 0, none⟩), .int .i64 i, .int .i64 n, .int .u64 s] w fun e w' => e = .returned (.int .i64 2) ∧ Bv w' p q bs ∧ Kept [q] w w' := by
  have hb := hv
  obtain ⟨ws, hV, hM⟩ := hv
  have hk : Kept [] w ((w.alloc (.cells #[.pointer (some ⟨p, 0, none⟩)] 47)).alloc (.cells #[.int .u64 s] 78)) := ((Kept.refl [] w).alloc _).alloc _
  have hck := check_ok _ (hV.keep0 hk) i n i1 i2 n1 n2
  have c4 := ((Has.new w 47 [.pointer (some ⟨p, 0, none⟩)]).alloc (.cells #[.int .u64 s] 78)).cell 0
  rw [hin] at hck
  have Hck : Hid (Calls Tryd.prog 39 #[.pointer (some ⟨p, 0, none⟩), .int .i64 i, .int .i64 n] ((w.alloc (.cells #[.pointer (some ⟨p, 0, none⟩)] 47)).alloc (.cells #[.int .u64 s] 78)) fun e w' => e = .returned (.int .i64 2) ∧ _ = w') := Lib.hid hck
  simp at c4
  have Hk := Lib.hid hk
  have Hb := Lib.hid (hb.keep0 hk)
  clear hck hV hM hin hb hk
  go_enter Tryd.func44, Tryd.ntmps44
  go_wp2_with fail
  refine (Hck.out).mono ?_
  rintro e w' ⟨rfl, rfl⟩
  go_wp2_with fail
  go_ret
  exact ⟨rfl, Hb.out, Hk.out.none _⟩
theorem lay_nil (w : World) (i n s : Int) :
    Calls Tryd.prog 44 #[.pointer none, .int .i64 i, .int .i64 n, .int .u64 s] w fun e w' => e = .returned (.int .i64 1) ∧ Kept [] w w' := by
  have Hck := Lib.hid (check_nil i n ((w.alloc (.cells #[.pointer none] 47)).alloc (.cells #[.int .u64 s] 78)))
  have c4 := ((Has.new w 47 [.pointer none]).alloc (.cells #[.int .u64 s] 78)).cell 0
  simp at c4
  go_enter Tryd.func44, Tryd.ntmps44
  go_wp2_with fail
  refine (Hck.out).mono ?_
  rintro e w' ⟨rfl, rfl⟩
  go_wp2_with fail
  go_ret
  exact ⟨rfl, ((Kept.refl [] w).alloc _).alloc _⟩
/-- The bits behind n bits from the bit i on were made as st. -/
def layB (bs : List Bool) (i n : Int) (st : Bool) : List Bool := if within bs.length i n then laid bs i.toNat n.toNat st else bs
theorem layB_length (bs : List Bool) (i n : Int) (st : Bool) : (layB bs i n st).length = bs.length := by
  unfold layB
  split
  · exact laid_length _ _ _ _
  · rfl
theorem lay_ok (bs : List Bool) (p q : Nat) (w : World) (hv : Bv w p q bs) (i n : Int) (i1 : -9223372036854775808 ≤ i) (i2 : i ≤ 9223372036854775807) (n1 : -9223372036854775808 ≤ n) (n2 : n ≤ 9223372036854775807) (st : Bool) :
    Calls Tryd.prog 44 #[.pointer (some ⟨p, 0, none⟩), .int .i64 i, .int .i64 n, .int .u64 (full st : Nat)] w fun e w' => e = .returned (.int .i64 (errOf (within bs.length i n))) ∧ Bv w' p q (layB bs i n st) ∧ Kept [q] w w' := by
  unfold layB
  cases h : within bs.length i n with
  | true =>
    obtain ⟨a, b, c⟩ := (within_iff _ _ _).1 h
    have := lay_yes bs p q w hv i.toNat n.toNat (by omega) st
    rw [Int.toNat_of_nonneg a, Int.toNat_of_nonneg b] at this
    exact this
  | false => exact lay_no bs p q w hv i n _ i1 i2 n1 n2 h
theorem setRun_ok (bs : List Bool) (p q : Nat) (w : World) (hv : Bv w p q bs) (i n : Int) (i1 : -9223372036854775808 ≤ i) (i2 : i ≤ 9223372036854775807) (n1 : -9223372036854775808 ≤ n) (n2 : n ≤ 9223372036854775807) :
    Calls Tryd.prog 37 #[.pointer (some ⟨p, 0, none⟩), .int .i64 i, .int .i64 n] w fun e w' => e = .returned (.int .i64 (errOf (within bs.length i n))) ∧ Bv w' p q (layB bs i n true) ∧ Kept [q] w w' := by
  have H := Lib.hid (lay_ok bs p q w hv i n i1 i2 n1 n2 true)
  have e : full true = 18446744073709551615 := rfl
  rw [e] at H
  clear hv e
  generalize errOf (within bs.length i n) = r at *
  go_enter Tryd.func37, Tryd.ntmps37
  go_wp2_with fail
  refine (H.out).mono ?_
  rintro e w' ⟨rfl, h⟩
  go_wp2_with fail
  go_ret
  exact ⟨rfl, h⟩
theorem setRun_nil (w : World) (i n : Int) :
    Calls Tryd.prog 37 #[.pointer none, .int .i64 i, .int .i64 n] w fun e w' => e = .returned (.int .i64 1) ∧ Kept [] w w' := by
  have H := Lib.hid (lay_nil w i n 18446744073709551615)
  go_enter Tryd.func37, Tryd.ntmps37
  go_wp2_with fail
  refine (H.out).mono ?_
  rintro e w' ⟨rfl, h⟩
  go_wp2_with fail
  go_ret
  exact ⟨rfl, h⟩
theorem set_ok (bs : List Bool) (p q : Nat) (w : World) (hv : Bv w p q bs) (i : Int) (i1 : -9223372036854775808 ≤ i) (i2 : i ≤ 9223372036854775807) :
    Calls Tryd.prog 27 #[.pointer (some ⟨p, 0, none⟩), .int .i64 i] w fun e w' => e = .returned (.int .i64 (errOf (within bs.length i 1))) ∧ Bv w' p q (layB bs i 1 true) ∧ Kept [q] w w' := by
  have H := Lib.hid (setRun_ok bs p q w hv i 1 i1 i2 (by omega) (by omega))
  clear hv
  generalize errOf (within bs.length i 1) = r at *
  go_enter Tryd.func27, Tryd.ntmps27
  go_wp2_with fail
  refine (H.out).mono ?_
  rintro e w' ⟨rfl, h⟩
  go_wp2_with fail
  go_ret
  exact ⟨rfl, h⟩
theorem set_nil (w : World) (i : Int) :
    Calls Tryd.prog 27 #[.pointer none, .int .i64 i] w fun e w' => e = .returned (.int .i64 1) ∧ Kept [] w w' := by
  have H := Lib.hid (setRun_nil w i 1)
  go_enter Tryd.func27, Tryd.ntmps27
  go_wp2_with fail
  refine (H.out).mono ?_
  rintro e w' ⟨rfl, h⟩
  go_wp2_with fail
  go_ret
  exact ⟨rfl, h⟩
/-- Is there such a bit, and is it set? -/
def hasV (bs : List Bool) (i : Int) : Bool := decide (0 ≤ i) && bit bs i.toNat
end Go.Proofs.YtijlaganpnoefaaDoor.Bt
