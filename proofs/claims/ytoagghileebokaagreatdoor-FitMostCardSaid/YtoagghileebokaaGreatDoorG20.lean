/-
  Several texts in one: BtSet, BtRuns.
-/
import Derived.Test.YtoagghileebokaaGreatDoorG17
import Derived.Test.YtoagghileebokaaGreatDoorG19
import Derived.OwnWalk
/-
  The contracts of SetRun, ClearRun, Set, Clear and Has, whole.
-/
namespace Go.Proofs.YtoagghileebokaaGreatDoor.Bt
open Go.RowKit Go.Proofs.YtoagghileebokaaGreatDoor.Ar Go.Proofs.YtoagghileebokaaGreatDoor.Wd
set_option linter.unusedVariables false

theorem lay_no (bs : List Bool) (p q : Nat) (w : World) (hv : Bv w p q bs) (i n : Int) (s : Int) (i1 : -9223372036854775808 ≤ i) (i2 : i ≤ 9223372036854775807) (n1 : -9223372036854775808 ≤ n) (n2 : n ≤ 9223372036854775807) (hin : within bs.length i n = false) :
    Calls Tryz.prog 103 #[.pointer (some ⟨p, 0, none⟩), .int .i64 i, .int .i64 n, .int .u64 s] w fun e w' => e = .returned (.int .i64 2) ∧ Bv w' p q bs ∧ Kept [q] w w' := by
  have hb := hv
  obtain ⟨ws, hV, hM⟩ := hv
  have hk : Kept [] w ((w.alloc (.cells #[.pointer (some ⟨p, 0, none⟩)] 70)).alloc (.cells #[.int .u64 s] 55)) := ((Kept.refl [] w).alloc _).alloc _
  have hck := check_ok _ (hV.keep0 hk) i n i1 i2 n1 n2
  have c4 := ((Has.new w 70 [.pointer (some ⟨p, 0, none⟩)]).alloc (.cells #[.int .u64 s] 55)).cell 0
  rw [hin] at hck
  have Hck : Hid (Calls Tryz.prog 97 #[.pointer (some ⟨p, 0, none⟩), .int .i64 i, .int .i64 n] ((w.alloc (.cells #[.pointer (some ⟨p, 0, none⟩)] 70)).alloc (.cells #[.int .u64 s] 55)) fun e w' => e = .returned (.int .i64 2) ∧ _ = w') := Lib.hid hck
  simp at c4
  have Hk := Lib.hid hk
  have Hb := Lib.hid (hb.keep0 hk)
  clear hck hV hM hin hb hk
  go_enter Tryz.func103, Tryz.ntmps103
  go_wp2_with fail
  refine (Hck.out).mono ?_
  rintro e w' ⟨rfl, rfl⟩
  go_wp2_with fail
  go_ret
  exact ⟨rfl, Hb.out, Hk.out.none _⟩
/-- The bits behind n bits from the bit i on were made as st. -/
def layB (bs : List Bool) (i n : Int) (st : Bool) : List Bool := if within bs.length i n then laid bs i.toNat n.toNat st else bs
theorem layB_length (bs : List Bool) (i n : Int) (st : Bool) : (layB bs i n st).length = bs.length := by
  unfold layB
  split
  · exact laid_length _ _ _ _
  · rfl
theorem lay_ok (bs : List Bool) (p q : Nat) (w : World) (hv : Bv w p q bs) (i n : Int) (i1 : -9223372036854775808 ≤ i) (i2 : i ≤ 9223372036854775807) (n1 : -9223372036854775808 ≤ n) (n2 : n ≤ 9223372036854775807) (st : Bool) :
    Calls Tryz.prog 103 #[.pointer (some ⟨p, 0, none⟩), .int .i64 i, .int .i64 n, .int .u64 (full st : Nat)] w fun e w' => e = .returned (.int .i64 (errOf (within bs.length i n))) ∧ Bv w' p q (layB bs i n st) ∧ Kept [q] w w' := by
  unfold layB
  cases h : within bs.length i n with
  | true =>
    obtain ⟨a, b, c⟩ := (within_iff _ _ _).1 h
    have := lay_yes bs p q w hv i.toNat n.toNat (by omega) st
    rw [Int.toNat_of_nonneg a, Int.toNat_of_nonneg b] at this
    exact this
  | false => exact lay_no bs p q w hv i n _ i1 i2 n1 n2 h
theorem setRun_ok (bs : List Bool) (p q : Nat) (w : World) (hv : Bv w p q bs) (i n : Int) (i1 : -9223372036854775808 ≤ i) (i2 : i ≤ 9223372036854775807) (n1 : -9223372036854775808 ≤ n) (n2 : n ≤ 9223372036854775807) :
    Calls Tryz.prog 75 #[.pointer (some ⟨p, 0, none⟩), .int .i64 i, .int .i64 n] w fun e w' => e = .returned (.int .i64 (errOf (within bs.length i n))) ∧ Bv w' p q (layB bs i n true) ∧ Kept [q] w w' := by
  have H := Lib.hid (lay_ok bs p q w hv i n i1 i2 n1 n2 true)
  have e : full true = 18446744073709551615 := rfl
  rw [e] at H
  clear hv e
  generalize errOf (within bs.length i n) = r at *
  go_enter Tryz.func75, Tryz.ntmps75
  go_wp2_with fail
  refine (H.out).mono ?_
  rintro e w' ⟨rfl, h⟩
  go_wp2_with fail
  go_ret
  exact ⟨rfl, h⟩
theorem clearRun_ok (bs : List Bool) (p q : Nat) (w : World) (hv : Bv w p q bs) (i n : Int) (i1 : -9223372036854775808 ≤ i) (i2 : i ≤ 9223372036854775807) (n1 : -9223372036854775808 ≤ n) (n2 : n ≤ 9223372036854775807) :
    Calls Tryz.prog 66 #[.pointer (some ⟨p, 0, none⟩), .int .i64 i, .int .i64 n] w fun e w' => e = .returned (.int .i64 (errOf (within bs.length i n))) ∧ Bv w' p q (layB bs i n false) ∧ Kept [q] w w' := by
  have H := Lib.hid (lay_ok bs p q w hv i n i1 i2 n1 n2 false)
  have e : full false = 0 := rfl
  rw [e] at H
  clear hv e
  generalize errOf (within bs.length i n) = r at *
  go_enter Tryz.func66, Tryz.ntmps66
  go_wp2_with fail
  refine (H.out).mono ?_
  rintro e w' ⟨rfl, h⟩
  go_wp2_with fail
  go_ret
  exact ⟨rfl, h⟩
theorem set_ok (bs : List Bool) (p q : Nat) (w : World) (hv : Bv w p q bs) (i : Int) (i1 : -9223372036854775808 ≤ i) (i2 : i ≤ 9223372036854775807) :
    Calls Tryz.prog 45 #[.pointer (some ⟨p, 0, none⟩), .int .i64 i] w fun e w' => e = .returned (.int .i64 (errOf (within bs.length i 1))) ∧ Bv w' p q (layB bs i 1 true) ∧ Kept [q] w w' := by
  have H := Lib.hid (setRun_ok bs p q w hv i 1 i1 i2 (by omega) (by omega))
  clear hv
  generalize errOf (within bs.length i 1) = r at *
  go_enter Tryz.func45, Tryz.ntmps45
  go_wp2_with fail
  refine (H.out).mono ?_
  rintro e w' ⟨rfl, h⟩
  go_wp2_with fail
  go_ret
  exact ⟨rfl, h⟩
/-- Is there such a bit, and is it set? -/
def hasV (bs : List Bool) (i : Int) : Bool := decide (0 ≤ i) && bit bs i.toNat
theorem has_ok (bs : List Bool) (p q : Nat) (w : World) (hv : Bv w p q bs) (i : Int) (i1 : -9223372036854775808 ≤ i) (i2 : i ≤ 9223372036854775807) :
    Calls Tryz.prog 109 #[.pointer (some ⟨p, 0, none⟩), .int .i64 i] w fun e w' => e = .returned (.bool (hasV bs i)) ∧ Kept [] w w' := by
  obtain ⟨ws, hV, hM⟩ := hv
  have hck := check_ok w hV i 1 i1 i2 (by omega) (by omega)
  cases hin : within bs.length i 1 with
  | false =>
    rw [hin] at hck
    have hh : hasV bs i = false := by
      unfold hasV
      by_cases h0 : 0 ≤ i
      · rw [bit_out bs i.toNat (by
          rcases Nat.lt_or_ge i.toNat bs.length with h | h
          · have := (within_iff bs.length i 1).2 (by omega)
            rw [this] at hin
            cases hin
          · exact h), Bool.and_false]
      · rw [decide_eq_false h0, Bool.false_and]
    rw [hh]
    have Hck : Hid (Calls Tryz.prog 97 #[.pointer (some ⟨p, 0, none⟩), .int .i64 i, .int .i64 1] w fun e w' => e = .returned (.int .i64 2) ∧ w = w') := Lib.hid hck
    clear hck hV hM hin hh
    go_enter Tryz.func109, Tryz.ntmps109
    go_wp2_with fail
    refine (Hck.out).mono ?_
    rintro e w' ⟨rfl, rfl⟩
    go_wp2_with fail
    go_ret
    exact ⟨rfl, Kept.refl _ _⟩
  | true =>
    obtain ⟨h0, _, h2⟩ := (within_iff _ _ _).1 hin
    obtain ⟨k, rfl⟩ := Int.eq_ofNat_of_zero_le h0
    rw [hin] at hck
    have hf := hV.few
    have hbit := hM.field k 1 0 (by omega) (by omega) (by omega)
    have hlt := fld_lt (ws.getD (k / 64) 0).toNat (k % 64) 1
    have hcut := fun w' (hk : Kept [] w w') => cut_ok w' (hV.keep0 hk) (k / 64) (k % 64) 1 (by omega) (by omega) (by omega)
    have hp := partsOf_ok k (by omega) w
    have hh : hasV bs k = bit bs k := by unfold hasV; rw [decide_eq_true h0, Bool.true_and, Int.toNat_natCast]
    rw [hh, ← Nat.add_zero k, ← hbit]
    generalize fld (ws.getD (k / 64) 0).toNat (k % 64) 1 = x at *
    have Hck : Hid (Calls Tryz.prog 97 #[.pointer (some ⟨p, 0, none⟩), .int .i64 (k : Int), .int .i64 1] w fun e w' => e = .returned (.int .i64 0) ∧ w = w') := Lib.hid hck
    have Hcut := Lib.hid hcut
    have Hp := Lib.hid hp
    have hx : x = 0 ∨ x = 1 := by omega
    rw [Nat.add_zero]
    clear hck hV hM hin hh hcut hbit hlt hp
    unfold pieceV at Hcut
    rcases hx with rfl | rfl
    · rw [Nat.zero_testBit]
      go_enter Tryz.func109, Tryz.ntmps109
      go_wp2_with fail
      refine (Hck.out).mono ?_
      rintro e w' ⟨rfl, rfl⟩
      go_wp2_with fail
      refine (Hp.out).mono ?_
      rintro e w1 ⟨rfl, hk1⟩
      have Hk1 := Lib.hid hk1
      clear hk1
      go_wp2_with fail
      refine (Hcut.out w1 Hk1.out).mono ?_
      rintro e w2 ⟨rfl, hk2⟩
      have Hk2 := Lib.hid hk2
      clear hk2
      go_wp2_with fail
      go_ret
      exact ⟨rfl, Hk1.out.trans Hk2.out⟩
    · rw [show Nat.testBit 1 0 = true from rfl]
      go_enter Tryz.func109, Tryz.ntmps109
      go_wp2_with fail
      refine (Hck.out).mono ?_
      rintro e w' ⟨rfl, rfl⟩
      go_wp2_with fail
      refine (Hp.out).mono ?_
      rintro e w1 ⟨rfl, hk1⟩
      have Hk1 := Lib.hid hk1
      clear hk1
      go_wp2_with fail
      refine (Hcut.out w1 Hk1.out).mono ?_
      rintro e w2 ⟨rfl, hk2⟩
      have Hk2 := Lib.hid hk2
      clear hk2
      go_wp2_with fail
      go_ret
      exact ⟨rfl, Hk1.out.trans Hk2.out⟩
end Go.Proofs.YtoagghileebokaaGreatDoor.Bt

/-
  The contracts of runEnd and Runs.
-/
namespace Go.Proofs.YtoagghileebokaaGreatDoor.Bt
open Go.RowKit Go.Proofs.YtoagghileebokaaGreatDoor.Ar Go.Proofs.YtoagghileebokaaGreatDoor.Wd
set_option linter.unusedVariables false

/-- The bit just behind the run that has the bit a. -/
def endV (bs : List Bool) (a : Nat) : Nat := (nextO bs a false).getD bs.length
theorem nextO_some {bs : List Bool} {i : Nat} {st : Bool} {x : Nat} (h : nextO bs i st = some x) : i ≤ x ∧ x < bs.length ∧ bit bs x = st ∧ ∀ j, i ≤ j → j < x → bit bs j = !st := by
  unfold nextO at h
  rw [Int.toNat_natCast] at h
  obtain ⟨a, b, c, d⟩ := nextV_some h
  refine ⟨a, by omega, by simpa using c, fun j h1 h2 => ?_⟩
  have := d j h1 h2
  cases hb : bit bs j <;> cases st <;> simp_all
theorem nextO_none {bs : List Bool} {i : Nat} {st : Bool} (h : nextO bs i st = none) : ∀ j, i ≤ j → j < bs.length → bit bs j = !st := by
  unfold nextO at h
  rw [Int.toNat_natCast] at h
  intro j h1 h2
  have := nextV_no h j h1 (by omega)
  cases hb : bit bs j <;> cases st <;> simp_all
theorem endV_spec {bs : List Bool} {a : Nat} (ha : a < bs.length) (hb : bit bs a = true) : a < endV bs a ∧ endV bs a ≤ bs.length ∧ bit bs (endV bs a) = false ∧ ∀ j, a ≤ j → j < endV bs a → bit bs j = true := by
  unfold endV
  cases h : nextO bs a false with
  | none =>
    refine ⟨ha, Nat.le_refl _, bit_out _ _ (Nat.le_refl _), fun j h1 h2 => ?_⟩
    exact nextO_none h j h1 h2
  | some x =>
    obtain ⟨h1, h2, h3, h4⟩ := nextO_some h
    refine ⟨?_, Nat.le_of_lt h2, h3, fun j j1 j2 => h4 j j1 j2⟩
    show a < x
    rcases Nat.lt_or_ge a x with hlt | hge
    · exact hlt
    · rw [show x = a by omega, hb] at h3
      cases h3
theorem runEnd_ok (bs : List Bool) (p q : Nat) (w : World) (hv : Bv w p q bs) (hT : Table w) (a : Nat) (ha : a ≤ 65536) :
    Calls Tryz.prog 127 #[.pointer (some ⟨p, 0, none⟩), .int .i64 a] w fun e w' => e = .returned (.int .i64 ((endV bs a : Nat) : Int)) ∧ Kept [] w w' := by
  have hn := nextClear_ok bs p q w hv hT a (by omega) (by omega)
  have hV := hv
  have hsz : ∀ w', Kept [] w w' → w'.cell? ⟨p, 0, none⟩ = some (.int .i64 (bs.length : Nat)) := fun w' hk => by
    obtain ⟨ws, hV, _⟩ := hv
    exact (hV.keep0 hk).size
  unfold endV
  cases h : nextO bs a false with
  | none =>
    rw [h] at hn
    have Hn : Hid (Calls Tryz.prog 156 #[.pointer (some ⟨p, 0, none⟩), .int .i64 (a : Int)] w fun e w' => e = .returned (.tuple #[.int .i64 0, .bool false]) ∧ Kept [] w w') := Lib.hid hn
    have Hs := Lib.hid hsz
    clear hn hsz hv hT h hV
    go_enter Tryz.func127, Tryz.ntmps127
    go_wp2_with fail
    refine (Hn.out).mono ?_
    rintro e w' ⟨rfl, hk⟩
    have hc := Hs.out w' hk
    have Hk := Lib.hid hk
    clear hk
    go_wp2_with fail
    go_ret
    exact ⟨rfl, Hk.out⟩
  | some x =>
    rw [h] at hn
    have Hn : Hid (Calls Tryz.prog 156 #[.pointer (some ⟨p, 0, none⟩), .int .i64 (a : Int)] w fun e w' => e = .returned (.tuple #[.int .i64 (x : Nat), .bool true]) ∧ Kept [] w w') := Lib.hid hn
    clear hn hsz hv hT h hV
    go_enter Tryz.func127, Tryz.ntmps127
    go_wp2_with fail
    refine (Hn.out).mono ?_
    rintro e w' ⟨rfl, hk⟩
    have Hk := Lib.hid hk
    clear hk
    go_wp2_with fail
    go_ret
    exact ⟨rfl, Hk.out⟩

/-- A slice value of the call's own. -/
def FreshV (w : World) (v : Value) : Prop := v.ownBlock = none ∨ ∃ b, v.ownBlock = some b ∧ w.heap.size ≤ b
/-- What Runs hands back. -/
def RunsPost (w : World) (bs : List Bool) (e : Ending) (w' : World) : Prop := ∃ v, e = .returned v ∧ OwnR w' v (runsV bs) ∧ FreshV w v ∧ Kept [] w w'
def RunsRel (w : World) (bs : List Bool) (l at' is : Value) (wr : World) : Prop :=
  ∃ e : Nat, e ≤ bs.length ∧ (e = 0 ∨ bit bs e = false) ∧ at' = .int .i64 (atI (nextO bs e true)) ∧ is = .bool (nextO bs e true).isSome ∧ OwnR wr l (runsTo bs e) ∧ FreshV w l ∧ Kept [] w wr
def runsLeft (n : Nat) (at' is : Value) : Nat := match is with | .bool true => n + 1 - (intOf at').toNat | _ => 0

set_option maxHeartbeats 1000000 in
theorem runs_ok (bs : List Bool) (p q : Nat) (w : World) (hv : Bv w p q bs) (hT : Table w) :
    Calls Tryz.prog 94 #[.pointer (some ⟨p, 0, none⟩)] w (RunsPost w bs) := by
  have hfew : bs.length ≤ 65536 := let ⟨_, hV, _⟩ := hv; hV.few
  have Hn := Lib.hid (fun w' (hk : Kept [] w w') (i : Nat) (hi : i ≤ 65536) => next_ok bs p q w' (hv.keep0 hk) (tableKeep hT hk) i (by omega) (by omega))
  have He := Lib.hid (fun w' (hk : Kept [] w w') (i : Nat) (hi : i ≤ 65536) => runEnd_ok bs p q w' (hv.keep0 hk) (tableKeep hT hk) i hi)
  clear hv hT
  go_enter Tryz.func94, Tryz.ntmps94
  go_wp2_with fail
  refine (Hn.out w (Kept.refl _ _) 0 (by omega)).mono ?_
  rintro e w1 ⟨rfl, hk1⟩
  have HR : Hid (RunsRel w bs (.slice none 0 0) (.int .i64 (atI (nextO bs (0 : Nat) true))) (.bool (nextO bs (0 : Nat) true).isSome) w1) := Lib.hid ⟨0, Nat.zero_le _, .inl rfl, rfl, rfl, OwnR.nil _, .inl rfl, hk1⟩
  clear hk1
  generalize atI (nextO bs (0 : Nat) true) = a0 at *
  generalize (nextO bs (0 : Nat) true).isSome = s0 at *
  go_wp2_with fail
  go_loopw [3, 4, 5] (fun l at' is wr => Hid (RunsRel w bs l at' is wr)) (fun l at' is _ => runsLeft bs.length at' is)
  case atStart => exact HR
  case round =>
    obtain ⟨e, he, hb, rfl, rfl, hO, hF, hk⟩ := hrel.out
    clear hrel
    have HO := Lib.hid hO
    have HF := Lib.hid hF
    have Hk := Lib.hid hk
    clear hO hF hk
    cases hn : nextO bs e true with
    | none =>
      have hall := Lib.hid (nextO_none hn)
      have hend : Hid (runsTo bs e = runsV bs) := Lib.hid (runsTo_clear he hall.out).symm
      clear hn
      simp only [Option.isSome_none]
      go_wp2_with fail
      go_ret
      exact ⟨_, rfl, by rw [← hend.out]; exact HO.out, HF.out, Hk.out⟩
    | some a =>
      obtain ⟨h1, h2, h3, h4⟩ := nextO_some hn
      have H4 := Lib.hid h4
      have H3 := Lib.hid h3
      clear h4 h3 hn
      simp only [Option.isSome_some]
      show Code.wp _ _ _ _ _
      have Ha : atI (some a) = ((a : Nat) : Int) := rfl
      rw [Ha]
      clear Ha
      have hsp := endV_spec h2 H3.out
      obtain ⟨b, hbe⟩ : ∃ b, b = endV bs a := ⟨_, rfl⟩
      have He1 := Lib.hid (He.out wr Hk.out a (by omega))
      rw [← hbe] at He1 hsp
      have hab := hsp.1
      have hbn := hsp.2.1
      have hbf := Lib.hid hsp.2.2.1
      have hrs : Hid (runsTo bs b = runsTo bs e ++ [(a, b - a)]) := Lib.hid (by
        rw [runsTo_set hab ?_ hsp.2.2.2, runsTo_clear h1 H4.out]
        by_cases h0 : a = e
        · subst h0
          rcases hb with hb | hb
          · exact .inl hb
          · rw [H3.out] at hb; cases hb
        · exact .inr (H4.out (a - 1) (by omega) (by omega)))
      have hlen := runsTo_length bs e
      have Hb := Lib.hid hb
      clear hbe hsp hb
      go_wp2_with fail
      refine (He1.out).mono ?_
      rintro e1 w2 ⟨rfl, hk2⟩
      have Hk2 := Lib.hid (Hk.out.trans hk2)
      have HO2 := Lib.hid (HO.out.keep0 hk2)
      have hB := Has.new w2 86 [.int .i64 (a : Int), .int .i64 ((b : Int) - (a : Int))]
      have h0 : (w2.alloc (.cells #[.int .i64 (a : Int), .int .i64 ((b : Int) - (a : Int))] 86)).cell? ⟨w2.heap.size, 0, none⟩ = some (.int .i64 ((a : Nat) : Int)) := hB.cell 0
      have h1' : (w2.alloc (.cells #[.int .i64 (a : Int), .int .i64 ((b : Int) - (a : Int))] 86)).cell? ⟨w2.heap.size, 1, none⟩ = some (.int .i64 ((b - a : Nat) : Int)) := by
        rw [show ((b - a : Nat) : Int) = (b : Int) - (a : Int) by omega]
        exact hB.cell 1
      have hka : Kept [] w2 (w2.alloc (.cells #[.int .i64 (a : Int), .int .i64 ((b : Int) - (a : Int))] 86)) := (Kept.refl [] w2).alloc _
      have HO3 := Lib.hid (HO2.out.keep0 hka)
      have H0 := Lib.hid h0
      have H1 := Lib.hid h1'
      have Hka := Lib.hid (Hk2.out.trans hka)
      clear hk2 hB h0 h1' hka
      generalize hrs0 : runsTo bs e = rs at *
      go_wp2_with (at_builtin; (refine append_run rfl (.tmp 16) (.tmp 22) rfl u3 rs rfl HO3.out w2.heap.size 1 (a, b - a) rfl H0.out H1.out (by omega) ?_))
      intro v' w3 hO hG hV
      have hk3 : Kept [] w w3 := own_grown Hka.out HF.out hG
      rw [← World.size_alloc w2 (.cells #[.int .i64 (a : Int), .int .i64 ((b : Int) - (a : Int))] 86)] at hV
      have hF3 := own_fresh Hka.out HF.out hV
      rw [← hrs.out] at hO
      have Hk3 := Lib.hid hk3
      have HO4 := Lib.hid hO
      have HF3 := Lib.hid hF3
      have Hn3 := Lib.hid (Hn.out w3 hk3 b (by omega))
      clear hk3 hO hF3 hG hV H0 H1 HO3 Hka HO2 Hk2
      go_wp2_with fail
      refine (Hn3.out).mono ?_
      rintro e4 w4 ⟨rfl, hk4⟩
      have HR4 : Hid (RunsRel w bs v' (.int .i64 (atI (nextO bs (b : Nat) true))) (.bool (nextO bs (b : Nat) true).isSome) w4) :=
        Lib.hid ⟨b, hbn, .inr hbf.out, rfl, rfl, HO4.out.keep0 hk4, HF3.out, Hk3.out.trans hk4⟩
      have hm : runsLeft bs.length (.int .i64 (atI (nextO bs (b : Nat) true))) (.bool (nextO bs (b : Nat) true).isSome) < runsLeft bs.length (.int .i64 ((a : Nat) : Int)) (.bool true) := by
        cases hn2 : nextO bs (b : Nat) true with
        | none =>
          show 0 < bs.length + 1 - (intOf (.int .i64 ((a : Nat) : Int))).toNat
          simp [intOf]
          omega
        | some y =>
          have hy := nextO_some hn2
          show bs.length + 1 - (intOf (.int .i64 ((y : Nat) : Int))).toNat < bs.length + 1 - (intOf (.int .i64 ((a : Nat) : Int))).toNat
          simp [intOf]
          omega
      have Hm := Lib.hid hm
      clear hk4 hm
      generalize atI (nextO bs (b : Nat) true) = a1 at *
      generalize (nextO bs (b : Nat) true).isSome = s1 at *
      go_wp2_with fail
      go_roundw
      case rel => exact HR4
      case measure => exact Hm.out
theorem runs_nil (w : World) :
    Calls Tryz.prog 94 #[.pointer none] w fun e w' => e = .returned (.slice none 0 0) ∧ Kept [] w w' := by
  have Hn := Lib.hid (next_nil w 0 (by omega) (by omega))
  go_enter Tryz.func94, Tryz.ntmps94
  go_wp2_with fail
  refine (Hn.out).mono ?_
  rintro e w1 ⟨rfl, hk1⟩
  have Hk := Lib.hid hk1
  clear hk1
  go_wp2_with fail
  go_loopw [3, 4, 5] (fun l at' is wr => l = .slice none 0 0 ∧ is = .bool false ∧ w1 = wr) (fun l at' is _ => 0)
  case atStart => exact ⟨rfl, rfl, rfl⟩
  case round =>
    obtain ⟨rfl, rfl, rfl⟩ := hrel
    go_wp2_with fail
    go_ret
    exact ⟨rfl, Hk.out⟩
end Go.Proofs.YtoagghileebokaaGreatDoor.Bt
