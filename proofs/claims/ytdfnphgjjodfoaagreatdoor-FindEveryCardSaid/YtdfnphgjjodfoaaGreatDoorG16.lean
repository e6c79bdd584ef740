/-
  Several texts in one: HdDoc2, HdOf, HdAlive, HdOfLaw.
-/
import Derived.Test.YtdfnphgjjodfoaaGreatDoorG05
import Derived.Test.YtdfnphgjjodfoaaGreatDoorG29
import Derived.Test.YtdfnphgjjodfoaaGreatDoorG10
import Derived.Test.YtdfnphgjjodfoaaGreatDoorG49
import Derived.Test.YtdfnphgjjodfoaaGreatDoorG15
/-
  The contracts of the document's functions: Encode, Decode, Gap.
-/
namespace Go.Proofs.YtdfnphgjjodfoaaGreatDoor.Hd
open Go.RowKit Go.Proofs.YtdfnphgjjodfoaaGreatDoor.Ar
set_option linter.unusedVariables false

section
variable {w : World}
set_option maxRecDepth 100000 in
theorem dencode_ok (x : Hd) (ok : x.ok) : Calls Tryz.prog 140 #[x.val] w fun e w' => e = .returned (.tuple #[.int .u64 (encW x), .int .i64 (errH x)]) ∧ Kept [] w w' := by
  have hb := Hd.new w x
  have k0 : Kept [] w (w.alloc (.cells #[.int .u8 x.tg, .int .i64 x.ty, .int .i64 x.ln, .int .i64 x.sz] 35)) := (Kept.refl [] w).alloc _
  have HC := Lib.hid (fun y => may_ok (w := y) x ok)
  clear ok
  by_cases c : x.can
  · rw [encW_yes c, errH_yes c]
    rw [decide_eq_true c] at HC
    obtain ⟨g0, g1, t0, t1, l0, l1, s0, s1⟩ : 0 ≤ x.tg ∧ x.tg ≤ 3 ∧ 0 ≤ x.ty ∧ x.ty ≤ 4095 ∧ 0 ≤ x.ln ∧ x.ln ≤ 16777215 ∧ 0 ≤ x.sz ∧ x.sz ≤ 16777215 := by
      unfold Hd.can at c; omega
    clear c
    unfold Hd.val wordI at *
    generalize x.tg = g at *
    generalize x.ty = t at *
    generalize x.ln = n at *
    generalize x.sz = s at *
    have HB := Lib.hid hb
    have K0 := Lib.hid k0
    clear hb k0
    go_enter Tryz.func140, Tryz.ntmps140
    go_wp2_with fail
    refine (HC.out _).mono ?_
    rintro e x1 ⟨rfl, k1⟩
    obtain ⟨c0, c1, c2, c3⟩ := cells4 (HB.out.keep0 k1)
    have K1 := Lib.hid (K0.out.trans k1)
    clear k1 HC K0 HB
    go_wp2_with fail
    go_ret2
    exact ⟨rfl, K1.out⟩
  · rw [encW_no c, errH_no c]
    rw [decide_eq_false c] at HC
    clear c
    unfold Hd.val at *
    generalize x.tg = g at *
    generalize x.ty = t at *
    generalize x.ln = n at *
    generalize x.sz = s at *
    have K0 := Lib.hid k0
    clear hb k0
    go_enter Tryz.func140, Tryz.ntmps140
    go_wp2_with fail
    refine (HC.out _).mono ?_
    rintro e x1 ⟨rfl, k1⟩
    have K1 := Lib.hid (K0.out.trans k1)
    clear k1 HC K0
    go_wp2_with fail
    go_ret2
    exact ⟨rfl, K1.out⟩
/-- How a decoded word falls out. -/
theorem dec_case (u : Int) : (decH u = headI u ∧ decE u = 0 ∧ encW (headI u) = u ∧ errH (headI u) = 0) ∨ (decH u = Hd.zero ∧ decE u = 7 ∧ ((errH (headI u) = 2) ∨ (errH (headI u) = 0 ∧ encW (headI u) ≠ u))) := by
  have hiff := @isHead_iff u
  by_cases c : (headI u).can
  · by_cases d : wordI (headI u) = u
    · have e := hiff.2 ⟨c, d⟩
      exact .inl ⟨(dec_yes e).1, (dec_yes e).2, (encW_yes c).trans d, errH_yes c⟩
    · have e : isHead u = false := by
        cases hx : isHead u with
        | false => rfl
        | true => exact absurd (hiff.1 hx).2 d
      exact .inr ⟨(dec_no e).1, (dec_no e).2, .inr ⟨errH_yes c, by rw [encW_yes c]; exact d⟩⟩
  · have e : isHead u = false := by
      cases hx : isHead u with
      | false => rfl
      | true => exact absurd (hiff.1 hx).1 c
    exact .inr ⟨(dec_no e).1, (dec_no e).2, .inl (errH_no c)⟩
set_option maxRecDepth 100000 in
set_option maxHeartbeats 1000000 in
theorem ddecode_ok (u : Int) (hu0 : 0 ≤ u) (hu1 : u ≤ 18446744073709551615) : Calls Tryz.prog 108 #[.int .u64 u] w fun e w' => e = .returned (.tuple #[(decH u).val, .int .i64 (decE u)]) ∧ Kept [] w w' := by
  have hb := Hd.new w Hd.zero
  have k0 : Kept [] w (w.alloc (.cells #[.int .u8 Hd.zero.tg, .int .i64 Hd.zero.ty, .int .i64 Hd.zero.ln, .int .i64 Hd.zero.sz] 35)) := (Kept.refl [] w).alloc _
  have HE := Lib.hid (fun y => dencode_ok (w := y) (headI u) (head_ok hu0 hu1))
  have HN : Hid (Has ((w.alloc (.cells #[.int .u8 0, .int .i64 0, .int .i64 0, .int .i64 0] 35)).alloc (.cells #[.int .u8 (headI u).tg, .int .i64 (headI u).ty, .int .i64 (headI u).ln, .int .i64 (headI u).sz] 35)) (w.heap.size + 1) 35 [.int .u8 (headI u).tg, .int .i64 (headI u).ty, .int .i64 (headI u).ln, .int .i64 (headI u).sz]) := Lib.hid (by simpa using Hd.new (w.alloc (.cells #[.int .u8 0, .int .i64 0, .int .i64 0, .int .i64 0] 35)) (headI u))
  have hcase := dec_case u
  unfold Hd.val Hd.zero at *
  simp only at *
  have HB := Lib.hid hb
  have K0 := Lib.hid k0
  clear hb k0
  rcases hcase with ⟨e1, e2, e3, e4⟩ | ⟨e1, e2, e3⟩
  · rw [e3, e4] at HE
    rw [e1, e2]
    clear e1 e2 e3 e4
    unfold headI at *
    simp only at *
    go_enter Tryz.func108, Tryz.ntmps108
    go_wp2_with fail
    refine (HE.out _).mono ?_
    rintro e x2 ⟨rfl, k2⟩
    have K2 := Lib.hid ((K0.out.alloc _).trans k2)
    have r2 := (HB.out.alloc _).keep0 k2
    have b2 := HN.out.keep0 k2
    clear k2 HE HN K0 HB
    obtain ⟨f0, f1, f2, f3⟩ := free4 r2
    obtain ⟨d0, d1, d2, d3⟩ := cells4 r2
    obtain ⟨c0, c1, c2, c3⟩ := cells4 b2
    have R2 := Lib.hid r2
    clear r2 b2
    go_wp2_with fail
    exact ret_hd rfl rfl R2.out K2.out (Nat.le_refl _) rfl rfl fun X hX => ⟨rfl, hX⟩
  · rw [e1, e2]
    clear e1 e2
    generalize encW (headI u) = ew at *
    generalize errH (headI u) = er at *
    unfold headI at *
    simp only at *
    go_enter Tryz.func108, Tryz.ntmps108
    go_wp2_with fail
    refine (HE.out _).mono ?_
    rintro e x2 ⟨rfl, k2⟩
    have K2 := Lib.hid ((K0.out.alloc _).trans k2)
    have r2 := (HB.out.alloc _).keep0 k2
    have b2 := HN.out.keep0 k2
    clear k2 HE HN K0 HB
    obtain ⟨f0, f1, f2, f3⟩ := free4 r2
    obtain ⟨d0, d1, d2, d3⟩ := cells4 r2
    obtain ⟨c0, c1, c2, c3⟩ := cells4 b2
    have R2 := Lib.hid r2
    clear r2 b2
    rcases e3 with rfl | ⟨rfl, hne⟩
    · go_wp2_with fail
      exact ret_hd rfl rfl R2.out K2.out (Nat.le_refl _) rfl rfl fun X hX => ⟨rfl, hX⟩
    · go_wp2_with fail
      exact ret_hd rfl rfl R2.out K2.out (Nat.le_refl _) rfl rfl fun X hX => ⟨rfl, hX⟩
set_option maxRecDepth 100000 in
set_option maxHeartbeats 1000000 in
theorem dgap_ok (g z : Int) (g0 : 0 ≤ g) (g1 : g ≤ 255) (z0 : -9223372036854775808 ≤ z) (z1 : z ≤ 9223372036854775807) : Calls Tryz.prog 163 #[.int .u8 g, .int .i64 z] w fun e w' => e = .returned (.tuple #[(gapH g z).val, .int .i64 (errH ⟨g, 0, 0, z⟩)]) ∧ Kept [] w w' := by
  have hb := Hd.new w Hd.zero
  have k0 : Kept [] w (w.alloc (.cells #[.int .u8 Hd.zero.tg, .int .i64 Hd.zero.ty, .int .i64 Hd.zero.ln, .int .i64 Hd.zero.sz] 35)) := (Kept.refl [] w).alloc _
  have HC := Lib.hid (fun y => may_ok (w := y) ⟨g, 0, 0, z⟩ ⟨g0, g1, by simp, by simp, by simp, by simp, z0, z1⟩)
  have HN : Hid (Has ((w.alloc (.cells #[.int .u8 0, .int .i64 0, .int .i64 0, .int .i64 0] 35)).alloc (.cells #[.int .u8 g, .int .i64 0, .int .i64 0, .int .i64 z] 35)) (w.heap.size + 1) 35 [.int .u8 g, .int .i64 0, .int .i64 0, .int .i64 z]) := Lib.hid (by simpa using Hd.new (w.alloc (.cells #[.int .u8 0, .int .i64 0, .int .i64 0, .int .i64 0] 35)) ⟨g, 0, 0, z⟩)
  unfold Hd.zero at hb k0
  simp only at hb k0
  have HB := Lib.hid hb
  have K0 := Lib.hid k0
  clear hb k0
  by_cases hg : g = 1
  · subst hg
    have c : ¬ (Hd.mk 1 0 0 z).can := by unfold Hd.can; simp
    rw [gap_no c, errH_no c]
    unfold Hd.val Hd.zero at *
    simp only at *
    clear c HC
    have K2 := Lib.hid (K0.out.alloc (.cells #[.int .u8 1, .int .i64 0, .int .i64 0, .int .i64 z] 35))
    have r2 := HB.out.alloc (.cells #[.int .u8 1, .int .i64 0, .int .i64 0, .int .i64 z] 35)
    clear K0 HB HN
    obtain ⟨f0, f1, f2, f3⟩ := free4 r2
    obtain ⟨d0, d1, d2, d3⟩ := cells4 r2
    have R2 := Lib.hid r2
    clear r2
    go_enter Tryz.func163, Tryz.ntmps163
    go_wp2_with fail
    exact ret_hd0 rfl rfl R2.out rfl rfl ⟨rfl, K2.out⟩
  · by_cases c : (Hd.mk g 0 0 z).can
    · rw [gap_yes c, errH_yes c]
      rw [decide_eq_true c] at HC
      unfold Hd.val at *
      simp only at *
      clear c
      go_enter Tryz.func163, Tryz.ntmps163
      go_wp2_with fail
      refine (HC.out _).mono ?_
      rintro e x2 ⟨rfl, k2⟩
      have K2 := Lib.hid ((K0.out.alloc _).trans k2)
      have r2 := (HB.out.alloc _).keep0 k2
      have b2 := HN.out.keep0 k2
      clear k2 HC HN K0 HB
      obtain ⟨f0, f1, f2, f3⟩ := free4 r2
      obtain ⟨d0, d1, d2, d3⟩ := cells4 r2
      obtain ⟨c0, c1, c2, c3⟩ := cells4 b2
      have R2 := Lib.hid r2
      clear r2 b2
      go_wp2_with fail
      exact ret_hd rfl rfl R2.out K2.out (Nat.le_refl _) rfl rfl fun X hX => ⟨rfl, hX⟩
    · rw [gap_no c, errH_no c]
      rw [decide_eq_false c] at HC
      unfold Hd.val Hd.zero at *
      simp only at *
      clear c
      go_enter Tryz.func163, Tryz.ntmps163
      go_wp2_with fail
      refine (HC.out _).mono ?_
      rintro e x2 ⟨rfl, k2⟩
      have K2 := Lib.hid ((K0.out.alloc _).trans k2)
      have r2 := (HB.out.alloc _).keep0 k2
      have b2 := HN.out.keep0 k2
      clear k2 HC HN K0 HB
      obtain ⟨f0, f1, f2, f3⟩ := free4 r2
      obtain ⟨d0, d1, d2, d3⟩ := cells4 r2
      obtain ⟨c0, c1, c2, c3⟩ := cells4 b2
      have R2 := Lib.hid r2
      clear r2 b2
      go_wp2_with fail
      exact ret_hd rfl rfl R2.out K2.out (Nat.le_refl _) rfl rfl fun X hX => ⟨rfl, hX⟩
end
end Go.Proofs.YtdfnphgjjodfoaaGreatDoor.Hd

/-
  The contracts of Of and Fits, the program's and the document's.
-/
namespace Go.Proofs.YtdfnphgjjodfoaaGreatDoor.Hd
open Go.RowKit Go.Proofs.YtdfnphgjjodfoaaGreatDoor.Ar
set_option linter.unusedVariables false

/-- The header of an object: what the size and its error say. -/
def ofH (i n z er : Int) : Hd := if er = 0 then ⟨1, i, n, z⟩ else Hd.zero
/-- Does it match, if that is what Of answers? -/
def fitE (o : Hd) (oe : Int) (h : Hd) : Int := if ¬ h.can then 2 else if h.tg ≠ 1 then 0 else if oe ≠ 0 ∨ o ≠ h then 8 else 0
section
variable {w : World}
set_option maxRecDepth 100000 in
set_option maxHeartbeats 1000000 in
theorem of_ok (T : Value) (i n z er : Int) (HS : ∀ y, Kept [] w y → Calls Tryz.prog 89 #[T, .int .i64 i, .int .i64 n] y fun e w' => e = .returned (.tuple #[.int .i64 z, .int .i64 er]) ∧ Kept [] y w') :
    Calls Tryz.prog 53 #[T, .int .i64 i, .int .i64 n] w fun e w' => e = .returned (.tuple #[(ofH i n z er).val, .int .i64 er]) ∧ Kept [] w w' := by
  have hb := Hd.new w Hd.zero
  have k0 : Kept [] w (w.alloc (.cells #[.int .u8 Hd.zero.tg, .int .i64 Hd.zero.ty, .int .i64 Hd.zero.ln, .int .i64 Hd.zero.sz] 35)) := (Kept.refl [] w).alloc _
  unfold Hd.zero at hb k0
  simp only at hb k0
  have HB := Lib.hid hb
  have K0 := Lib.hid k0
  have HSS := Lib.hid HS
  clear hb k0 HS
  by_cases c : er = 0
  · subst c
    unfold ofH
    simp only [if_true]
    unfold Hd.val
    go_enter Tryz.func53, Tryz.ntmps53
    go_wp2_with fail
    refine (HSS.out _ K0.out).mono ?_
    rintro e x2 ⟨rfl, k2⟩
    have K2 := Lib.hid (K0.out.trans k2)
    have r2 := HB.out.keep0 k2
    clear k2 HSS K0 HB
    obtain ⟨f0, f1, f2, f3⟩ := free4 r2
    obtain ⟨d0, d1, d2, d3⟩ := cells4 r2
    have R2 := Lib.hid r2
    clear r2
    go_wp2_with fail
    exact ret_hd rfl rfl R2.out K2.out (Nat.le_refl _) rfl rfl fun X hX => ⟨rfl, hX⟩
  · unfold ofH
    rw [if_neg c]
    unfold Hd.val Hd.zero
    go_enter Tryz.func53, Tryz.ntmps53
    go_wp2_with fail
    refine (HSS.out _ K0.out).mono ?_
    rintro e x2 ⟨rfl, k2⟩
    have K2 := Lib.hid (K0.out.trans k2)
    have r2 := HB.out.keep0 k2
    clear k2 HSS K0 HB
    obtain ⟨f0, f1, f2, f3⟩ := free4 r2
    obtain ⟨d0, d1, d2, d3⟩ := cells4 r2
    have R2 := Lib.hid r2
    clear r2
    go_wp2_with fail
    exact ret_hd rfl rfl R2.out K2.out (Nat.le_refl _) rfl rfl fun X hX => ⟨rfl, hX⟩
set_option maxRecDepth 100000 in
set_option maxHeartbeats 1000000 in
theorem dof_ok (T : Value) (i n z er : Int) (HS : ∀ y, Kept [] w y → Calls Tryz.prog 139 #[T, .int .i64 i, .int .i64 n] y fun e w' => e = .returned (.tuple #[.int .i64 z, .int .i64 er]) ∧ Kept [] y w') :
    Calls Tryz.prog 99 #[T, .int .i64 i, .int .i64 n] w fun e w' => e = .returned (.tuple #[(ofH i n z er).val, .int .i64 er]) ∧ Kept [] w w' := by
  have hb := Hd.new w Hd.zero
  have k0 : Kept [] w (w.alloc (.cells #[.int .u8 Hd.zero.tg, .int .i64 Hd.zero.ty, .int .i64 Hd.zero.ln, .int .i64 Hd.zero.sz] 35)) := (Kept.refl [] w).alloc _
  unfold Hd.zero at hb k0
  simp only at hb k0
  have HB := Lib.hid hb
  have K0 := Lib.hid k0
  have HSS := Lib.hid HS
  clear hb k0 HS
  by_cases c : er = 0
  · subst c
    unfold ofH
    simp only [if_true]
    unfold Hd.val
    go_enter Tryz.func99, Tryz.ntmps99
    go_wp2_with fail
    refine (HSS.out _ K0.out).mono ?_
    rintro e x2 ⟨rfl, k2⟩
    have K2 := Lib.hid (K0.out.trans k2)
    have r2 := HB.out.keep0 k2
    clear k2 HSS K0 HB
    obtain ⟨f0, f1, f2, f3⟩ := free4 r2
    obtain ⟨d0, d1, d2, d3⟩ := cells4 r2
    have R2 := Lib.hid r2
    clear r2
    go_wp2_with fail
    exact ret_hd rfl rfl R2.out K2.out (Nat.le_refl _) rfl rfl fun X hX => ⟨rfl, hX⟩
  · unfold ofH
    rw [if_neg c]
    unfold Hd.val Hd.zero
    go_enter Tryz.func99, Tryz.ntmps99
    go_wp2_with fail
    refine (HSS.out _ K0.out).mono ?_
    rintro e x2 ⟨rfl, k2⟩
    have K2 := Lib.hid (K0.out.trans k2)
    have r2 := HB.out.keep0 k2
    clear k2 HSS K0 HB
    obtain ⟨f0, f1, f2, f3⟩ := free4 r2
    obtain ⟨d0, d1, d2, d3⟩ := cells4 r2
    have R2 := Lib.hid r2
    clear r2
    go_wp2_with fail
    exact ret_hd rfl rfl R2.out K2.out (Nat.le_refl _) rfl rfl fun X hX => ⟨rfl, hX⟩
set_option maxRecDepth 100000 in
set_option maxHeartbeats 1000000 in
theorem fits_ok (h : Fields w) (T : Value) (x : Hd) (ok : x.ok) (o : Hd) (oe : Int) (HO : ∀ y, Kept [] w y → Calls Tryz.prog 53 #[T, .int .i64 x.ty, .int .i64 x.ln] y fun e w' => e = .returned (.tuple #[o.val, .int .i64 oe]) ∧ Kept [] y w') :
    Calls Tryz.prog 44 #[T, x.val] w fun e w' => e = .returned (.int .i64 (fitE o oe x)) ∧ Kept [] w w' := by
  have hb := Hd.new w x
  have k0 : Kept [] w (w.alloc (.cells #[.int .u8 x.tg, .int .i64 x.ty, .int .i64 x.ln, .int .i64 x.sz] 35)) := (Kept.refl [] w).alloc _
  have HC := Lib.hid (fun y (k : Kept [] w y) => check_ok (h.keep0 k) x ok)
  have HOO := Lib.hid HO
  have HN : Hid (∀ y : World, Has (y.alloc (.cells #[.int .u8 o.tg, .int .i64 o.ty, .int .i64 o.ln, .int .i64 o.sz] 35)) y.heap.size 35 [.int .u8 o.tg, .int .i64 o.ty, .int .i64 o.ln, .int .i64 o.sz]) := Lib.hid fun y => Hd.new y _
  have hne := run_other
  have hng := no_guard
  have hq : eqB o.tg o.ty o.ln o.sz x.tg x.ty x.ln x.sz = decide (o = x) := eqB_dec o x
  have hg0 := ok.g0
  have hg1 := ok.g1
  clear HO h ok
  by_cases c : x.can
  · have hf : fitE o oe x = if x.tg ≠ 1 then 0 else if oe ≠ 0 ∨ o ≠ x then 8 else 0 := by unfold fitE; rw [if_neg (fun h => h c)]
    rw [hf]
    rw [errH_yes c] at HC
    clear hf c
    by_cases h1 : x.tg = 1
    · rw [if_neg (fun h => h h1)]
      by_cases h2 : oe = 0
      · subst h2
        by_cases h3 : o = x
        · rw [if_neg (by simp [h3])]
          rw [decide_eq_true h3] at hq
          clear h3
          unfold Hd.val at *
          generalize x.tg = g at *
          generalize x.ty = t at *
          generalize x.ln = n at *
          subst h1
          generalize x.sz = s at *
          have HB := Lib.hid hb
          have K0 := Lib.hid k0
          clear hb k0
          go_enter Tryz.func44, Tryz.ntmps44
          go_wp2_with fail
          refine (HC.out _ K0.out).mono ?_
          rintro e x1 ⟨rfl, k1⟩
          have b1 := HB.out.keep0 k1
          obtain ⟨c0, c1, c2, c3⟩ := cells4 b1
          have K1 := Lib.hid (K0.out.trans k1)
          have HB1 := Lib.hid b1
          clear k1 b1 HC K0 HB
          go_wp2_with fail
          refine (HOO.out _ K1.out).mono ?_
          rintro e x2 ⟨rfl, k2⟩
          have K2 := Lib.hid (K1.out.trans k2)
          have b2 := HB1.out.keep0 k2
          have n2 := HN.out x2
          clear k2 HOO K1 HB1 HN c0 c1 c2 c3
          obtain ⟨c0, c1, c2, c3⟩ := cells4 (b2.alloc (.cells #[.int .u8 o.tg, .int .i64 o.ty, .int .i64 o.ln, .int .i64 o.sz] 35))
          obtain ⟨d0, d1, d2, d3⟩ := cells4 n2
          clear b2 n2
          go_wp2_with fail
          go_ret
          exact ⟨rfl, K2.out.alloc _⟩
        · rw [if_pos (.inr h3)]
          rw [decide_eq_false h3] at hq
          clear h3
          unfold Hd.val at *
          generalize x.tg = g at *
          generalize x.ty = t at *
          generalize x.ln = n at *
          subst h1
          generalize x.sz = s at *
          have HB := Lib.hid hb
          have K0 := Lib.hid k0
          clear hb k0
          go_enter Tryz.func44, Tryz.ntmps44
          go_wp2_with fail
          refine (HC.out _ K0.out).mono ?_
          rintro e x1 ⟨rfl, k1⟩
          have b1 := HB.out.keep0 k1
          obtain ⟨c0, c1, c2, c3⟩ := cells4 b1
          have K1 := Lib.hid (K0.out.trans k1)
          have HB1 := Lib.hid b1
          clear k1 b1 HC K0 HB
          go_wp2_with fail
          refine (HOO.out _ K1.out).mono ?_
          rintro e x2 ⟨rfl, k2⟩
          have K2 := Lib.hid (K1.out.trans k2)
          have b2 := HB1.out.keep0 k2
          have n2 := HN.out x2
          clear k2 HOO K1 HB1 HN c0 c1 c2 c3
          obtain ⟨c0, c1, c2, c3⟩ := cells4 (b2.alloc (.cells #[.int .u8 o.tg, .int .i64 o.ty, .int .i64 o.ln, .int .i64 o.sz] 35))
          obtain ⟨d0, d1, d2, d3⟩ := cells4 n2
          clear b2 n2
          go_wp2_with fail
          go_ret
          exact ⟨rfl, K2.out.alloc _⟩
      · rw [if_pos (.inl h2)]
        clear hq
        unfold Hd.val at *
        generalize x.tg = g at *
        generalize x.ty = t at *
        generalize x.ln = n at *
        subst h1
        generalize x.sz = s at *
        have HB := Lib.hid hb
        have K0 := Lib.hid k0
        clear hb k0
        go_enter Tryz.func44, Tryz.ntmps44
        go_wp2_with fail
        refine (HC.out _ K0.out).mono ?_
        rintro e x1 ⟨rfl, k1⟩
        have b1 := HB.out.keep0 k1
        obtain ⟨c0, c1, c2, c3⟩ := cells4 b1
        have K1 := Lib.hid (K0.out.trans k1)
        have HB1 := Lib.hid b1
        clear k1 b1 HC K0 HB
        go_wp2_with fail
        refine (HOO.out _ K1.out).mono ?_
        rintro e x2 ⟨rfl, k2⟩
        have K2 := Lib.hid (K1.out.trans k2)
        have b2 := HB1.out.keep0 k2
        have n2 := HN.out x2
        clear k2 HOO K1 HB1 HN c0 c1 c2 c3
        obtain ⟨c0, c1, c2, c3⟩ := cells4 (b2.alloc (.cells #[.int .u8 o.tg, .int .i64 o.ty, .int .i64 o.ln, .int .i64 o.sz] 35))
        obtain ⟨d0, d1, d2, d3⟩ := cells4 n2
        clear b2 n2
        go_wp2_with fail
        go_ret
        exact ⟨rfl, K2.out.alloc _⟩
    · rw [if_pos h1]
      clear hq HOO HN
      unfold Hd.val at *
      generalize x.tg = g at *
      generalize x.ty = t at *
      generalize x.ln = n at *
      generalize x.sz = s at *
      have HB := Lib.hid hb
      have K0 := Lib.hid k0
      clear hb k0
      go_enter Tryz.func44, Tryz.ntmps44
      go_wp2_with fail
      refine (HC.out _ K0.out).mono ?_
      rintro e x1 ⟨rfl, k1⟩
      have b1 := HB.out.keep0 k1
      obtain ⟨c0, c1, c2, c3⟩ := cells4 b1
      have K1 := Lib.hid (K0.out.trans k1)
      have HB1 := Lib.hid b1
      clear k1 b1 HC K0 HB
      go_wp2_with fail
      go_ret
      exact ⟨rfl, K1.out⟩
  · have hf : fitE o oe x = 2 := by unfold fitE; rw [if_pos c]
    rw [hf]
    rw [errH_no c] at HC
    clear hf c hq HOO HN
    unfold Hd.val at *
    generalize x.tg = g at *
    generalize x.ty = t at *
    generalize x.ln = n at *
    generalize x.sz = s at *
    have HB := Lib.hid hb
    have K0 := Lib.hid k0
    clear hb k0
    go_enter Tryz.func44, Tryz.ntmps44
    go_wp2_with fail
    refine (HC.out _ K0.out).mono ?_
    rintro e x1 ⟨rfl, k1⟩
    have b1 := HB.out.keep0 k1
    obtain ⟨c0, c1, c2, c3⟩ := cells4 b1
    have K1 := Lib.hid (K0.out.trans k1)
    have HB1 := Lib.hid b1
    clear k1 b1 HC K0 HB
    go_wp2_with fail
    go_ret
    exact ⟨rfl, K1.out⟩
set_option maxRecDepth 100000 in
set_option maxHeartbeats 1000000 in
theorem dfits_ok (T : Value) (x : Hd) (ok : x.ok) (o : Hd) (oe : Int) (HO : ∀ y, Kept [] w y → Calls Tryz.prog 99 #[T, .int .i64 x.ty, .int .i64 x.ln] y fun e w' => e = .returned (.tuple #[o.val, .int .i64 oe]) ∧ Kept [] y w') :
    Calls Tryz.prog 68 #[T, x.val] w fun e w' => e = .returned (.int .i64 (fitE o oe x)) ∧ Kept [] w w' := by
  have hb := Hd.new w x
  have k0 : Kept [] w (w.alloc (.cells #[.int .u8 x.tg, .int .i64 x.ty, .int .i64 x.ln, .int .i64 x.sz] 35)) := (Kept.refl [] w).alloc _
  have HC := Lib.hid (fun y (k : Kept [] w y) => may_ok (w := y) x ok)
  have HOO := Lib.hid HO
  have HN : Hid (∀ y : World, Has (y.alloc (.cells #[.int .u8 o.tg, .int .i64 o.ty, .int .i64 o.ln, .int .i64 o.sz] 35)) y.heap.size 35 [.int .u8 o.tg, .int .i64 o.ty, .int .i64 o.ln, .int .i64 o.sz]) := Lib.hid fun y => Hd.new y _
  have hne := run_other
  have hng := no_guard
  have hq : eqB o.tg o.ty o.ln o.sz x.tg x.ty x.ln x.sz = decide (o = x) := eqB_dec o x
  have hg0 := ok.g0
  have hg1 := ok.g1
  clear HO ok
  by_cases c : x.can
  · have hf : fitE o oe x = if x.tg ≠ 1 then 0 else if oe ≠ 0 ∨ o ≠ x then 8 else 0 := by unfold fitE; rw [if_neg (fun h => h c)]
    rw [hf]
    rw [decide_eq_true c] at HC
    clear hf c
    by_cases h1 : x.tg = 1
    · rw [if_neg (fun h => h h1)]
      by_cases h2 : oe = 0
      · subst h2
        by_cases h3 : o = x
        · rw [if_neg (by simp [h3])]
          rw [decide_eq_true h3] at hq
          clear h3
          unfold Hd.val at *
          generalize x.tg = g at *
          generalize x.ty = t at *
          generalize x.ln = n at *
          subst h1
          generalize x.sz = s at *
          have HB := Lib.hid hb
          have K0 := Lib.hid k0
          clear hb k0
          go_enter Tryz.func68, Tryz.ntmps68
          go_wp2_with fail
          refine (HC.out _ K0.out).mono ?_
          rintro e x1 ⟨rfl, k1⟩
          have b1 := HB.out.keep0 k1
          obtain ⟨c0, c1, c2, c3⟩ := cells4 b1
          have K1 := Lib.hid (K0.out.trans k1)
          have HB1 := Lib.hid b1
          clear k1 b1 HC K0 HB
          go_wp2_with fail
          refine (HOO.out _ K1.out).mono ?_
          rintro e x2 ⟨rfl, k2⟩
          have K2 := Lib.hid (K1.out.trans k2)
          have b2 := HB1.out.keep0 k2
          have n2 := HN.out x2
          clear k2 HOO K1 HB1 HN c0 c1 c2 c3
          obtain ⟨c0, c1, c2, c3⟩ := cells4 (b2.alloc (.cells #[.int .u8 o.tg, .int .i64 o.ty, .int .i64 o.ln, .int .i64 o.sz] 35))
          obtain ⟨d0, d1, d2, d3⟩ := cells4 n2
          clear b2 n2
          go_wp2_with fail
          go_ret
          exact ⟨rfl, K2.out.alloc _⟩
        · rw [if_pos (.inr h3)]
          rw [decide_eq_false h3] at hq
          clear h3
          unfold Hd.val at *
          generalize x.tg = g at *
          generalize x.ty = t at *
          generalize x.ln = n at *
          subst h1
          generalize x.sz = s at *
          have HB := Lib.hid hb
          have K0 := Lib.hid k0
          clear hb k0
          go_enter Tryz.func68, Tryz.ntmps68
          go_wp2_with fail
          refine (HC.out _ K0.out).mono ?_
          rintro e x1 ⟨rfl, k1⟩
          have b1 := HB.out.keep0 k1
          obtain ⟨c0, c1, c2, c3⟩ := cells4 b1
          have K1 := Lib.hid (K0.out.trans k1)
          have HB1 := Lib.hid b1
          clear k1 b1 HC K0 HB
          go_wp2_with fail
          refine (HOO.out _ K1.out).mono ?_
          rintro e x2 ⟨rfl, k2⟩
          have K2 := Lib.hid (K1.out.trans k2)
          have b2 := HB1.out.keep0 k2
          have n2 := HN.out x2
          clear k2 HOO K1 HB1 HN c0 c1 c2 c3
          obtain ⟨c0, c1, c2, c3⟩ := cells4 (b2.alloc (.cells #[.int .u8 o.tg, .int .i64 o.ty, .int .i64 o.ln, .int .i64 o.sz] 35))
          obtain ⟨d0, d1, d2, d3⟩ := cells4 n2
          clear b2 n2
          go_wp2_with fail
          go_ret
          exact ⟨rfl, K2.out.alloc _⟩
      · rw [if_pos (.inl h2)]
        clear hq
        unfold Hd.val at *
        generalize x.tg = g at *
        generalize x.ty = t at *
        generalize x.ln = n at *
        subst h1
        generalize x.sz = s at *
        have HB := Lib.hid hb
        have K0 := Lib.hid k0
        clear hb k0
        go_enter Tryz.func68, Tryz.ntmps68
        go_wp2_with fail
        refine (HC.out _ K0.out).mono ?_
        rintro e x1 ⟨rfl, k1⟩
        have b1 := HB.out.keep0 k1
        obtain ⟨c0, c1, c2, c3⟩ := cells4 b1
        have K1 := Lib.hid (K0.out.trans k1)
        have HB1 := Lib.hid b1
        clear k1 b1 HC K0 HB
        go_wp2_with fail
        refine (HOO.out _ K1.out).mono ?_
        rintro e x2 ⟨rfl, k2⟩
        have K2 := Lib.hid (K1.out.trans k2)
        have b2 := HB1.out.keep0 k2
        have n2 := HN.out x2
        clear k2 HOO K1 HB1 HN c0 c1 c2 c3
        obtain ⟨c0, c1, c2, c3⟩ := cells4 (b2.alloc (.cells #[.int .u8 o.tg, .int .i64 o.ty, .int .i64 o.ln, .int .i64 o.sz] 35))
        obtain ⟨d0, d1, d2, d3⟩ := cells4 n2
        clear b2 n2
        go_wp2_with fail
        go_ret
        exact ⟨rfl, K2.out.alloc _⟩
    · rw [if_pos h1]
      clear hq HOO HN
      unfold Hd.val at *
      generalize x.tg = g at *
      generalize x.ty = t at *
      generalize x.ln = n at *
      generalize x.sz = s at *
      have HB := Lib.hid hb
      have K0 := Lib.hid k0
      clear hb k0
      go_enter Tryz.func68, Tryz.ntmps68
      go_wp2_with fail
      refine (HC.out _ K0.out).mono ?_
      rintro e x1 ⟨rfl, k1⟩
      have b1 := HB.out.keep0 k1
      obtain ⟨c0, c1, c2, c3⟩ := cells4 b1
      have K1 := Lib.hid (K0.out.trans k1)
      have HB1 := Lib.hid b1
      clear k1 b1 HC K0 HB
      go_wp2_with fail
      go_ret
      exact ⟨rfl, K1.out⟩
  · have hf : fitE o oe x = 2 := by unfold fitE; rw [if_pos c]
    rw [hf]
    rw [decide_eq_false c] at HC
    clear hf c hq HOO HN
    unfold Hd.val at *
    generalize x.tg = g at *
    generalize x.ty = t at *
    generalize x.ln = n at *
    generalize x.sz = s at *
    have HB := Lib.hid hb
    have K0 := Lib.hid k0
    clear hb k0
    go_enter Tryz.func68, Tryz.ntmps68
    go_wp2_with fail
    refine (HC.out _ K0.out).mono ?_
    rintro e x1 ⟨rfl, k1⟩
    have b1 := HB.out.keep0 k1
    obtain ⟨c0, c1, c2, c3⟩ := cells4 b1
    have K1 := Lib.hid (K0.out.trans k1)
    have HB1 := Lib.hid b1
    clear k1 b1 HC K0 HB
    go_wp2_with fail
    go_ret
    exact ⟨rfl, K1.out⟩
end
end Go.Proofs.YtdfnphgjjodfoaaGreatDoor.Hd

/-
  The chapter's examples: alive.
-/
namespace Go.Proofs.YtdfnphgjjodfoaaGreatDoor.Hd
open Go.RowKit Go.Proofs.YtdfnphgjjodfoaaGreatDoor.Ar
set_option linter.unusedVariables false

section
variable {w : World}
end
end Go.Proofs.YtdfnphgjjodfoaaGreatDoor.Hd

/-
  What the laws on tables' headers hand on: contracts of Of and Fits, of a table, of none, of the document's row.
-/
namespace Go.Proofs.YtdfnphgjjodfoaaGreatDoor.Hd
open Go.RowKit Go.Proofs.YtdfnphgjjodfoaaGreatDoor.Ar
set_option linter.unusedVariables false
open Go.Proofs.YtdfnphgjjodfoaaGreatDoor.Tb (Ty Tab Seen Made NewPost RowPost newF newF_len addE sizeT sizeE)

/-- An error of Of's is like any other to Fits. -/
theorem fit_err (o : Hd) (oe : Int) (x : Hd) (h : oe ≠ 0) : fitE o oe x = fitE Hd.zero 1 x := by
  unfold fitE
  have h1 : (oe ≠ 0 ∨ o ≠ x) := .inl h
  have h2 : ((1 : Int) ≠ 0 ∨ Hd.zero ≠ x) := .inl (by decide)
  rw [if_pos h1, if_pos h2]
/-- The header of an object of a list's types. -/
def ofL (l : List Ty) (i n : Int) : Hd := ofH i n (sizeT l i n) (sizeE l i n)
def fitL (l : List Ty) (x : Hd) : Int := fitE (ofL l x.ty x.ln) (sizeE l x.ty x.ln) x
section
variable {w : World} {A : Option Addr} {c p : Nat} {l : List Ty}
theorem of_tab (h : Tab w p A c l) (i n : Int) (hi0 : -9223372036854775808 ≤ i) (hi1 : i ≤ 9223372036854775807) :
    Calls Tryz.prog 53 #[.pointer (some ⟨p, 0, none⟩), .int .i64 i, .int .i64 n] w fun e w' => e = .returned (.tuple #[(ofL l i n).val, .int .i64 (sizeE l i n)]) ∧ Kept [] w w' :=
  of_ok _ i n (sizeT l i n) (sizeE l i n) fun y k => Tb.size_ok (h.keep0 k) i n hi0 hi1
theorem of_nil (i n : Int) : Calls Tryz.prog 53 #[.pointer none, .int .i64 i, .int .i64 n] w fun e w' => e = .returned (.tuple #[Hd.zero.val, .int .i64 1]) ∧ Kept [] w w' :=
  of_ok _ i n 0 1 fun y k => Tb.size_nil y i n
theorem dof_row (hS : Tb.Seen w A l) (hok : ∀ x ∈ l, x.ok ∧ x.fit) (hlen : l.length ≤ 100000) (i n : Int) (hi0 : -9223372036854775808 ≤ i) (hi1 : i ≤ 9223372036854775807) :
    Calls Tryz.prog 99 #[.slice A l.length c, .int .i64 i, .int .i64 n] w fun e w' => e = .returned (.tuple #[(ofL l i n).val, .int .i64 (sizeE l i n)]) ∧ Kept [] w w' :=
  dof_ok _ i n (sizeT l i n) (sizeE l i n) fun y k => Tb.dsize_ok (c := c) (hS.keep0 k) hok hlen i n hi0 hi1
theorem fits_tab (h : Fields w) (hT : Tab w p A c l) (x : Hd) (ok : x.ok) :
    Calls Tryz.prog 44 #[.pointer (some ⟨p, 0, none⟩), x.val] w fun e w' => e = .returned (.int .i64 (fitL l x)) ∧ Kept [] w w' :=
  fits_ok h _ x ok _ _ fun y k => of_tab (hT.keep0 k) x.ty x.ln ok.t0 ok.t1
theorem dfits_row (hS : Tb.Seen w A l) (hok : ∀ x ∈ l, x.ok ∧ x.fit) (hlen : l.length ≤ 100000) (x : Hd) (ok : x.ok) :
    Calls Tryz.prog 68 #[.slice A l.length c, x.val] w fun e w' => e = .returned (.int .i64 (fitL l x)) ∧ Kept [] w w' :=
  dfits_ok _ x ok _ _ fun y k => dof_row (hS.keep0 k) hok hlen x.ty x.ln ok.t0 ok.t1
end
end Go.Proofs.YtdfnphgjjodfoaaGreatDoor.Hd
