/-
  The contracts of Of and Fits, the program's and the document's.
-/
import Derived.Test.YtpnjblledbihcaaDoorGHd
import Derived.Test.YtpnjblledbihcaaDoorGTb
namespace Go.Proofs.YtpnjblledbihcaaDoor.Hd
open Go.RowKit Go.Proofs.YtpnjblledbihcaaDoor.Ar
set_option linter.unusedVariables false

/-- The header of an object: what the size and its error say. -/
def ofH (i n z er : Int) : Hd := if er = 0 then ⟨1, i, n, z⟩ else Hd.zero
/-- Does it match, if that is what Of answers? -/
def fitE (o : Hd) (oe : Int) (h : Hd) : Int := if ¬ h.can then 2 else if h.tg ≠ 1 then 0 else if oe ≠ 0 ∨ o ≠ h then 8 else 0
section
variable {w : World}
set_option maxRecDepth 100000 in
set_option maxHeartbeats 1000000 in
theorem of_ok (T : Value) (i n z er : Int) (HS : ∀ y, Kept [] w y → Calls Tryd.prog 72 #[T, .int .i64 i, .int .i64 n] y fun e w' => e = .returned (.tuple #[.int .i64 z, .int .i64 er]) ∧ Kept [] y w') :
    Calls Tryd.prog 55 #[T, .int .i64 i, .int .i64 n] w fun e w' => e = .returned (.tuple #[(ofH i n z er).val, .int .i64 er]) ∧ Kept [] w w' := by
  have hb := Hd.new w Hd.zero
  have k0 : Kept [] w (w.alloc (.cells #[.int .u8 Hd.zero.tg, .int .i64 Hd.zero.ty, .int .i64 Hd.zero.ln, .int .i64 Hd.zero.sz] 37)) := (Kept.refl [] w).alloc _
  unfold Hd.zero at hb k0
  simp only at hb k0
  have HB := Lib.hid hb
  have K0 := Lib.hid k0
  have HSS := Lib.hid HS
  clear hb k0 HS
  by_cases c : er = 0
  · subst c
    unfold ofH
    simp only [if_true]
    unfold Hd.val
    go_enter Tryd.func55, Tryd.ntmps55
    go_wp2_with fail
    refine (HSS.out _ K0.out).mono ?_
    rintro e x2 ⟨rfl, k2⟩
    have K2 := Lib.hid (K0.out.trans k2)
    have r2 := HB.out.keep0 k2
    clear k2 HSS K0 HB
    obtain ⟨f0, f1, f2, f3⟩ := free4 r2
    obtain ⟨d0, d1, d2, d3⟩ := cells4 r2
    have R2 := Lib.hid r2
    clear r2
    go_wp2_with fail
    exact ret_hd rfl rfl R2.out K2.out (Nat.le_refl _) rfl rfl fun X hX => ⟨rfl, hX⟩
  · unfold ofH
    rw [if_neg c]
    unfold Hd.val Hd.zero
    go_enter Tryd.func55, Tryd.ntmps55
    go_wp2_with fail
    refine (HSS.out _ K0.out).mono ?_
    rintro e x2 ⟨rfl, k2⟩
    have K2 := Lib.hid (K0.out.trans k2)
    have r2 := HB.out.keep0 k2
    clear k2 HSS K0 HB
    obtain ⟨f0, f1, f2, f3⟩ := free4 r2
    obtain ⟨d0, d1, d2, d3⟩ := cells4 r2
    have R2 := Lib.hid r2
    clear r2
    go_wp2_with fail
    exact ret_hd rfl rfl R2.out K2.out (Nat.le_refl _) rfl rfl fun X hX => ⟨rfl, hX⟩
set_option maxRecDepth 100000 in
set_option maxHeartbeats 1000000 in
theorem dof_ok (T : Value) (i n z er : Int) (HS : ∀ y, Kept [] w y → Calls Tryd.prog 75 #[T, .int .i64 i, .int .i64 n] y fun e w' => e = .returned (.tuple #[.int .i64 z, .int .i64 er]) ∧ Kept [] y w') :
    Calls Tryd.prog 58 #[T, .int .i64 i, .int .i64 n] w fun e w' => e = .returned (.tuple #[(ofH i n z er).val, .int .i64 er]) ∧ Kept [] w w' := by
  have hb := Hd.new w Hd.zero
  have k0 : Kept [] w (w.alloc (.cells #[.int .u8 Hd.zero.tg, .int .i64 Hd.zero.ty, .int .i64 Hd.zero.ln, .int .i64 Hd.zero.sz] 37)) := (Kept.refl [] w).alloc _
  unfold Hd.zero at hb k0
  simp only at hb k0
  have HB := Lib.hid hb
  have K0 := Lib.hid k0
  have HSS := Lib.hid HS
  clear hb k0 HS
  by_cases c : er = 0
  · subst c
    unfold ofH
    simp only [if_true]
    unfold Hd.val
    go_enter Tryd.func58, Tryd.ntmps58
    go_wp2_with fail
    refine (HSS.out _ K0.out).mono ?_
    rintro e x2 ⟨rfl, k2⟩
    have K2 := Lib.hid (K0.out.trans k2)
    have r2 := HB.out.keep0 k2
    clear k2 HSS K0 HB
    obtain ⟨f0, f1, f2, f3⟩ := free4 r2
    obtain ⟨d0, d1, d2, d3⟩ := cells4 r2
    have R2 := Lib.hid r2
    clear r2
    go_wp2_with fail
    exact ret_hd rfl rfl R2.out K2.out (Nat.le_refl _) rfl rfl fun X hX => ⟨rfl, hX⟩
  · unfold ofH
    rw [if_neg c]
    unfold Hd.val Hd.zero
    go_enter Tryd.func58, Tryd.ntmps58
    go_wp2_with fail
    refine (HSS.out _ K0.out).mono ?_
    rintro e x2 ⟨rfl, k2⟩
    have K2 := Lib.hid (K0.out.trans k2)
    have r2 := HB.out.keep0 k2
    clear k2 HSS K0 HB
    obtain ⟨f0, f1, f2, f3⟩ := free4 r2
    obtain ⟨d0, d1, d2, d3⟩ := cells4 r2
    have R2 := Lib.hid r2
    clear r2
    go_wp2_with fail
    exact ret_hd rfl rfl R2.out K2.out (Nat.le_refl _) rfl rfl fun X hX => ⟨rfl, hX⟩
set_option maxRecDepth 100000 in
set_option maxHeartbeats 1000000 in
theorem fits_ok (h : Fields w) (T : Value) (x : Hd) (ok : x.ok) (o : Hd) (oe : Int) (HO : ∀ y, Kept [] w y → Calls Tryd.prog 55 #[T, .int .i64 x.ty, .int .i64 x.ln] y fun e w' => e = .returned (.tuple #[o.val, .int .i64 oe]) ∧ Kept [] y w') :
    Calls Tryd.prog 43 #[T, x.val] w fun e w' => e = .returned (.int .i64 (fitE o oe x)) ∧ Kept [] w w' := by
  have hb := Hd.new w x
  have k0 : Kept [] w (w.alloc (.cells #[.int .u8 x.tg, .int .i64 x.ty, .int .i64 x.ln, .int .i64 x.sz] 37)) := (Kept.refl [] w).alloc _
  have HC := Lib.hid (fun y (k : Kept [] w y) => check_ok (h.keep0 k) x ok)
  have HOO := Lib.hid HO
  have HN : Hid (∀ y : World, Has (y.alloc (.cells #[.int .u8 o.tg, .int .i64 o.ty, .int .i64 o.ln, .int .i64 o.sz] 37)) y.heap.size 37 [.int .u8 o.tg, .int .i64 o.ty, .int .i64 o.ln, .int .i64 o.sz]) := Lib.hid fun y => Hd.new y _
  have hne := run_other
  have hng := no_guard
  have hq : eqB o.tg o.ty o.ln o.sz x.tg x.ty x.ln x.sz = decide (o = x) := eqB_dec o x
  have hg0 := ok.g0
  have hg1 := ok.g1
  clear HO h ok
  by_cases c : x.can
  · have hf : fitE o oe x = if x.tg ≠ 1 then 0 else if oe ≠ 0 ∨ o ≠ x then 8 else 0 := by unfold fitE; rw [if_neg (fun h => h c)]
    rw [hf]
    rw [errH_yes c] at HC
    clear hf c
    by_cases h1 : x.tg = 1
    · rw [if_neg (fun h => h h1)]
      by_cases h2 : oe = 0
      · subst h2
        by_cases h3 : o = x
        · rw [if_neg (by simp [h3])]
          rw [decide_eq_true h3] at hq
          clear h3
          unfold Hd.val at *
          generalize x.tg = g at *
          generalize x.ty = t at *
          generalize x.ln = n at *
          subst h1
          generalize x.sz = s at *
          have HB := Lib.hid hb
          have K0 := Lib.hid k0
          clear hb k0
          go_enter Tryd.func43, Tryd.ntmps43
          go_wp2_with fail
          refine (HC.out _ K0.out).mono ?_
          rintro e x1 ⟨rfl, k1⟩
          have b1 := HB.out.keep0 k1
          obtain ⟨c0, c1, c2, c3⟩ := cells4 b1
          have K1 := Lib.hid (K0.out.trans k1)
          have HB1 := Lib.hid b1
          clear k1 b1 HC K0 HB
          go_wp2_with fail
          refine (HOO.out _ K1.out).mono ?_
          rintro e x2 ⟨rfl, k2⟩
          have K2 := Lib.hid (K1.out.trans k2)
          have b2 := HB1.out.keep0 k2
          have n2 := HN.out x2
          clear k2 HOO K1 HB1 HN c0 c1 c2 c3
          obtain ⟨c0, c1, c2, c3⟩ := cells4 (b2.alloc (.cells #[.int .u8 o.tg, .int .i64 o.ty, .int .i64 o.ln, .int .i64 o.sz] 37))
          obtain ⟨d0, d1, d2, d3⟩ := cells4 n2
          clear b2 n2
          go_wp2_with fail
          go_ret
          exact ⟨rfl, K2.out.alloc _⟩
        · rw [if_pos (.inr h3)]
          rw [decide_eq_false h3] at hq
          clear h3
          unfold Hd.val at *
          generalize x.tg = g at *
          generalize x.ty = t at *
          generalize x.ln = n at *
          subst h1
          generalize x.sz = s at *
          have HB := Lib.hid hb
          have K0 := Lib.hid k0
          clear hb k0
          go_enter Tryd.func43, Tryd.ntmps43
          go_wp2_with fail
          refine (HC.out _ K0.out).mono ?_
          rintro e x1 ⟨rfl, k1⟩
          have b1 := HB.out.keep0 k1
          obtain ⟨c0, c1, c2, c3⟩ := cells4 b1
          have K1 := Lib.hid (K0.out.trans k1)
          have HB1 := Lib.hid b1
          clear k1 b1 HC K0 HB
          go_wp2_with fail
          refine (HOO.out _ K1.out).mono ?_
          rintro e x2 ⟨rfl, k2⟩
          have K2 := Lib.hid (K1.out.trans k2)
          have b2 := HB1.out.keep0 k2
          have n2 := HN.out x2
          clear k2 HOO K1 HB1 HN c0 c1 c2 c3
          obtain ⟨c0, c1, c2, c3⟩ := cells4 (b2.alloc (.cells #[.int .u8 o.tg, .int .i64 o.ty, .int .i64 o.ln, .int .i64 o.sz] 37))
          obtain ⟨d0, d1, d2, d3⟩ := cells4 n2
          clear b2 n2
          go_wp2_with fail
          go_ret
          exact ⟨rfl, K2.out.alloc _⟩
      · rw [if_pos (.inl h2)]
        clear hq
        unfold Hd.val at *
        generalize x.tg = g at *
        generalize x.ty = t at *
        generalize x.ln = n at *
        subst h1
        generalize x.sz = s at *
        have HB := Lib.hid hb
        have K0 := Lib.hid k0
        clear hb k0
        go_enter Tryd.func43, Tryd.ntmps43
        go_wp2_with fail
        refine (HC.out _ K0.out).mono ?_
        rintro e x1 ⟨rfl, k1⟩
        have b1 := HB.out.keep0 k1
        obtain ⟨c0, c1, c2, c3⟩ := cells4 b1
        have K1 := Lib.hid (K0.out.trans k1)
        have HB1 := Lib.hid b1
        clear k1 b1 HC K0 HB
        go_wp2_with fail
        refine (HOO.out _ K1.out).mono ?_
        rintro e x2 ⟨rfl, k2⟩
        have K2 := Lib.hid (K1.out.trans k2)
        have b2 := HB1.out.keep0 k2
        have n2 := HN.out x2
        clear k2 HOO K1 HB1 HN c0 c1 c2 c3
        obtain ⟨c0, c1, c2, c3⟩ := cells4 (b2.alloc (.cells #[.int .u8 o.tg, .int .i64 o.ty, .int .i64 o.ln, .int .i64 o.sz] 37))
        obtain ⟨d0, d1, d2, d3⟩ := cells4 n2
        clear b2 n2
        go_wp2_with fail
        go_ret
        exact ⟨rfl, K2.out.alloc _⟩
    · rw [if_pos h1]
      clear hq HOO HN
      unfold Hd.val at *
      generalize x.tg = g at *
      generalize x.ty = t at *
      generalize x.ln = n at *
      generalize x.sz = s at *
      have HB := Lib.hid hb
      have K0 := Lib.hid k0
      clear hb k0
      go_enter Tryd.func43, Tryd.ntmps43
      go_wp2_with fail
      refine (HC.out _ K0.out).mono ?_
      rintro e x1 ⟨rfl, k1⟩
      have b1 := HB.out.keep0 k1
      obtain ⟨c0, c1, c2, c3⟩ := cells4 b1
      have K1 := Lib.hid (K0.out.trans k1)
      have HB1 := Lib.hid b1
      clear k1 b1 HC K0 HB
      go_wp2_with fail
      go_ret
      exact ⟨rfl, K1.out⟩
  · have hf : fitE o oe x = 2 := by unfold fitE; rw [if_pos c]
    rw [hf]
    rw [errH_no c] at HC
    clear hf c hq HOO HN
    unfold Hd.val at *
    generalize x.tg = g at *
    generalize x.ty = t at *
    generalize x.ln = n at *
    generalize x.sz = s at *
    have HB := Lib.hid hb
    have K0 := Lib.hid k0
    clear hb k0
    go_enter Tryd.func43, Tryd.ntmps43
    go_wp2_with fail
    refine (HC.out _ K0.out).mono ?_
    rintro e x1 ⟨rfl, k1⟩
    have b1 := HB.out.keep0 k1
    obtain ⟨c0, c1, c2, c3⟩ := cells4 b1
    have K1 := Lib.hid (K0.out.trans k1)
    have HB1 := Lib.hid b1
    clear k1 b1 HC K0 HB
    go_wp2_with fail
    go_ret
    exact ⟨rfl, K1.out⟩
set_option maxRecDepth 100000 in
set_option maxHeartbeats 1000000 in
theorem dfits_ok (T : Value) (x : Hd) (ok : x.ok) (o : Hd) (oe : Int) (HO : ∀ y, Kept [] w y → Calls Tryd.prog 58 #[T, .int .i64 x.ty, .int .i64 x.ln] y fun e w' => e = .returned (.tuple #[o.val, .int .i64 oe]) ∧ Kept [] y w') :
    Calls Tryd.prog 50 #[T, x.val] w fun e w' => e = .returned (.int .i64 (fitE o oe x)) ∧ Kept [] w w' := by
  have hb := Hd.new w x
  have k0 : Kept [] w (w.alloc (.cells #[.int .u8 x.tg, .int .i64 x.ty, .int .i64 x.ln, .int .i64 x.sz] 37)) := (Kept.refl [] w).alloc _
  have HC := Lib.hid (fun y (k : Kept [] w y) => may_ok (w := y) x ok)
  have HOO := Lib.hid HO
  have HN : Hid (∀ y : World, Has (y.alloc (.cells #[.int .u8 o.tg, .int .i64 o.ty, .int .i64 o.ln, .int .i64 o.sz] 37)) y.heap.size 37 [.int .u8 o.tg, .int .i64 o.ty, .int .i64 o.ln, .int .i64 o.sz]) := Lib.hid fun y => Hd.new y _
  have hne := run_other
  have hng := no_guard
  have hq : eqB o.tg o.ty o.ln o.sz x.tg x.ty x.ln x.sz = decide (o = x) := eqB_dec o x
  have hg0 := ok.g0
  have hg1 := ok.g1
  clear HO ok
  by_cases c : x.can
  · have hf : fitE o oe x = if x.tg ≠ 1 then 0 else if oe ≠ 0 ∨ o ≠ x then 8 else 0 := by unfold fitE; rw [if_neg (fun h => h c)]
    rw [hf]
    rw [decide_eq_true c] at HC
    clear hf c
    by_cases h1 : x.tg = 1
    · rw [if_neg (fun h => h h1)]
      by_cases h2 : oe = 0
      · subst h2
        by_cases h3 : o = x
        · rw [if_neg (by simp [h3])]
          rw [decide_eq_true h3] at hq
          clear h3
          unfold Hd.val at *
          generalize x.tg = g at *
          generalize x.ty = t at *
          generalize x.ln = n at *
          subst h1
          generalize x.sz = s at *
          have HB := Lib.hid hb
          have K0 := Lib.hid k0
          clear hb k0
          go_enter Tryd.func50, Tryd.ntmps50
          go_wp2_with fail
          refine (HC.out _ K0.out).mono ?_
          rintro e x1 ⟨rfl, k1⟩
          have b1 := HB.out.keep0 k1
          obtain ⟨c0, c1, c2, c3⟩ := cells4 b1
          have K1 := Lib.hid (K0.out.trans k1)
          have HB1 := Lib.hid b1
          clear k1 b1 HC K0 HB
          go_wp2_with fail
          refine (HOO.out _ K1.out).mono ?_
          rintro e x2 ⟨rfl, k2⟩
          have K2 := Lib.hid (K1.out.trans k2)
          have b2 := HB1.out.keep0 k2
          have n2 := HN.out x2
          clear k2 HOO K1 HB1 HN c0 c1 c2 c3
          obtain ⟨c0, c1, c2, c3⟩ := cells4 (b2.alloc (.cells #[.int .u8 o.tg, .int .i64 o.ty, .int .i64 o.ln, .int .i64 o.sz] 37))
          obtain ⟨d0, d1, d2, d3⟩ := cells4 n2
          clear b2 n2
          go_wp2_with fail
          go_ret
          exact ⟨rfl, K2.out.alloc _⟩
        · rw [if_pos (.inr h3)]
          rw [decide_eq_false h3] at hq
          clear h3
          unfold Hd.val at *
          generalize x.tg = g at *
          generalize x.ty = t at *
          generalize x.ln = n at *
          subst h1
          generalize x.sz = s at *
          have HB := Lib.hid hb
          have K0 := Lib.hid k0
          clear hb k0
          go_enter Tryd.func50, Tryd.ntmps50
          go_wp2_with fail
          refine (HC.out _ K0.out).mono ?_
          rintro e x1 ⟨rfl, k1⟩
          have b1 := HB.out.keep0 k1
          obtain ⟨c0, c1, c2, c3⟩ := cells4 b1
          have K1 := Lib.hid (K0.out.trans k1)
          have HB1 := Lib.hid b1
          clear k1 b1 HC K0 HB
          go_wp2_with fail
          refine (HOO.out _ K1.out).mono ?_
          rintro e x2 ⟨rfl, k2⟩
          have K2 := Lib.hid (K1.out.trans k2)
          have b2 := HB1.out.keep0 k2
          have n2 := HN.out x2
          clear k2 HOO K1 HB1 HN c0 c1 c2 c3
          obtain ⟨c0, c1, c2, c3⟩ := cells4 (b2.alloc (.cells #[.int .u8 o.tg, .int .i64 o.ty, .int .i64 o.ln, .int .i64 o.sz] 37))
          obtain ⟨d0, d1, d2, d3⟩ := cells4 n2
          clear b2 n2
          go_wp2_with fail
          go_ret
          exact ⟨rfl, K2.out.alloc _⟩
      · rw [if_pos (.inl h2)]
        clear hq
        unfold Hd.val at *
        generalize x.tg = g at *
        generalize x.ty = t at *
        generalize x.ln = n at *
        subst h1
        generalize x.sz = s at *
        have HB := Lib.hid hb
        have K0 := Lib.hid k0
        clear hb k0
        go_enter Tryd.func50, Tryd.ntmps50
        go_wp2_with fail
        refine (HC.out _ K0.out).mono ?_
        rintro e x1 ⟨rfl, k1⟩
        have b1 := HB.out.keep0 k1
        obtain ⟨c0, c1, c2, c3⟩ := cells4 b1
        have K1 := Lib.hid (K0.out.trans k1)
        have HB1 := Lib.hid b1
        clear k1 b1 HC K0 HB
        go_wp2_with fail
        refine (HOO.out _ K1.out).mono ?_
        rintro e x2 ⟨rfl, k2⟩
        have K2 := Lib.hid (K1.out.trans k2)
        have b2 := HB1.out.keep0 k2
        have n2 := HN.out x2
        clear k2 HOO K1 HB1 HN c0 c1 c2 c3
        obtain ⟨c0, c1, c2, c3⟩ := cells4 (b2.alloc (.cells #[.int .u8 o.tg, .int .i64 o.ty, .int .i64 o.ln, .int .i64 o.sz] 37))
        obtain ⟨d0, d1, d2, d3⟩ := cells4 n2
        clear b2 n2
        go_wp2_with fail
        go_ret
        exact ⟨rfl, K2.out.alloc _⟩
    · rw [if_pos h1]
      clear hq HOO HN
      unfold Hd.val at *
      generalize x.tg = g at *
      generalize x.ty = t at *
      generalize x.ln = n at *
      generalize x.sz = s at *
      have HB := Lib.hid hb
      have K0 := Lib.hid k0
      clear hb k0
      go_enter Tryd.func50, Tryd.ntmps50
      go_wp2_with fail
      refine (HC.out _ K0.out).mono ?_
      rintro e x1 ⟨rfl, k1⟩
      have b1 := HB.out.keep0 k1
      obtain ⟨c0, c1, c2, c3⟩ := cells4 b1
      have K1 := Lib.hid (K0.out.trans k1)
      have HB1 := Lib.hid b1
      clear k1 b1 HC K0 HB
      go_wp2_with fail
      go_ret
      exact ⟨rfl, K1.out⟩
  · have hf : fitE o oe x = 2 := by unfold fitE; rw [if_pos c]
    rw [hf]
    rw [decide_eq_false c] at HC
    clear hf c hq HOO HN
    unfold Hd.val at *
    generalize x.tg = g at *
    generalize x.ty = t at *
    generalize x.ln = n at *
    generalize x.sz = s at *
    have HB := Lib.hid hb
    have K0 := Lib.hid k0
    clear hb k0
    go_enter Tryd.func50, Tryd.ntmps50
    go_wp2_with fail
    refine (HC.out _ K0.out).mono ?_
    rintro e x1 ⟨rfl, k1⟩
    have b1 := HB.out.keep0 k1
    obtain ⟨c0, c1, c2, c3⟩ := cells4 b1
    have K1 := Lib.hid (K0.out.trans k1)
    have HB1 := Lib.hid b1
    clear k1 b1 HC K0 HB
    go_wp2_with fail
    go_ret
    exact ⟨rfl, K1.out⟩
end
end Go.Proofs.YtpnjblledbihcaaDoor.Hd
