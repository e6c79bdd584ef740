/-
  Several texts in one: HdEq, HdOf, HdAlive, HdOfLaw.
-/
import Derived.Test.YtoagghileebokaaGreatDoorG04
import Derived.Laws.StructEq
import Derived.Test.YtoagghileebokaaGreatDoorG05
import Derived.Test.YtoagghileebokaaGreatDoorG07
import Derived.Test.YtoagghileebokaaGreatDoorG09
/-
  Two headers held against each other: == and !=.
-/
namespace Go.Proofs.YtoagghileebokaaGreatDoor.Hd
open Go.RowKit Go.Proofs.YtoagghileebokaaGreatDoor.Ar
set_option linter.unusedVariables false

def eqB (a0 a1 a2 a3 b0 b1 b2 b3 : Int) : Bool := (a0 == b0) && (a1 == b1) && (a2 == b2) && (a3 == b3)
theorem eqB_iff (a b : Hd) : eqB a.tg a.ty a.ln a.sz b.tg b.ty b.ln b.sz = true ↔ a = b := by
  unfold eqB
  simp only [Bool.and_eq_true, beq_iff_eq]
  constructor
  · rintro ⟨⟨⟨h1, h2⟩, h3⟩, h4⟩
    exact Hd.eq h1 h2 h3 h4
  · rintro rfl
    exact ⟨⟨⟨rfl, rfl⟩, rfl⟩, rfl⟩
theorem eqB_dec (a b : Hd) : eqB a.tg a.ty a.ln a.sz b.tg b.ty b.ln b.sz = decide (a = b) := by
  rw [Bool.eq_iff_iff, decide_eq_true_iff]
  exact eqB_iff a b
theorem part_int {P : Program} {t : TypeId} {k : IntKind} (h : P.underlying t = some (.int k)) (xs : Array Value) (off : Nat) {v : Value} (hx : xs[off]? = some v) (y : World) : (part t xs off).run P y = .ok v y := by
  simp [part, isAgg, run_underlying h, hx]
theorem eqF_int {P : Program} {f : Field} {k : IntKind} (h : P.underlying f.type = some (.int k)) (hn : f.name ≠ "_") {xs ys : Array Value} {a b : Int} (hx : xs[f.offset]? = some (.int k a)) (hy : ys[f.offset]? = some (.int k b)) (d : Nat) (fs : List Field) (y : World) :
    (Op.eqFields (d + 1) xs ys (f :: fs)).run P y = if (a == b) = true then (Op.eqFields (d + 1) xs ys fs).run P y else .ok false y := by
  rw [Op.eqFields, if_pos hn]
  simp only [Sem.run_bind, part_int h xs f.offset hx, part_int h ys f.offset hy, Result.andThen_ok, run_equalIn_int y d f.type k k a b h, Sem.run_ite]
  cases hab : a == b <;> simp
theorem eqIn_run (y : World) (a0 a1 a2 a3 b0 b1 b2 b3 : Int) : (Op.equalIn 10000 49 (.agg #[.int .u8 a0, .int .i64 a1, .int .i64 a2, .int .i64 a3]) (.agg #[.int .u8 b0, .int .i64 b1, .int .i64 b2, .int .i64 b3])).run Tryz.prog y = .ok (eqB a0 a1 a2 a3 b0 b1 b2 b3) y := by
  have e5 := Tryz.underlying5
  have e3 := Tryz.underlying3
  have hf : (Tryz.prog.fieldsOf 49).toList = [(Field.mk "Tag" 5 0 false "" "" 0), (Field.mk "Type" 3 1 false "" "" 8), (Field.mk "Len" 3 2 false "" "" 16), (Field.mk "Size" 3 3 false "" "" 24)] := by kernel_rfl
  rw [run_equalIn_struct (d := 9999) (ht := by kernel_rfl) (hp := by kernel_rfl), hf]
  rw [eqF_int (d := 9998) (f := (Field.mk "Tag" 5 0 false "" "" 0)) e5 (by decide) (a := a0) (b := b0) rfl rfl, eqF_int (d := 9998) (f := (Field.mk "Type" 3 1 false "" "" 8)) e3 (by decide) (a := a1) (b := b1) rfl rfl,
    eqF_int (d := 9998) (f := (Field.mk "Len" 3 2 false "" "" 16)) e3 (by decide) (a := a2) (b := b2) rfl rfl, eqF_int (d := 9998) (f := (Field.mk "Size" 3 3 false "" "" 24)) e3 (by decide) (a := a3) (b := b3) rfl rfl]
  rw [Op.eqFields]
  unfold eqB
  cases a0 == b0 <;> cases a1 == b1 <;> cases a2 == b2 <;> cases a3 == b3 <;> rfl
theorem run_same (y : World) (a0 a1 a2 a3 b0 b1 b2 b3 : Int) : (binOp .eql 49 (.agg #[.int .u8 a0, .int .i64 a1, .int .i64 a2, .int .i64 a3]) (.agg #[.int .u8 b0, .int .i64 b1, .int .i64 b2, .int .i64 b3])).run Tryz.prog y = .ok (.bool (eqB a0 a1 a2 a3 b0 b1 b2 b3)) y := by
  rw [run_eql_struct, eqIn_run]
  rfl
theorem run_other (y : World) (a0 a1 a2 a3 b0 b1 b2 b3 : Int) : (binOp .neq 49 (.agg #[.int .u8 a0, .int .i64 a1, .int .i64 a2, .int .i64 a3]) (.agg #[.int .u8 b0, .int .i64 b1, .int .i64 b2, .int .i64 b3])).run Tryz.prog y = .ok (.bool (!eqB a0 a1 a2 a3 b0 b1 b2 b3)) y := by
  rw [run_neq_struct, eqIn_run]
  rfl
theorem no_guard : Tryz.prog.eqGuardType Tryz.prog.depth 49 = false := by kernel_rfl
end Go.Proofs.YtoagghileebokaaGreatDoor.Hd

/-
  The contracts of Of and Fits, the program's and the document's.
-/
namespace Go.Proofs.YtoagghileebokaaGreatDoor.Hd
open Go.RowKit Go.Proofs.YtoagghileebokaaGreatDoor.Ar
set_option linter.unusedVariables false

/-- The header of an object: what the size and its error say. -/
def ofH (i n z er : Int) : Hd := if er = 0 then ⟨1, i, n, z⟩ else Hd.zero
/-- Does it match, if that is what Of answers? -/
def fitE (o : Hd) (oe : Int) (h : Hd) : Int := if ¬ h.can then 2 else if h.tg ≠ 1 then 0 else if oe ≠ 0 ∨ o ≠ h then 8 else 0
section
variable {w : World}
set_option maxRecDepth 100000 in
set_option maxHeartbeats 1000000 in
theorem of_ok (T : Value) (i n z er : Int) (HS : ∀ y, Kept [] w y → Calls Tryz.prog 10 #[T, .int .i64 i, .int .i64 n] y fun e w' => e = .returned (.tuple #[.int .i64 z, .int .i64 er]) ∧ Kept [] y w') :
    Calls Tryz.prog 50 #[T, .int .i64 i, .int .i64 n] w fun e w' => e = .returned (.tuple #[(ofH i n z er).val, .int .i64 er]) ∧ Kept [] w w' := by
  have hb := Hd.new w Hd.zero
  have k0 : Kept [] w (w.alloc (.cells #[.int .u8 Hd.zero.tg, .int .i64 Hd.zero.ty, .int .i64 Hd.zero.ln, .int .i64 Hd.zero.sz] 49)) := (Kept.refl [] w).alloc _
  unfold Hd.zero at hb k0
  simp only at hb k0
  have HB := Lib.hid hb
  have K0 := Lib.hid k0
  have HSS := Lib.hid HS
  clear hb k0 HS
  by_cases c : er = 0
  · subst c
    unfold ofH
    simp only [if_true]
    unfold Hd.val
    go_enter Tryz.func50, Tryz.ntmps50
    go_wp2_with fail
    refine (HSS.out _ K0.out).mono ?_
    rintro e x2 ⟨rfl, k2⟩
    have K2 := Lib.hid (K0.out.trans k2)
    have r2 := HB.out.keep0 k2
    clear k2 HSS K0 HB
    obtain ⟨f0, f1, f2, f3⟩ := free4 r2
    obtain ⟨d0, d1, d2, d3⟩ := cells4 r2
    have R2 := Lib.hid r2
    clear r2
    go_wp2_with fail
    exact ret_hd rfl rfl R2.out K2.out (Nat.le_refl _) rfl rfl fun X hX => ⟨rfl, hX⟩
  · unfold ofH
    rw [if_neg c]
    unfold Hd.val Hd.zero
    go_enter Tryz.func50, Tryz.ntmps50
    go_wp2_with fail
    refine (HSS.out _ K0.out).mono ?_
    rintro e x2 ⟨rfl, k2⟩
    have K2 := Lib.hid (K0.out.trans k2)
    have r2 := HB.out.keep0 k2
    clear k2 HSS K0 HB
    obtain ⟨f0, f1, f2, f3⟩ := free4 r2
    obtain ⟨d0, d1, d2, d3⟩ := cells4 r2
    have R2 := Lib.hid r2
    clear r2
    go_wp2_with fail
    exact ret_hd rfl rfl R2.out K2.out (Nat.le_refl _) rfl rfl fun X hX => ⟨rfl, hX⟩
set_option maxRecDepth 100000 in
set_option maxHeartbeats 1000000 in
theorem dof_ok (T : Value) (i n z er : Int) (HS : ∀ y, Kept [] w y → Calls Tryz.prog 137 #[T, .int .i64 i, .int .i64 n] y fun e w' => e = .returned (.tuple #[.int .i64 z, .int .i64 er]) ∧ Kept [] y w') :
    Calls Tryz.prog 106 #[T, .int .i64 i, .int .i64 n] w fun e w' => e = .returned (.tuple #[(ofH i n z er).val, .int .i64 er]) ∧ Kept [] w w' := by
  have hb := Hd.new w Hd.zero
  have k0 : Kept [] w (w.alloc (.cells #[.int .u8 Hd.zero.tg, .int .i64 Hd.zero.ty, .int .i64 Hd.zero.ln, .int .i64 Hd.zero.sz] 49)) := (Kept.refl [] w).alloc _
  unfold Hd.zero at hb k0
  simp only at hb k0
  have HB := Lib.hid hb
  have K0 := Lib.hid k0
  have HSS := Lib.hid HS
  clear hb k0 HS
  by_cases c : er = 0
  · subst c
    unfold ofH
    simp only [if_true]
    unfold Hd.val
    go_enter Tryz.func106, Tryz.ntmps106
    go_wp2_with fail
    refine (HSS.out _ K0.out).mono ?_
    rintro e x2 ⟨rfl, k2⟩
    have K2 := Lib.hid (K0.out.trans k2)
    have r2 := HB.out.keep0 k2
    clear k2 HSS K0 HB
    obtain ⟨f0, f1, f2, f3⟩ := free4 r2
    obtain ⟨d0, d1, d2, d3⟩ := cells4 r2
    have R2 := Lib.hid r2
    clear r2
    go_wp2_with fail
    exact ret_hd rfl rfl R2.out K2.out (Nat.le_refl _) rfl rfl fun X hX => ⟨rfl, hX⟩
  · unfold ofH
    rw [if_neg c]
    unfold Hd.val Hd.zero
    go_enter Tryz.func106, Tryz.ntmps106
    go_wp2_with fail
    refine (HSS.out _ K0.out).mono ?_
    rintro e x2 ⟨rfl, k2⟩
    have K2 := Lib.hid (K0.out.trans k2)
    have r2 := HB.out.keep0 k2
    clear k2 HSS K0 HB
    obtain ⟨f0, f1, f2, f3⟩ := free4 r2
    obtain ⟨d0, d1, d2, d3⟩ := cells4 r2
    have R2 := Lib.hid r2
    clear r2
    go_wp2_with fail
    exact ret_hd rfl rfl R2.out K2.out (Nat.le_refl _) rfl rfl fun X hX => ⟨rfl, hX⟩
set_option maxRecDepth 100000 in
set_option maxHeartbeats 1000000 in
theorem fits_ok (h : Fields w) (T : Value) (x : Hd) (ok : x.ok) (o : Hd) (oe : Int) (HO : ∀ y, Kept [] w y → Calls Tryz.prog 50 #[T, .int .i64 x.ty, .int .i64 x.ln] y fun e w' => e = .returned (.tuple #[o.val, .int .i64 oe]) ∧ Kept [] y w') :
    Calls Tryz.prog 92 #[T, x.val] w fun e w' => e = .returned (.int .i64 (fitE o oe x)) ∧ Kept [] w w' := by
  have hb := Hd.new w x
  have k0 : Kept [] w (w.alloc (.cells #[.int .u8 x.tg, .int .i64 x.ty, .int .i64 x.ln, .int .i64 x.sz] 49)) := (Kept.refl [] w).alloc _
  have HC := Lib.hid (fun y (k : Kept [] w y) => check_ok (h.keep0 k) x ok)
  have HOO := Lib.hid HO
  have HN : Hid (∀ y : World, Has (y.alloc (.cells #[.int .u8 o.tg, .int .i64 o.ty, .int .i64 o.ln, .int .i64 o.sz] 49)) y.heap.size 49 [.int .u8 o.tg, .int .i64 o.ty, .int .i64 o.ln, .int .i64 o.sz]) := Lib.hid fun y => Hd.new y _
  have hne := run_other
  have hng := no_guard
  have hq : eqB o.tg o.ty o.ln o.sz x.tg x.ty x.ln x.sz = decide (o = x) := eqB_dec o x
  have hg0 := ok.g0
  have hg1 := ok.g1
  clear HO h ok
  by_cases c : x.can
  · have hf : fitE o oe x = if x.tg ≠ 1 then 0 else if oe ≠ 0 ∨ o ≠ x then 8 else 0 := by unfold fitE; rw [if_neg (fun h => h c)]
    rw [hf]
    rw [errH_yes c] at HC
    clear hf c
    by_cases h1 : x.tg = 1
    · rw [if_neg (fun h => h h1)]
      by_cases h2 : oe = 0
      · subst h2
        by_cases h3 : o = x
        · rw [if_neg (by simp [h3])]
          rw [decide_eq_true h3] at hq
          clear h3
          unfold Hd.val at *
          generalize x.tg = g at *
          generalize x.ty = t at *
          generalize x.ln = n at *
          subst h1
          generalize x.sz = s at *
          have HB := Lib.hid hb
          have K0 := Lib.hid k0
          clear hb k0
          go_enter Tryz.func92, Tryz.ntmps92
          go_wp2_with fail
          refine (HC.out _ K0.out).mono ?_
          rintro e x1 ⟨rfl, k1⟩
          have b1 := HB.out.keep0 k1
          obtain ⟨c0, c1, c2, c3⟩ := cells4 b1
          have K1 := Lib.hid (K0.out.trans k1)
          have HB1 := Lib.hid b1
          clear k1 b1 HC K0 HB
          go_wp2_with fail
          refine (HOO.out _ K1.out).mono ?_
          rintro e x2 ⟨rfl, k2⟩
          have K2 := Lib.hid (K1.out.trans k2)
          have b2 := HB1.out.keep0 k2
          have n2 := HN.out x2
          clear k2 HOO K1 HB1 HN c0 c1 c2 c3
          obtain ⟨c0, c1, c2, c3⟩ := cells4 (b2.alloc (.cells #[.int .u8 o.tg, .int .i64 o.ty, .int .i64 o.ln, .int .i64 o.sz] 49))
          obtain ⟨d0, d1, d2, d3⟩ := cells4 n2
          clear b2 n2
          go_wp2_with fail
          go_ret
          exact ⟨rfl, K2.out.alloc _⟩
        · rw [if_pos (.inr h3)]
          rw [decide_eq_false h3] at hq
          clear h3
          unfold Hd.val at *
          generalize x.tg = g at *
          generalize x.ty = t at *
          generalize x.ln = n at *
          subst h1
          generalize x.sz = s at *
          have HB := Lib.hid hb
          have K0 := Lib.hid k0
          clear hb k0
          go_enter Tryz.func92, Tryz.ntmps92
          go_wp2_with fail
          refine (HC.out _ K0.out).mono ?_
          rintro e x1 ⟨rfl, k1⟩
          have b1 := HB.out.keep0 k1
          obtain ⟨c0, c1, c2, c3⟩ := cells4 b1
          have K1 := Lib.hid (K0.out.trans k1)
          have HB1 := Lib.hid b1
          clear k1 b1 HC K0 HB
          go_wp2_with fail
          refine (HOO.out _ K1.out).mono ?_
          rintro e x2 ⟨rfl, k2⟩
          have K2 := Lib.hid (K1.out.trans k2)
          have b2 := HB1.out.keep0 k2
          have n2 := HN.out x2
          clear k2 HOO K1 HB1 HN c0 c1 c2 c3
          obtain ⟨c0, c1, c2, c3⟩ := cells4 (b2.alloc (.cells #[.int .u8 o.tg, .int .i64 o.ty, .int .i64 o.ln, .int .i64 o.sz] 49))
          obtain ⟨d0, d1, d2, d3⟩ := cells4 n2
          clear b2 n2
          go_wp2_with fail
          go_ret
          exact ⟨rfl, K2.out.alloc _⟩
      · rw [if_pos (.inl h2)]
        clear hq
        unfold Hd.val at *
        generalize x.tg = g at *
        generalize x.ty = t at *
        generalize x.ln = n at *
        subst h1
        generalize x.sz = s at *
        have HB := Lib.hid hb
        have K0 := Lib.hid k0
        clear hb k0
        go_enter Tryz.func92, Tryz.ntmps92
        go_wp2_with fail
        refine (HC.out _ K0.out).mono ?_
        rintro e x1 ⟨rfl, k1⟩
        have b1 := HB.out.keep0 k1
        obtain ⟨c0, c1, c2, c3⟩ := cells4 b1
        have K1 := Lib.hid (K0.out.trans k1)
        have HB1 := Lib.hid b1
        clear k1 b1 HC K0 HB
        go_wp2_with fail
        refine (HOO.out _ K1.out).mono ?_
        rintro e x2 ⟨rfl, k2⟩
        have K2 := Lib.hid (K1.out.trans k2)
        have b2 := HB1.out.keep0 k2
        have n2 := HN.out x2
        clear k2 HOO K1 HB1 HN c0 c1 c2 c3
        obtain ⟨c0, c1, c2, c3⟩ := cells4 (b2.alloc (.cells #[.int .u8 o.tg, .int .i64 o.ty, .int .i64 o.ln, .int .i64 o.sz] 49))
        obtain ⟨d0, d1, d2, d3⟩ := cells4 n2
        clear b2 n2
        go_wp2_with fail
        go_ret
        exact ⟨rfl, K2.out.alloc _⟩
    · rw [if_pos h1]
      clear hq HOO HN
      unfold Hd.val at *
      generalize x.tg = g at *
      generalize x.ty = t at *
      generalize x.ln = n at *
      generalize x.sz = s at *
      have HB := Lib.hid hb
      have K0 := Lib.hid k0
      clear hb k0
      go_enter Tryz.func92, Tryz.ntmps92
      go_wp2_with fail
      refine (HC.out _ K0.out).mono ?_
      rintro e x1 ⟨rfl, k1⟩
      have b1 := HB.out.keep0 k1
      obtain ⟨c0, c1, c2, c3⟩ := cells4 b1
      have K1 := Lib.hid (K0.out.trans k1)
      have HB1 := Lib.hid b1
      clear k1 b1 HC K0 HB
      go_wp2_with fail
      go_ret
      exact ⟨rfl, K1.out⟩
  · have hf : fitE o oe x = 2 := by unfold fitE; rw [if_pos c]
    rw [hf]
    rw [errH_no c] at HC
    clear hf c hq HOO HN
    unfold Hd.val at *
    generalize x.tg = g at *
    generalize x.ty = t at *
    generalize x.ln = n at *
    generalize x.sz = s at *
    have HB := Lib.hid hb
    have K0 := Lib.hid k0
    clear hb k0
    go_enter Tryz.func92, Tryz.ntmps92
    go_wp2_with fail
    refine (HC.out _ K0.out).mono ?_
    rintro e x1 ⟨rfl, k1⟩
    have b1 := HB.out.keep0 k1
    obtain ⟨c0, c1, c2, c3⟩ := cells4 b1
    have K1 := Lib.hid (K0.out.trans k1)
    have HB1 := Lib.hid b1
    clear k1 b1 HC K0 HB
    go_wp2_with fail
    go_ret
    exact ⟨rfl, K1.out⟩
set_option maxRecDepth 100000 in
set_option maxHeartbeats 1000000 in
theorem dfits_ok (T : Value) (x : Hd) (ok : x.ok) (o : Hd) (oe : Int) (HO : ∀ y, Kept [] w y → Calls Tryz.prog 106 #[T, .int .i64 x.ty, .int .i64 x.ln] y fun e w' => e = .returned (.tuple #[o.val, .int .i64 oe]) ∧ Kept [] y w') :
    Calls Tryz.prog 141 #[T, x.val] w fun e w' => e = .returned (.int .i64 (fitE o oe x)) ∧ Kept [] w w' := by
  have hb := Hd.new w x
  have k0 : Kept [] w (w.alloc (.cells #[.int .u8 x.tg, .int .i64 x.ty, .int .i64 x.ln, .int .i64 x.sz] 49)) := (Kept.refl [] w).alloc _
  have HC := Lib.hid (fun y (k : Kept [] w y) => may_ok (w := y) x ok)
  have HOO := Lib.hid HO
  have HN : Hid (∀ y : World, Has (y.alloc (.cells #[.int .u8 o.tg, .int .i64 o.ty, .int .i64 o.ln, .int .i64 o.sz] 49)) y.heap.size 49 [.int .u8 o.tg, .int .i64 o.ty, .int .i64 o.ln, .int .i64 o.sz]) := Lib.hid fun y => Hd.new y _
  have hne := run_other
  have hng := no_guard
  have hq : eqB o.tg o.ty o.ln o.sz x.tg x.ty x.ln x.sz = decide (o = x) := eqB_dec o x
  have hg0 := ok.g0
  have hg1 := ok.g1
  clear HO ok
  by_cases c : x.can
  · have hf : fitE o oe x = if x.tg ≠ 1 then 0 else if oe ≠ 0 ∨ o ≠ x then 8 else 0 := by unfold fitE; rw [if_neg (fun h => h c)]
    rw [hf]
    rw [decide_eq_true c] at HC
    clear hf c
    by_cases h1 : x.tg = 1
    · rw [if_neg (fun h => h h1)]
      by_cases h2 : oe = 0
      · subst h2
        by_cases h3 : o = x
        · rw [if_neg (by simp [h3])]
          rw [decide_eq_true h3] at hq
          clear h3
          unfold Hd.val at *
          generalize x.tg = g at *
          generalize x.ty = t at *
          generalize x.ln = n at *
          subst h1
          generalize x.sz = s at *
          have HB := Lib.hid hb
          have K0 := Lib.hid k0
          clear hb k0
          go_enter Tryz.func141, Tryz.ntmps141
          go_wp2_with fail
          refine (HC.out _ K0.out).mono ?_
          rintro e x1 ⟨rfl, k1⟩
          have b1 := HB.out.keep0 k1
          obtain ⟨c0, c1, c2, c3⟩ := cells4 b1
          have K1 := Lib.hid (K0.out.trans k1)
          have HB1 := Lib.hid b1
          clear k1 b1 HC K0 HB
          go_wp2_with fail
          refine (HOO.out _ K1.out).mono ?_
          rintro e x2 ⟨rfl, k2⟩
          have K2 := Lib.hid (K1.out.trans k2)
          have b2 := HB1.out.keep0 k2
          have n2 := HN.out x2
          clear k2 HOO K1 HB1 HN c0 c1 c2 c3
          obtain ⟨c0, c1, c2, c3⟩ := cells4 (b2.alloc (.cells #[.int .u8 o.tg, .int .i64 o.ty, .int .i64 o.ln, .int .i64 o.sz] 49))
          obtain ⟨d0, d1, d2, d3⟩ := cells4 n2
          clear b2 n2
          go_wp2_with fail
          go_ret
          exact ⟨rfl, K2.out.alloc _⟩
        · rw [if_pos (.inr h3)]
          rw [decide_eq_false h3] at hq
          clear h3
          unfold Hd.val at *
          generalize x.tg = g at *
          generalize x.ty = t at *
          generalize x.ln = n at *
          subst h1
          generalize x.sz = s at *
          have HB := Lib.hid hb
          have K0 := Lib.hid k0
          clear hb k0
          go_enter Tryz.func141, Tryz.ntmps141
          go_wp2_with fail
          refine (HC.out _ K0.out).mono ?_
          rintro e x1 ⟨rfl, k1⟩
          have b1 := HB.out.keep0 k1
          obtain ⟨c0, c1, c2, c3⟩ := cells4 b1
          have K1 := Lib.hid (K0.out.trans k1)
          have HB1 := Lib.hid b1
          clear k1 b1 HC K0 HB
          go_wp2_with fail
          refine (HOO.out _ K1.out).mono ?_
          rintro e x2 ⟨rfl, k2⟩
          have K2 := Lib.hid (K1.out.trans k2)
          have b2 := HB1.out.keep0 k2
          have n2 := HN.out x2
          clear k2 HOO K1 HB1 HN c0 c1 c2 c3
          obtain ⟨c0, c1, c2, c3⟩ := cells4 (b2.alloc (.cells #[.int .u8 o.tg, .int .i64 o.ty, .int .i64 o.ln, .int .i64 o.sz] 49))
          obtain ⟨d0, d1, d2, d3⟩ := cells4 n2
          clear b2 n2
          go_wp2_with fail
          go_ret
          exact ⟨rfl, K2.out.alloc _⟩
      · rw [if_pos (.inl h2)]
        clear hq
        unfold Hd.val at *
        generalize x.tg = g at *
        generalize x.ty = t at *
        generalize x.ln = n at *
        subst h1
        generalize x.sz = s at *
        have HB := Lib.hid hb
        have K0 := Lib.hid k0
        clear hb k0
        go_enter Tryz.func141, Tryz.ntmps141
        go_wp2_with fail
        refine (HC.out _ K0.out).mono ?_
        rintro e x1 ⟨rfl, k1⟩
        have b1 := HB.out.keep0 k1
        obtain ⟨c0, c1, c2, c3⟩ := cells4 b1
        have K1 := Lib.hid (K0.out.trans k1)
        have HB1 := Lib.hid b1
        clear k1 b1 HC K0 HB
        go_wp2_with fail
        refine (HOO.out _ K1.out).mono ?_
        rintro e x2 ⟨rfl, k2⟩
        have K2 := Lib.hid (K1.out.trans k2)
        have b2 := HB1.out.keep0 k2
        have n2 := HN.out x2
        clear k2 HOO K1 HB1 HN c0 c1 c2 c3
        obtain ⟨c0, c1, c2, c3⟩ := cells4 (b2.alloc (.cells #[.int .u8 o.tg, .int .i64 o.ty, .int .i64 o.ln, .int .i64 o.sz] 49))
        obtain ⟨d0, d1, d2, d3⟩ := cells4 n2
        clear b2 n2
        go_wp2_with fail
        go_ret
        exact ⟨rfl, K2.out.alloc _⟩
    · rw [if_pos h1]
      clear hq HOO HN
      unfold Hd.val at *
      generalize x.tg = g at *
      generalize x.ty = t at *
      generalize x.ln = n at *
      generalize x.sz = s at *
      have HB := Lib.hid hb
      have K0 := Lib.hid k0
      clear hb k0
      go_enter Tryz.func141, Tryz.ntmps141
      go_wp2_with fail
      refine (HC.out _ K0.out).mono ?_
      rintro e x1 ⟨rfl, k1⟩
      have b1 := HB.out.keep0 k1
      obtain ⟨c0, c1, c2, c3⟩ := cells4 b1
      have K1 := Lib.hid (K0.out.trans k1)
      have HB1 := Lib.hid b1
      clear k1 b1 HC K0 HB
      go_wp2_with fail
      go_ret
      exact ⟨rfl, K1.out⟩
  · have hf : fitE o oe x = 2 := by unfold fitE; rw [if_pos c]
    rw [hf]
    rw [decide_eq_false c] at HC
    clear hf c hq HOO HN
    unfold Hd.val at *
    generalize x.tg = g at *
    generalize x.ty = t at *
    generalize x.ln = n at *
    generalize x.sz = s at *
    have HB := Lib.hid hb
    have K0 := Lib.hid k0
    clear hb k0
    go_enter Tryz.func141, Tryz.ntmps141
    go_wp2_with fail
    refine (HC.out _ K0.out).mono ?_
    rintro e x1 ⟨rfl, k1⟩
    have b1 := HB.out.keep0 k1
    obtain ⟨c0, c1, c2, c3⟩ := cells4 b1
    have K1 := Lib.hid (K0.out.trans k1)
    have HB1 := Lib.hid b1
    clear k1 b1 HC K0 HB
    go_wp2_with fail
    go_ret
    exact ⟨rfl, K1.out⟩
end
end Go.Proofs.YtoagghileebokaaGreatDoor.Hd

/-
  The chapter's examples: alive.
-/
namespace Go.Proofs.YtoagghileebokaaGreatDoor.Hd
open Go.RowKit Go.Proofs.YtoagghileebokaaGreatDoor.Ar
set_option linter.unusedVariables false

section
variable {w : World}
end
end Go.Proofs.YtoagghileebokaaGreatDoor.Hd

/-
  What the laws on tables' headers hand on: contracts of Of and Fits, of a table, of none, of the document's row.
-/
namespace Go.Proofs.YtoagghileebokaaGreatDoor.Hd
open Go.RowKit Go.Proofs.YtoagghileebokaaGreatDoor.Ar
set_option linter.unusedVariables false
open Go.Proofs.YtoagghileebokaaGreatDoor.Tb (Ty Tab Seen Made NewPost RowPost newF newF_len addE sizeT sizeE)

/-- An error of Of's is like any other to Fits. -/
theorem fit_err (o : Hd) (oe : Int) (x : Hd) (h : oe ≠ 0) : fitE o oe x = fitE Hd.zero 1 x := by
  unfold fitE
  have h1 : (oe ≠ 0 ∨ o ≠ x) := .inl h
  have h2 : ((1 : Int) ≠ 0 ∨ Hd.zero ≠ x) := .inl (by decide)
  rw [if_pos h1, if_pos h2]
/-- The header of an object of a list's types. -/
def ofL (l : List Ty) (i n : Int) : Hd := ofH i n (sizeT l i n) (sizeE l i n)
def fitL (l : List Ty) (x : Hd) : Int := fitE (ofL l x.ty x.ln) (sizeE l x.ty x.ln) x
section
variable {w : World} {A : Option Addr} {c p : Nat} {l : List Ty}
theorem of_tab (h : Tab w p A c l) (i n : Int) (hi0 : -9223372036854775808 ≤ i) (hi1 : i ≤ 9223372036854775807) :
    Calls Tryz.prog 50 #[.pointer (some ⟨p, 0, none⟩), .int .i64 i, .int .i64 n] w fun e w' => e = .returned (.tuple #[(ofL l i n).val, .int .i64 (sizeE l i n)]) ∧ Kept [] w w' :=
  of_ok _ i n (sizeT l i n) (sizeE l i n) fun y k => Tb.size_ok (h.keep0 k) i n hi0 hi1
theorem of_nil (i n : Int) : Calls Tryz.prog 50 #[.pointer none, .int .i64 i, .int .i64 n] w fun e w' => e = .returned (.tuple #[Hd.zero.val, .int .i64 1]) ∧ Kept [] w w' :=
  of_ok _ i n 0 1 fun y k => Tb.size_nil y i n
theorem dof_row (hS : Tb.Seen w A l) (hok : ∀ x ∈ l, x.ok ∧ x.fit) (hlen : l.length ≤ 100000) (i n : Int) (hi0 : -9223372036854775808 ≤ i) (hi1 : i ≤ 9223372036854775807) :
    Calls Tryz.prog 106 #[.slice A l.length c, .int .i64 i, .int .i64 n] w fun e w' => e = .returned (.tuple #[(ofL l i n).val, .int .i64 (sizeE l i n)]) ∧ Kept [] w w' :=
  dof_ok _ i n (sizeT l i n) (sizeE l i n) fun y k => Tb.dsize_ok (c := c) (hS.keep0 k) hok hlen i n hi0 hi1
theorem fits_tab (h : Fields w) (hT : Tab w p A c l) (x : Hd) (ok : x.ok) :
    Calls Tryz.prog 92 #[.pointer (some ⟨p, 0, none⟩), x.val] w fun e w' => e = .returned (.int .i64 (fitL l x)) ∧ Kept [] w w' :=
  fits_ok h _ x ok _ _ fun y k => of_tab (hT.keep0 k) x.ty x.ln ok.t0 ok.t1
theorem dfits_row (hS : Tb.Seen w A l) (hok : ∀ x ∈ l, x.ok ∧ x.fit) (hlen : l.length ≤ 100000) (x : Hd) (ok : x.ok) :
    Calls Tryz.prog 141 #[.slice A l.length c, x.val] w fun e w' => e = .returned (.int .i64 (fitL l x)) ∧ Kept [] w w' :=
  dfits_ok _ x ok _ _ fun y k => dof_row (hS.keep0 k) hok hlen x.ty x.ln ok.t0 ok.t1
end
end Go.Proofs.YtoagghileebokaaGreatDoor.Hd
