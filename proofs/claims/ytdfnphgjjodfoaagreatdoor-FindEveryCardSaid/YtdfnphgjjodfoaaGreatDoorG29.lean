/-
  Several texts in one: HdEq, SpEq.
-/
import Derived.Test.YtdfnphgjjodfoaaGreatDoorG04
import Derived.Laws.StructEq
import Derived.Test.YtdfnphgjjodfoaaGreatDoorG13
/-
  Two headers held against each other: == and !=.
-/
namespace Go.Proofs.YtdfnphgjjodfoaaGreatDoor.Hd
open Go.RowKit Go.Proofs.YtdfnphgjjodfoaaGreatDoor.Ar
set_option linter.unusedVariables false

def eqB (a0 a1 a2 a3 b0 b1 b2 b3 : Int) : Bool := (a0 == b0) && (a1 == b1) && (a2 == b2) && (a3 == b3)
theorem eqB_iff (a b : Hd) : eqB a.tg a.ty a.ln a.sz b.tg b.ty b.ln b.sz = true ↔ a = b := by
  unfold eqB
  simp only [Bool.and_eq_true, beq_iff_eq]
  constructor
  · rintro ⟨⟨⟨h1, h2⟩, h3⟩, h4⟩
    exact Hd.eq h1 h2 h3 h4
  · rintro rfl
    exact ⟨⟨⟨rfl, rfl⟩, rfl⟩, rfl⟩
theorem eqB_dec (a b : Hd) : eqB a.tg a.ty a.ln a.sz b.tg b.ty b.ln b.sz = decide (a = b) := by
  rw [Bool.eq_iff_iff, decide_eq_true_iff]
  exact eqB_iff a b
theorem part_int {P : Program} {t : TypeId} {k : IntKind} (h : P.underlying t = some (.int k)) (xs : Array Value) (off : Nat) {v : Value} (hx : xs[off]? = some v) (y : World) : (part t xs off).run P y = .ok v y := by
  simp [part, isAgg, run_underlying h, hx]
theorem eqF_int {P : Program} {f : Field} {k : IntKind} (h : P.underlying f.type = some (.int k)) (hn : f.name ≠ "_") {xs ys : Array Value} {a b : Int} (hx : xs[f.offset]? = some (.int k a)) (hy : ys[f.offset]? = some (.int k b)) (d : Nat) (fs : List Field) (y : World) :
    (Op.eqFields (d + 1) xs ys (f :: fs)).run P y = if (a == b) = true then (Op.eqFields (d + 1) xs ys fs).run P y else .ok false y := by
  rw [Op.eqFields, if_pos hn]
  simp only [Sem.run_bind, part_int h xs f.offset hx, part_int h ys f.offset hy, Result.andThen_ok, run_equalIn_int y d f.type k k a b h, Sem.run_ite]
  cases hab : a == b <;> simp
theorem eqIn_run (y : World) (a0 a1 a2 a3 b0 b1 b2 b3 : Int) : (Op.equalIn 10000 35 (.agg #[.int .u8 a0, .int .i64 a1, .int .i64 a2, .int .i64 a3]) (.agg #[.int .u8 b0, .int .i64 b1, .int .i64 b2, .int .i64 b3])).run Tryz.prog y = .ok (eqB a0 a1 a2 a3 b0 b1 b2 b3) y := by
  have e5 := Tryz.underlying5
  have e3 := Tryz.underlying3
  have hf : (Tryz.prog.fieldsOf 35).toList = [(Field.mk "Tag" 5 0 false "" "" 0), (Field.mk "Type" 3 1 false "" "" 8), (Field.mk "Len" 3 2 false "" "" 16), (Field.mk "Size" 3 3 false "" "" 24)] := by kernel_rfl
  rw [run_equalIn_struct (d := 9999) (ht := by kernel_rfl) (hp := by kernel_rfl), hf]
  rw [eqF_int (d := 9998) (f := (Field.mk "Tag" 5 0 false "" "" 0)) e5 (by decide) (a := a0) (b := b0) rfl rfl, eqF_int (d := 9998) (f := (Field.mk "Type" 3 1 false "" "" 8)) e3 (by decide) (a := a1) (b := b1) rfl rfl,
    eqF_int (d := 9998) (f := (Field.mk "Len" 3 2 false "" "" 16)) e3 (by decide) (a := a2) (b := b2) rfl rfl, eqF_int (d := 9998) (f := (Field.mk "Size" 3 3 false "" "" 24)) e3 (by decide) (a := a3) (b := b3) rfl rfl]
  rw [Op.eqFields]
  unfold eqB
  cases a0 == b0 <;> cases a1 == b1 <;> cases a2 == b2 <;> cases a3 == b3 <;> rfl
theorem run_same (y : World) (a0 a1 a2 a3 b0 b1 b2 b3 : Int) : (binOp .eql 35 (.agg #[.int .u8 a0, .int .i64 a1, .int .i64 a2, .int .i64 a3]) (.agg #[.int .u8 b0, .int .i64 b1, .int .i64 b2, .int .i64 b3])).run Tryz.prog y = .ok (.bool (eqB a0 a1 a2 a3 b0 b1 b2 b3)) y := by
  rw [run_eql_struct, eqIn_run]
  rfl
theorem run_other (y : World) (a0 a1 a2 a3 b0 b1 b2 b3 : Int) : (binOp .neq 35 (.agg #[.int .u8 a0, .int .i64 a1, .int .i64 a2, .int .i64 a3]) (.agg #[.int .u8 b0, .int .i64 b1, .int .i64 b2, .int .i64 b3])).run Tryz.prog y = .ok (.bool (!eqB a0 a1 a2 a3 b0 b1 b2 b3)) y := by
  rw [run_neq_struct, eqIn_run]
  rfl
theorem no_guard : Tryz.prog.eqGuardType Tryz.prog.depth 35 = false := by kernel_rfl
end Go.Proofs.YtdfnphgjjodfoaaGreatDoor.Hd

/-
  Two cells held against each other: == and !=.
-/
namespace Go.Proofs.YtdfnphgjjodfoaaGreatDoor.Sp
open Go.RowKit Go.Proofs.YtdfnphgjjodfoaaGreatDoor.Ar
open Go.Proofs.YtdfnphgjjodfoaaGreatDoor.Hd (Hd eqB eqB_iff eqF_int part_int)
set_option linter.unusedVariables false

theorem eqHead (d : Nat) (y : World) (a0 a1 a2 a3 b0 b1 b2 b3 : Int) : (Op.equalIn (d + 2) 35 (.agg #[.int .u8 a0, .int .i64 a1, .int .i64 a2, .int .i64 a3]) (.agg #[.int .u8 b0, .int .i64 b1, .int .i64 b2, .int .i64 b3])).run Tryz.prog y = .ok (eqB a0 a1 a2 a3 b0 b1 b2 b3) y := by
  have e5 := Tryz.underlying5
  have e3 := Tryz.underlying3
  have hf : (Tryz.prog.fieldsOf 35).toList = [(Field.mk "Tag" 5 0 false "" "" 0), (Field.mk "Type" 3 1 false "" "" 8), (Field.mk "Len" 3 2 false "" "" 16), (Field.mk "Size" 3 3 false "" "" 24)] := by kernel_rfl
  rw [run_equalIn_struct (d := d + 1) (ht := by kernel_rfl) (hp := by kernel_rfl), hf]
  rw [eqF_int (d := d) (f := (Field.mk "Tag" 5 0 false "" "" 0)) e5 (by decide) (a := a0) (b := b0) rfl rfl, eqF_int (d := d) (f := (Field.mk "Type" 3 1 false "" "" 8)) e3 (by decide) (a := a1) (b := b1) rfl rfl,
    eqF_int (d := d) (f := (Field.mk "Len" 3 2 false "" "" 16)) e3 (by decide) (a := a2) (b := b2) rfl rfl, eqF_int (d := d) (f := (Field.mk "Size" 3 3 false "" "" 24)) e3 (by decide) (a := a3) (b := b3) rfl rfl]
  rw [Op.eqFields]
  unfold eqB
  cases a0 == b0 <;> cases a1 == b1 <;> cases a2 == b2 <;> cases a3 == b3 <;> rfl
def eqC (x a0 a1 a2 a3 y b0 b1 b2 b3 : Int) : Bool := (x == y) && eqB a0 a1 a2 a3 b0 b1 b2 b3
theorem eqC_iff (a b : Cel) : eqC a.a a.h.tg a.h.ty a.h.ln a.h.sz b.a b.h.tg b.h.ty b.h.ln b.h.sz = true ↔ a = b := by
  unfold eqC
  rw [Bool.and_eq_true, beq_iff_eq, eqB_iff]
  constructor
  · rintro ⟨h1, h2⟩
    exact Cel.eq h1 h2
  · rintro rfl
    exact ⟨rfl, rfl⟩
theorem eqC_refl (x a0 a1 a2 a3 : Int) : eqC x a0 a1 a2 a3 x a0 a1 a2 a3 = true := (eqC_iff ⟨x, ⟨a0, a1, a2, a3⟩⟩ ⟨x, ⟨a0, a1, a2, a3⟩⟩).2 rfl
theorem part_head (x a0 a1 a2 a3 : Int) (y : World) : (part 35 #[.int .i64 x, .int .u8 a0, .int .i64 a1, .int .i64 a2, .int .i64 a3] 1).run Tryz.prog y = .ok (.agg #[.int .u8 a0, .int .i64 a1, .int .i64 a2, .int .i64 a3]) y := by kernel_rfl
theorem eqF_head (d : Nat) (y : World) (x a0 a1 a2 a3 z b0 b1 b2 b3 : Int) : (Op.eqFields (d + 2) #[.int .i64 x, .int .u8 a0, .int .i64 a1, .int .i64 a2, .int .i64 a3] #[.int .i64 z, .int .u8 b0, .int .i64 b1, .int .i64 b2, .int .i64 b3] [Field.mk "Head" 35 1 true "" "" 8]).run Tryz.prog y = .ok (eqB a0 a1 a2 a3 b0 b1 b2 b3) y := by
  rw [Op.eqFields, if_pos (by decide)]
  simp only [Sem.run_bind, part_head, Result.andThen_ok, eqHead d, Sem.run_ite]
  rw [Op.eqFields]
  cases eqB a0 a1 a2 a3 b0 b1 b2 b3 <;> rfl
theorem eqIn_cell (y : World) (x a0 a1 a2 a3 z b0 b1 b2 b3 : Int) : (Op.equalIn 10000 37 (.agg #[.int .i64 x, .int .u8 a0, .int .i64 a1, .int .i64 a2, .int .i64 a3]) (.agg #[.int .i64 z, .int .u8 b0, .int .i64 b1, .int .i64 b2, .int .i64 b3])).run Tryz.prog y = .ok (eqC x a0 a1 a2 a3 z b0 b1 b2 b3) y := by
  have e3 := Tryz.underlying3
  have hf : (Tryz.prog.fieldsOf 37).toList = [(Field.mk "At" 3 0 false "" "" 0), (Field.mk "Head" 35 1 true "" "" 8)] := by kernel_rfl
  rw [run_equalIn_struct (d := 9999) (ht := by kernel_rfl) (hp := by kernel_rfl), hf]
  rw [eqF_int (d := 9998) (f := (Field.mk "At" 3 0 false "" "" 0)) e3 (by decide) (a := x) (b := z) rfl rfl]
  rw [show (9998 + 1 : Nat) = 9997 + 2 from rfl, eqF_head 9997]
  unfold eqC
  cases x == z <;> cases eqB a0 a1 a2 a3 b0 b1 b2 b3 <;> rfl
theorem run_same (y : World) (x a0 a1 a2 a3 z b0 b1 b2 b3 : Int) : (binOp .eql 37 (.agg #[.int .i64 x, .int .u8 a0, .int .i64 a1, .int .i64 a2, .int .i64 a3]) (.agg #[.int .i64 z, .int .u8 b0, .int .i64 b1, .int .i64 b2, .int .i64 b3])).run Tryz.prog y = .ok (.bool (eqC x a0 a1 a2 a3 z b0 b1 b2 b3)) y := by
  rw [run_eql_struct, eqIn_cell]
  rfl
theorem run_other (y : World) (x a0 a1 a2 a3 z b0 b1 b2 b3 : Int) : (binOp .neq 37 (.agg #[.int .i64 x, .int .u8 a0, .int .i64 a1, .int .i64 a2, .int .i64 a3]) (.agg #[.int .i64 z, .int .u8 b0, .int .i64 b1, .int .i64 b2, .int .i64 b3])).run Tryz.prog y = .ok (.bool (!eqC x a0 a1 a2 a3 z b0 b1 b2 b3)) y := by
  rw [run_neq_struct, eqIn_cell]
  rfl
theorem no_guard : Tryz.prog.eqGuardType Tryz.prog.depth 37 = false := by kernel_rfl
end Go.Proofs.YtdfnphgjjodfoaaGreatDoor.Sp
