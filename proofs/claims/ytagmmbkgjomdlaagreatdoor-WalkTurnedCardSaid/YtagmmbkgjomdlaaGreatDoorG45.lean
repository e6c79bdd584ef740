/-
  Several texts in one: SpTold, WkTal.
-/
import Derived.Test.YtagmmbkgjomdlaaGreatDoorG30
import Derived.Test.YtagmmbkgjomdlaaGreatDoorG41
import Derived.Test.YtagmmbkgjomdlaaGreatDoorG29
/-
  The law's own function told: the objects of cells are just those of a row, all others are gaps told as they must be.
-/
namespace Go.Proofs.YtagmmbkgjomdlaaGreatDoor.Sp
open Go.RowKit Go.Proofs.YtagmmbkgjomdlaaGreatDoor.Ar Go.Proofs.YtagmmbkgjomdlaaGreatDoor.Sh Go.Sort
open Go.Proofs.YtagmmbkgjomdlaaGreatDoor.Hd (Hd)
open Go.Proofs.YtagmmbkgjomdlaaGreatDoor.Tb (Ty)
set_option linter.unusedVariables false

section
variable {w : World} {A B : Option Addr} {cap capT : Nat}
end
end Go.Proofs.YtagmmbkgjomdlaaGreatDoor.Sp

/-
  Two tallies held against each other; two rows of cells that are unlike.
-/
namespace Go.Proofs.YtagmmbkgjomdlaaGreatDoor.Wk
open Go.RowKit Go.Proofs.YtagmmbkgjomdlaaGreatDoor.Ar Go.Proofs.YtagmmbkgjomdlaaGreatDoor.Sp
open Go.Proofs.YtagmmbkgjomdlaaGreatDoor.Hd (eqF_int)
set_option linter.unusedVariables false

def eqT (a0 a1 a2 a3 a4 a5 b0 b1 b2 b3 b4 b5 : Int) : Bool := (a0 == b0) && (a1 == b1) && (a2 == b2) && (a3 == b3) && (a4 == b4) && (a5 == b5)
theorem eqT_refl (a0 a1 a2 a3 a4 a5 : Int) : eqT a0 a1 a2 a3 a4 a5 a0 a1 a2 a3 a4 a5 = true := by simp [eqT]
theorem eqInTal (y : World) (a0 a1 a2 a3 a4 a5 b0 b1 b2 b3 b4 b5 : Int) : (Op.equalIn 10000 53 (.agg #[.int .i64 a0, .int .i64 a1, .int .i64 a2, .int .i64 a3, .int .i64 a4, .int .i64 a5]) (.agg #[.int .i64 b0, .int .i64 b1, .int .i64 b2, .int .i64 b3, .int .i64 b4, .int .i64 b5])).run Tryz.prog y = .ok (eqT a0 a1 a2 a3 a4 a5 b0 b1 b2 b3 b4 b5) y := by
  have e3 := Tryz.underlying3
  have hf : (Tryz.prog.fieldsOf 53).toList = [(Field.mk "Objects" 3 0 false "" "" 0), (Field.mk "Fillers" 3 1 false "" "" 8), (Field.mk "Frees" 3 2 false "" "" 16), (Field.mk "Used" 3 3 false "" "" 24), (Field.mk "Free" 3 4 false "" "" 32), (Field.mk "Lost" 3 5 false "" "" 40)] := by kernel_rfl
  rw [run_equalIn_struct (d := 9999) (ht := by kernel_rfl) (hp := by kernel_rfl), hf]
  rw [eqF_int (d := 9998) (f := (Field.mk "Objects" 3 0 false "" "" 0)) e3 (by decide) (a := a0) (b := b0) rfl rfl, eqF_int (d := 9998) (f := (Field.mk "Fillers" 3 1 false "" "" 8)) e3 (by decide) (a := a1) (b := b1) rfl rfl, eqF_int (d := 9998) (f := (Field.mk "Frees" 3 2 false "" "" 16)) e3 (by decide) (a := a2) (b := b2) rfl rfl,
    eqF_int (d := 9998) (f := (Field.mk "Used" 3 3 false "" "" 24)) e3 (by decide) (a := a3) (b := b3) rfl rfl, eqF_int (d := 9998) (f := (Field.mk "Free" 3 4 false "" "" 32)) e3 (by decide) (a := a4) (b := b4) rfl rfl, eqF_int (d := 9998) (f := (Field.mk "Lost" 3 5 false "" "" 40)) e3 (by decide) (a := a5) (b := b5) rfl rfl]
  rw [Op.eqFields]
  unfold eqT
  cases a0 == b0 <;> cases a1 == b1 <;> cases a2 == b2 <;> cases a3 == b3 <;> cases a4 == b4 <;> cases a5 == b5 <;> rfl
theorem sameTal (y : World) (a0 a1 a2 a3 a4 a5 b0 b1 b2 b3 b4 b5 : Int) : (binOp .eql 53 (.agg #[.int .i64 a0, .int .i64 a1, .int .i64 a2, .int .i64 a3, .int .i64 a4, .int .i64 a5]) (.agg #[.int .i64 b0, .int .i64 b1, .int .i64 b2, .int .i64 b3, .int .i64 b4, .int .i64 b5])).run Tryz.prog y = .ok (.bool (eqT a0 a1 a2 a3 a4 a5 b0 b1 b2 b3 b4 b5)) y := by
  rw [run_eql_struct, eqInTal]
  rfl
theorem guardTal : Tryz.prog.eqGuardType Tryz.prog.depth 53 = false := by kernel_rfl
end Go.Proofs.YtagmmbkgjomdlaaGreatDoor.Wk
