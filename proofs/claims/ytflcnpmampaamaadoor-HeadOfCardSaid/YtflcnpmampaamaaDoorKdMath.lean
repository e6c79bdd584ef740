/-
  What a type's objects are, as plain functions of numbers: which types may be, how many slots, which are references.
-/
import Derived.RowKit
namespace Go.Proofs.YtflcnpmampaamaaDoor.Kd
open Go.RowKit
set_option linter.unusedVariables false

/-- May a type be: kind k, words wd, mask mk? -/
def may (k : Nat) (wd : Int) (mk : Nat) : Prop :=
  ((k = 1 ∧ 0 ≤ wd ∧ wd ≤ 64) ∨ (k = 3 ∧ 1 ≤ wd ∧ wd ≤ 16) ∨ ((k = 2 ∨ k = 4) ∧ wd = 0)) ∧ mk / 2 ^ wd.toNat = 0
instance (k : Nat) (wd : Int) (mk : Nat) : Decidable (may k wd mk) := by unfold may; infer_instance
/-- The error of an object of a type, with a length. -/
def err (k : Nat) (wd : Int) (mk : Nat) (n : Int) : Int :=
  if ¬ may k wd mk ∨ n < 0 ∨ (0 < n ∧ k = 1) then 2 else if 4096 < n then 5 else 0
/-- How many slots. -/
def slots (k : Nat) (wd n : Int) : Int := if k = 1 then wd else if k = 3 then n * wd else n
/-- Is that slot a reference? -/
def isRef (k : Nat) (wd : Int) (mk : Nat) (s : Nat) : Bool :=
  if k = 1 ∨ k = 3 then decide (mk / 2 ^ (s % wd.toNat) % 2 = 1) else decide (k = 2)
/-- The slots below m that are references, rising. -/
def refsTo (k : Nat) (wd : Int) (mk : Nat) (m : Nat) : List Int := ((List.range m).filter (isRef k wd mk)).map Int.ofNat
end Go.Proofs.YtflcnpmampaamaaDoor.Kd
