/-
  The walk of the law RunsNil.
-/
import Derived.Test.YtbgonppichdhiaaRnAlive
namespace Go.Proofs.Ytbgonppichdhiaa.Rn
open Go.RowKit Go.Proofs.Ytbgonppichdhiaa.Ar Go.Proofs.Ytbgonppichdhiaa.Bt Go.Proofs.Ytbgonppichdhiaa.Lk Go.Sort
set_option linter.unusedVariables false

set_option maxRecDepth 100000 in
set_option maxHeartbeats 4000000 in
theorem nil_walk (a m i n : Int) (w : World) (a1 : -9223372036854775808 ≤ a) (a2 : a ≤ 9223372036854775807) (m1 : -9223372036854775808 ≤ m) (m2 : m ≤ 9223372036854775807) (i1 : -9223372036854775808 ≤ i) (i2 : i ≤ 9223372036854775807) (n1 : -9223372036854775808 ≤ n) (n2 : n ≤ 9223372036854775807) :
    Calls Try.prog 6 #[.agg #[.int .i64 a, .int .i64 m], .int .i64 i, .int .i64 n] w fun e w' => e = .returned (.bool true) ∧ Kept [] w w' := by
  have hka : ∀ (x : World) (o : Obj), Kept [] x (x.alloc o) := fun x o => (Kept.refl [] x).alloc o
  have HO := Lib.hid (fun x => of_nil x i)
  have HF := Lib.hid (fun x => first_ok x none [] (.inl ⟨rfl, rfl⟩) trivial n i n1 n2 i1 i2)
  rw [show firstO (runsIn []) n i = none from by unfold firstO; split <;> rfl] at HF
  have HA := Lib.hid (fun x => add_nil x a m)
  have HC := Lib.hid (fun x => cut_nil x a m)
  have HH := Lib.hid (fun x => has_nil_ok x i)
  have HL := Lib.hid (fun x => list_ok x none [] (.inl ⟨rfl, rfl⟩) trivial)
  have HT : Hid (∀ x, Calls Try.prog 21 #[.pointer none] x fun e w' => e = .returned (.int .i64 0) ∧ Kept [] x w') := Lib.hid (fun x => total_ok x none [] (.inl ⟨rfl, rfl⟩) trivial)
  have HY := Lib.hid (fun x => copy_nil x)
  have HV := Lib.hid (fun x => alive_ok x)
  have HF' : Hid (∀ x, Calls Try.prog 16 #[.pointer none, .int .i64 n, .int .i64 i] x fun e w' => e = .returned (.tuple #[.agg #[.int .i64 0, .int .i64 0], .bool false]) ∧ Kept [] x w') := HF
  unfold runV at HO HA HC
  clear HF
  go_enter Try.func6, Try.ntmps6
  go_wp2_with fail
  have h0 : Has (w.alloc (.cells #[.int .i64 a, .int .i64 m] 29)) w.heap.size 29 [.int .i64 a, .int .i64 m] := Has.new w _ [.int .i64 a, .int .i64 m]
  have hk0 := hka w (.cells #[.int .i64 a, .int .i64 m] 29)
  generalize w.alloc (.cells #[.int .i64 a, .int .i64 m] 29) = W0 at *
  generalize w.heap.size = bx at *
  have H0 := Lib.hid h0
  have Hk0 := Lib.hid hk0
  clear h0 hk0
  refine (HO.out _).mono ?_
  rintro e W1 ⟨rfl, hk1⟩
  have Hk1 := Lib.hid (Hk0.out.trans hk1)
  have H1 := Lib.hid (H0.out.keep0 hk1)
  clear hk1
  go_wp2_with fail
  have hk2 := hka W1 (.cells #[.int .i64 0, .int .i64 0] 29)
  generalize W1.alloc (.cells #[.int .i64 0, .int .i64 0] 29) = W2 at *
  refine (HF'.out _).mono ?_
  rintro e W3 ⟨rfl, hk3⟩
  have Hk3 := Lib.hid ((Hk1.out.trans hk2).trans hk3)
  have H3 := Lib.hid ((H1.out.keep0 hk2).keep0 hk3)
  clear hk2 hk3
  have H4 := Lib.hid (H3.out.alloc (.cells #[.int .i64 0, .int .i64 0] 29))
  have d0 := H4.out.cell 0
  have d1 := H4.out.cell 1
  simp at d0 d1
  go_wp2_with fail
  have hk4 := hka W3 (.cells #[.int .i64 0, .int .i64 0] 29)
  clear d0 d1
  generalize W3.alloc (.cells #[.int .i64 0, .int .i64 0] 29) = W4 at *
  refine (HA.out _).mono ?_
  rintro e W5 ⟨rfl, hk5⟩
  have Hk5 := Lib.hid ((Hk3.out.trans hk4).trans hk5)
  have H5 := Lib.hid (H4.out.keep0 hk5)
  have d0 := H5.out.cell 0
  have d1 := H5.out.cell 1
  simp at d0 d1
  clear hk4 hk5
  go_wp2_with fail
  refine (HC.out _).mono ?_
  rintro e W6 ⟨rfl, hk6⟩
  have Hk6 := Lib.hid (Hk5.out.trans hk6)
  clear hk6 d0 d1
  go_wp2_with fail
  refine (HH.out _).mono ?_
  rintro e W7 ⟨rfl, hk7⟩
  have Hk7 := Lib.hid (Hk6.out.trans hk7)
  clear hk7
  go_wp2_with fail
  refine (HL.out _).mono ?_
  rintro e W8 ⟨v, rfl, hO8, _, hk8⟩
  obtain ⟨A, cap, rfl, _⟩ := ownR_later hO8
  simp only [runsIn, List.map_nil, List.length_nil] at *
  have Hk8 := Lib.hid (Hk7.out.trans hk8)
  clear hk8 hO8
  go_wp2_with fail
  refine (HT.out _).mono ?_
  rintro e W9 ⟨rfl, hk9⟩
  have Hk9 := Lib.hid (Hk8.out.trans hk9)
  clear hk9
  go_wp2_with fail
  refine (HY.out _).mono ?_
  rintro e WA ⟨rfl, hkA⟩
  have HkA := Lib.hid (Hk9.out.trans hkA)
  clear hkA
  go_wp2_with fail
  refine (HV.out _).mono ?_
  rintro e WB ⟨rfl, hkB⟩
  have HkB := Lib.hid (HkA.out.trans hkB)
  clear hkB
  go_wp2_with fail
  go_ret
  exact ⟨rfl, HkB.out⟩
end Go.Proofs.Ytbgonppichdhiaa.Rn
