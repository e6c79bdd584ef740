/-
  The statements' examples.
-/
import Derived.Test.YtjlofickdlcoeaaKdSame
namespace Go.Proofs.Ytjlofickdlcoeaa.Kd
open Go.RowKit Go.Proofs.Ytjlofickdlcoeaa.Ar Go.Proofs.Ytjlofickdlcoeaa.Ir
set_option linter.unusedVariables false

theorem ex1 : sizeR 1 3 0 0 = 2 ∧ err 1 3 0 0 = 0 := by decide +kernel
theorem ex2 : sizeR 4 0 0 4 = 3 ∧ err 4 0 0 4 = 0 := by decide +kernel
theorem ex3 : refsR 3 2 2 3 = [1, 3, 5] ∧ err 3 2 2 3 = 0 := by decide +kernel
theorem ex4 : sizeR 4 0 0 4097 = 0 ∧ err 4 0 0 4097 = 5 := by decide +kernel
theorem ex5 : err 1 1 2 0 = 2 := by decide +kernel
set_option maxRecDepth 100000 in
set_option maxHeartbeats 4000000 in
theorem alive_ok (w : World) : Calls Try.prog 13 #[] w fun e w' => e = .returned (.bool true) ∧ Kept [] w w' := by
  have H1 := Lib.hid (fun x => size_ok 1 3 0 0 (by decide) (by decide) x)
  have H2 := Lib.hid (fun x => size_ok 4 0 0 4 (by decide) (by decide) x)
  have H3 := Lib.hid (fun x => refs_ok 3 2 2 3 (by decide) (by decide) x)
  have H4 := Lib.hid (fun x => size_ok 4 0 0 4097 (by decide) (by decide) x)
  have H5 := Lib.hid (fun x => check_ok 1 1 2 (by decide) (by decide) x)
  unfold RefsPost at H3
  rw [ex1.1, ex1.2] at H1
  rw [ex2.1, ex2.2] at H2
  rw [ex3.1, ex3.2] at H3
  rw [ex4.1, ex4.2] at H4
  rw [ex5] at H5
  unfold typV at *
  go_enter Try.func13, Try.ntmps13
  go_wp2_with fail
  refine (H1.out _).mono ?_
  rintro e W1 ⟨rfl, hk1⟩
  have K1 := Lib.hid hk1
  clear hk1
  go_wp2_with fail
  refine (H2.out _).mono ?_
  rintro e W2 ⟨rfl, hk2⟩
  have K2 := Lib.hid (K1.out.trans hk2)
  clear hk2 K1
  go_wp2_with fail
  refine (H3.out _).mono ?_
  rintro e W3 ⟨v, rfl, hO, hk3⟩
  have K3 := Lib.hid (K2.out.trans hk3)
  have O3 := Lib.hid hO
  clear hk3 hO K2
  go_wp2_with fail
  refine (H4.out _).mono ?_
  rintro e W4 ⟨rfl, hk4⟩
  have K4 := Lib.hid (K3.out.trans hk4)
  have O4 := Lib.hid (O3.out.keep0 hk4)
  clear hk4 O3 K3
  obtain ⟨A, c, rfl, hb⟩ := back_own (Kept.refl [] W4) O4.out
  have HA := Lib.hid (show Seen (W4.alloc (.cells #[.int .i64 1, .int .i64 3, .int .i64 5] 3)) A [1, 3, 5] from hb.2.1.keep0 ((Kept.refl [] W4).alloc _))
  have HB : Hid (Seen (W4.alloc (.cells #[.int .i64 1, .int .i64 3, .int .i64 5] 3)) (some ⟨W4.heap.size, 0, none⟩) [1, 3, 5]) := Lib.hid (Row.seen (Has.new W4 3 (ints [1, 3, 5])))
  clear hb O4
  simp only [List.length_cons, List.length_nil, Nat.reduceAdd]
  go_wp2_with fail
  refine (same_any A _ [1, 3, 5] [1, 3, 5] c 3 _ HA.out HB.out (by decide) (by decide)).mono ?_
  rintro e W5 ⟨rfl, j, rfl⟩
  rw [decide_eq_true rfl]
  go_wp2_with fail
  refine (H5.out _).mono ?_
  rintro e W6 ⟨rfl, hk6⟩
  have K6 := Lib.hid (((K4.out.alloc _).drewN _).trans hk6)
  clear hk6
  go_wp2_with fail
  go_ret
  exact ⟨rfl, K6.out⟩
end Go.Proofs.Ytjlofickdlcoeaa.Kd
