/-
  The law HeadTells, walked.
-/
import Derived.Test.YtflcnpmampaamaaDoorHdAlive
import Derived.Test.YtflcnpmampaamaaDoorHdDoc2
import Derived.Test.YtflcnpmampaamaaDoorHdEq
namespace Go.Proofs.YtflcnpmampaamaaDoor.Hd
open Go.RowKit Go.Proofs.YtflcnpmampaamaaDoor.Ar
set_option linter.unusedVariables false

theorem eqB_refl (a b c d : Int) : eqB a b c d a b c d = true := by unfold eqB; simp
set_option maxRecDepth 100000 in
set_option maxHeartbeats 2000000 in
theorem tells_walk {w : World} (h : Fields w) (x : Hd) (ok : x.ok) (u : Int) (hu0 : 0 ≤ u) (hu1 : u ≤ 18446744073709551615) :
    Calls Tryd.prog 3 #[x.val, .int .u64 u] w fun e w' => e = .returned (.bool true) ∧ Kept [] w w' := by
  have hb := Hd.new w x
  have k0 : Kept [] w (w.alloc (.cells #[.int .u8 x.tg, .int .i64 x.ty, .int .i64 x.ln, .int .i64 x.sz] 23)) := (Kept.refl [] w).alloc _
  have H1 := Lib.hid (fun y (k : Kept [] w y) => encode_ok (h.keep0 k) x ok)
  have H2 := Lib.hid (fun y => dencode_ok (w := y) x ok)
  have H3 := Lib.hid (fun y (k : Kept [] w y) => decode_ok (h.keep0 k) u hu0 hu1)
  have H4 := Lib.hid (fun y => ddecode_ok (w := y) u hu0 hu1)
  have H5 := Lib.hid (fun y (k : Kept [] w y) => check_ok (h.keep0 k) x ok)
  have H6 := Lib.hid (fun y (k : Kept [] w y) => alive_ok (h.keep0 k))
  have HN : Hid (∀ y : World, Has (y.alloc (.cells #[.int .u8 (decH u).tg, .int .i64 (decH u).ty, .int .i64 (decH u).ln, .int .i64 (decH u).sz] 23)) y.heap.size 23 [.int .u8 (decH u).tg, .int .i64 (decH u).ty, .int .i64 (decH u).ln, .int .i64 (decH u).sz]) := Lib.hid fun y => Hd.new y _
  have hne := run_same
  have hng := no_guard
  have hq := eqB_refl
  clear h ok
  unfold Hd.val at *
  generalize encW x = ew at *
  generalize errH x = er at *
  generalize x.tg = g at *
  generalize x.ty = t at *
  generalize x.ln = n at *
  generalize x.sz = s at *
  generalize decE u = de at *
  generalize decH u = D at *
  generalize D.tg = Dg at *
  generalize D.ty = Dt at *
  generalize D.ln = Dn at *
  generalize D.sz = Ds at *
  have HB := Lib.hid hb
  have K0 := Lib.hid k0
  clear hb k0
  go_enter Tryd.func3, Tryd.ntmps3
  go_wp2_with fail
  refine (H1.out _ K0.out).mono ?_
  rintro e x1 ⟨rfl, k1⟩
  have K1 := Lib.hid (K0.out.trans k1)
  have HB1 := Lib.hid (HB.out.keep0 k1)
  clear k1 H1 K0 HB
  obtain ⟨c0, c1, c2, c3⟩ := cells4 HB1.out
  go_wp2_with fail
  refine (H2.out _).mono ?_
  rintro e x2 ⟨rfl, k2⟩
  have K2 := Lib.hid (K1.out.trans k2)
  have HB2 := Lib.hid (HB1.out.keep0 k2)
  clear k2 H2 K1 HB1 c0 c1 c2 c3
  go_wp2_with fail
  refine (H3.out _ K2.out).mono ?_
  rintro e x3 ⟨rfl, k3⟩
  have K3 := Lib.hid (K2.out.trans k3)
  have HB3 := Lib.hid (HB2.out.keep0 k3)
  have HN3 := Lib.hid (HN.out x3)
  clear k3 H3 K2 HB2
  go_wp2_with fail
  refine (H4.out _).mono ?_
  rintro e x4 ⟨rfl, k4⟩
  have K4 := Lib.hid ((K3.out.alloc _).trans k4)
  have HB4 := Lib.hid (((HB3.out.alloc _).keep0 k4).alloc (.cells #[.int .u8 Dg, .int .i64 Dt, .int .i64 Dn, .int .i64 Ds] 23))
  have HM4 := Lib.hid ((HN3.out.keep0 k4).alloc (.cells #[.int .u8 Dg, .int .i64 Dt, .int .i64 Dn, .int .i64 Ds] 23))
  have HN4 := Lib.hid (HN.out x4)
  clear k4 H4 K3 HB3 HN3 HN
  obtain ⟨c0, c1, c2, c3⟩ := cells4 HB4.out
  go_wp2_with fail
  refine (H5.out _ (K4.out.alloc _)).mono ?_
  rintro e x5 ⟨rfl, k5⟩
  have K5 := Lib.hid ((K4.out.alloc _).trans k5)
  have m5 := HM4.out.keep0 k5
  have n5 := HN4.out.keep0 k5
  clear k5 H5 K4 HB4 HM4 HN4 c0 c1 c2 c3
  obtain ⟨c0, c1, c2, c3⟩ := cells4 m5
  obtain ⟨d0, d1, d2, d3⟩ := cells4 n5
  clear m5 n5
  go_wp2_with fail
  refine (H6.out _ K5.out).mono ?_
  rintro e x6 ⟨rfl, k6⟩
  have K6 := Lib.hid (K5.out.trans k6)
  clear k6 H6 K5 c0 c1 c2 c3 d0 d1 d2 d3
  go_wp2_with fail
  go_ret
  exact ⟨rfl, K6.out⟩
end Go.Proofs.YtflcnpmampaamaaDoor.Hd
