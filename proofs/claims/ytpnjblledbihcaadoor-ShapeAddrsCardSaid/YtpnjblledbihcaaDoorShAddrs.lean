/-
  The law ShapeAddrs, walked.
-/
import Derived.Test.YtpnjblledbihcaaDoorShAlive
namespace Go.Proofs.YtpnjblledbihcaaDoor.Sh
open Go.RowKit Go.Proofs.YtpnjblledbihcaaDoor.Ar
open Go.Proofs.YtpnjblledbihcaaDoor.Hd (Hd Fields)
set_option linter.unusedVariables false

set_option maxRecDepth 100000 in
set_option maxHeartbeats 2000000 in
theorem addrs_walk {w : World} (hF : Fields w) (g u : Int) (u0 : 0 ≤ u) (u1 : u < 18446744073709551616) :
    Calls Tryd.prog 3 #[.int .i64 g, .int .u64 u] w fun e w' => e = .returned (.bool true) ∧ Kept [] w w' := by
  have HA := Lib.hid (alive_ok hF)
  by_cases hg : g > 1099511627776
  · clear hF
    go_enter Tryd.func3, Tryd.ntmps3
    go_wp2_with fail
    refine HA.out.mono ?_
    rintro e x1 ⟨rfl, k1⟩
    have K1 := Lib.hid k1
    clear k1 HA
    go_wp2_with fail
    go_ret
    exact ⟨rfl, K1.out⟩
  · have H1 := Lib.hid (word_ok (w := w) u u0 u1)
    have H2 := Lib.hid (dword_ok (w := w) u u0 u1)
    have H3 := Lib.hid (addr_ok (w := w) g (by omega))
    have H4 := Lib.hid (daddr_ok (w := w) g (by omega))
    clear hF
    generalize wordR u = a at *
    generalize wordB u = b at *
    generalize addrR g = r at *
    go_enter Tryd.func3, Tryd.ntmps3
    go_wp2_with fail
    refine H1.out.mono ?_
    rintro e x1 ⟨rfl, rfl⟩
    go_wp2_with fail
    refine H2.out.mono ?_
    rintro e x1 ⟨rfl, rfl⟩
    go_wp2_with fail
    refine H3.out.mono ?_
    rintro e x1 ⟨rfl, rfl⟩
    go_wp2_with fail
    refine H4.out.mono ?_
    rintro e x1 ⟨rfl, rfl⟩
    go_wp2_with fail
    refine HA.out.mono ?_
    rintro e x1 ⟨rfl, k1⟩
    have K1 := Lib.hid k1
    clear k1 HA
    go_wp2_with fail
    go_ret
    exact ⟨rfl, K1.out⟩
end Go.Proofs.YtpnjblledbihcaaDoor.Sh
