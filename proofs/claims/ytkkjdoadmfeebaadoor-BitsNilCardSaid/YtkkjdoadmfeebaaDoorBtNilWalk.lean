/-
  What no row answers.
-/
import Derived.Test.YtkkjdoadmfeebaaDoorBtAlive
namespace Go.Proofs.YtkkjdoadmfeebaaDoor.Bt
open Go.RowKit Go.Proofs.YtkkjdoadmfeebaaDoor.Ar Go.Proofs.YtkkjdoadmfeebaaDoor.Wd
set_option linter.unusedVariables false

set_option maxHeartbeats 4000000 in
theorem nil_walk (i n : Int) (i1 : -9223372036854775808 ≤ i) (i2 : i ≤ 9223372036854775807) (n1 : -9223372036854775808 ≤ n) (n2 : n ≤ 9223372036854775807) (w : World) (ht : Table w) :
    Calls Tryd.prog 6 #[.int .i64 i, .int .i64 n] w fun e w' => e = .returned (.bool true) ∧ Kept [] w w' := by
  have HT := Lib.hid ht
  clear ht
  go_enter Tryd.func6, Tryd.ntmps6
  go_wp2_with fail
  refine (next_nil w i i1 i2).mono ?_
  rintro e w1 ⟨rfl, hk⟩
  have Hk1 := Lib.hid hk
  clear hk
  go_wp2_with fail
  refine (nextClear_nil w1 i i1 i2).mono ?_
  rintro e w2 ⟨rfl, hk⟩
  have Hk2 := Lib.hid (Hk1.out.trans hk)
  clear hk
  go_wp2_with fail
  refine (prev_nil w2 i i1 i2).mono ?_
  rintro e w3 ⟨rfl, hk⟩
  have Hk3 := Lib.hid (Hk2.out.trans hk)
  clear hk
  go_wp2_with fail
  refine (count_nil w3 i n).mono ?_
  rintro e w4 ⟨rfl, hk⟩
  have Hk4 := Lib.hid (Hk3.out.trans hk)
  clear hk
  go_wp2_with fail
  refine (len_nil w4).mono ?_
  rintro e w' ⟨rfl, rfl⟩
  go_wp2_with fail
  refine (set_nil w4 i).mono ?_
  rintro e w5 ⟨rfl, hk⟩
  have Hk5 := Lib.hid (Hk4.out.trans hk)
  clear hk
  go_wp2_with fail
  refine (clear_nil w5 i).mono ?_
  rintro e w6 ⟨rfl, hk⟩
  have Hk6 := Lib.hid (Hk5.out.trans hk)
  clear hk
  go_wp2_with fail
  refine (setRun_nil w6 i n).mono ?_
  rintro e w7 ⟨rfl, hk⟩
  have Hk7 := Lib.hid (Hk6.out.trans hk)
  clear hk
  go_wp2_with fail
  refine (clearRun_nil w7 i n).mono ?_
  rintro e w8 ⟨rfl, hk⟩
  have Hk8 := Lib.hid (Hk7.out.trans hk)
  clear hk
  go_wp2_with fail
  refine (has_nil w8 i).mono ?_
  rintro e w9 ⟨rfl, hk⟩
  have Hk9 := Lib.hid (Hk8.out.trans hk)
  clear hk
  go_wp2_with fail
  refine (runs_nil w9).mono ?_
  rintro e w10 ⟨rfl, hk⟩
  have Hk10 := Lib.hid (Hk9.out.trans hk)
  clear hk
  go_wp2_with fail
  refine (copy_nil w10).mono ?_
  rintro e w11 ⟨rfl, hk⟩
  have Hk11 := Lib.hid (Hk10.out.trans hk)
  clear hk
  go_wp2_with fail
  refine (alive_ok w11 (tableKeep HT.out Hk11.out)).mono ?_
  rintro e w12 ⟨rfl, hk⟩
  have Hk12 := Lib.hid (Hk11.out.trans hk)
  clear hk
  go_wp2_with fail
  go_ret
  exact ⟨rfl, Hk12.out⟩
end Go.Proofs.YtkkjdoadmfeebaaDoor.Bt
