/-
  The walk of the law ArenaNil.
-/
import Derived.Test.YtaginjpdpjehoaaArAlive
namespace Go.Proofs.Ytaginjpdpjehoaa.Ar
open Go.RowKit

set_option maxRecDepth 100000 in
set_option maxHeartbeats 800000 in
theorem nil_walk (d a t n v : Int) (w : World) : Calls Try.prog 6 #[.agg #[.int .i64 d, .int .i64 a, .int .i64 t, .int .i64 n, .int .u64 v]] w fun e w' => e = .returned (.bool true) ∧ Kept [] w w' := by
  have HA := Lib.hid alive_any
  have hk := (Kept.refl [] w).alloc (.cells #[.int .i64 d, .int .i64 a, .int .i64 t, .int .i64 n, .int .u64 v] 34)
  have HK := Lib.hid hk
  clear hk
  go_enter Try.func6, Try.ntmps6
  go_wp2_with fail
  refine (load_nil a _).mono ?_; rintro e w' ⟨rfl, rfl⟩
  go_wp2_with fail
  refine (words_nil a n _).mono ?_; rintro e w' ⟨rfl, rfl⟩
  go_wp2_with fail
  refine (len_nil _).mono ?_; rintro e w' ⟨rfl, rfl⟩
  go_wp2_with fail
  refine (store_nil a v _).mono ?_; rintro e w' ⟨rfl, rfl⟩
  go_wp2_with fail
  refine (move_nil t a n _).mono ?_; rintro e w' ⟨rfl, rfl⟩
  go_wp2_with fail
  refine (fill_nil a n v _).mono ?_; rintro e w' ⟨rfl, rfl⟩
  go_wp2_with fail
  refine (writes_nil _).mono ?_; rintro e w' ⟨rfl, rfl⟩
  go_wp2_with fail
  refine (copy_nil _).mono ?_; rintro e w' ⟨rfl, rfl⟩
  go_wp2_with fail
  refine (HA.out _).mono ?_; rintro e w' ⟨rfl, hk⟩
  have HK2 := Lib.hid (HK.out.trans hk)
  clear hk HK
  go_wp2_with fail
  go_ret
  exact ⟨rfl, HK2.out⟩
end Go.Proofs.Ytaginjpdpjehoaa.Ar
