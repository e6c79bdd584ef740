/-
  The contracts of a table's methods: Len, Get.
-/
import Derived.Test.YtflcnpmampaamaaDoorTbRow
namespace Go.Proofs.YtflcnpmampaamaaDoor.Tb
open Go.RowKit Go.Proofs.YtflcnpmampaamaaDoor.Ar Go.Maps
set_option linter.unusedVariables false

section
variable {w : World} {p : Nat} {A : Option Addr} {c : Nat} {l : List Ty}
set_option maxRecDepth 100000 in
theorem len_ok (h : Tab w p A c l) :
    Calls Tryd.prog 21 #[.pointer (some ⟨p, 0, none⟩)] w fun e w' => e = .returned (.int .i64 l.length) ∧ Kept [] w w' := by
  have HC := Lib.hid (count_ok h)
  clear h
  go_enter Tryd.func21, Tryd.ntmps21
  go_wp2_with fail
  refine HC.out.mono ?_
  rintro e w1 ⟨rfl, h1⟩
  have H1 := Lib.hid h1
  clear h1
  go_wp2_with fail
  go_ret
  exact ⟨rfl, H1.out⟩
set_option maxRecDepth 100000 in
theorem len_nil (w : World) : Calls Tryd.prog 21 #[.pointer none] w fun e w' => e = .returned (.int .i64 0) ∧ Kept [] w w' := by
  go_enter Tryd.func21, Tryd.ntmps21
  go_wp2_with fail
  go_ret
  exact ⟨rfl, Kept.refl [] w⟩
def errT (b : Bool) : Int := if b then 0 else 3
set_option maxRecDepth 100000 in
set_option maxHeartbeats 1000000 in
theorem get_ok (h : Tab w p A c l) (i : Int) (hi0 : -9223372036854775808 ≤ i) (hi1 : i ≤ 9223372036854775807) :
    Calls Tryd.prog 35 #[.pointer (some ⟨p, 0, none⟩), .int .i64 i] w fun e w' => e = .returned (.tuple #[(getT l i).val, .int .i64 (errT (hasT l i))]) ∧ Kept [] w w' := by
  have HC := Lib.hid (fun x (k : Kept [] w x) => item_ok (h.keep0 k) i hi0 hi1)
  have hk0 : ∀ o, Kept [] w (w.alloc o) := fun o => (Kept.refl [] w).alloc o
  have hb0 : Has (w.alloc (.cells #[.int .u8 0, .int .i64 0, .int .u64 0] 58)) w.heap.size 58 [.int .u8 0, .int .i64 0, .int .u64 0] := Has.new w _ _
  clear h
  have hz0 : hasT l i = false → getT l i = Ty.zero := fun h => if_neg (of_decide_eq_false h)
  generalize hasT l i = b at *
  generalize getT l i = x at *
  unfold Ty.val at *
  have Hb := Lib.hid hb0
  have Hk := Lib.hid (hk0 (.cells #[.int .u8 0, .int .i64 0, .int .u64 0] 58))
  have Hz0 := Lib.hid hz0
  clear hb0 hk0 hz0
  go_enter Tryd.func35, Tryd.ntmps35
  go_wp2_with fail
  refine (HC.out _ Hk.out).mono ?_
  rintro e w1 ⟨rfl, hk1⟩
  have hz := Hb.out.keep0 hk1
  have hk := Hk.out.trans hk1
  clear hk1 HC Hb Hk
  have d0 := fun o => (cells3 (hz.alloc o)).1
  have d1 := fun o => (cells3 (hz.alloc o)).2.1
  have d2 := fun o => (cells3 (hz.alloc o)).2.2
  have f0 := fun o => (free3 (hz.alloc o)).1
  have f1 := fun o => (free3 (hz.alloc o)).2.1
  have f2 := fun o => (free3 (hz.alloc o)).2.2
  have Hz := Lib.hid hz
  have HK := Lib.hid hk
  have HB := Lib.hid (Nat.le_refl w.heap.size)
  clear hz hk
  generalize hB0 : w.heap.size = B at *
  have HB2 : Hid (w.heap.size = B) := Lib.hid hB0
  clear hB0
  cases b with
  | true =>
    go_wp2_with fail
    (try simp only [Exit.inBlock, Exit.then])
    refine ret_ty (w0 := w) (w := w1.alloc _) rfl rfl (Hz.out.alloc _) (HK.out.alloc _) (HB2.out ▸ HB.out) rfl rfl ?_
    exact fun X hX => ⟨rfl, hX⟩
  | false =>
    obtain rfl := Hz0.out rfl
    go_wp2_with fail
    (try simp only [Exit.inBlock, Exit.then])
    refine ret_ty (w0 := w) (w := w1.alloc _) rfl rfl (Hz.out.alloc _) (HK.out.alloc _) (HB2.out ▸ HB.out) rfl rfl ?_
    exact fun X hX => ⟨rfl, hX⟩
set_option maxRecDepth 100000 in
theorem get_nil (w : World) (i : Int) : Calls Tryd.prog 35 #[.pointer none, .int .i64 i] w fun e w' => e = .returned (.tuple #[Ty.zero.val, .int .i64 1]) ∧ Kept [] w w' := by
  have hb0 : Has (w.alloc (.cells #[.int .u8 0, .int .i64 0, .int .u64 0] 58)) w.heap.size 58 [.int .u8 0, .int .i64 0, .int .u64 0] := Has.new w _ _
  go_enter Tryd.func35, Tryd.ntmps35
  go_wp2_with fail
  refine ret_ty0 rfl rfl hb0 rfl rfl ⟨rfl, (Kept.refl [] w).alloc _⟩
end
end Go.Proofs.YtflcnpmampaamaaDoor.Tb
