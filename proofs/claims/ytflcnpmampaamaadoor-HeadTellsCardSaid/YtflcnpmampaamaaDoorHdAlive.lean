/-
  The chapter's examples: alive.
-/
import Derived.Test.YtflcnpmampaamaaDoorHdCode
namespace Go.Proofs.YtflcnpmampaamaaDoor.Hd
open Go.RowKit Go.Proofs.YtflcnpmampaamaaDoor.Ar
set_option linter.unusedVariables false

section
variable {w : World}
theorem enc_num (h : Fields w) (g t n s u er : Int) (ok : (Hd.mk g t n s).ok) (e1 : encW ⟨g, t, n, s⟩ = u) (e2 : errH ⟨g, t, n, s⟩ = er) : Calls Tryd.prog 7 #[.agg #[.int .u8 g, .int .i64 t, .int .i64 n, .int .i64 s]] w fun e w' => e = .returned (.tuple #[.int .u64 u, .int .i64 er]) ∧ Kept [] w w' := by
  subst e1; subst e2
  exact encode_ok h ⟨g, t, n, s⟩ ok
theorem dec_zero (h : Fields w) : Calls Tryd.prog 9 #[.int .u64 0] w fun e w' => e = .returned (.tuple #[.agg #[.int .u8 0, .int .i64 0, .int .i64 0, .int .i64 0], .int .i64 7]) ∧ Kept [] w w' := by
  have e : isHead 0 = false := by decide
  have hd := decode_ok h 0 (by decide) (by decide)
  rw [(dec_no e).1, (dec_no e).2] at hd
  exact hd
set_option maxRecDepth 100000 in
set_option maxHeartbeats 1000000 in
theorem alive_ok (h : Fields w) : Calls Tryd.prog 12 #[] w fun e w' => e = .returned (.bool true) ∧ Kept [] w w' := by
  have H1 := Lib.hid (fun y (k : Kept [] w y) => enc_num (h.keep0 k) 3 0 0 1 1099511627779 0 (by constructor <;> decide) (by decide) (by decide))
  have H2 := Lib.hid (fun y (k : Kept [] w y) => enc_num (h.keep0 k) 1 2 3 2 2199023452169 0 (by constructor <;> decide) (by decide) (by decide))
  have H3 := Lib.hid (fun y (k : Kept [] w y) => dec_zero (h.keep0 k))
  have H4 := Lib.hid (fun y (k : Kept [] w y) => enc_num (h.keep0 k) 3 1 0 1 0 2 (by constructor <;> decide) (by decide) (by decide))
  clear h
  go_enter Tryd.func12, Tryd.ntmps12
  go_wp2_with fail
  refine (H1.out _ (Kept.refl [] w)).mono ?_
  rintro e x1 ⟨rfl, k1⟩
  have K1 := Lib.hid k1
  clear k1 H1
  go_wp2_with fail
  refine (H2.out _ K1.out).mono ?_
  rintro e x2 ⟨rfl, k2⟩
  have K2 := Lib.hid (K1.out.trans k2)
  clear k2 H2 K1
  go_wp2_with fail
  refine (H3.out _ K2.out).mono ?_
  rintro e x3 ⟨rfl, k3⟩
  have K3 := Lib.hid (K2.out.trans k3)
  clear k3 H3 K2
  go_wp2_with fail
  refine (H4.out _ (K3.out.alloc _)).mono ?_
  rintro e x4 ⟨rfl, k4⟩
  have K4 := Lib.hid ((K3.out.alloc _).trans k4)
  clear k4 H4 K3
  go_wp2_with fail
  go_ret
  exact ⟨rfl, K4.out⟩
end
end Go.Proofs.YtflcnpmampaamaaDoor.Hd
