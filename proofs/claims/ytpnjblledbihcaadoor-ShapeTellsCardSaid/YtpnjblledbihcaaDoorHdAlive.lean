/-
  The chapter's examples: alive.
-/
import Derived.Test.YtpnjblledbihcaaDoorGHd
namespace Go.Proofs.YtpnjblledbihcaaDoor.Hd
open Go.RowKit Go.Proofs.YtpnjblledbihcaaDoor.Ar
set_option linter.unusedVariables false

section
variable {w : World}
theorem enc_num (h : Fields w) (g t n s u er : Int) (ok : (Hd.mk g t n s).ok) (e1 : encW ⟨g, t, n, s⟩ = u) (e2 : errH ⟨g, t, n, s⟩ = er) : Calls Tryd.prog 56 #[.agg #[.int .u8 g, .int .i64 t, .int .i64 n, .int .i64 s]] w fun e w' => e = .returned (.tuple #[.int .u64 u, .int .i64 er]) ∧ Kept [] w w' := by
  subst e1; subst e2
  exact encode_ok h ⟨g, t, n, s⟩ ok
theorem dec_zero (h : Fields w) : Calls Tryd.prog 42 #[.int .u64 0] w fun e w' => e = .returned (.tuple #[.agg #[.int .u8 0, .int .i64 0, .int .i64 0, .int .i64 0], .int .i64 7]) ∧ Kept [] w w' := by
  have e : isHead 0 = false := by decide
  have hd := decode_ok h 0 (by decide) (by decide)
  rw [(dec_no e).1, (dec_no e).2] at hd
  exact hd
end
end Go.Proofs.YtpnjblledbihcaaDoor.Hd
