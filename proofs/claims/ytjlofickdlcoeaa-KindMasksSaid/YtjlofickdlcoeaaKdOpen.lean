/-
  How the arguments of layer 5's laws read: a type.
-/
import Derived.Test.YtjlofickdlcoeaaProg
import Derived.Test.YtjlofickdlcoeaaWf
import Derived.Test.YtjlofickdlcoeaaMem
import Derived.ProofKit
import Derived.OpenShut
import Derived.ChangeOld
import Derived.Deep.Slices
import Derived.Deep.Fields
namespace Go.Proofs.Ytjlofickdlcoeaa.Kd
open Go.Proofs.Ytjlofickdlcoeaa.Ar Go.RowKit Go.ChangeShapes Go.WideShapes

section
variable {H : Type} {enc : TypeId × Value → H} {w : World} {base : Nat} {spare : Nat → Bool} {held : Bool} {fuel : Nat}

/-- A type: Kind, Words, Mask. -/
structure Tin where
  k : Nat
  wd : Int
  ms : Nat
def Tin.ok (s : Tin) : Prop := s.k < 256 ∧ s.ms < 18446744073709551616
def Tin.cells (s : Tin) : List Value := [.int .u8 (s.k : Int), .int .i64 s.wd, .int .u64 (s.ms : Int)]
theorem u8_of_wf {n : Int} (h : (Lit.int .u8 n).wf = true) : 0 ≤ n ∧ n < 256 := by
  simp [Lit.wf, IntKind.min, IntKind.max, IntKind.signed, IntKind.bits] at h
  omega
theorem type_of {cs : List Value} {x : DataW H × List MemPlace} (h : DataW.trod enc Try.prog w base spare held fuel 24 cs = some x) : ∃ s : Tin, cs = s.cells ∧ s.ok := by
  obtain ⟨xs, m, _, _, hlen, hxl, hf⟩ := DataW.trod_struct Try.underlying24 h
  have hC : Try.prog.cellsOf 24 = 3 := by kernel_rfl
  have hI : Try.prog.cellsOf 3 = 1 := by kernel_rfl
  have hU : Try.prog.cellsOf 5 = 1 := by kernel_rfl
  have hM : Try.prog.cellsOf 22 = 1 := by kernel_rfl
  rw [hC] at hlen
  match cs, hlen, xs, hxl with
  | [c0, c1, c2], _, [y0, y1, y2], _ =>
    have g0 := hf 0 _ rfl
    have g1 := hf 1 _ rfl
    have g2 := hf 2 _ rfl
    simp [hI, hU, hM] at g0 g1 g2
    obtain ⟨a, e0, _, w0⟩ := DataW.trod_int Try.underlying5 g0
    obtain ⟨b, e1, _, w1⟩ := DataW.trod_int Try.underlying3 g1
    obtain ⟨c, e2, _, w2⟩ := DataW.trod_int Try.underlying22 g2
    simp at e0 e1 e2
    subst e0 e1 e2
    have b0 := u8_of_wf w0
    have b2 := u64_of_wf w2
    obtain ⟨k, rfl⟩ := Int.eq_ofNat_of_zero_le b0.1
    obtain ⟨mk, rfl⟩ := Int.eq_ofNat_of_zero_le b2.1
    exact ⟨⟨k, b, mk⟩, rfl, show k < 256 by omega, show mk < _ by omega⟩
end
end Go.Proofs.Ytjlofickdlcoeaa.Kd
