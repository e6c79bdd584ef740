/-
  How the arguments of layer 4's laws read: a run, a row of Steps.
-/
import Derived.Test.YtbgonppichdhiaaProg
import Derived.Test.YtbgonppichdhiaaWf
import Derived.Test.YtbgonppichdhiaaMem
import Derived.ProofKit
import Derived.OpenShut
import Derived.ChangeOld
import Derived.Deep.Slices
import Derived.Deep.Fields
namespace Go.Proofs.Ytbgonppichdhiaa.Rn
open Go.Proofs.Ytbgonppichdhiaa.Ar Go.RowKit Go.ChangeShapes Go.WideShapes

section
variable {H : Type} {enc : TypeId × Value → H} {w : World} {base : Nat} {spare : Nat → Bool} {held : Bool} {fuel : Nat}

/-- A run: At, Len. -/
structure Rin where
  a : Int
  n : Int
def Rin.ok (s : Rin) : Prop := (-9223372036854775808 ≤ s.a ∧ s.a ≤ 9223372036854775807) ∧ (-9223372036854775808 ≤ s.n ∧ s.n ≤ 9223372036854775807)
def Rin.cells (s : Rin) : List Value := [.int .i64 s.a, .int .i64 s.n]
theorem run_of {cs : List Value} {x : DataW H × List MemPlace} (h : DataW.trod enc Try.prog w base spare held fuel 29 cs = some x) : ∃ s : Rin, cs = s.cells ∧ s.ok := by
  obtain ⟨xs, m, _, _, hlen, hxl, hf⟩ := DataW.trod_struct Try.underlying29 h
  have hC : Try.prog.cellsOf 29 = 2 := by kernel_rfl
  have hI : Try.prog.cellsOf 3 = 1 := by kernel_rfl
  rw [hC] at hlen
  match cs, hlen, xs, hxl with
  | [c0, c1], _, [y0, y1], _ =>
    have g0 := hf 0 _ rfl
    have g1 := hf 1 _ rfl
    simp [hI] at g0 g1
    obtain ⟨a, e0, _, w0⟩ := DataW.trod_int Try.underlying3 g0
    obtain ⟨n, e1, _, w1⟩ := DataW.trod_int Try.underlying3 g1
    simp at e0 e1
    subst e0 e1
    exact ⟨⟨a, n⟩, rfl, i64_of_wf w0, i64_of_wf w1⟩
/-- A step: Do, R. -/
structure Stp where
  d : Int
  a : Int
  n : Int
def Stp.ok (s : Stp) : Prop := (-9223372036854775808 ≤ s.d ∧ s.d ≤ 9223372036854775807) ∧ (-9223372036854775808 ≤ s.a ∧ s.a ≤ 9223372036854775807) ∧ (-9223372036854775808 ≤ s.n ∧ s.n ≤ 9223372036854775807)
def Stp.cells (s : Stp) : List Value := [.int .i64 s.d, .int .i64 s.a, .int .i64 s.n]
theorem step_of {cs : List Value} {x : DataW H × List MemPlace} (h : DataW.trod enc Try.prog w base spare held fuel 31 cs = some x) : ∃ s : Stp, cs = s.cells ∧ s.ok := by
  obtain ⟨xs, m, _, _, hlen, hxl, hf⟩ := DataW.trod_struct Try.underlying31 h
  have hC : Try.prog.cellsOf 31 = 3 := by kernel_rfl
  have hI : Try.prog.cellsOf 3 = 1 := by kernel_rfl
  have hR : Try.prog.cellsOf 29 = 2 := by kernel_rfl
  rw [hC] at hlen
  match cs, hlen, xs, hxl with
  | [c0, c1, c2], _, [y0, y1], _ =>
    have g0 := hf 0 _ rfl
    have g1 := hf 1 _ rfl
    simp [hI, hR] at g0 g1
    obtain ⟨d, e0, _, w0⟩ := DataW.trod_int Try.underlying3 g0
    obtain ⟨r, e1, w1⟩ := run_of g1
    simp at e0
    unfold Rin.cells at e1
    simp at e1
    obtain ⟨e1, e2⟩ := e1
    subst e0 e1 e2
    exact ⟨⟨d, r.a, r.n⟩, rfl, i64_of_wf w0, w1.1, w1.2⟩

/-- A row of steps that came in. -/
def Steps (w : World) (A : Option Addr) (L : List Stp) : Prop := L ≠ [] → ∃ g f, A = some ⟨g, f, none⟩ ∧ g < w.heap.size ∧ ∀ i s, L[i]? = some s → ∀ j v, s.cells[j]? = some v → w.cell? ⟨g, f + (i * 3 + j), none⟩ = some v
theorem exists_list {P : Nat → Stp → Prop} : ∀ n : Nat, (∀ i, i < n → ∃ s, P i s) → ∃ L : List Stp, L.length = n ∧ ∀ i s, L[i]? = some s → P i s
  | 0, _ => ⟨[], rfl, fun i s h => by simp at h⟩
  | n + 1, h => by
    obtain ⟨L, hL, hP⟩ := exists_list n fun i hi => h i (by omega)
    obtain ⟨s, hs⟩ := h n (by omega)
    refine ⟨L ++ [s], by simp [hL], fun i t ht => ?_⟩
    by_cases hi : i < L.length
    · rw [List.getElem?_append_left hi] at ht
      exact hP i t ht
    · rw [List.getElem?_append_right (by omega)] at ht
      have hin : i = n := by
        rcases Nat.lt_or_ge (i - L.length) 1 with h1 | h1
        · omega
        · rw [List.getElem?_eq_none (by simpa using h1)] at ht; cases ht
      subst hin
      rw [hL, Nat.sub_self] at ht
      simp at ht
      subst ht
      exact hs
theorem steps_of {A : Option Addr} {len cap : Nat} {x : DataW H × List MemPlace} (h : DataW.trod enc Try.prog w base spare held fuel 22 (Value.cells (.slice A len cap)).toList = some x) :
    ∃ L : List Stp, L.length = len ∧ len ≤ cap ∧ cap ≤ maxLen ∧ Steps w A L ∧ ∀ s ∈ L, s.ok := by
  have hC : Try.prog.cellsOf 31 = 3 := by kernel_rfl
  rcases Go.Deep.open_slice Try.underlying22 h with ⟨hcs, _⟩ | ⟨a, l, c, m, n, D, Pl, hcs, _, hl, hm, hmm, _, hx⟩
  · simp [Value.cells] at hcs
    obtain ⟨rfl, rfl, rfl⟩ := hcs
    exact ⟨[], rfl, Nat.le_refl _, by unfold maxLen; omega, fun hne => absurd rfl hne, fun v hv => by cases hv⟩
  · simp [Value.cells] at hcs
    obtain ⟨rfl, rfl, rfl⟩ := hcs
    have hlm : len ≤ m := by rw [hmm]; split <;> omega
    obtain ⟨L, hL, hP⟩ := exists_list (P := fun i s => s.ok ∧ ∀ j v, s.cells[j]? = some v → w.cell? ((a.add (i * 3)).add j) = some v) len fun i hi => by
      obtain ⟨cs, h1, h2⟩ := hx i (by omega)
      obtain ⟨s, rfl, hs⟩ := step_of h2
      obtain ⟨_, hlen, hcell⟩ := World.cells?_some h1
      rw [hC] at hcell
      refine ⟨s, hs, fun j v hv => ?_⟩
      have hj : j < s.cells.length := (List.getElem?_eq_some_iff.1 hv).1
      have e := hcell (i := j) (by simpa [Stp.cells] using hj)
      rw [hv] at e
      exact e
    refine ⟨L, hL, hl, hm, fun hne => ?_, fun s hs => ?_⟩
    · have h0 : 0 < L.length := by
        cases L with
        | nil => exact absurd rfl hne
        | cons => simp
      have hc := (hP 0 L[0] (List.getElem?_eq_getElem h0)).2 0 _ rfl
      obtain ⟨g, f, s⟩ := a
      have hs : s = none := by simpa [Addr.add] using World.cell?_spot hc
      subst hs
      refine ⟨g, f, rfl, by simpa [Addr.add] using World.block_lt_of_cell? w _ hc, fun i s hi j v hv => ?_⟩
      have e := (hP i s hi).2 j v hv
      rw [add_at, add_at, Nat.add_assoc] at e
      exact e
    · obtain ⟨i, hi, rfl⟩ := List.mem_iff_getElem.1 hs
      exact (hP i _ (List.getElem?_eq_getElem hi)).1
end
end Go.Proofs.Ytbgonppichdhiaa.Rn
