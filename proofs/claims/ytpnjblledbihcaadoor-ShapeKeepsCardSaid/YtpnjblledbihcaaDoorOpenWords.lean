/-
  How an argument that is a row of words reads.
-/
import Derived.Test.YtpnjblledbihcaaDoorWordRow
import Derived.Test.YtpnjblledbihcaaDoorWf
import Derived.ProofKit
import Derived.OpenShut
import Derived.ChangeOld
namespace Go.Proofs.YtpnjblledbihcaaDoor.Ar
open Go.RowKit Go.ChangeShapes Go.WideShapes

section
variable {H : Type} {enc : TypeId × Value → H} {w : World} {base : Nat} {spare : Nat → Bool} {held : Bool} {fuel : Nat}
/-- A row of words that came in. -/
theorem words_of {A : Option Addr} {len cap : Nat} {x : DataW H × List MemPlace} (h : DataW.trod enc Tryd.prog w base spare held fuel 28 (Value.cells (.slice A len cap)).toList = some x) :
    ∃ l : List Int, l.length = len ∧ len ≤ cap ∧ cap ≤ maxLen ∧ Seen w A l ∧ ∀ v ∈ l, 0 ≤ v ∧ v < 18446744073709551616 := by
  rcases open_ints Tryd.underlying28 Tryd.underlying22 (by kernel_rfl) h with ⟨hcs, _⟩ | ⟨a, l, c, zs, hcs, _, hl, hm, hz, _, hcell, hwz⟩
  · simp [Value.cells] at hcs
    obtain ⟨rfl, rfl, rfl⟩ := hcs
    exact ⟨[], rfl, Nat.le_refl _, by unfold maxLen; omega, fun hne => absurd rfl hne, fun v hv => by cases hv⟩
  · simp [Value.cells] at hcs
    obtain ⟨rfl, rfl, rfl⟩ := hcs
    have hzl : len ≤ zs.length := by rw [hz]; split <;> omega
    refine ⟨zs.take len, by rw [List.length_take]; omega, hl, hm, fun hne => ?_, fun v hv => u64_of_wf (hwz v (List.mem_of_mem_take hv))⟩
    have h0 : 0 < len := by
      rcases Nat.eq_zero_or_pos len with h | h
      · subst h; exact absurd (by simp) hne
      · exact h
    have hc := hcell 0 (by omega)
    obtain ⟨g, f, s⟩ := a
    have hs : s = none := by simpa [Addr.add] using World.cell?_spot hc
    subst hs
    refine ⟨g, f, rfl, by simpa [Addr.add] using World.block_lt_of_cell? w _ hc, fun j v hv => ?_⟩
    unfold ints at hv
    rw [List.getElem?_map, List.getElem?_take] at hv
    by_cases hj : j < len
    · rw [if_pos hj, List.getElem?_eq_getElem (by omega)] at hv
      have hcj := hcell j (by omega)
      rw [add_at] at hcj
      rw [hcj]
      simpa [List.getD, List.getElem?_eq_getElem (show j < zs.length by omega)] using hv
    · rw [if_neg hj] at hv
      cases hv
end
end Go.Proofs.YtpnjblledbihcaaDoor.Ar
