/-
  How an argument that is a row of words, or of bytes, reads.
-/
import Derived.Test.YtpnjblledbihcaaDoorOpenWords
import Derived.Test.YtpnjblledbihcaaDoorHdOpen
import Derived.Test.YtpnjblledbihcaaDoorShKeepsLaw
namespace Go.Proofs.YtpnjblledbihcaaDoor.Sh
open Go.RowKit Go.ChangeShapes Go.WideShapes Go.Proofs.YtpnjblledbihcaaDoor.Ar
set_option linter.unusedVariables false

section
variable {H : Type} {enc : TypeId × Value → H} {w : World} {base : Nat} {spare : Nat → Bool} {held : Bool} {fuel : Nat}
theorem row_of {A : Option Addr} {len cap : Nat} {x : DataW H × List MemPlace} (h : DataW.trod enc Tryd.prog w base spare held fuel 28 (Value.cells (.slice A len cap)).toList = some x) :
    ∃ l : List Int, l.length = len ∧ len ≤ cap ∧ cap ≤ maxLen ∧ Seen w A l ∧ (A = none → cap = 0) ∧ Wm l := by
  obtain ⟨l, h1, h2, h3, h4, h5⟩ := words_of h
  refine ⟨l, h1, h2, h3, h4, ?_, h5⟩
  rcases open_ints Tryd.underlying28 Tryd.underlying22 (by kernel_rfl) h with ⟨hcs, _⟩ | ⟨a, l, c, zs, hcs, _⟩
  · simp [Value.cells] at hcs
    exact fun _ => hcs.2.2
  · simp [Value.cells] at hcs
    rintro rfl
    cases hcs.1
set_option maxRecDepth 100000 in
theorem bytes_of {A : Option Addr} {len cap : Nat} {x : DataW H × List MemPlace} (h : DataW.trod enc Tryd.prog w base spare held fuel 72 (Value.cells (.slice A len cap)).toList = some x) :
    ∃ l : List Int, l.length = len ∧ len ≤ cap ∧ cap ≤ maxLen ∧ SeenB w A l ∧ ∀ v ∈ l, 0 ≤ v ∧ v ≤ 255 := by
  rcases open_ints Tryd.underlying72 Tryd.underlying5 (by kernel_rfl) h with ⟨hcs, _⟩ | ⟨a, l, c, zs, hcs, _, hl, hm, hz, _, hcell, hwz⟩
  · simp [Value.cells] at hcs
    obtain ⟨rfl, rfl, rfl⟩ := hcs
    exact ⟨[], rfl, Nat.le_refl _, by unfold maxLen; omega, fun hne => absurd rfl hne, fun v hv => by cases hv⟩
  · simp [Value.cells] at hcs
    obtain ⟨rfl, rfl, rfl⟩ := hcs
    have hzl : len ≤ zs.length := by rw [hz]; split <;> omega
    refine ⟨zs.take len, by rw [List.length_take]; omega, hl, hm, fun hne => ?_, fun v hv => Hd.u8_of_wf (hwz v (List.mem_of_mem_take hv))⟩
    have h0 : 0 < len := by
      rcases Nat.eq_zero_or_pos len with h | h
      · subst h; exact absurd (by simp) hne
      · exact h
    have hc := hcell 0 (by omega)
    obtain ⟨g, f, s⟩ := a
    have hs : s = none := by simpa [Addr.add] using World.cell?_spot hc
    subst hs
    have hg : g < w.heap.size := by simpa [Addr.add] using World.block_lt_of_cell? w _ hc
    refine ⟨g, f, rfl, fun y hy j hj => ?_⟩
    have hj' : j < len := by rw [List.length_take] at hj; omega
    have hcj := hcell j (by omega)
    rw [add_at] at hcj
    rw [World.cell?_of_block (w := w) (hy.old g hg (by simp)), hcj]
    congr 2
    rw [List.getD_eq_getElem?_getD, List.getD_eq_getElem?_getD, List.getElem?_take_of_lt hj']
end
end Go.Proofs.YtpnjblledbihcaaDoor.Sh
