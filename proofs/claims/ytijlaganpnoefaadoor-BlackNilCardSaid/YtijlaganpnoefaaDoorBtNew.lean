/-
  A new vector: all of its bits are clear.
-/
import Derived.Test.YtijlaganpnoefaaDoorBtCount
namespace Go.Proofs.YtijlaganpnoefaaDoor.Bt
open Go.RowKit Go.Proofs.YtijlaganpnoefaaDoor.Ar Go.Proofs.YtijlaganpnoefaaDoor.Wd
set_option linter.unusedVariables false

theorem zeroMeans (n : Nat) : Means (List.replicate n false) (List.replicate 1024 0) := fun i hi => by
  rw [List.length_replicate] at hi
  have h1 : bit (List.replicate n false) i = false := by
    unfold bit
    rw [List.getD, List.getElem?_replicate]
    split <;> rfl
  have h2 : (List.replicate 1024 (0 : Int)).getD (i / 64) 0 = 0 := by
    rw [List.getD, List.getElem?_replicate]
    split <;> rfl
  rw [h1, h2]
  exact (Nat.zero_testBit _).symm
theorem newBv_ok (n : Nat) (hn : n ≤ 65536) (w : World) :
    Calls Tryd.prog 25 #[.int .i64 n] w fun e w' => e = .returned (.tuple #[.pointer (some ⟨w.heap.size + 1, 0, none⟩), .int .i64 0]) ∧ Bv w' (w.heap.size + 1) w.heap.size (List.replicate n false) ∧ Kept [] w w' :=
  (new_ok n hn w).mono fun _ _ ⟨he, hv, hk⟩ => ⟨he, ⟨_, by rw [List.length_replicate]; exact hv, zeroMeans n⟩, hk⟩
end Go.Proofs.YtijlaganpnoefaaDoor.Bt
