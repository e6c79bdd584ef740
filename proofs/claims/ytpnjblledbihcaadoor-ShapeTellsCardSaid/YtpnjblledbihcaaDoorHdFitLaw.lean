/-
  What the law HeadFits says, in numbers.
-/
import Derived.Test.YtpnjblledbihcaaDoorHdOfLaw
namespace Go.Proofs.YtpnjblledbihcaaDoor.Hd
open Go.RowKit Go.Proofs.YtpnjblledbihcaaDoor.Ar
set_option linter.unusedVariables false
open Go.Proofs.YtpnjblledbihcaaDoor.Tb (Ty Tab Seen Made NewPost RowPost newF newF_len addE sizeT sizeE hasT getT)

/-- An object that is possible: its header is valid, and what it is. -/
theorem of_facts {l : List Ty} {i n : Int} (h : sizeE l i n = 0) (hl : l.length ≤ 64) : ∃ sz, ofL l i n = ⟨1, i, n, sz⟩ ∧ 1 ≤ sz ∧ sz ≤ 40000 ∧ 1 ≤ i ∧ i ≤ 64 ∧ 0 ≤ n ∧ n ≤ 4096 := by
  unfold ofL ofH
  rw [if_pos h]
  unfold sizeT
  unfold sizeE at h
  have hh : hasT l i = true := by
    cases hx : hasT l i with
    | true => rfl
    | false => rw [hx, if_neg (by decide)] at h; exact absurd h (by decide)
  rw [hh] at h ⊢
  simp only [if_true] at h ⊢
  have hi := of_decide_eq_true hh
  refine ⟨_, rfl, ?_⟩
  obtain ⟨b0, b1⟩ := Kd.slots_bound h
  have hn : 0 ≤ n ∧ n ≤ 4096 := by
    unfold Kd.err at h
    split at h
    · cases h
    · split at h
      · cases h
      · omega
  unfold Kd.sizeR
  rw [if_pos h]
  omega
theorem fit_of {l : List Ty} {i n sz : Int} (ho : ofL l i n = ⟨1, i, n, sz⟩) (he : sizeE l i n = 0) (c : (Hd.mk 1 i n sz).can) : fitL l ⟨1, i, n, sz⟩ = 0 := by
  unfold fitL fitE
  simp only
  rw [if_neg (fun h => h c), if_neg (by simp), ho, he, if_neg (by simp)]
theorem fit_more {l : List Ty} {i n sz k : Int} (ho : ofL l i n = ⟨1, i, n, sz⟩) (hk : k ≠ 0) (c : (Hd.mk 1 i n (sz + k)).can) : fitL l ⟨1, i, n, sz + k⟩ = 8 := by
  unfold fitL fitE
  simp only
  rw [if_neg (fun h => h c), if_neg (by simp), ho, if_pos]
  refine .inr fun e => ?_
  have : sz = sz + k := by injection e
  omega
theorem fit_none {l : List Ty} {j n sz : Int} (hj : (l.length : Int) < j) (c : (Hd.mk 1 j n sz).can) : fitL l ⟨1, j, n, sz⟩ = 8 := by
  unfold fitL fitE
  simp only
  rw [if_neg (fun h => h c), if_neg (by simp), if_pos]
  refine .inl ?_
  unfold sizeE hasT
  rw [decide_eq_false (by omega), if_neg (by decide)]
  decide
theorem fit_gap (o : Hd) (oe k : Int) (c : (Hd.mk 2 0 0 k).can) : fitE o oe ⟨2, 0, 0, k⟩ = 0 := by
  unfold fitE
  rw [if_neg (fun h => h c), if_pos (by simp)]
theorem can_obj {i n z : Int} (h0 : 1 ≤ i) (h1 : i ≤ 4095) (h2 : 0 ≤ n) (h3 : n ≤ 16777215) (h4 : 1 ≤ z) (h5 : z ≤ 16777215) : (Hd.mk 1 i n z).can := ⟨⟨h4, h5, h2, h3⟩, .inl ⟨rfl, h0, h1⟩⟩
theorem can_gap {z : Int} (h4 : 1 ≤ z) (h5 : z ≤ 16777215) : (Hd.mk 2 0 0 z).can := ⟨⟨h4, h5, (by decide : (0 : Int) ≤ 0), (by decide : (0 : Int) ≤ 16777215)⟩, .inr ⟨.inl rfl, rfl, rfl⟩⟩
end Go.Proofs.YtpnjblledbihcaaDoor.Hd
