/-
  The contract of Copy.
-/
import Derived.Test.YtijlaganpnoefaaDoorBtRuns
import Derived.Laws.CopyOwn
import Derived.Deep.RegionHeld3
import Derived.Stop.RegionWithIn
namespace Go.Proofs.YtijlaganpnoefaaDoor.Bt
open Go.RowKit Go.Proofs.YtijlaganpnoefaaDoor.Ar Go.Proofs.YtijlaganpnoefaaDoor.Wd
set_option linter.unusedVariables false

theorem copy_nil (w : World) : Calls Tryd.prog 26 #[.pointer none] w fun e w' => e = .returned (.pointer none) ∧ Kept [] w w' := by
  go_enter Tryd.func26, Tryd.ntmps26
  go_wp2_with fail
  go_ret
  exact ⟨rfl, Kept.refl _ _⟩
theorem Means.front' {bs : List Bool} {ws ws' : List Int} (h : Means bs ws) (k : Nat) (hk : (bs.length + 63) / 64 ≤ k) (e : ∀ j, j < k → ws'.getD j 0 = ws.getD j 0) : Means bs ws' := fun i hi => by
  rw [e (i / 64) (by omega)]
  exact h i hi
theorem wpIn_value2 {P : Program} {r : Option Nat} {m : Nat} {o : Oper} {a : Act} {K : Act → World → Prop} {Q : Exit → Act → World → Prop} {w w2 : World} {v : Value} (hp : Rk.plainB o = true) (hr : (execOp a.eval o).run P w = .ok (.value v) w2) (h : K (a.put o.dst v) w2) : o.wpIn (Rk.fence r) m P a w K Q := by
  refine ⟨fun _ _ => trivial, ?_⟩
  rw [Oper.semAt_eq _ _ _ (Rk.plainB_defer hp), hr]
  exact h
set_option maxHeartbeats 1000000 in
theorem copy_ok (bs : List Bool) (p q : Nat) (w : World) (hv : Bv w p q bs) :
    Calls Tryd.prog 26 #[.pointer (some ⟨p, 0, none⟩)] w fun e w' => e = .returned (.pointer (some ⟨w.heap.size + 1, 0, none⟩)) ∧ Bv w' (w.heap.size + 1) w.heap.size bs ∧ Kept [] w w' := by
  obtain ⟨ws, hV, hM⟩ := hv
  have hf := hV.few
  have hsz := hV.size
  have Hvec := Lib.hid (vector_ok bs.length hf w)
  have HV := Lib.hid hV
  have HM := Lib.hid hM
  clear hV hM
  go_enter Tryd.func26, Tryd.ntmps26
  go_wp2_with fail
  refine (Hvec.out).mono ?_
  rintro e w1 ⟨rfl, hV1, hk1⟩
  have c1 := hV1.slice
  have c2 := (HV.out.keep0 hk1).slice
  obtain ⟨nw, hnw⟩ : ∃ nw, nw = (bs.length + 63) / 64 := ⟨_, rfl⟩
  obtain ⟨zs, hzs⟩ : ∃ zs, zs = List.replicate 1024 (0 : Int) := ⟨_, rfl⟩
  rw [← hzs] at hV1
  clear hzs Hvec
  have hzl := hV1.len
  rw [← hnw] at c1 c2
  have hrow1 : w1.heap[w.heap.size]? = some (.cells (ints zs).toArray 81 (0, 0)) := hV1.row
  have hwsl := HV.out.len
  have hlen : ((ints ws).take nw).length = nw := by rw [List.length_take, ints_length, hwsl]; omega
  have hsrc : ∀ nq j v, ((ints ws).take nw)[j]? = some v → (w1.drewN nq).cell? ((⟨q, 0, none⟩ : Addr).add j) = some v := fun nq j v hj => by
    rw [add_at, Nat.zero_add]
    show w1.cell? ⟨q, j, none⟩ = some v
    rw [(HV.out.keep0 hk1).row.cell]
    rw [List.getElem?_take] at hj
    split at hj
    · exact hj
    · cases hj
  have hone : ∀ v ∈ (ints ws).take nw, v.oneCell' = true := fun v hv => ints_one ws v (List.mem_of_mem_take hv)
  have hrun := fun nq => run_copy_row (P := Tryd.prog) (w1.drewN nq) 66 66 3 78 w.heap.size 0 nw 1024 ⟨q, 0, none⟩ nw 1024 (ints zs).toArray 81 ((ints ws).take nw) Tryd.underlying66 size_u64 hrow1 (by rw [hlen]; exact (Nat.min_self _).symm) (hsrc nq) (by rw [hlen, List.size_toArray, ints_length, hzl]; omega) hone
  rw [hlen] at hrun
  have Hrun := Lib.hid hrun
  obtain ⟨R, hR⟩ : ∃ R, R = ws.take nw ++ zs.drop nw := ⟨_, rfl⟩
  have hRi : ints R = (ints ws).take nw ++ (ints zs).drop nw := by
    rw [hR]
    unfold ints
    rw [List.map_append, List.map_take, List.map_drop]
  have HR := Lib.hid hR
  have HRi := Lib.hid hRi
  have HV1 := Lib.hid hV1
  have Hk1 := Lib.hid hk1
  have Hnw := Lib.hid hnw
  clear hrow1 hlen hsrc hone hrun hR hRi hV1 hk1 hnw hwsl
  go_wp2_with fail
  refine (wpIn_wide (n := 5)).1 ?_
  refine Rk.wpIn_head (r := none) (C := fun w' => ∃ n, w' = w1.drewN n) 8 (by kernel_rfl) (by kernel_rfl) ⟨1, rfl⟩ ?_
  simp only [List.take_succ_cons, List.take_zero, List.drop_succ_cons, List.drop_zero]
  repeat (quiet_step (fail))
  refine wpQuiet_nil ?_
  rintro _ ⟨nq, rfl⟩
  unfold wpListIn
  rw [if_pos (Rk.wanted_of rfl _)]
  refine wpIn_value2 (v := .int .i64 (nw : Int)) (w2 := (w1.drewN nq).setRow w.heap.size (ints R).toArray) rfl (by
    have h := Hrun.out nq
    simp [go_sem, h]
    rw [HRi.out]) ?_
  show Exit.then _ _ _ _ _
  go_wp2_with fail
  go_ret
  have hg : ∀ j, R.getD j 0 = if j < nw then ws.getD j 0 else zs.getD j 0 := fun j => by
    have hw := HV.out.len
    have hz := HV1.out.len
    have hn := Hnw.out
    rw [HR.out, List.getD, List.getElem?_append, List.length_take, List.getElem?_take, List.getElem?_drop]
    by_cases hj : j < nw
    · rw [if_pos (by omega), if_pos hj, if_pos hj]
      rfl
    · rw [if_neg (by omega), if_neg hj, show nw + (j - min nw ws.length) = j by omega]
      rfl
  have hq := ((HV1.out.row.drewN nq).row (ints R))
  have hp := (HV1.out.head.drewN nq).otherRow w.heap.size (by omega) (ints R).toArray
  refine ⟨rfl, ⟨R, ⟨hp, hq, ?_, hf, fun j => ?_⟩, HM.out.front' nw (by rw [Hnw.out]; exact Nat.le_refl _) fun j hj => by rw [hg j, if_pos hj]⟩, (Hk1.out.drewN nq).setRow _ _ (.inr (Nat.le_refl _))⟩
  · have hw := HV.out.len
    have hn := Hnw.out
    rw [HR.out, List.length_append, List.length_take, List.length_drop]
    omega
  · rw [hg j]
    split
    · exact HV.out.word j
    · exact HV1.out.word j
end Go.Proofs.YtijlaganpnoefaaDoor.Bt
