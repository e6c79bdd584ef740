/-
  The chapter's examples, which each law of the layer asks besides.
-/
import Derived.Test.YtkkjdoadmfeebaaDoorBtRefRuns
namespace Go.Proofs.YtkkjdoadmfeebaaDoor.Bt
open Go.RowKit Go.Proofs.YtkkjdoadmfeebaaDoor.Ar Go.Proofs.YtkkjdoadmfeebaaDoor.Wd
set_option linter.unusedVariables false

theorem ownR_of_has {w : World} {g : Nat} {rs : List (Nat × Nat)} (h : Has w g 43 (runCells rs)) (hl : rs.length ≤ 65536) : OwnR w (.slice (some ⟨g, 0, none⟩) rs.length rs.length) rs :=
  ⟨runCells_length rs, .inr ⟨g, rs.length, (runCells rs).toArray, rfl, Nat.zero_le _, h, Nat.le_refl _, by unfold maxLen; omega, by rw [List.size_toArray, runCells_length], by
    show ((runCells rs).take (rs.length * 2)) = runCells rs
    rw [← runCells_length, List.take_length]⟩⟩
/-- The example's vector: 70 bits, 62 to 65 set; and with 64 cleared. -/
def ex1 : List Bool := layB (List.replicate 70 false) 62 4 true
def ex2 : List Bool := layB ex1 64 1 false
theorem zeroMeans (n : Nat) : Means (List.replicate n false) (List.replicate 1024 0) := fun i hi => by
  rw [List.length_replicate] at hi
  have h1 : bit (List.replicate n false) i = false := by
    unfold bit
    rw [List.getD, List.getElem?_replicate]
    split <;> rfl
  have h2 : (List.replicate 1024 (0 : Int)).getD (i / 64) 0 = 0 := by
    rw [List.getD, List.getElem?_replicate]
    split <;> rfl
  rw [h1, h2]
  exact (Nat.zero_testBit _).symm
theorem newBv_ok (n : Nat) (hn : n ≤ 65536) (w : World) :
    Calls Tryd.prog 8 #[.int .i64 n] w fun e w' => e = .returned (.tuple #[.pointer (some ⟨w.heap.size + 1, 0, none⟩), .int .i64 0]) ∧ Bv w' (w.heap.size + 1) w.heap.size (List.replicate n false) ∧ Kept [] w w' :=
  (new_ok n hn w).mono fun _ _ ⟨he, hv, hk⟩ => ⟨he, ⟨_, by rw [List.length_replicate]; exact hv, zeroMeans n⟩, hk⟩
theorem runs_len (bs : List Bool) : (runsV bs).length ≤ bs.length := runsTo_length bs _
set_option maxHeartbeats 4000000 in
theorem alive_ok (w : World) (hT : Table w) :
    Calls Tryd.prog 7 #[] w fun e w' => e = .returned (.bool true) ∧ Kept [] w w' := by
  have HT := Lib.hid hT
  have Hnew := Lib.hid (newBv_ok 70 (by omega) w)
  have Hno := Lib.hid (fun w => new_no (-1) (by omega) w)
  clear hT
  go_enter Tryd.func7, Tryd.ntmps7
  go_wp2_with fail
  refine (Hnew.out).mono ?_
  rintro e w1 ⟨rfl, hv1, hk1⟩
  have Hset := Lib.hid (setRun_ok _ _ _ w1 hv1 62 4 (by omega) (by omega) (by omega) (by omega))
  rw [show errOf (within (List.replicate 70 false).length 62 4) = 0 from rfl] at Hset
  have Hk1 := Lib.hid hk1
  clear hv1 hk1
  go_wp2_with fail
  refine (Hset.out).mono ?_
  rintro e w2 ⟨rfl, hv2, hk2⟩
  have hv2 : Bv w2 (w.heap.size + 1) w.heap.size ex1 := hv2
  have hkw2 : Kept [] w w2 := Hk1.out.forget hk2 (by simp)
  have Hk2 := Lib.hid hkw2
  have Hv2 := Lib.hid hv2
  clear hkw2 hk2 hv2 Hset
  go_wp2_with fail
  refine (next_ok _ _ _ w2 Hv2.out (tableKeep HT.out Hk2.out) 0 (by omega) (by omega)).mono ?_
  rw [show nextO ex1 0 true = some 62 from by decide +kernel]
  rintro e w3 ⟨rfl, hk3⟩
  have Hv3 := Lib.hid (Hv2.out.keep0 hk3)
  have Hk3 := Lib.hid (Hk2.out.trans hk3)
  clear hk3
  simp only [show atI (some 62) = 62 from rfl, Option.isSome_some]
  go_wp2_with fail
  refine (nextClear_ok _ _ _ w3 Hv3.out (tableKeep HT.out Hk3.out) 62 (by omega) (by omega)).mono ?_
  rw [show nextO ex1 62 false = some 66 from by decide +kernel]
  rintro e w4 ⟨rfl, hk4⟩
  have Hv4 := Lib.hid (Hv3.out.keep0 hk4)
  have Hk4 := Lib.hid (Hk3.out.trans hk4)
  clear hk4
  simp only [show atI (some 66) = 66 from rfl, Option.isSome_some]
  go_wp2_with fail
  refine (prev_ok _ _ _ w4 Hv4.out 69 (by omega) (by omega)).mono ?_
  rw [show prevO ex1 69 = some 65 from by decide +kernel]
  rintro e w5 ⟨rfl, hk5⟩
  have Hv5 := Lib.hid (Hv4.out.keep0 hk5)
  have Hk5 := Lib.hid (Hk4.out.trans hk5)
  clear hk5
  simp only [show atI (some 65) = 65 from rfl, Option.isSome_some]
  go_wp2_with fail
  refine (count_ok _ _ _ w5 Hv5.out 60 4 (by omega) (by omega) (by omega) (by omega)).mono ?_
  rw [show cntI ex1 60 4 = 2 from by decide +kernel, show errOf (within ex1.length 60 4) = 0 from by decide +kernel]
  rintro e w6 ⟨rfl, hk6⟩
  have Hv6 := Lib.hid (Hv5.out.keep0 hk6)
  have Hk6 := Lib.hid (Hk5.out.trans hk6)
  clear hk6
  go_wp2_with fail
  refine (runs_ok _ _ _ w6 Hv6.out (tableKeep HT.out Hk6.out)).mono ?_
  rintro e w7 ⟨v7, rfl, hO7, hF7, hk7⟩
  have hO7 : OwnR w7 v7 [(62, 4)] := by rw [show runsV ex1 = [(62, 4)] from by decide +kernel] at hO7; exact hO7
  have HO7 := Lib.hid hO7
  have HF7 := Lib.hid hF7
  have Hv7 := Lib.hid (Hv6.out.keep0 hk7)
  have Hk7 := Lib.hid (Hk6.out.trans hk7)
  have Hz7 := Lib.hid (show w.heap.size + 1 < w6.heap.size from (let ⟨_, h, _⟩ := Hv6.out; h.head.lt))
  clear hk7 hO7 hF7
  go_wp2_with fail
  refine (clear_ok _ _ _ w7 Hv7.out 64 (by omega) (by omega)).mono ?_
  rw [show errOf (within ex1.length 64 1) = 0 from by decide +kernel]
  rintro e w8 ⟨rfl, hv8, hk8⟩
  have hv8 : Bv w8 (w.heap.size + 1) w.heap.size ex2 := hv8
  have hO8 : OwnR w8 v7 [(62, 4)] := HO7.out.kept hk8 (by
    intro g hg h
    rw [List.mem_singleton.1 hg] at h
    rcases HF7.out with h1 | ⟨b, h1, h2⟩
    · rw [h1] at h; cases h
    · rw [h1] at h
      injection h with h
      have := Hz7.out
      omega)
  have Hv8 := Lib.hid hv8
  have HO8 := Lib.hid hO8
  have Hk8 := Lib.hid (Hk7.out.forget hk8 (by simp))
  clear hk8 hv8 hO8
  go_wp2_with fail
  refine (Hno.out _).mono ?_
  rintro e w' ⟨rfl, rfl⟩
  go_wp2_with fail
  have hka : Kept [] w8 (w8.alloc (.cells #[.int .i64 62, .int .i64 4] 43)) := (Kept.refl [] w8).alloc _
  have hOa : OwnR (w8.alloc (.cells #[.int .i64 62, .int .i64 4] 43)) (.slice (some ⟨w8.heap.size, 0, none⟩) 1 1) [(62, 4)] := ownR_of_has (Has.new w8 _ [.int .i64 62, .int .i64 4]) (by decide)
  refine (sameRuns_ok _ _ _ _ _ (HO8.out.keep0 hka) hOa (by decide) (by decide)).mono ?_
  rw [decide_eq_true (show ([(62, 4)] : List (Nat × Nat)) = [(62, 4)] from rfl)]
  rintro e w9 ⟨rfl, k9, rfl⟩
  have Hk9 := Lib.hid ((Hk8.out.trans hka).drewN k9)
  have Hv9 := Lib.hid (Hv8.out.keep0 (hka.drewN k9))
  clear hka hOa
  generalize (w8.alloc (.cells #[.int .i64 62, .int .i64 4] 43)).drewN k9 = w9 at *
  go_wp2_with fail
  refine (runs_ok _ _ _ w9 Hv9.out (tableKeep HT.out Hk9.out)).mono ?_
  rintro e w10 ⟨v10, rfl, hO10, hF10, hk10⟩
  have hO10 : OwnR w10 v10 [(62, 2), (65, 1)] := by rw [show runsV ex2 = [(62, 2), (65, 1)] from by decide +kernel] at hO10; exact hO10
  have HO10 := Lib.hid hO10
  have Hv10 := Lib.hid (Hv9.out.keep0 hk10)
  have Hk10 := Lib.hid (Hk9.out.trans hk10)
  clear hO10 hF10 hk10
  go_wp2_with fail
  have hka : Kept [] w10 (w10.alloc (.cells #[.int .i64 62, .int .i64 2, .int .i64 65, .int .i64 1] 43)) := (Kept.refl [] w10).alloc _
  have hOa : OwnR (w10.alloc (.cells #[.int .i64 62, .int .i64 2, .int .i64 65, .int .i64 1] 43)) (.slice (some ⟨w10.heap.size, 0, none⟩) 2 2) [(62, 2), (65, 1)] := ownR_of_has (Has.new w10 _ [.int .i64 62, .int .i64 2, .int .i64 65, .int .i64 1]) (by decide)
  refine (sameRuns_ok _ _ _ _ _ (HO10.out.keep0 hka) hOa (by decide) (by decide)).mono ?_
  rw [decide_eq_true (show ([(62, 2), (65, 1)] : List (Nat × Nat)) = [(62, 2), (65, 1)] from rfl)]
  rintro e w11 ⟨rfl, k11, rfl⟩
  have Hk11 := Lib.hid ((Hk10.out.trans hka).drewN k11)
  have Hv11 := Lib.hid (Hv10.out.keep0 (hka.drewN k11))
  clear hka hOa
  generalize (w10.alloc (.cells #[.int .i64 62, .int .i64 2, .int .i64 65, .int .i64 1] 43)).drewN k11 = w11 at *
  go_wp2_with fail
  refine (set_ok _ _ _ w11 Hv11.out 70 (by omega) (by omega)).mono ?_
  rw [show errOf (within ex2.length 70 1) = 2 from by decide +kernel]
  rintro e w12 ⟨rfl, hv12, hk12⟩
  have Hk12 := Lib.hid (Hk11.out.forget hk12 (by simp))
  clear hk12 hv12
  go_wp2_with fail
  go_ret
  exact ⟨rfl, Hk12.out⟩
end Go.Proofs.YtkkjdoadmfeebaaDoor.Bt
