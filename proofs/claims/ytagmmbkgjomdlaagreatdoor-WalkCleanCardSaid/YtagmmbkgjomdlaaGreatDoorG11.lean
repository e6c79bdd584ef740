/-
  Several texts in one: KdSize, KdDoc.
-/
import Derived.Test.YtagmmbkgjomdlaaGreatDoorG10
/-
  The contract of Size.
-/
namespace Go.Proofs.YtagmmbkgjomdlaaGreatDoor.Kd
open Go.RowKit Go.Proofs.YtagmmbkgjomdlaaGreatDoor.Ar Go.Maps
set_option linter.unusedVariables false

/-- What Size answers. -/
def sizeR (k : Nat) (wd : Int) (mk : Nat) (n : Int) : Int := if err k wd mk n = 0 then (slots k wd n + 2) / 2 else 0
set_option maxRecDepth 100000 in
theorem size_ok (k : Nat) (wd : Int) (mk : Nat) (n : Int) (hk : k < 256) (hm : mk < 18446744073709551616) (w : World) :
    Calls Tryz.prog 142 #[typV k wd mk, .int .i64 n] w fun e w' => e = .returned (.tuple #[.int .i64 (sizeR k wd mk n), .int .i64 (err k wd mk n)]) ∧ Kept [] w w' := by
  have HL := Lib.hid (fun x => slots_ok k wd mk n hk hm x)
  have hka : ∀ (x : World) (o : Obj), Kept [] x (x.alloc o) := fun x o => (Kept.refl [] x).alloc o
  unfold sizeR slotsR typV at *
  by_cases h : err k wd mk n = 0
  · obtain ⟨b0, b1⟩ := slots_bound h
    simp only [h, if_true] at HL ⊢
    clear h
    generalize slots k wd n = sl at *
    go_enter Tryz.func142, Tryz.ntmps142
    go_wp2_with fail
    refine (HL.out _).mono ?_
    rintro e W1 ⟨rfl, hk1⟩
    have hk2 := Lib.hid ((hka w _).trans hk1)
    clear hk1
    go_wp2_with fail
    go_ret2
    refine ⟨?_, hk2.out⟩
    show Ending.returned (.tuple #[.int .i64 _, _]) = _
    congr 5
    try omega
  · simp only [h, if_false] at HL ⊢
    have he : (err k wd mk n != 0) = true := by rw [bne_iff_ne]; exact h
    generalize err k wd mk n = er at *
    go_enter Tryz.func142, Tryz.ntmps142
    go_wp2_with fail
    refine (HL.out _).mono ?_
    rintro e W1 ⟨rfl, hk1⟩
    have hk2 := Lib.hid ((hka w _).trans hk1)
    clear hk1
    go_wp2_with fail
    go_ret2
    exact ⟨rfl, hk2.out⟩
end Go.Proofs.YtagmmbkgjomdlaaGreatDoor.Kd

/-
  The document's Slots.
-/
namespace Go.Proofs.YtagmmbkgjomdlaaGreatDoor.Kd
open Go.RowKit Go.Proofs.YtagmmbkgjomdlaaGreatDoor.Ar Go.Maps
set_option linter.unusedVariables false

set_option maxRecDepth 100000 in
set_option maxHeartbeats 4000000 in
theorem slotsDoc_ok (k : Nat) (wd : Int) (mk : Nat) (n : Int) (hm : mk < 18446744073709551616) (w : World) :
    Calls Tryz.prog 90 #[typV k wd mk, .int .i64 n] w fun e w' => e = .returned (.tuple #[.int .i64 (slotsR k wd mk n), .int .i64 (err k wd mk n)]) ∧ Kept [] w w' := by
  have HM := Lib.hid (fun x => may_ok k wd mk hm x)
  have hka : ∀ (x : World) (o : Obj), Kept [] x (x.alloc o) := fun x o => (Kept.refl [] x).alloc o
  have hH : Has (w.alloc (.cells #[.int .u8 (k : Int), .int .i64 wd, .int .u64 (mk : Int)] 84)) w.heap.size 84 [.int .u8 (k : Int), .int .i64 wd, .int .u64 (mk : Int)] := Has.new w _ _
  unfold typV at *
  by_cases c1 : may k wd mk
  · rw [decide_eq_true c1] at HM
    obtain ⟨_, w0, w1, hk, w3⟩ := may_kind c1
    by_cases c2 : n < 0
    · have hE := err_neg (k := k) (wd := wd) (mk := mk) c2
      rw [show slotsR k wd mk n = 0 from if_neg (by rw [hE]; decide), hE]
      clear hE
      go_enter Tryz.func90, Tryz.ntmps90
      go_wp2_with fail
      refine (HM.out _).mono ?_
      rintro e W1 ⟨rfl, hk1⟩
      have hk2 := Lib.hid ((hka w _).trans hk1)
      obtain ⟨b0, b1, b2⟩ := cells3 (hH.keep0 hk1)
      clear hk1
      go_wp2_with fail
      go_ret2
      exact ⟨rfl, hk2.out⟩
    · by_cases c3 : k = 1 ∧ 0 < n
      · have hE : err k wd mk n = 2 := by unfold err; rw [if_pos (.inr (.inr ⟨c3.2, c3.1⟩))]
        rw [show slotsR k wd mk n = 0 from if_neg (by rw [hE]; decide), hE]
        obtain ⟨rfl, c4⟩ := c3
        have hn0 : (n != 0) = true := by rw [bne_iff_ne]; omega
        clear hE
        go_enter Tryz.func90, Tryz.ntmps90
        go_wp2_with fail
        refine (HM.out _).mono ?_
        rintro e W1 ⟨rfl, hk1⟩
        have hk2 := Lib.hid ((hka w _).trans hk1)
        obtain ⟨b0, b1, b2⟩ := cells3 (hH.keep0 hk1)
        clear hk1
        go_wp2_with fail
        go_ret2
        exact ⟨rfl, hk2.out⟩
      · have hE : err k wd mk n = if 4096 < n then 5 else 0 := by
          unfold err
          rw [if_neg]
          rintro (h | h | h)
          · exact h c1
          · exact c2 h
          · exact c3 ⟨h.2, h.1⟩
        by_cases c4 : 4096 < n
        · rw [if_pos c4] at hE
          rw [show slotsR k wd mk n = 0 from if_neg (by rw [hE]; decide), hE]
          clear hE
          by_cases c5 : k = 1
          · omega
          · have e1 : ((k : Int) == 1) = false := by rw [beq_eq_false_iff_ne]; omega
            go_enter Tryz.func90, Tryz.ntmps90
            go_wp2_with fail
            refine (HM.out _).mono ?_
            rintro e W1 ⟨rfl, hk1⟩
            have hk2 := Lib.hid ((hka w _).trans hk1)
            obtain ⟨b0, b1, b2⟩ := cells3 (hH.keep0 hk1)
            clear hk1
            go_wp2_with fail
            go_ret2
            exact ⟨rfl, hk2.out⟩
        · rw [if_neg c4] at hE
          obtain ⟨sb0, sb1⟩ := slots_bound hE
          rw [show slotsR k wd mk n = slots k wd n from if_pos hE, hE]
          clear hE
          rcases hk with rfl | rfl | rfl | rfl
          · obtain rfl : n = 0 := by omega
            clear hm c3 c1
            unfold slots
            rw [if_pos rfl]
            go_enter Tryz.func90, Tryz.ntmps90
            go_wp2_with fail
            refine (HM.out _).mono ?_
            rintro e W1 ⟨rfl, hk1⟩
            have hk2 := Lib.hid ((hka w _).trans hk1)
            obtain ⟨b0, b1, b2⟩ := cells3 (hH.keep0 hk1)
            clear hk1
            go_wp2_with fail
            go_ret2
            exact ⟨rfl, hk2.out⟩
          · clear hm c3 c1
            rw [show slots 2 wd n = n from rfl] at *
            go_enter Tryz.func90, Tryz.ntmps90
            go_wp2_with fail
            refine (HM.out _).mono ?_
            rintro e W1 ⟨rfl, hk1⟩
            have hk2 := Lib.hid ((hka w _).trans hk1)
            obtain ⟨b0, b1, b2⟩ := cells3 (hH.keep0 hk1)
            clear hk1
            go_wp2_with fail
            go_ret2
            exact ⟨rfl, hk2.out⟩
          · clear hm c3 c1
            rw [show slots 3 wd n = n * wd from rfl] at *
            have m0 : -9223372036854775808 ≤ n * wd := by omega
            have m1 : n * wd ≤ 9223372036854775807 := by omega
            go_enter Tryz.func90, Tryz.ntmps90
            go_wp2_with fail
            refine (HM.out _).mono ?_
            rintro e W1 ⟨rfl, hk1⟩
            have hk2 := Lib.hid ((hka w _).trans hk1)
            obtain ⟨b0, b1, b2⟩ := cells3 (hH.keep0 hk1)
            clear hk1
            go_wp2_with fail
            go_ret2
            exact ⟨rfl, hk2.out⟩
          · clear hm c3 c1
            rw [show slots 4 wd n = n from rfl] at *
            go_enter Tryz.func90, Tryz.ntmps90
            go_wp2_with fail
            refine (HM.out _).mono ?_
            rintro e W1 ⟨rfl, hk1⟩
            have hk2 := Lib.hid ((hka w _).trans hk1)
            obtain ⟨b0, b1, b2⟩ := cells3 (hH.keep0 hk1)
            clear hk1
            go_wp2_with fail
            go_ret2
            exact ⟨rfl, hk2.out⟩
  · rw [decide_eq_false c1] at HM
    have hE : err k wd mk n = 2 := by unfold err; rw [if_pos (.inl c1)]
    rw [show slotsR k wd mk n = 0 from if_neg (by rw [hE]; decide), hE]
    clear hE
    go_enter Tryz.func90, Tryz.ntmps90
    go_wp2_with fail
    refine (HM.out _).mono ?_
    rintro e W1 ⟨rfl, hk1⟩
    have hk2 := Lib.hid ((hka w _).trans hk1)
    clear hk1
    go_wp2_with fail
    go_ret2
    exact ⟨rfl, hk2.out⟩
end Go.Proofs.YtagmmbkgjomdlaaGreatDoor.Kd
