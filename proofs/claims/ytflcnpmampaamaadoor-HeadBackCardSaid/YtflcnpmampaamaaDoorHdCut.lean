/-
  The contracts of headOf and of its closure.
-/
import Derived.Test.YtflcnpmampaamaaDoorHdOps
import Derived.Deep.RegionWith
namespace Go.Proofs.YtflcnpmampaamaaDoor.Hd
open Go.RowKit Go.Proofs.YtflcnpmampaamaaDoor.Ar
set_option linter.unusedVariables false

theorem wrap_mod (z : Int) (m : Int) (h : 18446744073709551616 % m = 0) (hm : 9223372036854775808 % m = 0) : IntKind.i64.wrap z % m = z % m := by
  rw [IntKind.wrap_i64]
  have h1 : (m : Int) ∣ 18446744073709551616 := Int.dvd_of_emod_eq_zero h
  have h2 : (m : Int) ∣ 9223372036854775808 := Int.dvd_of_emod_eq_zero hm
  rw [Int.sub_emod, Int.emod_emod_of_dvd _ h1, Int.emod_eq_zero_of_dvd h2, Int.sub_zero, Int.emod_emod, Int.add_emod, Int.emod_eq_zero_of_dvd h2, Int.add_zero, Int.emod_emod]
section
variable {w : World}
set_option maxRecDepth 100000 in
set_option maxHeartbeats 1000000 in
theorem cut_0 (h : Fields w) {B : Nat} {u : Int} (hB : Has w B 24 [.int .u64 u]) (hu0 : 0 ≤ u) (hu : u ≤ 18446744073709551615) :
    Calls Tryd.prog 32 #[.int .i64 0, .pointer (some ⟨B, 0, none⟩)] w fun e w' => e = .returned (.int .i64 (u % 4)) ∧ Kept [] w w' := by
  obtain ⟨c0, c1, c2, c3, c4, c5, c6, c7⟩ := h.cells
  have d0 := hB.cell 0
  simp only [List.getElem?_cons_zero] at d0
  have HG := Lib.hid (fun y (e : y.heap = w.heap) => greatest0 (w := y) (by unfold Fields at *; rw [e]; exact h))
  have HL : Hid (bits .and .i64 (IntKind.i64.wrap (u)) 3 = u % 4) := Lib.hid (by rw [and3, wrap_mod _ _ (by decide) (by decide)])
  have HM : Hid (bits .and .i64 (u) 3 = u % 4) := Lib.hid (by rw [and3])
  clear hB h
  go_enter Tryd.func32, Tryd.ntmps32
  go_wp2_with fail
  go_region_with ((refine (HG.out _ (by rfl)).mono ?_; rintro e w1 ⟨rfl, rfl⟩))
  all_goals first | rw [HL.out] | rw [HM.out]
  all_goals go_wp2_with fail
  all_goals go_ret
  all_goals exact ⟨rfl, by first | exact Kept.refl [] w | exact (Kept.refl [] w).drew⟩
set_option maxRecDepth 100000 in
set_option maxHeartbeats 1000000 in
theorem cut_1 (h : Fields w) {B : Nat} {u : Int} (hB : Has w B 24 [.int .u64 u]) (hu0 : 0 ≤ u) (hu : u ≤ 18446744073709551615) :
    Calls Tryd.prog 32 #[.int .i64 1, .pointer (some ⟨B, 0, none⟩)] w fun e w' => e = .returned (.int .i64 (u / 4 % 4096)) ∧ Kept [] w w' := by
  obtain ⟨c0, c1, c2, c3, c4, c5, c6, c7⟩ := h.cells
  have d0 := hB.cell 0
  simp only [List.getElem?_cons_zero] at d0
  have HG := Lib.hid (fun y (e : y.heap = w.heap) => greatest1 (w := y) (by unfold Fields at *; rw [e]; exact h))
  have HL : Hid (bits .and .i64 (IntKind.i64.wrap (u / 4)) 4095 = u / 4 % 4096) := Lib.hid (by rw [and4095, wrap_mod _ _ (by decide) (by decide)])
  have HM : Hid (bits .and .i64 (u / 4) 4095 = u / 4 % 4096) := Lib.hid (by rw [and4095])
  clear hB h
  go_enter Tryd.func32, Tryd.ntmps32
  go_wp2_with fail
  go_region_with ((refine (HG.out _ (by rfl)).mono ?_; rintro e w1 ⟨rfl, rfl⟩))
  all_goals first | rw [HL.out] | rw [HM.out]
  all_goals go_wp2_with fail
  all_goals go_ret
  all_goals exact ⟨rfl, by first | exact Kept.refl [] w | exact (Kept.refl [] w).drew⟩
set_option maxRecDepth 100000 in
set_option maxHeartbeats 1000000 in
theorem cut_2 (h : Fields w) {B : Nat} {u : Int} (hB : Has w B 24 [.int .u64 u]) (hu0 : 0 ≤ u) (hu : u ≤ 18446744073709551615) :
    Calls Tryd.prog 32 #[.int .i64 2, .pointer (some ⟨B, 0, none⟩)] w fun e w' => e = .returned (.int .i64 (u / 65536 % 16777216)) ∧ Kept [] w w' := by
  obtain ⟨c0, c1, c2, c3, c4, c5, c6, c7⟩ := h.cells
  have d0 := hB.cell 0
  simp only [List.getElem?_cons_zero] at d0
  have HG := Lib.hid (fun y (e : y.heap = w.heap) => greatest2 (w := y) (by unfold Fields at *; rw [e]; exact h))
  have HL : Hid (bits .and .i64 (IntKind.i64.wrap (u / 65536)) 16777215 = u / 65536 % 16777216) := Lib.hid (by rw [and24, wrap_mod _ _ (by decide) (by decide)])
  have HM : Hid (bits .and .i64 (u / 65536) 16777215 = u / 65536 % 16777216) := Lib.hid (by rw [and24])
  clear hB h
  go_enter Tryd.func32, Tryd.ntmps32
  go_wp2_with fail
  go_region_with ((refine (HG.out _ (by rfl)).mono ?_; rintro e w1 ⟨rfl, rfl⟩))
  all_goals first | rw [HL.out] | rw [HM.out]
  all_goals go_wp2_with fail
  all_goals go_ret
  all_goals exact ⟨rfl, by first | exact Kept.refl [] w | exact (Kept.refl [] w).drew⟩
set_option maxRecDepth 100000 in
set_option maxHeartbeats 1000000 in
theorem cut_3 (h : Fields w) {B : Nat} {u : Int} (hB : Has w B 24 [.int .u64 u]) (hu0 : 0 ≤ u) (hu : u ≤ 18446744073709551615) :
    Calls Tryd.prog 32 #[.int .i64 3, .pointer (some ⟨B, 0, none⟩)] w fun e w' => e = .returned (.int .i64 (u / 1099511627776)) ∧ Kept [] w w' := by
  obtain ⟨c0, c1, c2, c3, c4, c5, c6, c7⟩ := h.cells
  have d0 := hB.cell 0
  simp only [List.getElem?_cons_zero] at d0
  have HG := Lib.hid (fun y (e : y.heap = w.heap) => greatest3 (w := y) (by unfold Fields at *; rw [e]; exact h))
  have HL : Hid (bits .and .i64 (IntKind.i64.wrap (u / 1099511627776)) 16777215 = u / 1099511627776) := Lib.hid (by rw [and24, wrap_mod _ _ (by decide) (by decide)]; omega)
  have HM : Hid (bits .and .i64 (u / 1099511627776) 16777215 = u / 1099511627776) := Lib.hid (by rw [and24]; omega)
  clear hB h
  go_enter Tryd.func32, Tryd.ntmps32
  go_wp2_with fail
  go_region_with ((refine (HG.out _ (by rfl)).mono ?_; rintro e w1 ⟨rfl, rfl⟩))
  all_goals first | rw [HL.out] | rw [HM.out]
  all_goals go_wp2_with fail
  all_goals go_ret
  all_goals exact ⟨rfl, by first | exact Kept.refl [] w | exact (Kept.refl [] w).drew⟩
end
end Go.Proofs.YtflcnpmampaamaaDoor.Hd
