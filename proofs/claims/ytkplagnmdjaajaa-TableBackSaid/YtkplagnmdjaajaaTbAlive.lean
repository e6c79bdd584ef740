/-
  The chapter's example.
-/
import Derived.Test.YtkplagnmdjaajaaTbPut
import Derived.Test.YtkplagnmdjaajaaTbNew
namespace Go.Proofs.Ytkplagnmdjaajaa.Tb
open Go.RowKit Go.Proofs.Ytkplagnmdjaajaa.Ar Go.Maps
set_option linter.unusedVariables false

theorem ex_new : newF [] [⟨4, 0, 0⟩] = ([⟨4, 0, 0⟩], 0) := by decide +kernel
theorem ex_add : addL [⟨4, 0, 0⟩] ⟨1, 2, 0⟩ = [⟨4, 0, 0⟩, ⟨1, 2, 0⟩] ∧ addN [⟨4, 0, 0⟩] ⟨1, 2, 0⟩ = 2 ∧ addE [⟨4, 0, 0⟩] ⟨1, 2, 0⟩ = 0 := by decide +kernel
theorem ex_get : getT [⟨4, 0, 0⟩, ⟨1, 2, 0⟩] 3 = Ty.zero ∧ errT (hasT [⟨4, 0, 0⟩, ⟨1, 2, 0⟩] 3) = 3 := by decide +kernel
theorem ex_bad : addL [⟨4, 0, 0⟩, ⟨1, 2, 0⟩] ⟨0, 0, 0⟩ = [⟨4, 0, 0⟩, ⟨1, 2, 0⟩] ∧ addN [⟨4, 0, 0⟩, ⟨1, 2, 0⟩] ⟨0, 0, 0⟩ = 0 ∧ addE [⟨4, 0, 0⟩, ⟨1, 2, 0⟩] ⟨0, 0, 0⟩ = 2 := by decide +kernel
theorem ex_put : enc [⟨4, 0, 0⟩, ⟨1, 2, 0⟩] = [2, 4, 0, 0, 0, 0, 0, 0, 0, 0, 0, 1, 2, 0, 0, 0, 0, 0, 0, 0, 0] := by decide +kernel
theorem ex_str : strOfNums (enc [⟨4, 0, 0⟩, ⟨1, 2, 0⟩]) = ⟨#[2, 4, 0, 0, 0, 0, 0, 0, 0, 0, 0, 1, 2, 0, 0, 0, 0, 0, 0, 0, 0]⟩ := by rw [ex_put]; rfl
theorem ex_cat : (([2, 4, 0, 0, 0, 0, 0, 0, 0, 0, 0, 1, 2, 0, 0, 0, 0, 0, 0, 0, 0] : List UInt8) == ((⟨#[2, 4, 0]⟩ : ByteArray) ++ ⟨#[0, 0, 0, 0, 0, 0, 0, 0]⟩ ++ ⟨#[1, 2]⟩ ++ ⟨#[0, 0, 0, 0, 0, 0, 0, 0]⟩).toList) = true := by
  rw [ByteArray.toList_eq, ByteArray.data_append, ByteArray.data_append, ByteArray.data_append]
  decide +kernel
set_option maxRecDepth 100000 in
set_option maxHeartbeats 4000000 in
theorem alive_ok (w : World) : Calls Try.prog 7 #[] w fun e w' => e = .returned (.bool true) ∧ Kept [] w w' := by
  have hb0 := Has.new w 30 [.int .u8 4, .int .i64 0, .int .u64 0]
  have hk0 := (Kept.refl [] w).alloc (.cells #[.int .u8 4, .int .i64 0, .int .u64 0] 30)
  have HNw := Lib.hid (new_ok (l := [⟨4, 0, 0⟩]) 1 (seen_one hb0) (by intro x hx; rw [List.mem_singleton.1 hx]; exact ⟨by decide, by decide⟩) (by decide))
  rw [ex_new] at HNw
  have HK0 := Lib.hid hk0
  clear hb0 hk0
  go_enter Try.func7, Try.ntmps7
  go_wp2_with fail
  refine HNw.out.mono ?_
  rintro e w1 (⟨_, p, A, c, rfl, hm⟩ | ⟨h, _⟩)
  · have HA1 := Lib.hid (fun y (k : Kept [] w1 y) => add_ok (hm.1.keep0 k) ⟨1, 2, 0⟩ ⟨by decide, by decide⟩)
    unfold Ty.val at HA1
    have HM := Lib.hid hm
    clear hm HNw
    go_wp2_with fail
    refine (HA1.out _ (Kept.refl [] _)).mono ?_
    rintro e w2 hap
    obtain ⟨A2, c2, rfl, hm2⟩ := HM.out.added hap
    rw [ex_add.1] at hm2
    rw [ex_add.2.1, ex_add.2.2]
    have HG := Lib.hid (fun y (k : Kept [] w2 y) => get_ok (hm2.1.keep0 k) 3 (by decide) (by decide))
    rw [ex_get.1, ex_get.2] at HG
    unfold Ty.val Ty.zero at HG
    have HM2 := Lib.hid hm2
    clear hap hm2 HM HA1
    go_wp2_with fail
    refine (HG.out _ (Kept.refl [] _)).mono ?_
    rintro e w3 ⟨rfl, hk3⟩
    have hm3 := (HM2.out.later hk3).later ((Kept.refl [] w3).alloc (.cells #[.int .u8 0, .int .i64 0, .int .u64 0] 30))
    have HA2 := Lib.hid (add_ok hm3.1 ⟨0, 0, 0⟩ ⟨by decide, by decide⟩)
    unfold Ty.val at HA2
    have HM3 := Lib.hid hm3
    clear hk3 hm3 HM2 HG
    go_wp2_with fail
    refine HA2.out.mono ?_
    rintro e w4 hap
    obtain ⟨A4, c4, rfl, hm4⟩ := HM3.out.added hap
    rw [ex_bad.2.1, ex_bad.2.2]
    rw [ex_bad.1] at hm4
    have HP := Lib.hid (put_ok hm4.1)
    rw [ex_str] at HP
    have HM4 := Lib.hid hm4
    clear hap hm4 HM3 HA2
    go_wp2_with fail
    refine HP.out.mono ?_
    rintro e w5 ⟨rfl, hk5⟩
    have HK5 := Lib.hid (HM4.out.2.2.2.trans hk5)
    clear hk5 HP HM4
    go_wp2_with fail
    go_ret
    exact ⟨ret_bool ex_cat, HK0.out.trans HK5.out⟩
  · exact absurd rfl h
end Go.Proofs.Ytkplagnmdjaajaa.Tb
