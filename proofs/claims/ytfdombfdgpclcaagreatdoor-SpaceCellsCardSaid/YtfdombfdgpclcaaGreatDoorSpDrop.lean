/-
  The contract of Drop.
-/
import Derived.Test.YtfdombfdgpclcaaGreatDoorSpOps
import Derived.Test.YtfdombfdgpclcaaGreatDoorSpKeep
namespace Go.Proofs.YtfdombfdgpclcaaGreatDoor.Sp
open Go.RowKit Go.Proofs.YtfdombfdgpclcaaGreatDoor.Ar Go.Proofs.YtfdombfdgpclcaaGreatDoor.Sh
open Go.Proofs.YtfdombfdgpclcaaGreatDoor.Hd (Hd Fields)
open Go.Proofs.YtfdombfdgpclcaaGreatDoor.Tb (Ty Tab blk)
open Go.Proofs.YtfdombfdgpclcaaGreatDoor.Bt (Bv atI prevO nextO has_ok hasV bit)
open Go.Proofs.YtfdombfdgpclcaaGreatDoor.Wd (Table)
set_option linter.unusedVariables false
section
variable {w : World} {s : Ids} {l : List Ty} {ws : List Int} {bs : List Bool}
set_option maxRecDepth 100000 in
theorem drop_no (hG : Glob w s) (h : Spc w s l ws bs) (g : Int) (g0 : -9223372036854775808 ≤ g) (g1 : g ≤ 9223372036854775807) (hv : hasV bs g = false) :
    Calls Tryz.prog 11 #[.pointer (some ⟨s.sp, 0, none⟩), .int .i64 g] w fun e w' => e = .returned (.int .i64 3) ∧ Kept [] w w' := by
  obtain ⟨c0, c1, c2⟩ := h.cells
  have H := Lib.hid (has_ok bs _ _ w h.bv g g0 g1)
  rw [hv] at H
  clear h hG hv
  go_enter Tryz.func11, Tryz.ntmps11
  go_wp2_with fail
  refine H.out.mono ?_
  rintro e w1 ⟨rfl, hk⟩
  have HK := Lib.hid hk
  clear hk H
  go_wp2_with fail
  go_ret
  exact ⟨rfl, HK.out⟩
set_option maxRecDepth 100000 in
set_option maxHeartbeats 1000000 in
theorem drop_yes (hG : Glob w s) (h : Spc w s l ws bs) (g : Int) (g0 : 0 ≤ g) (g1 : g ≤ 1000000) (hv : hasV bs g = true) (hp : prevEndV bs ws g ≤ 300000) (hn : 0 ≤ nextStartV bs ws g ∧ nextStartV bs ws g ≤ 300000) :
    Calls Tryz.prog 11 #[.pointer (some ⟨s.sp, 0, none⟩), .int .i64 g] w fun e w' => e = .returned (.int .i64 0) ∧ Spc w' s l (dropW ws bs g) (dropB ws bs g) ∧ Kept s.turn w w' := by
  obtain ⟨c0, c1, c2⟩ := h.cells
  have hp0 := (prevEndV_bound h g).1
  have H := Lib.hid (has_ok bs _ _ w h.bv g (by omega) (by omega))
  rw [hv] at H
  have HP := Lib.hid (fun y (k : Kept [] w y) => prevEnd_ok (hG.keep0 k) (h.keep0 k) g (by omega) (by omega))
  have HN := Lib.hid (fun y (k : Kept [] w y) => nextStart_ok (hG.keep0 k) (h.keep0 k) g (by omega) (by omega))
  have HB := Lib.hid (fun y (k : Kept [] w y) => become_ok (hG.keep0 k) (h.keep0 k) (prevEndV bs ws g) (nextStartV bs ws g) hp0 hp hn.1 hn.2 none 0 [] (Seen.nil _ _) (fun g o e => by cases e) near_nil (by simp))
  clear h hG hv
  unfold dropW dropB
  generalize prevEndV bs ws g = pe at *
  generalize nextStartV bs ws g = ns at *
  generalize becomeW ws pe [] ns = ws2 at *
  generalize becomeB bs pe [] ns = bs2 at *
  go_enter Tryz.func11, Tryz.ntmps11
  go_wp2_with fail
  refine H.out.mono ?_
  rintro e w1 ⟨rfl, hk⟩
  have HK := Lib.hid hk
  clear hk H c0 c1 c2
  go_wp2_with fail
  refine (HP.out _ HK.out).mono ?_
  rintro e w2 ⟨rfl, hk⟩
  have HK2 := Lib.hid (HK.out.trans hk)
  clear hk HP HK
  go_wp2_with fail
  refine (HN.out _ HK2.out).mono ?_
  rintro e w3 ⟨rfl, hk⟩
  have HK3 := Lib.hid (HK2.out.trans hk)
  clear hk HN HK2
  go_wp2_with fail
  refine (HB.out _ HK3.out).mono ?_
  rintro e w4 ⟨⟨v4, rfl⟩, hS, hk⟩
  have HS := Lib.hid hS
  have HK4 := Lib.hid ((HK3.out.none _).trans hk)
  clear hk hS HB HK3
  go_wp2_with fail
  go_ret
  exact ⟨rfl, HS.out, HK4.out⟩
end
end Go.Proofs.YtfdombfdgpclcaaGreatDoor.Sp
