/-
  Stage 12, black: the law BlackNil returns true.
-/
import Derived.Test.YtijlaganpnoefaaDoorBkAlive
namespace Go.Proofs.YtijlaganpnoefaaDoor.Bk
open Go.RowKit Go.Proofs.YtijlaganpnoefaaDoor.Ar
set_option linter.unusedVariables false
section
variable {G : World → Prop} {P : World → World → Nat → List Nat → List Int → Prop} {w : World}
set_option maxRecDepth 100000 in
set_option maxHeartbeats 16000000 in
theorem nil_walk (C : Ctr G P) (N : CtrNil G) (hG : G w) (g n : Int) (hg : I64 g) (hn : I64 n) : Calls Tryd.prog 6 #[.int .i64 g, .int .i64 n] w fun e y => e = .returned (.bool true) ∧ Kept [] w y := by
  have HN := Lib.hid N
  have HG := Lib.hid (fun y (k : Kept [] w y) => C.gkeep hG k)
  have HA := Lib.hid (fun y (k : Kept [] w y) => alive12_ok C (C.gkeep hG k))
  have HF := Lib.hid (N.first g n 1 hG hg hn (by unfold I64; decide))
  have Hg := Lib.hid hg
  clear C N hG hg hn
  go_enter Tryd.func6, Tryd.ntmps6
  go_wp2_with fail
  refine HF.out.mono ?_
  rintro e x1 ⟨rfl, k1⟩
  have K1 := Lib.hid (k1.alloc (.cells #[.int .i64 g] 3))
  clear k1 HF
  go_wp2_with fail
  refine (HN.out.hit (HG.out _ K1.out)).mono ?_
  rintro e x2 ⟨rfl, k2⟩
  have K2 := Lib.hid (K1.out.trans k2)
  clear k2 K1
  go_wp2_with fail
  refine (HN.out.turn (HG.out _ K2.out)).mono ?_
  rintro e x3 ⟨rfl, k3⟩
  have K3 := Lib.hid (K2.out.trans k3)
  clear k3 K2
  go_wp2_with fail
  refine (HN.out.has g (HG.out _ K3.out) Hg.out).mono ?_
  rintro e x4 ⟨rfl, k4⟩
  have K4 := Lib.hid (K3.out.trans k4)
  clear k4 K3
  go_wp2_with fail
  refine (HN.out.len (HG.out _ K4.out)).mono ?_
  rintro e x5 ⟨rfl, k5⟩
  have K5 := Lib.hid (K4.out.trans k5)
  clear k5 K4
  go_wp2_with fail
  refine (HN.out.count (HG.out _ K5.out)).mono ?_
  rintro e x6 ⟨rfl, k6⟩
  have K6 := Lib.hid (K5.out.trans k6)
  clear k6 K5
  go_wp2_with fail
  refine (HN.out.list (HG.out _ K6.out)).mono ?_
  rintro e x7 ⟨v, rfl, hO, k7⟩
  obtain ⟨A, c, rfl, _⟩ := Ir.back_own (Kept.refl [] _) hO
  have K7 := Lib.hid (K6.out.trans k7)
  clear k7 K6 hO
  simp only [List.length_nil]
  go_wp2_with fail
  refine (HN.out.copy (HG.out _ K7.out)).mono ?_
  rintro e x8 ⟨rfl, k8⟩
  have K8 := Lib.hid (K7.out.trans k8)
  clear k8 K7
  go_wp2_with fail
  refine (HA.out _ K8.out).mono ?_
  rintro e x9 ⟨rfl, k9⟩
  have K9 := Lib.hid (K8.out.trans k9)
  clear k9 K8
  go_wp2_with fail
  go_ret
  exact ⟨rfl, K9.out⟩
end
end Go.Proofs.YtijlaganpnoefaaDoor.Bk
