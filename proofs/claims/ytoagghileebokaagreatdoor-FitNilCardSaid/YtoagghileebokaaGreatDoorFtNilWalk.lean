/-
  Stage 13, fit: the law FitNil.
-/
import Derived.Test.YtoagghileebokaaGreatDoorG52
namespace Go.Proofs.YtoagghileebokaaGreatDoor.Ft
open Go.RowKit Go.Proofs.YtoagghileebokaaGreatDoor.Ar
open Go.Proofs.YtoagghileebokaaGreatDoor.Sp (Cel tot Has0 Ids exA ex_a zero_new newC)
open Go.Proofs.YtoagghileebokaaGreatDoor.Hd (Fields)
open Go.Proofs.YtoagghileebokaaGreatDoor.Tb (Ty sizeT sizeE newF)
open Go.Proofs.YtoagghileebokaaGreatDoor.Bk (Pb I64)
set_option linter.unusedVariables false
theorem raw_new : newF [] [⟨4, 0, 0⟩] = ([⟨4, 0, 0⟩], 0) := by decide +kernel
theorem raw_size : sizeE [⟨4, 0, 0⟩] 1 0 = 0 := by decide +kernel
set_option maxRecDepth 100000 in
set_option maxHeartbeats 16000000 in
theorem fnil_walk {TB : World → Prop} {w : World} (F : FCtr TB) (NN : FNil TB) (i n : Int) (hi : I64 i) (hn : I64 n) (hF : Fields w) (hTb : TB w) :
    Calls Tryz.prog 5 #[.int .i64 i, .int .i64 n] w fun e w' => e = .returned (.bool true) ∧ Kept [] w w' := by
  have HA := Lib.hid (fun y (k : Kept [] w y) => alive13_ok F NN (hF.keep0 k) (F.keep hTb k))
  have HFd := Lib.hid hF
  have HTb := Lib.hid hTb
  have HT := Lib.hid (one_type (t := ⟨4, 0, 0⟩) raw_new ⟨by decide, by decide⟩ w)
  have N1 := Lib.hid (fun y (k : Kept [] w y) => NN.first (w := w) (x := y) (N := 0) n (F.keep hTb k) LB.none hn)
  have N2 := Lib.hid (fun y (k : Kept [] w y) => NN.place i n (F.keep hTb k) hi hn)
  have N3 := Lib.hid (fun y (k : Kept [] w y) => NN.most (F.keep hTb k))
  have N4 := Lib.hid (fun y (k : Kept [] w y) => NN.free (F.keep hTb k))
  have HNi := Lib.hid NN
  clear hF hTb F NN
  unfold Bk.I64 at hi hn
  go_enter Tryz.func5, Tryz.ntmps5
  go_wp2_with fail
  refine (HT.out).mono ?_
  rintro e x1 ⟨tp, A, c, rfl, htab, k1⟩
  have HNw := Lib.hid (zero_new (w := w) 16 (by decide) (HFd.out.keep0 k1) htab k1)
  clear htab k1 HT
  go_wp2_with fail
  refine HNw.out.mono ?_
  rintro e x2 ⟨s, rfl, _, h2, _⟩
  rw [ex_a] at h2
  have HB := Lib.hid (Bk.pb_new (w := w) (x := x2) 9 h2.kept (by decide))
  have H2 := Lib.hid h2
  clear h2 HNw
  go_wp2_with fail
  refine HB.out.mono ?_
  rintro e x3 ⟨p, T, rfl, hp, k3, hf⟩
  have H3 := Lib.hid (H2.out.keep0 k3)
  have P3 := Lib.hid hp
  have K3 := Lib.hid H3.out.kept
  have hne : (((List.replicate 9 (0 : Int)).length : Nat) : Int) ≠ tot exA := by decide +kernel
  have D1 := Lib.hid (fun y (k : Kept [] x3 y) => HNi.out.first_other 1 HTb.out (H3.out.keep0 k) (P3.out.keep0 k) hne ⟨by decide, by decide⟩)
  have D2 := Lib.hid (fun y (k : Kept [] x3 y) => HNi.out.most_other HTb.out (H3.out.keep0 k) (P3.out.keep0 k) hne)
  have D3 := Lib.hid (fun y (k : Kept [] x3 y) => HNi.out.free_other HTb.out (H3.out.keep0 k) (P3.out.keep0 k) hne)
  have D4 := Lib.hid (fun y (k : Kept [] x3 y) => HNi.out.place_other 1 0 HTb.out (H3.out.keep0 k) (P3.out.keep0 k) hne ⟨by decide, by decide⟩ ⟨by decide, by decide⟩ raw_size)
  clear hp k3 hf HB H2 H3 P3 hne HNi HFd HTb
  go_wp2_with fail
  refine (N1.out _ K3.out).mono ?_
  rintro e x4 ⟨rfl, k⟩
  have K4 := Lib.hid k
  clear k N1
  go_wp2_with fail
  refine (N2.out _ (K3.out.trans K4.out)).mono ?_
  rintro e x5 ⟨rfl, k⟩
  have K5 := Lib.hid (K4.out.trans k)
  clear k N2 K4
  go_wp2_with fail
  refine (N3.out _ (K3.out.trans K5.out)).mono ?_
  rintro e x6 ⟨rfl, k⟩
  have K6 := Lib.hid (K5.out.trans k)
  clear k N3 K5
  go_wp2_with fail
  refine (N4.out _ (K3.out.trans K6.out)).mono ?_
  rintro e x7 ⟨rfl, k⟩
  have K7 := Lib.hid (K6.out.trans k)
  clear k N4 K6
  go_wp2_with fail
  refine (D1.out _ K7.out).mono ?_
  rintro e x8 ⟨rfl, k⟩
  have K8 := Lib.hid (K7.out.trans k)
  clear k D1 K7
  go_wp2_with fail
  refine (D2.out _ K8.out).mono ?_
  rintro e x9 ⟨rfl, k⟩
  have K9 := Lib.hid (K8.out.trans k)
  clear k D2 K8
  go_wp2_with fail
  refine (D3.out _ K9.out).mono ?_
  rintro e x10 ⟨rfl, k⟩
  have K10 := Lib.hid (K9.out.trans k)
  clear k D3 K9
  go_wp2_with fail
  refine (D4.out _ K10.out).mono ?_
  rintro e x11 ⟨rfl, k⟩
  have K11 := Lib.hid (K3.out.trans (K10.out.trans k))
  clear k D4 K10 K3
  go_wp2_with fail
  refine (HA.out _ K11.out).mono ?_
  rintro e x12 ⟨rfl, k⟩
  have K12 := Lib.hid (K11.out.trans k)
  clear k
  go_wp2_with fail
  go_ret
  exact ⟨rfl, K12.out⟩
end Go.Proofs.YtoagghileebokaaGreatDoor.Ft
