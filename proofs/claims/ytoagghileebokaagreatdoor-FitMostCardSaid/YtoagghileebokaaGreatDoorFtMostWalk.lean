/-
  Stage 13, fit: the law FitMost.
-/
import Derived.Test.YtoagghileebokaaGreatDoorG52
namespace Go.Proofs.YtoagghileebokaaGreatDoor.Ft
open Go.RowKit Go.Proofs.YtoagghileebokaaGreatDoor.Ar
open Go.Proofs.YtoagghileebokaaGreatDoor.Sp (Cel Stp objs tot Has0 Ids zero_cells back_own table_ok)
open Go.Proofs.YtoagghileebokaaGreatDoor.Hd (ofL Fields)
open Go.Proofs.YtoagghileebokaaGreatDoor.Tb (Ty sizeT sizeE)
open Go.Proofs.YtoagghileebokaaGreatDoor.Bk (Pb I64)
set_option linter.unusedVariables false
set_option maxRecDepth 100000 in
set_option maxHeartbeats 16000000 in
theorem fmost_walk {w : World} (F : FCtr Wd.Table) (NN : FNil Wd.Table) (c : Cs) (hF : Fields w) (hTb : Wd.Table w) (hc : c.In w) :
    Calls Tryz.prog 4 #[c.val] w fun e w' => e = .returned (.bool true) ∧ Kept [] w w' := by
  have k0 : Kept [] w (w.alloc (.cells c.cells.toArray 26)) := (Kept.refl [] w).alloc _
  have hbx := Has.new w 26 c.cells
  have HA := Lib.hid (fun y (k : Kept [] w y) => alive13_ok F NN (hF.keep0 k) (Bt.tableKeep hTb k))
  have HHv := Lib.hid (heavy13_ok c (hc.keep0 k0).s2 (fun s hs => ((hc.keep0 k0).r2 s hs).few) hc.n1 hc.n2)
  have HMd := Lib.hid (fun (hl : c.Lit) y (k : Kept [] w y) => made13_ok c (hF.keep0 k) (Bt.tableKeep hTb k) (hc.keep0 k) hl)
  have HF := Lib.hid F
  have HTb := Lib.hid hTb
  have HBx := Lib.hid (fun y (k : Kept [] (w.alloc (.cells c.cells.toArray 26)) y) => hbx.keep0 k)
  have K0 := Lib.hid k0
  have HA1 := Lib.hid hc.a
  clear hF hTb hc F NN k0 hbx
  obtain ⟨a, A, l, cc, A2, L, c2, A3, gs, c3, bare⟩ := c
  unfold Cs.val at *
  unfold Cs.cells at *
  simp only at *
  go_enter Tryz.func4, Tryz.ntmps4
  go_wp2_with fail
  refine HHv.out.mono ?_
  rintro e y ⟨b, rfl, hb, k⟩
  have KY := Lib.hid (K0.out.trans k)
  cases b with
  | true =>
    clear hb k HMd HHv HBx
    go_wp2_with fail
    refine (HA.out _ KY.out).mono ?_
    rintro e z ⟨rfl, kz⟩
    have K := Lib.hid (KY.out.trans kz)
    clear kz
    go_wp2_with fail
    go_ret
    exact ⟨rfl, K.out⟩
  | false =>
    have hbx := HBx.out y k
    have HBy := Lib.hid (fun z (kz : Kept [] y z) => hbx.keep0 kz)
    have q0 := hbx.cell 0
    have q1 := hbx.cell 1
    have q2 := hbx.cell 2
    have q3 := hbx.cell 3
    have q4 := hbx.cell 4
    simp only [List.getElem?_cons_zero, List.getElem?_cons_succ] at q0 q1 q2 q3 q4
    have HM := Lib.hid (HMd.out (hb rfl) y KY.out)
    clear hb hbx k HMd HHv HBx
    go_wp2_with fail
    refine HM.out.mono ?_
    rintro e z (⟨rfl, kz⟩ | ⟨s, r, cs, vb, bl, T, v, rfl, hB, hta⟩)
    · have KZ := Lib.hid (KY.out.trans kz)
      clear kz HM HBy q0 q1 q2 q3 q4
      go_wp2_with fail
      refine (HA.out _ KZ.out).mono ?_
      rintro e z2 ⟨rfl, k2⟩
      have K := Lib.hid (KZ.out.trans k2)
      clear k2
      go_wp2_with fail
      go_ret
      exact ⟨rfl, K.out⟩
    · simp only at hta hB
      have HB := Lib.hid hB
      have C1 := Lib.hid (HF.out.most hB)
      obtain ⟨ws, N, hT, hN, _⟩ := few_of hB.spc
      have hsum := hT.sum
      have m1 := most_free hT bl
      have m2 := most_bare (cs := cs) bl
      have m3 := free_le (cs := cs) bl
      have HAb := Lib.hid (most_above hT bl)
      have HBl := Lib.hid (fun n => most_below (cs := cs) (bl := bl) (n := n))
      have htot : 0 ≤ tot cs := by have := hT.le; omega
      clear HM q0 q1 q2 q3 q4 hB hT
      have C2 := Lib.hid (fun y2 (k : Kept [] z y2) => HF.out.free (HB.out.keep0 k))
      have C3 := Lib.hid (fun y2 (k : Kept [] z y2) => HF.out.most (Both.bare HB.out.tb (HB.out.spc.keep0 k)))
      have C4 := Lib.hid (fun y2 (k : Kept [] z y2) n h1 h2 => HF.out.first n (HB.out.keep0 k) h1 h2)
      have C5 := Lib.hid (fun y2 (k : Kept [] z y2) n h1 h2 => HF.out.first n (Both.bare HB.out.tb (HB.out.spc.keep0 k)) h1 h2)
      generalize mostF noB cs = mb at *
      generalize mostF bl cs = m at *
      generalize freeF bl cs = fr at *
      go_wp2_with fail
      refine C1.out.mono ?_
      rintro e z1 ⟨rfl, k1⟩
      have K1 := Lib.hid k1
      clear k1 C1
      go_wp2_with fail
      refine (C2.out _ K1.out).mono ?_
      rintro e z2 ⟨rfl, k2⟩
      have K2 := Lib.hid (K1.out.trans k2)
      clear k2 C2 K1
      go_wp2_with fail
      refine (C3.out _ K2.out).mono ?_
      rintro e z3 ⟨rfl, k3⟩
      have K3 := Lib.hid (K2.out.trans k3)
      clear k3 C3 K2
      have q0 := (HBy.out z3 (HB.out.spc.kept.trans K3.out)).cell 0
      simp only [List.getElem?_cons_zero] at q0
      obtain ⟨t, ht⟩ := Int.eq_ofNat_of_zero_le htot
      rw [ht] at hta
      subst hta
      have hq : Int.tdiv (2 * (t : Int)) 2 = (t : Int) := Int.mul_tdiv_cancel_left (t : Int) (by decide)
      have htt : (tot cs).toNat = t := by omega
      rw [htt] at m3
      have g1 : ¬ ((fr : Int) < (m : Int)) := by omega
      have g2 : ¬ ((mb : Int) < (m : Int)) := by omega
      have g3 : ¬ ((t : Int) < (fr : Int)) := by omega
      go_wp2_with fail
      simp only [show decide ((m : Int) < 0) = false from decide_eq_false (by omega), show decide (fr < m) = false from decide_eq_false (by omega), show decide (mb < m) = false from decide_eq_false (by omega), show decide (t < fr) = false from decide_eq_false (by omega), Bool.or_false]
      clear q0 HBy
      have H0 : Hid ((0 = 0 ∧ (0 : Int) = 0 ∨ ∃ x : Nat, firstF bl cs 0 = some x ∧ (0 : Int) = (x : Int)) ∧ Kept [] z z3) := Lib.hid ⟨.inl ⟨rfl, rfl⟩, K3.out⟩
      go_loopw [14, 15] (fun u tt wr => ∃ k : Nat, ∃ la : Int, tt = .int .i64 ((k : Int) + 1) ∧ u = .int .i64 la ∧ 0 ≤ la ∧ la ≤ 65536 ∧ k ≤ m ∧ Hid ((k = 0 ∧ la = 0 ∨ ∃ x : Nat, firstF bl cs k = some x ∧ la = (x : Int)) ∧ Kept [] z wr)) (fun _ tt _ => m + 1 - (intOf tt).toNat)
      case atStart => exact ⟨0, 0, by rfl, rfl, by omega, by omega, Nat.zero_le _, H0⟩
      case round =>
        clear H0 K3
        obtain ⟨k, la, rfl, rfl, hla, hla2, hk, hr⟩ := hrel
        by_cases hlt : k < m
        · obtain ⟨x, hx⟩ := HBl.out (k + 1) (by omega) (by omega)
          obtain ⟨y2, hy2, hyx⟩ := first_bare hx
          have hxf := (first_some hx).1
          have hlx : la ≤ (x : Int) := by
            rcases hr.out.1 with ⟨_, h0⟩ | ⟨x0, h0, h1⟩
            · omega
            · have := first_rise (by omega) h0 hx
              omega
          have D4 := Lib.hid (C4.out wr hr.out.2 (k + 1) (by omega) (by omega))
          rw [firstV_some hx] at D4
          have D5 := Lib.hid (fun y3 (k3 : Kept [] z y3) => C5.out y3 k3 (k + 1) (by omega) (by omega))
          rw [firstV_some hy2] at D5
          have HK := Lib.hid hr.out.2
          have HX := Lib.hid hx
          have e1 : ((k + 1 : Nat) : Int) = (k : Int) + 1 := by omega
          rw [e1] at D4 D5
          have g4 : ¬ ((x : Int) < la) := by omega
          have g5 : ¬ ((x : Int) < (y2 : Int)) := by omega
          clear hx hy2 hr e1
          go_wp2_with fail
          refine D4.out.mono ?_
          rintro e x1 ⟨rfl, k1⟩
          have HK1 := Lib.hid (HK.out.trans k1)
          clear k1 D4 HK
          go_wp2_with fail
          refine (D5.out _ HK1.out).mono ?_
          rintro e x2 ⟨rfl, k2⟩
          have HN : Hid ((k + 1 = 0 ∧ (x : Int) = 0 ∨ ∃ x0 : Nat, firstF bl cs (k + 1) = some x0 ∧ (x : Int) = (x0 : Int)) ∧ Kept [] z x2) := Lib.hid ⟨.inr ⟨x, HX.out, rfl⟩, HK1.out.trans k2⟩
          clear k2 D5 HK1 HX
          go_wp2_with fail
          go_roundw
          case rel => exact ⟨k + 1, (x : Int), by go_num, rfl, by omega, by omega, by omega, HN⟩
          case measure => simp [intOf] <;> omega
        · obtain rfl : k = m := by omega
          have D6 := Lib.hid (C4.out wr hr.out.2 (k + 1) (by omega) (by omega))
          rw [firstV_none HAb.out] at D6
          have HK := Lib.hid hr.out.2
          have e1 : ((k + 1 : Nat) : Int) = (k : Int) + 1 := by omega
          rw [e1] at D6
          clear hr e1 C4 C5 HBl HAb
          go_wp2_with fail
          refine D6.out.mono ?_
          rintro e x1 ⟨rfl, k1⟩
          have KZ := Lib.hid (KY.out.trans (HB.out.spc.kept.trans (HK.out.trans k1)))
          clear k1 D6 HK HB
          go_wp2_with fail
          refine (HA.out _ KZ.out).mono ?_
          rintro e x2 ⟨rfl, k2⟩
          have K := Lib.hid (KZ.out.trans k2)
          clear k2
          go_wp2_with fail
          go_ret
          exact ⟨rfl, K.out⟩
end Go.Proofs.YtoagghileebokaaGreatDoor.Ft
