/-
  Stage 12, black: the law BlackPlays returns true.
-/
import Derived.Test.YtijlaganpnoefaaDoorBkOld
import Derived.Test.YtijlaganpnoefaaDoorBkRefFirst
namespace Go.Proofs.YtijlaganpnoefaaDoor.Bk
open Go.RowKit Go.Proofs.YtijlaganpnoefaaDoor.Ar
set_option linter.unusedVariables false
section
variable {G : World → Prop} {P : World → World → Nat → List Nat → List Int → Prop} {w : World}
set_option maxRecDepth 100000 in
set_option maxHeartbeats 16000000 in
theorem plays_walk (C : Ctr G P) (hG : G w) (n : Int) (A : Option Addr) (L : List BStp) (cap : Nat) (a2 a3 a4 : Int) (hn : I64 n) (h2 : I64 a2) (h3 : I64 a3) (h4 : I64 a4) (hS : BSteps w A L) (hR : ∀ s ∈ L, BRead w s) (hL : L.length ≤ 4398046511104) :
    Calls Tryd.prog 3 #[.int .i64 n, .slice A L.length cap, .int .i64 a2, .int .i64 a3, .int .i64 a4] w fun e y => e = .returned (.bool true) ∧ Kept [] w y := by
  have HA := Lib.hid (fun y (k : Kept [] w y) => alive12_ok C (C.gkeep hG k))
  have HH := Lib.hid (heavy12_ok n A L cap hS (fun s hs => (hR s hs).few) hL)
  have HNo := Lib.hid (fun (h : n < 0 ∨ 65536 < n) => C.new_no (x := w) n hG hn h)
  have HYes := Lib.hid (fun (m : Nat) (h : m ≤ 65536) => C.new_yes (x := w) m hG (Kept.refl [] w) h)
  have HMay := Lib.hid (fun y => may12_ok n y)
  have HC := Lib.hid C
  have HS := Lib.hid hS
  have HR := Lib.hid hR
  have H2 := Lib.hid h2
  have H3 := Lib.hid h3
  have H4 := Lib.hid h4
  clear C hG hS hR hL hn h2 h3 h4
  go_enter Tryd.func3, Tryd.ntmps3
  go_wp2_with fail
  refine HH.out.mono ?_
  rintro e y ⟨⟨b, rfl, hb⟩, rfl⟩
  clear HH
  cases b with
  | true =>
    clear hb
    go_wp2_with fail
    refine (HA.out _ (Kept.refl [] w)).mono ?_
    rintro e y ⟨rfl, hk⟩
    have HK := Lib.hid (((Kept.refl [] w)).trans hk)
    clear hk
    go_wp2_with fail
    go_ret
    exact ⟨rfl, HK.out⟩
  | false =>
    obtain ⟨hn, hLl, hEa⟩ := hb rfl
    have HEa := Lib.hid hEa
    clear hb hEa
    by_cases h5 : 500 < a4 ∧ a4 ≤ 65536
    · obtain ⟨h5, h6⟩ := h5
      clear hn
      go_wp2_with fail
      refine (HA.out _ (Kept.refl [] w)).mono ?_
      rintro e y ⟨rfl, hk⟩
      have HK := Lib.hid (((Kept.refl [] w)).trans hk)
      clear hk
      go_wp2_with fail
      go_ret
      exact ⟨rfl, HK.out⟩
    · have h5' : a4 ≤ 500 ∨ 65536 < a4 := by omega
      clear h5
      by_cases h0 : 0 ≤ n ∧ n ≤ 65536
      · have HM := Lib.hid HMay.out
        obtain ⟨m, rfl⟩ := Int.eq_ofNat_of_zero_le h0.1
        have HN := Lib.hid (HYes.out m (by omega))
        rw [decide_eq_true h0] at HM
        have hm : m ≤ 400 := by omega
        clear HNo HYes HMay h0 hn
        rcases h5' with h5 | h5
        · have h6 : ¬ 500 < a4 := by omega
          go_wp2_with fail
          refine HN.out.mono ?_
          rintro e x1 ⟨p0, T0, rfl, hP1, _, _⟩
          have HP1 := Lib.hid hP1
          clear hP1 HN
          go_wp2_with fail
          refine (HM.out _).mono ?_
          rintro e x2 ⟨rfl, rfl⟩
          clear HM
          have HB := Lib.hid (bnew_ok m (by omega) x1)
          go_wp2_with fail
          refine HB.out.mono ?_
          rintro e x2 ⟨rfl, hB, k2⟩
          have HD0 : Hid (∃ T ls, BDuo P w x2 p0 T ls (x1.heap.size + 1) x1.heap.size ls) := Lib.hid ⟨_, _, duo_new HC.out HP1.out hB k2⟩
          clear hB k2 HB HP1
          generalize x1.heap.size + 1 = r at *
          generalize x1.heap.size = q at *
          go_wp2_with fail
          go_loopw [11, 14] (fun a t wr => ∃ (j p : Nat), a = .pointer (some ⟨p, 0, none⟩) ∧ t = .int .i64 (j : Int) ∧ j ≤ L.length ∧ Hid (∃ T ls, BDuo P w wr p T ls r q ls)) (fun _ t _ => L.length - (intOf t).toNat)
          case atStart => exact ⟨0, p0, rfl, rfl, Nat.zero_le _, HD0⟩
          case round =>
            clear HD0
            obtain ⟨j, p, rfl, rfl, hj, hr⟩ := hrel
            by_cases hlt : j < L.length
            · obtain ⟨g0, f0, rfl, hg0, _, _⟩ := HS.out.at j hlt
              have hmem := List.getElem_mem hlt
              have HRd := Lib.hid (HR.out _ hmem)
              have hfew := HEa.out _ hmem
              have HCell : Hid (∀ y, Kept [] w y → y.cell? ⟨g0, f0 + j * 2, none⟩ = some (.int .i64 (L[j]'hlt).d) ∧ y.cell? ⟨g0, f0 + j * 2 + 1, none⟩ = some (.slice (L[j]'hlt).A (L[j]'hlt).len (L[j]'hlt).cap)) := Lib.hid fun y k => by
                obtain ⟨g1, f1, e, _, c0, c1⟩ := (HS.out.keep0 k).at j hlt
                cases e
                exact ⟨c0, c1⟩
              clear hmem
              generalize L[j]'hlt = s at *
              obtain ⟨sd, sA, sl, sc⟩ := s
              obtain ⟨gs, hgl, hgs, hgI⟩ := HRd.out.gs
              simp only at *
              subst hgl
              have HGs := Lib.hid hgs
              have HGI := Lib.hid hgI
              obtain ⟨T, ls, hD⟩ := hr.out
              have HD := Lib.hid hD
              clear hD hr hgs hgI
              by_cases e2 : sd = 2
              · subst e2
                have hb2 : ((2 : Int) == 2) = true := rfl
                obtain ⟨c0, c1⟩ := HCell.out wr (HC.out.start HD.out.ours)
                have HCp := Lib.hid (HC.out.copy HD.out.ours)
                go_wp2_with fail
                refine HCp.out.mono ?_
                rintro e x3 ⟨p2, T2, rfl, hP2, k3, f3⟩
                have HO := Lib.hid (Old.copied HC.out HD.out hP2 k3 f3)
                have HHi := Lib.hid (old_hit HC.out HO.out [0] (i64_lit rfl) (by decide))
                clear hP2 k3 f3 HCp HD c0 c1
                go_wp2_with fail
                refine HHi.out.mono ?_
                rintro e x4 ⟨⟨v4, rfl⟩, S4, os4, hO4⟩
                have HT4 := Lib.hid (old_turn HC.out hO4)
                clear HO HHi hO4
                go_wp2_with fail
                refine HT4.out.mono ?_
                rintro e x5 ⟨⟨v5, rfl⟩, S5, os5, hO5⟩
                have HT5 := Lib.hid (old_turn HC.out hO5)
                clear HT4 hO5
                go_wp2_with fail
                refine HT5.out.mono ?_
                rintro e x6 ⟨⟨v6, rfl⟩, S6, os6, hO6⟩
                have HD := Lib.hid hO6.duo
                clear HT5 hO6
                obtain ⟨c0, c1⟩ := HCell.out x6 (HC.out.start HD.out.ours)
                have HDo := Lib.hid (does_ok HC.out HD.out ⟨2, sA, gs.length, sc⟩ gs rfl HGs.out HGI.out HRd.out.nil (by omega))
                simp only at HDo
                generalize stepL ls 2 gs = R at *
                clear HD HGs HGI HRd HCell
                go_wp2_with fail
                refine HDo.out.mono ?_
                rintro e y1 ⟨rfl, T1, hD1⟩
                have HSm := Lib.hid (lsame_ok HC.out hD1)
                have HD1 := Lib.hid hD1
                clear hD1 HDo c0 c1
                go_wp2_with fail
                refine HSm.out.mono ?_
                rintro e y2 ⟨rfl, k2⟩
                have HD2 := Lib.hid (HD1.out.keep0 HC.out k2)
                have HFi := Lib.hid (HC.out.first a2 a3 a4 HD2.out.ours H2.out H3.out H4.out)
                have HFd := Lib.hid (fun y (k : Kept [] y2 y) => bfirst_ok (HD2.out.doc.keep0 k) a2 a3 a4 H2.out H3.out H4.out)
                have HHa := Lib.hid (fun y (k : Kept [] y2 y) => HC.out.has a2 (HC.out.keep0 HD2.out.ours k) H2.out)
                have HHd := Lib.hid (fun y (k : Kept [] y2 y) => bhas_ok (HD2.out.doc.keep0 k) a2)
                have HFin := Lib.hid (fun y (k : Kept [] y2 y) => (⟨T1, R, HD2.out.keep0 HC.out k⟩ : ∃ T ls, BDuo P w y p2 T ls r q ls))
                generalize (firstL R a2 a3 a4).getD 0 = fv at *
                generalize (firstL R a2 a3 a4).isSome = fb at *
                generalize hasL R a2 = hh at *
                clear HD1 HD2 HSm k2
                go_wp2_with fail
                refine HFi.out.mono ?_
                rintro e y3 ⟨rfl, k3⟩
                have K3 := Lib.hid k3
                clear k3 HFi
                go_wp2_with fail
                refine (HFd.out _ K3.out).mono ?_
                rintro e y4 ⟨rfl, rfl⟩
                clear HFd
                have hfv : (fv != fv) = false := by simp
                have hfb : (fb != fb) = false := by simp
                have hhh : (hh != hh) = false := by simp
                go_wp2_with fail
                refine (HHa.out _ K3.out).mono ?_
                rintro e y5 ⟨rfl, k5⟩
                have K5 := Lib.hid (K3.out.trans k5)
                clear k5 K3
                go_wp2_with fail
                refine (HHd.out _ K5.out).mono ?_
                rintro e y6 ⟨rfl, rfl⟩
                have HRel := Lib.hid (HFin.out _ K5.out)
                clear HHa HHd HFin K5
                go_wp2_with fail
                go_roundw
                case rel => exact ⟨j + 1, p2, rfl, by go_num, by omega, HRel⟩
                case measure => simp [intOf] <;> omega
              · have hb2 : (sd == 2) = false := by simpa using e2
                obtain ⟨c0, c1⟩ := HCell.out wr (HC.out.start HD.out.ours)
                have HDo := Lib.hid (does_ok HC.out HD.out ⟨sd, sA, gs.length, sc⟩ gs rfl HGs.out HGI.out HRd.out.nil (by omega))
                simp only at HDo
                generalize stepL ls sd gs = R at *
                clear HD HGs HGI HRd HCell
                go_wp2_with fail
                refine HDo.out.mono ?_
                rintro e y1 ⟨rfl, T1, hD1⟩
                have HSm := Lib.hid (lsame_ok HC.out hD1)
                have HD1 := Lib.hid hD1
                clear hD1 HDo c0 c1
                go_wp2_with fail
                refine HSm.out.mono ?_
                rintro e y2 ⟨rfl, k2⟩
                have HD2 := Lib.hid (HD1.out.keep0 HC.out k2)
                have HFi := Lib.hid (HC.out.first a2 a3 a4 HD2.out.ours H2.out H3.out H4.out)
                have HFd := Lib.hid (fun y (k : Kept [] y2 y) => bfirst_ok (HD2.out.doc.keep0 k) a2 a3 a4 H2.out H3.out H4.out)
                have HHa := Lib.hid (fun y (k : Kept [] y2 y) => HC.out.has a2 (HC.out.keep0 HD2.out.ours k) H2.out)
                have HHd := Lib.hid (fun y (k : Kept [] y2 y) => bhas_ok (HD2.out.doc.keep0 k) a2)
                have HFin := Lib.hid (fun y (k : Kept [] y2 y) => (⟨T1, R, HD2.out.keep0 HC.out k⟩ : ∃ T ls, BDuo P w y p T ls r q ls))
                generalize (firstL R a2 a3 a4).getD 0 = fv at *
                generalize (firstL R a2 a3 a4).isSome = fb at *
                generalize hasL R a2 = hh at *
                clear HD1 HD2 HSm k2
                go_wp2_with fail
                refine HFi.out.mono ?_
                rintro e y3 ⟨rfl, k3⟩
                have K3 := Lib.hid k3
                clear k3 HFi
                go_wp2_with fail
                refine (HFd.out _ K3.out).mono ?_
                rintro e y4 ⟨rfl, rfl⟩
                clear HFd
                have hfv : (fv != fv) = false := by simp
                have hfb : (fb != fb) = false := by simp
                have hhh : (hh != hh) = false := by simp
                go_wp2_with fail
                refine (HHa.out _ K3.out).mono ?_
                rintro e y5 ⟨rfl, k5⟩
                have K5 := Lib.hid (K3.out.trans k5)
                clear k5 K3
                go_wp2_with fail
                refine (HHd.out _ K5.out).mono ?_
                rintro e y6 ⟨rfl, rfl⟩
                have HRel := Lib.hid (HFin.out _ K5.out)
                clear HHa HHd HFin K5
                go_wp2_with fail
                go_roundw
                case rel => exact ⟨j + 1, p, rfl, by go_num, by omega, HRel⟩
                case measure => simp [intOf] <;> omega
            · obtain ⟨T, ls, hD⟩ := hr.out
              have HSm := Lib.hid (lsame_ok HC.out hD)
              have K1 := Lib.hid (HC.out.start hD.ours)
              obtain rfl : j = L.length := by omega
              clear hD hr hlt hj HS HR HEa
              go_wp2_with fail
              refine HSm.out.mono ?_
              rintro e y1 ⟨rfl, k1⟩
              have K2 := Lib.hid (K1.out.trans k1)
              clear k1 HSm K1
              go_wp2_with fail
              refine (HA.out _ K2.out).mono ?_
              rintro e y ⟨rfl, hk⟩
              have HK := Lib.hid ((K2.out).trans hk)
              clear hk
              go_wp2_with fail
              go_ret
              exact ⟨rfl, HK.out⟩
        · have h6 : 500 < a4 := by omega
          have h7 : ¬ a4 ≤ 65536 := by omega
          go_wp2_with fail
          refine HN.out.mono ?_
          rintro e x1 ⟨p0, T0, rfl, hP1, _, _⟩
          have HP1 := Lib.hid hP1
          clear hP1 HN
          go_wp2_with fail
          refine (HM.out _).mono ?_
          rintro e x2 ⟨rfl, rfl⟩
          clear HM
          have HB := Lib.hid (bnew_ok m (by omega) x1)
          go_wp2_with fail
          refine HB.out.mono ?_
          rintro e x2 ⟨rfl, hB, k2⟩
          have HD0 : Hid (∃ T ls, BDuo P w x2 p0 T ls (x1.heap.size + 1) x1.heap.size ls) := Lib.hid ⟨_, _, duo_new HC.out HP1.out hB k2⟩
          clear hB k2 HB HP1
          generalize x1.heap.size + 1 = r at *
          generalize x1.heap.size = q at *
          go_wp2_with fail
          go_loopw [11, 14] (fun a t wr => ∃ (j p : Nat), a = .pointer (some ⟨p, 0, none⟩) ∧ t = .int .i64 (j : Int) ∧ j ≤ L.length ∧ Hid (∃ T ls, BDuo P w wr p T ls r q ls)) (fun _ t _ => L.length - (intOf t).toNat)
          case atStart => exact ⟨0, p0, rfl, rfl, Nat.zero_le _, HD0⟩
          case round =>
            clear HD0
            obtain ⟨j, p, rfl, rfl, hj, hr⟩ := hrel
            by_cases hlt : j < L.length
            · obtain ⟨g0, f0, rfl, hg0, _, _⟩ := HS.out.at j hlt
              have hmem := List.getElem_mem hlt
              have HRd := Lib.hid (HR.out _ hmem)
              have hfew := HEa.out _ hmem
              have HCell : Hid (∀ y, Kept [] w y → y.cell? ⟨g0, f0 + j * 2, none⟩ = some (.int .i64 (L[j]'hlt).d) ∧ y.cell? ⟨g0, f0 + j * 2 + 1, none⟩ = some (.slice (L[j]'hlt).A (L[j]'hlt).len (L[j]'hlt).cap)) := Lib.hid fun y k => by
                obtain ⟨g1, f1, e, _, c0, c1⟩ := (HS.out.keep0 k).at j hlt
                cases e
                exact ⟨c0, c1⟩
              clear hmem
              generalize L[j]'hlt = s at *
              obtain ⟨sd, sA, sl, sc⟩ := s
              obtain ⟨gs, hgl, hgs, hgI⟩ := HRd.out.gs
              simp only at *
              subst hgl
              have HGs := Lib.hid hgs
              have HGI := Lib.hid hgI
              obtain ⟨T, ls, hD⟩ := hr.out
              have HD := Lib.hid hD
              clear hD hr hgs hgI
              by_cases e2 : sd = 2
              · subst e2
                have hb2 : ((2 : Int) == 2) = true := rfl
                obtain ⟨c0, c1⟩ := HCell.out wr (HC.out.start HD.out.ours)
                have HCp := Lib.hid (HC.out.copy HD.out.ours)
                go_wp2_with fail
                refine HCp.out.mono ?_
                rintro e x3 ⟨p2, T2, rfl, hP2, k3, f3⟩
                have HO := Lib.hid (Old.copied HC.out HD.out hP2 k3 f3)
                have HHi := Lib.hid (old_hit HC.out HO.out [0] (i64_lit rfl) (by decide))
                clear hP2 k3 f3 HCp HD c0 c1
                go_wp2_with fail
                refine HHi.out.mono ?_
                rintro e x4 ⟨⟨v4, rfl⟩, S4, os4, hO4⟩
                have HT4 := Lib.hid (old_turn HC.out hO4)
                clear HO HHi hO4
                go_wp2_with fail
                refine HT4.out.mono ?_
                rintro e x5 ⟨⟨v5, rfl⟩, S5, os5, hO5⟩
                have HT5 := Lib.hid (old_turn HC.out hO5)
                clear HT4 hO5
                go_wp2_with fail
                refine HT5.out.mono ?_
                rintro e x6 ⟨⟨v6, rfl⟩, S6, os6, hO6⟩
                have HD := Lib.hid hO6.duo
                clear HT5 hO6
                obtain ⟨c0, c1⟩ := HCell.out x6 (HC.out.start HD.out.ours)
                have HDo := Lib.hid (does_ok HC.out HD.out ⟨2, sA, gs.length, sc⟩ gs rfl HGs.out HGI.out HRd.out.nil (by omega))
                simp only at HDo
                generalize stepL ls 2 gs = R at *
                clear HD HGs HGI HRd HCell
                go_wp2_with fail
                refine HDo.out.mono ?_
                rintro e y1 ⟨rfl, T1, hD1⟩
                have HSm := Lib.hid (lsame_ok HC.out hD1)
                have HD1 := Lib.hid hD1
                clear hD1 HDo c0 c1
                go_wp2_with fail
                refine HSm.out.mono ?_
                rintro e y2 ⟨rfl, k2⟩
                have HD2 := Lib.hid (HD1.out.keep0 HC.out k2)
                have HFi := Lib.hid (HC.out.first a2 a3 a4 HD2.out.ours H2.out H3.out H4.out)
                have HFd := Lib.hid (fun y (k : Kept [] y2 y) => bfirst_ok (HD2.out.doc.keep0 k) a2 a3 a4 H2.out H3.out H4.out)
                have HHa := Lib.hid (fun y (k : Kept [] y2 y) => HC.out.has a2 (HC.out.keep0 HD2.out.ours k) H2.out)
                have HHd := Lib.hid (fun y (k : Kept [] y2 y) => bhas_ok (HD2.out.doc.keep0 k) a2)
                have HFin := Lib.hid (fun y (k : Kept [] y2 y) => (⟨T1, R, HD2.out.keep0 HC.out k⟩ : ∃ T ls, BDuo P w y p2 T ls r q ls))
                generalize (firstL R a2 a3 a4).getD 0 = fv at *
                generalize (firstL R a2 a3 a4).isSome = fb at *
                generalize hasL R a2 = hh at *
                clear HD1 HD2 HSm k2
                go_wp2_with fail
                refine HFi.out.mono ?_
                rintro e y3 ⟨rfl, k3⟩
                have K3 := Lib.hid k3
                clear k3 HFi
                go_wp2_with fail
                refine (HFd.out _ K3.out).mono ?_
                rintro e y4 ⟨rfl, rfl⟩
                clear HFd
                have hfv : (fv != fv) = false := by simp
                have hfb : (fb != fb) = false := by simp
                have hhh : (hh != hh) = false := by simp
                go_wp2_with fail
                refine (HHa.out _ K3.out).mono ?_
                rintro e y5 ⟨rfl, k5⟩
                have K5 := Lib.hid (K3.out.trans k5)
                clear k5 K3
                go_wp2_with fail
                refine (HHd.out _ K5.out).mono ?_
                rintro e y6 ⟨rfl, rfl⟩
                have HRel := Lib.hid (HFin.out _ K5.out)
                clear HHa HHd HFin K5
                go_wp2_with fail
                go_roundw
                case rel => exact ⟨j + 1, p2, rfl, by go_num, by omega, HRel⟩
                case measure => simp [intOf] <;> omega
              · have hb2 : (sd == 2) = false := by simpa using e2
                obtain ⟨c0, c1⟩ := HCell.out wr (HC.out.start HD.out.ours)
                have HDo := Lib.hid (does_ok HC.out HD.out ⟨sd, sA, gs.length, sc⟩ gs rfl HGs.out HGI.out HRd.out.nil (by omega))
                simp only at HDo
                generalize stepL ls sd gs = R at *
                clear HD HGs HGI HRd HCell
                go_wp2_with fail
                refine HDo.out.mono ?_
                rintro e y1 ⟨rfl, T1, hD1⟩
                have HSm := Lib.hid (lsame_ok HC.out hD1)
                have HD1 := Lib.hid hD1
                clear hD1 HDo c0 c1
                go_wp2_with fail
                refine HSm.out.mono ?_
                rintro e y2 ⟨rfl, k2⟩
                have HD2 := Lib.hid (HD1.out.keep0 HC.out k2)
                have HFi := Lib.hid (HC.out.first a2 a3 a4 HD2.out.ours H2.out H3.out H4.out)
                have HFd := Lib.hid (fun y (k : Kept [] y2 y) => bfirst_ok (HD2.out.doc.keep0 k) a2 a3 a4 H2.out H3.out H4.out)
                have HHa := Lib.hid (fun y (k : Kept [] y2 y) => HC.out.has a2 (HC.out.keep0 HD2.out.ours k) H2.out)
                have HHd := Lib.hid (fun y (k : Kept [] y2 y) => bhas_ok (HD2.out.doc.keep0 k) a2)
                have HFin := Lib.hid (fun y (k : Kept [] y2 y) => (⟨T1, R, HD2.out.keep0 HC.out k⟩ : ∃ T ls, BDuo P w y p T ls r q ls))
                generalize (firstL R a2 a3 a4).getD 0 = fv at *
                generalize (firstL R a2 a3 a4).isSome = fb at *
                generalize hasL R a2 = hh at *
                clear HD1 HD2 HSm k2
                go_wp2_with fail
                refine HFi.out.mono ?_
                rintro e y3 ⟨rfl, k3⟩
                have K3 := Lib.hid k3
                clear k3 HFi
                go_wp2_with fail
                refine (HFd.out _ K3.out).mono ?_
                rintro e y4 ⟨rfl, rfl⟩
                clear HFd
                have hfv : (fv != fv) = false := by simp
                have hfb : (fb != fb) = false := by simp
                have hhh : (hh != hh) = false := by simp
                go_wp2_with fail
                refine (HHa.out _ K3.out).mono ?_
                rintro e y5 ⟨rfl, k5⟩
                have K5 := Lib.hid (K3.out.trans k5)
                clear k5 K3
                go_wp2_with fail
                refine (HHd.out _ K5.out).mono ?_
                rintro e y6 ⟨rfl, rfl⟩
                have HRel := Lib.hid (HFin.out _ K5.out)
                clear HHa HHd HFin K5
                go_wp2_with fail
                go_roundw
                case rel => exact ⟨j + 1, p, rfl, by go_num, by omega, HRel⟩
                case measure => simp [intOf] <;> omega
            · obtain ⟨T, ls, hD⟩ := hr.out
              have HSm := Lib.hid (lsame_ok HC.out hD)
              have K1 := Lib.hid (HC.out.start hD.ours)
              obtain rfl : j = L.length := by omega
              clear hD hr hlt hj HS HR HEa
              go_wp2_with fail
              refine HSm.out.mono ?_
              rintro e y1 ⟨rfl, k1⟩
              have K2 := Lib.hid (K1.out.trans k1)
              clear k1 HSm K1
              go_wp2_with fail
              refine (HA.out _ K2.out).mono ?_
              rintro e y ⟨rfl, hk⟩
              have HK := Lib.hid ((K2.out).trans hk)
              clear hk
              go_wp2_with fail
              go_ret
              exact ⟨rfl, HK.out⟩
      · have HM := Lib.hid HMay.out
        rw [decide_eq_false h0] at HM
        have HN := Lib.hid (HNo.out (by omega))
        clear HNo HYes HMay h0 hn
        rcases h5' with h5 | h5
        all_goals
          first | have h6 : ¬ 500 < a4 := by omega | (have h6 : 500 < a4 := (by omega); have h7 : ¬ a4 ≤ 65536 := (by omega))
          go_wp2_with fail
          refine HN.out.mono ?_
          rintro e x1 ⟨rfl, k1⟩
          have K1 := Lib.hid k1
          clear k1 HN
          go_wp2_with fail
          refine (HM.out _).mono ?_
          rintro e x2 ⟨rfl, rfl⟩
          clear HM
          go_wp2_with fail
          refine (HA.out _ K1.out).mono ?_
          rintro e y ⟨rfl, hk⟩
          have HK := Lib.hid ((K1.out).trans hk)
          clear hk
          go_wp2_with fail
          go_ret
          exact ⟨rfl, HK.out⟩
end
end Go.Proofs.YtijlaganpnoefaaDoor.Bk
