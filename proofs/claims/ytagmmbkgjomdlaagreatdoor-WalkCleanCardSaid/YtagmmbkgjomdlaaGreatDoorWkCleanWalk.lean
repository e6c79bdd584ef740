/-
  The law WalkClean returns true.
-/
import Derived.Test.YtagmmbkgjomdlaaGreatDoorG48
import Derived.Test.YtagmmbkgjomdlaaGreatDoorG42
import Derived.Test.YtagmmbkgjomdlaaGreatDoorG47
import Derived.Test.YtagmmbkgjomdlaaGreatDoorWkFlt
import Derived.Deep.RegionHeld3
namespace Go.Proofs.YtagmmbkgjomdlaaGreatDoor.Wk
open Go.RowKit Go.Proofs.YtagmmbkgjomdlaaGreatDoor.Ar
open Go.Proofs.YtagmmbkgjomdlaaGreatDoor.Sp hiding Own own_from own_put back_own Seen own_cells seen_one
open Go.Proofs.YtagmmbkgjomdlaaGreatDoor.Sh (hdH ofE ofT ofS atG)
open Go.Proofs.YtagmmbkgjomdlaaGreatDoor.Hd (Hd Fields)
open Go.Proofs.YtagmmbkgjomdlaaGreatDoor.Tb (Ty Tab newF)
open Go.Proofs.YtagmmbkgjomdlaaGreatDoor.Bt (Bv hasV layB)
open Go.Proofs.YtagmmbkgjomdlaaGreatDoor.Wd (Table)
set_option linter.unusedVariables false

section
variable {w : World}
set_option maxRecDepth 100000 in
set_option maxHeartbeats 16000000 in
theorem clean_walk (a0 : Int) (b0 : -9223372036854775808 ≤ a0 ∧ a0 ≤ 9223372036854775807) (A1 : Option Addr) (l : List Ty) (cap1 : Nat) (A2 : Option Addr) (L : List Stp) (cap2 : Nat) (tn : Int) (tn0 : 0 ≤ tn ∧ tn < 65536) (hF : Fields w) (hTb : Table w)
    (hl : l.length ≤ maxLen) (hS1 : Tb.Seen w A1 l) (hok1 : ∀ t ∈ l, t.ok) (hL : L.length ≤ maxLen) (hS2 : Sp.Steps w A2 L) (hok2 : ∀ s ∈ L, s.ok) (hrd : ∀ s ∈ L, Read w s) :
    Calls Tryz.prog 4 #[.int .i64 a0, .slice A1 l.length cap1, .slice A2 L.length cap2, .int .u16 tn] w fun e w' => e = .returned (.bool true) ∧ Kept [] w w' := by
  have HA := Lib.hid (fun y (k : Kept [] w y) => alive10_ok (hF.keep0 k) (table_keep0 hTb k))
  have HH := Lib.hid (heavy2_ok a0 A1 l.length cap1 A2 L cap2 hS2 (fun s hs => (hrd s hs).few) hl hL)
  have HMd := Lib.hid (fun (h : l.length ≤ 100000) => made_ok (d := cap1) a0 b0.1 b0.2 hF hTb hS1 hok1 h)
  have HS1 := Lib.hid hS1
  have HS2 := Lib.hid hS2
  have HOk2 := Lib.hid hok2
  have HRd := Lib.hid hrd
  clear hF hTb hS1 hok1 hS2 hok2 hrd hl hL
  go_enter Tryz.func4, Tryz.ntmps4
  go_wp2_with fail
  refine HH.out.mono ?_
  rintro e y ⟨⟨b, rfl, hb⟩, rfl⟩
  clear HH
  cases b with
  | true =>
    clear hb
    go_wp2_with fail
    refine (HA.out _ (Kept.refl [] w)).mono ?_
    rintro e y ⟨rfl, hk⟩
    have HK := Lib.hid (((Kept.refl [] w)).trans hk)
    clear hk
    go_wp2_with fail
    go_ret
    exact ⟨rfl, HK.out⟩
  | false =>
    obtain ⟨⟨hn, hl, hL⟩, hEa⟩ := hb rfl
    have HEa := Lib.hid hEa
    clear hb hEa
    have HMd := Lib.hid (HMd.out (by omega))
    go_wp2_with fail
    refine HMd.out.mono ?_
    rintro e x1 (⟨_, rfl, k1⟩ | ⟨m, s, r, hm, hmb, rfl, hD⟩)
    · have K1 := Lib.hid k1
      clear k1
      go_wp2_with fail
      refine (HA.out _ K1.out).mono ?_
      rintro e y ⟨rfl, hk⟩
      have HK := Lib.hid ((K1.out).trans hk)
      clear hk
      go_wp2_with fail
      go_ret
      exact ⟨rfl, HK.out⟩
    · have H0 : Hid (Sp.Twin w x1 s r A1 cap1 l) := Lib.hid ⟨_, _, _, hD⟩
      clear hD hm hmb HMd
      go_wp2_with fail
      go_loopw [12] (fun t wr => ∃ j : Nat, t = .int .i64 (j : Int) ∧ j ≤ L.length ∧ Hid (Sp.Twin w wr s r A1 cap1 l)) (fun t _ => L.length - (intOf t).toNat)
      case atStart => exact ⟨0, rfl, Nat.zero_le _, H0⟩
      case round =>
        clear H0
        obtain ⟨j, rfl, hj, hr⟩ := hrel
        by_cases hlt : j < L.length
        · obtain ⟨g0, f0, st, rfl, hg0, hst, c0, c1, c2, c3, c4, c5⟩ := step_at (HS2.out.keep0 hr.out.start) j hlt
          have hok := HOk2.out st hst
          have hrdd := HRd.out st hst
          obtain ⟨gs, e1, e2, e3⟩ := hrdd.gs
          have hgm : gs.length ≤ 300 := by rw [e1]; exact HEa.out st hst
          have HDo := Lib.hid (does_ok hr.out HS1.out st hok hrdd.u gs e1 e2 e3 hrdd.nil hgm fun y hy => joins_ok hy HS1.out st.d st.g st.i st.n st.u st.A st.len st.cap hok.2.1.1 hok.2.1.2 hok.2.2.1.1 hok.2.2.1.2 hok.2.2.2.1.1 hok.2.2.2.1.2)
          clear hr hok hrdd e1 e2 e3 hgm hst gs
          go_wp2_with fail
          refine HDo.out.mono ?_
          rintro e y ⟨rfl, hz⟩
          have HZ := Lib.hid hz
          clear hz HDo c0 c1 c2 c3 c4 c5
          go_wp2_with fail
          go_roundw
          case rel => exact ⟨j + 1, by go_num, by omega, HZ⟩
          case measure => simp [intOf] <;> omega
        · obtain ⟨ws, bs, cs, hD⟩ := hr.out
          clear hr
          have hgs : gran ws = (bs.length : Int) := hD.mine.snd.len.symm
          have hbg := hD.big
          have hgt : gran ws ≤ 32768 := by have := hD.mine.spc.short; unfold gran; omega
          have HSn := Lib.hid hD.mine.snd
          have HSp := Lib.hid hD.mine.spc
          have HFl := Lib.hid hD.mine.glob.f
          have HKw := Lib.hid hD.mine.kept
          have hmost := most_of (good_spc hD.mine.glob.f hD.mine.spc) hD.mine.snd.scans
          have hfl : (refF (objs cs) (rfs ws l (objs cs))).length ≤ 65536 := Nat.le_trans (refF_len _ _) (rfs_few hD.mine.snd.scans hgt)
          obtain ⟨G, hG⟩ : ∃ G : Nat, (G : Int) = gran ws := ⟨bs.length, hgs.symm⟩
          have hG8 : 8 ≤ G := by omega
          have hG3 : G ≤ 32768 := by omega
          have HGr := Lib.hid hG
          have CGr : Hid (∀ y, Kept [] wr y → Calls Tryz.prog 26 #[.pointer (some ⟨s.sp, 0, none⟩)] y fun e z => e = .returned (.int .i64 (G : Int)) ∧ y = z) := Lib.hid fun y hy => by rw [hG]; exact granules_ok (HSp.out.keep0 hy)
          obtain ⟨F, hF⟩ : ∃ F, F = refF (objs cs) (rfs ws l (objs cs)) := ⟨_, rfl⟩
          rw [← hF] at hfl
          obtain ⟨nF, hnF⟩ : ∃ nF, F.length = nF := ⟨_, rfl⟩
          rw [hnF] at hfl
          have HnF := Lib.hid hnF
          have HFe := Lib.hid hF
          have HWhy : Hid (∀ x ∈ F, x.c = 8) := Lib.hid (by rw [hF]; exact refF_why _ _)
          have hTs := tally_sum hD.mine.snd
          have hTi := tally_in _ cs rfl (fun c hc => (scans_cell hD.mine.snd.scans hgt c hc).2.1)
          have CCt : Hid (∀ y, Kept [] wr y → Calls Tryz.prog 20 #[.pointer (some ⟨s.sp, 0, none⟩)] y fun e z => e = .returned (.agg (tally cs).enc.toArray) ∧ Kept [] y z) := Lib.hid fun y hy => count_ok (from_spc (HSp.out.keep0 hy)) (good_spc (HFl.out.keep0 hy) (HSp.out.keep0 hy)) HSn.out.scans
          obtain ⟨w0, hw0⟩ : ∃ w0, w0 = wr := ⟨_, rfl⟩
          subst hw0
          have CAr := Lib.hid (arena_ok HSp.out)
          have CTb := Lib.hid (table_ok HSp.out)
          have CSt := Lib.hid (starts_ok HSp.out)
          clear hD hgs hbg hG hF hgt hnF HS1 HS2 HOk2 HRd HEa
          go_wp2_with fail
          refine CAr.out.mono ?_
          rintro e y ⟨rfl, rfl⟩
          go_wp2_with fail
          refine CTb.out.mono ?_
          rintro e y ⟨rfl, rfl⟩
          go_wp2_with fail
          refine CSt.out.mono ?_
          rintro e x6 ⟨rfl, hb6, k6⟩
          have HCk := Lib.hid (check_ok (good_spc (HFl.out.keep0 k6) (HSp.out.keep0 k6)) HSn.out.scans hb6)
          have K6 := Lib.hid k6
          clear hb6 k6 CAr CTb CSt
          generalize w0.heap.size = b6 at *
          go_wp2_with fail
          refine HCk.out.mono ?_
          rintro e x7 ⟨vf, rfl, hof, _, k7⟩
          rw [chk_space HSn.out, ← HFe.out] at hof
          obtain ⟨Af, cf, rfl, hsf⟩ := back_flt hof HnF.out
          have K7 := Lib.hid (K6.out.trans k7)
          have HSf7 := Lib.hid hsf
          have HSf : Hid (∀ y, Kept [] x7 y → Seen Flt y Af F) := Lib.hid fun y hy => hsf.keep0 hy
          clear hof hsf k7 HCk K6
          go_wp2_with fail
          go_loop [15] (fun t => ∃ k : Nat, t = .int .i64 (k : Int) ∧ k ≤ nF) (fun t => nF - (intOf t).toNat)
          case atStart => exact ⟨0, rfl, Nat.zero_le _⟩
          case round =>
            obtain ⟨k, rfl, hk⟩ := hrel
            by_cases hkf : k < nF
            · obtain ⟨x, hx⟩ : ∃ x, F[k]? = some x := ⟨_, List.getElem?_eq_getElem (by rw [HnF.out]; exact hkf)⟩
              have h8 := HWhy.out x (List.mem_of_getElem? hx)
              obtain ⟨gf, of, rfl, _, d0, d1, d2⟩ := seen_tri (K := Flt) HSf7.out hx rfl
              have d2' : x7.cell? ⟨gf, of + k * 3 + 2, none⟩ = some (.int .i64 8) := by rw [← h8]; exact d2
              clear d0 d1 d2 h8 hx
              go_wp2_with fail
              go_round
              case rel => exact ⟨k + 1, by go_num, by omega⟩
              case measure => simp [intOf] <;> omega
            · have hkn : nF = k := by omega
              subst hkn
              obtain ⟨tt, htt⟩ : ∃ tt, tt = tally cs := ⟨_, rfl⟩
              rw [← htt] at hTs hTi CCt
              obtain ⟨tO, tF, tR, tU, tE, tL⟩ := tt
              unfold Tal.In at hTi
              unfold Tal.enc at CCt
              simp only at hTs hTi CCt
              have CObj : Hid (∀ x y, Kept [] w0 x → Kept [] x y → Calls Tryz.prog 12 #[.pointer (some ⟨s.sp, 0, none⟩)] y fun e z => ∃ (A : Option Addr) (c n : Nat), (n : Int) = tO ∧ n ≤ 32768 ∧ e = .returned (.slice A n c) ∧ Kept [] y z) := Lib.hid fun x y hx hy => (objects_ok (from_spc (HSp.out.keep0 (hx.trans hy))) (good_spc (HFl.out.keep0 (hx.trans hy)) (HSp.out.keep0 (hx.trans hy))) HSn.out.scans).mono fun e z ⟨v, he, ho, _, hk⟩ => by
                obtain ⟨A, c, rfl, _⟩ := Sp.back_own (Kept.refl [] _) ho
                exact ⟨A, c, _, hTs.2.symm, objs_few hmost, he, hk⟩
              have hsum : tU + tE + tL = (G : Int) := by rw [hTs.1, HGr.out]
              have hno : ∃ no : Nat, tO = (no : Int) ∧ no ≤ 32768 := ⟨tO.toNat, by omega, by omega⟩
              clear htt hTs HSf7 HWhy hk
              obtain ⟨no, rfl, hno3⟩ := hno
              go_wp2_with fail
              refine (CCt.out _ K7.out).mono ?_
              rintro e x8 ⟨rfl, k8⟩
              have k9 : Kept [] x8 (x8.alloc (.cells #[.int .i64 (no : Int), .int .i64 tF, .int .i64 tR, .int .i64 tU, .int .i64 tE, .int .i64 tL] 53)) := (Kept.refl [] x8).alloc _
              have hB := Has.new x8 53 [.int .i64 (no : Int), .int .i64 tF, .int .i64 tR, .int .i64 tU, .int .i64 tE, .int .i64 tL]
              have K9 := Lib.hid ((K7.out.trans k8).trans k9)
              have HSf9 : Hid (∀ y, Kept [] (x8.alloc (.cells #[.int .i64 (no : Int), .int .i64 tF, .int .i64 tR, .int .i64 tU, .int .i64 tE, .int .i64 tL] 53)) y → Seen Flt y Af F) := Lib.hid fun y hy => HSf.out y ((k8.trans k9).trans hy)
              have HBt := Lib.hid hB
              clear k8 k9 hB HSf K7 CCt
              go_wp2_with fail
              generalize x8.alloc (.cells #[.int .i64 (no : Int), .int .i64 tF, .int .i64 tR, .int .i64 tU, .int .i64 tE, .int .i64 tL] 53) = y9 at *
              generalize x8.heap.size = b16 at *
              have hc4 : Hid (∀ z, Kept [] y9 z → C4 z b16 no tU tE tL) := Lib.hid fun z hz => ⟨(HBt.out.keep0 hz).cell 0, (HBt.out.keep0 hz).cell 3, (HBt.out.keep0 hz).cell 4, (HBt.out.keep0 hz).cell 5⟩
              have D1 : Hid (∀ y, Kept [] y9 y → Calls Tryz.prog 26 #[.pointer (some ⟨s.sp, 0, none⟩)] y fun e z => e = .returned (.int .i64 (G : Int)) ∧ Hid (Kept [] y9 z) ∧ C4 z b16 no tU tE tL) := Lib.hid fun y hy => (CGr.out y (K9.out.trans hy)).mono fun e z ⟨he, hz⟩ => by subst hz; exact ⟨he, Lib.hid hy, hc4.out _ hy⟩
              have D2 : Hid (∀ x y, Hid (Kept [] y9 x) → Kept [] x y → Calls Tryz.prog 12 #[.pointer (some ⟨s.sp, 0, none⟩)] y fun e z => ∃ (A : Option Addr) (c : Nat), e = .returned (.slice A no c) ∧ Hid (Kept [] y9 z) ∧ C4 z b16 no tU tE tL) := Lib.hid fun x y hx hy => (CObj.out x y (K9.out.trans hx.out) hy).mono fun e z ⟨A, c, n, hn, _, he, hz⟩ => by
                obtain rfl : n = no := by omega
                exact ⟨A, c, he, Lib.hid ((hx.out.trans hy).trans hz), hc4.out _ ((hx.out.trans hy).trans hz)⟩
              obtain ⟨d0, d3, d4, d5⟩ := hc4.out y9 (Kept.refl _ _)
              have hw1 : IntKind.i64.wrap (tU + tE) = tU + tE := by rw [IntKind.wrap_i64]; omega
              have hw2 : IntKind.i64.wrap (tU + tE + tL) = (G : Int) := by rw [IntKind.wrap_i64]; omega
              clear hc4 HBt CObj hTi hsum
              go_region_held3 (fun y => y.cell? ⟨b16, 0, none⟩ = some (.int .i64 no) ∧ y.cell? ⟨b16, 3, none⟩ = some (.int .i64 tU) ∧ y.cell? ⟨b16, 4, none⟩ = some (.int .i64 tE) ∧ y.cell? ⟨b16, 5, none⟩ = some (.int .i64 tL)) (go_keep)
                (first
                  | (go_at_call 26; refine (D1.out _ ?_).mono ?_; (first | exact Kept.refl _ _ | exact (Kept.refl _ _).drewN _ | exact (Kept.refl _ _).drew); rintro e z1 ⟨rfl, hz1, r10, r11, r12, r13⟩)
                  | (go_at_call 12; refine (D2.out _ _ hz1 ?_).mono ?_; (first | exact Kept.refl _ _ | exact (Kept.refl _ _).drewN _ | exact (Kept.refl _ _).drew); rintro e z2 ⟨A2o, c2o, rfl, hz2, r20, r21, r22, r23⟩)
                  | fail)
              all_goals
                have K12 := Lib.hid (K9.out.trans hz2.out)
                have HSf12 : Hid (∀ y, Kept [] z2 y → Seen Flt y Af F) := Lib.hid fun y hy => HSf9.out y (hz2.out.trans hy)
                clear hz1 hz2 K9 HSf9 D1 D2 d0 d3 d4 d5 r20 r21 r22 r23 hw1 hw2
                have CSt := Lib.hid (starts_ok (HSp.out.keep0 K12.out))
                go_wp2_with fail
                refine CSt.out.mono ?_
                rintro e x13 ⟨rfl, hb13, k13⟩
                have HKz := Lib.hid k13
                have hqz : z2.heap.size ≤ z2.heap.size := Nat.le_refl _
                have HB13 := Lib.hid hb13
                clear hb13 k13 CSt
                obtain ⟨qb, hqb⟩ : ∃ qb, qb = z2.heap.size := ⟨_, rfl⟩
                rw [← hqb] at HB13 ⊢
                have hqz : z2.heap.size ≤ qb := by omega
                clear hqb
                have hrem : tn.tmod (G : Int) = tn % (G : Int) := Int.tmod_eq_emod_of_nonneg tn0.1
                obtain ⟨kk, hkk⟩ : ∃ kk : Nat, tn % (G : Int) = (kk : Int) := ⟨(tn % (G : Int)).toNat, (Int.toNat_of_nonneg (Int.emod_nonneg _ (by omega))).symm⟩
                have hkl : (kk : Int) < (G : Int) := by rw [← hkk]; exact Int.emod_lt_of_pos _ (by omega)
                have hm : tn.tmod (G : Int) = (kk : Int) := hrem.trans hkk
                have HKl : Hid ((kk : Int) < gran ws) := Lib.hid (by rw [← HGr.out]; exact hkl)
                have tn1 := tn0.1
                have tn2 := tn0.2
                clear hrem hkk
                go_wp2_with fail
                refine (CGr.out _ (K12.out.trans HKz.out)).mono ?_
                rintro e y ⟨rfl, rfl⟩
                go_wp2_with fail
                refine (CGr.out _ (K12.out.trans HKz.out)).mono ?_
                rintro e y ⟨rfl, rfl⟩
                have k14 : Kept [] x13 (x13.alloc (.cells #[.int .i64 (kk : Int), .int .i64 0, .int .i64 9] 69)) := (Kept.refl [] x13).alloc _
                have hBx := Has.new x13 69 [.int .i64 (kk : Int), .int .i64 0, .int .i64 9]
                have HHas := Lib.hid (Bt.has_ok bs (qb + 1) qb _ (HB13.out.keep0 k14) (kk : Int) (by omega) (by omega))
                have HB14 := Lib.hid (HB13.out.keep0 k14)
                have HBx14 := Lib.hid hBx
                have HKz14 := Lib.hid (HKz.out.trans k14)
                have hzb : z2.heap.size ≤ x13.heap.size := HKz.out.more
                clear k14 hBx HB13 HKz
                go_wp2_with fail
                generalize x13.alloc (.cells #[.int .i64 (kk : Int), .int .i64 0, .int .i64 9] 69) = y14 at *
                generalize x13.heap.size = b19 at *
                refine HHas.out.mono ?_
                rintro e x15 ⟨rfl, k15⟩
                have HB15 := Lib.hid (HB14.out.keep0 k15)
                have HBx15 := Lib.hid (HBx14.out.keep0 k15)
                have HKz15 := Lib.hid (HKz14.out.trans k15)
                clear k15 HHas HB14 HBx14 HKz14
                cases hv : hasV bs (kk : Int) with
                | true =>
                  have HHv : Hid (hasV bs (kk : Int) = !false) := Lib.hid hv
                  clear hv
                  have f2 := HBx15.out.free 2
                  have c2 : x15.cell? ⟨b19, 2, none⟩ = some (.int .i64 9) := HBx15.out.cell 2
                  have hs16 : Kept [b19] x15 (x15.setCell ⟨b19, 2, none⟩ (.int .i64 3)) := (Kept.refl _ x15).setCell _ _ (.inl (by simp))
                  have hb16 := HB15.out
                  obtain ⟨vs, av, bv⟩ := HB15.out
                  have hB16 : Bv (x15.setCell ⟨b19, 2, none⟩ (.int .i64 3)) (qb + 1) qb bs := HB15.out.kept hs16 (by simpa using Has.block_type av.head HBx15.out (by decide)) (by simpa using Has.block_type av.row HBx15.out (by decide))
                  have hq19 : b19 ≠ qb := Has.block_type HBx15.out av.row (by decide)
                  have HBx16 : Hid (Has (x15.setCell ⟨b19, 2, none⟩ (.int .i64 3)) b19 69 [.int .i64 (kk : Int), .int .i64 0, .int .i64 3]) := Lib.hid (HBx15.out.put 2 (.int .i64 3))
                  have HKz16 := Lib.hid (HKz15.out.forget hs16 (fun i hi => by rw [List.mem_singleton.1 hi]; exact hzb))
                  have HCl := Lib.hid (Bt.clear_ok bs (qb + 1) qb _ hB16 (kk : Int) (by omega) (by omega))
                  clear hs16 hb16 av bv vs hB16 HB15 HBx15 HKz15
                  go_wp2_with fail
                  generalize x15.setCell ⟨b19, 2, none⟩ (.int .i64 3) = y16 at *
                  refine HCl.out.mono ?_
                  rintro e x17 ⟨rfl, hb17, k17⟩
                  have HB17 := Lib.hid hb17
                  have hkz := HKz16.out.forget k17 (fun i hi => by rw [List.mem_singleton.1 hi]; exact hqz)
                  have K17 := Lib.hid (K12.out.trans hkz)
                  have HSf17 : Hid (∀ y, Kept [] x17 y → Seen Flt y Af F) := Lib.hid fun y hy => HSf12.out y (hkz.trans hy)
                  have HBx17 := Lib.hid (HBx16.out.kept k17 (by simpa using hq19))
                  clear hb17 k17 hkz HCl HBx16 HKz16 f2 c2 CGr HGr K12 HSf12
                  have CAr := Lib.hid (fun y (hy : Kept [] w0 y) => arena_ok (HSp.out.keep0 hy))
                  have CTb := Lib.hid (fun y (hy : Kept [] w0 y) => table_ok (HSp.out.keep0 hy))
                  go_wp2_with fail
                  refine (CAr.out _ K17.out).mono ?_
                  rintro e y ⟨rfl, rfl⟩
                  go_wp2_with fail
                  refine (CTb.out _ K17.out).mono ?_
                  rintro e y ⟨rfl, rfl⟩
                  have HCk := Lib.hid (check_ok (good_spc (HFl.out.keep0 K17.out) (HSp.out.keep0 K17.out)) HSn.out.scans HB17.out)
                  go_wp2_with fail
                  refine HCk.out.mono ?_
                  rintro e x18 ⟨vm, rfl, hom, _, k18⟩
                  rw [chk_turned HSn.out (Int.natCast_nonneg kk) HKl.out false HHv.out, ← HFe.out] at hom
                  have hom : Own Flt x18 vm (⟨(kk : Int), 0, 3⟩ :: F) := hom
                  have HSf18 : Hid (∀ y, Kept [] x18 y → Seen Flt y Af F) := Lib.hid fun y hy => HSf17.out y (k18.trans hy)
                  obtain ⟨gm, cm, rfl, hgm, hcm, hcx⟩ := own_cons hom HnF.out
                  have HSt := Lib.hid (seen_tail hom hgm)
                  have HBx := Lib.hid (HBx17.out.keep0 k18)
                  have K18 := Lib.hid (K17.out.trans k18)
                  have hc6 : Hid (∀ z, Kept [] x18 z → C6 z gm b19 kk 3) := Lib.hid fun z hz => ⟨(hom.keep0 hz).cell 0 _ rfl, (hom.keep0 hz).cell 1 _ rfl, (hom.keep0 hz).cell 2 _ rfl, (HBx.out.keep0 hz).cell 0, (HBx.out.keep0 hz).cell 1, (HBx.out.keep0 hz).cell 2⟩
                  have CS : Hid (∀ y A c, Kept [] x18 y → TailAt A gm F → Calls Tryz.prog 30 #[.slice A nF c, .slice Af nF cf] y fun e z => e = .returned (.bool true) ∧ Hid (Kept [] x18 z) ∧ C6 z gm b19 kk 3) := Lib.hid fun y A c hy hA => by
                    have hsA : Seen Flt y A F := by
                      rcases hA with rfl | h
                      · exact HSt.out.keep0 hy
                      · rw [h]; exact Seen.nil _ _
                    have hsm := sameFlt_ok (cap := c) (cap2 := cf) F hsA (HSf18.out y hy) (by rw [HnF.out]; omega)
                    rw [HnF.out] at hsm
                    exact hsm.mono fun e z ⟨he, hz⟩ => ⟨he, Lib.hid (hy.trans hz), hc6.out z (hy.trans hz)⟩
                  have CAl : Hid (∀ x y, Hid (Kept [] x18 x) → Kept [] x y → Calls Tryz.prog 7 #[] y fun e z => e = .returned (.bool true) ∧ Hid (Kept [] x18 z) ∧ C6 z gm b19 kk 3) := Lib.hid fun x y hx hy => (HA.out y (((HKw.out.trans K18.out).trans hx.out).trans hy)).mono fun e z ⟨he, hk⟩ => ⟨he, Lib.hid ((hx.out.trans hy).trans hk), hc6.out z ((hx.out.trans hy).trans hk)⟩
                  have HW := Lib.hid (HKw.out.trans K18.out)
                  obtain ⟨u0, u1, u2, u3, u4, u5⟩ := hc6.out x18 (Kept.refl _ _)
                  have hse := fun y => eqlFlt y kk 0 3 kk 0 3
                  have hng := guardFlt
                  have hqe := eqFlt_refl kk 0 3
                  have hFn : Hid (cm = 1 → F = []) := Lib.hid fun h => List.length_eq_zero_iff.1 (by rw [HnF.out]; omega)
                  have hcx' : cm ≤ 9223372036854775807 := hcx
                  clear hom hgm hcx k18 HSt HBx K18 hc6 HCk CAr CTb HB17 HBx17 K17 HSp HFl HSn HSf17 HSf18 HFe HKl HHv HKw
                  by_cases hc1 : cm = 1
                  · subst hc1
                    have hA1 : Hid (TailAt (some ⟨gm, 0, none⟩) gm F) := Lib.hid (.inr (hFn.out rfl))
                    have hi3 : (1 : Int) ≤ ((nF + 1 : Nat) : Int) := by omega
                    have hi4 : (1 : Int) ≤ (nF : Int) + 1 := by omega
                    have hwn : IntKind.i64.wrap ((nF : Int) + 1) = (nF : Int) + 1 := by rw [IntKind.wrap_i64]; omega
                    clear hFn hcm hcx'
                    go_wp2_with fail
                    go_region_held3 (fun y => y.cell? ⟨gm, 0, none⟩ = some (.int .i64 kk) ∧ y.cell? ⟨gm, 1, none⟩ = some (.int .i64 0) ∧ y.cell? ⟨gm, 2, none⟩ = some (.int .i64 3) ∧ y.cell? ⟨b19, 0, none⟩ = some (.int .i64 kk) ∧ y.cell? ⟨b19, 1, none⟩ = some (.int .i64 0) ∧ y.cell? ⟨b19, 2, none⟩ = some (.int .i64 3)) (go_keep)
                      (first
                        | (go_at_call 30; refine (CS.out _ _ _ ?_ hA1.out).mono ?_; (first | exact Kept.refl _ _ | exact (Kept.refl _ _).drewN _ | exact (Kept.refl _ _).drew); rintro e z1 ⟨rfl, hz1, r10, r11, r12, r13, r14, r15⟩)
                        | (go_at_call 7; refine (CAl.out _ _ hz1 ?_).mono ?_; (first | exact Kept.refl _ _ | exact (Kept.refl _ _).drewN _ | exact (Kept.refl _ _).drew); rintro e z2 ⟨rfl, hz2, r20, r21, r22, r23, r24, r25⟩)
                        | fail)
                    all_goals
                      have HK := Lib.hid (HW.out.trans hz2.out)
                      clear hz2
                      go_wp2_with fail
                      go_ret
                      exact ⟨rfl, HK.out⟩
                  · have hA1 : Hid (TailAt (some ⟨gm, 3, none⟩) gm F) := Lib.hid (.inl rfl)
                    have hi3 : (1 : Int) ≤ ((nF + 1 : Nat) : Int) := by omega
                    have hi4 : (1 : Int) ≤ (nF : Int) + 1 := by omega
                    have hwn : IntKind.i64.wrap ((nF : Int) + 1) = (nF : Int) + 1 := by rw [IntKind.wrap_i64]; omega
                    clear hFn
                    go_wp2_with fail
                    go_region_held3 (fun y => y.cell? ⟨gm, 0, none⟩ = some (.int .i64 kk) ∧ y.cell? ⟨gm, 1, none⟩ = some (.int .i64 0) ∧ y.cell? ⟨gm, 2, none⟩ = some (.int .i64 3) ∧ y.cell? ⟨b19, 0, none⟩ = some (.int .i64 kk) ∧ y.cell? ⟨b19, 1, none⟩ = some (.int .i64 0) ∧ y.cell? ⟨b19, 2, none⟩ = some (.int .i64 3)) (go_keep)
                      (first
                        | (go_at_call 30; refine (CS.out _ _ _ ?_ hA1.out).mono ?_; (first | exact Kept.refl _ _ | exact (Kept.refl _ _).drewN _ | exact (Kept.refl _ _).drew); rintro e z1 ⟨rfl, hz1, r10, r11, r12, r13, r14, r15⟩)
                        | (go_at_call 7; refine (CAl.out _ _ hz1 ?_).mono ?_; (first | exact Kept.refl _ _ | exact (Kept.refl _ _).drewN _ | exact (Kept.refl _ _).drew); rintro e z2 ⟨rfl, hz2, r20, r21, r22, r23, r24, r25⟩)
                        | fail)
                    all_goals
                      have HK := Lib.hid (HW.out.trans hz2.out)
                      clear hz2
                      go_wp2_with fail
                      go_ret
                      exact ⟨rfl, HK.out⟩
                | false =>
                  have HHv : Hid (hasV bs (kk : Int) = !true) := Lib.hid hv
                  clear hv
                  have HCl := Lib.hid (Bt.set_ok bs (qb + 1) qb _ HB15.out (kk : Int) (by omega) (by omega))
                  obtain ⟨vs, av, bv⟩ := HB15.out
                  have hq19 : b19 ≠ qb := Has.block_type HBx15.out av.row (by decide)
                  clear av bv vs HB15
                  go_wp2_with fail
                  refine HCl.out.mono ?_
                  rintro e x17 ⟨rfl, hb17, k17⟩
                  have HB17 := Lib.hid hb17
                  have hkz := HKz15.out.forget k17 (fun i hi => by rw [List.mem_singleton.1 hi]; exact hqz)
                  have K17 := Lib.hid (K12.out.trans hkz)
                  have HSf17 : Hid (∀ y, Kept [] x17 y → Seen Flt y Af F) := Lib.hid fun y hy => HSf12.out y (hkz.trans hy)
                  have HBx17 := Lib.hid (HBx15.out.kept k17 (by simpa using hq19))
                  clear hb17 k17 hkz HCl HBx15 HKz15 CGr HGr K12 HSf12
                  have CAr := Lib.hid (fun y (hy : Kept [] w0 y) => arena_ok (HSp.out.keep0 hy))
                  have CTb := Lib.hid (fun y (hy : Kept [] w0 y) => table_ok (HSp.out.keep0 hy))
                  go_wp2_with fail
                  refine (CAr.out _ K17.out).mono ?_
                  rintro e y ⟨rfl, rfl⟩
                  go_wp2_with fail
                  refine (CTb.out _ K17.out).mono ?_
                  rintro e y ⟨rfl, rfl⟩
                  have HCk := Lib.hid (check_ok (good_spc (HFl.out.keep0 K17.out) (HSp.out.keep0 K17.out)) HSn.out.scans HB17.out)
                  go_wp2_with fail
                  refine HCk.out.mono ?_
                  rintro e x18 ⟨vm, rfl, hom, _, k18⟩
                  rw [chk_turned HSn.out (Int.natCast_nonneg kk) HKl.out true HHv.out, ← HFe.out] at hom
                  have hom : Own Flt x18 vm (⟨(kk : Int), 0, 9⟩ :: F) := hom
                  have HSf18 : Hid (∀ y, Kept [] x18 y → Seen Flt y Af F) := Lib.hid fun y hy => HSf17.out y (k18.trans hy)
                  obtain ⟨gm, cm, rfl, hgm, hcm, hcx⟩ := own_cons hom HnF.out
                  have HSt := Lib.hid (seen_tail hom hgm)
                  have HBx := Lib.hid (HBx17.out.keep0 k18)
                  have K18 := Lib.hid (K17.out.trans k18)
                  have hc6 : Hid (∀ z, Kept [] x18 z → C6 z gm b19 kk 9) := Lib.hid fun z hz => ⟨(hom.keep0 hz).cell 0 _ rfl, (hom.keep0 hz).cell 1 _ rfl, (hom.keep0 hz).cell 2 _ rfl, (HBx.out.keep0 hz).cell 0, (HBx.out.keep0 hz).cell 1, (HBx.out.keep0 hz).cell 2⟩
                  have CS : Hid (∀ y A c, Kept [] x18 y → TailAt A gm F → Calls Tryz.prog 30 #[.slice A nF c, .slice Af nF cf] y fun e z => e = .returned (.bool true) ∧ Hid (Kept [] x18 z) ∧ C6 z gm b19 kk 9) := Lib.hid fun y A c hy hA => by
                    have hsA : Seen Flt y A F := by
                      rcases hA with rfl | h
                      · exact HSt.out.keep0 hy
                      · rw [h]; exact Seen.nil _ _
                    have hsm := sameFlt_ok (cap := c) (cap2 := cf) F hsA (HSf18.out y hy) (by rw [HnF.out]; omega)
                    rw [HnF.out] at hsm
                    exact hsm.mono fun e z ⟨he, hz⟩ => ⟨he, Lib.hid (hy.trans hz), hc6.out z (hy.trans hz)⟩
                  have CAl : Hid (∀ x y, Hid (Kept [] x18 x) → Kept [] x y → Calls Tryz.prog 7 #[] y fun e z => e = .returned (.bool true) ∧ Hid (Kept [] x18 z) ∧ C6 z gm b19 kk 9) := Lib.hid fun x y hx hy => (HA.out y (((HKw.out.trans K18.out).trans hx.out).trans hy)).mono fun e z ⟨he, hk⟩ => ⟨he, Lib.hid ((hx.out.trans hy).trans hk), hc6.out z ((hx.out.trans hy).trans hk)⟩
                  have HW := Lib.hid (HKw.out.trans K18.out)
                  obtain ⟨u0, u1, u2, u3, u4, u5⟩ := hc6.out x18 (Kept.refl _ _)
                  have hse := fun y => eqlFlt y kk 0 9 kk 0 9
                  have hng := guardFlt
                  have hqe := eqFlt_refl kk 0 9
                  have hFn : Hid (cm = 1 → F = []) := Lib.hid fun h => List.length_eq_zero_iff.1 (by rw [HnF.out]; omega)
                  have hcx' : cm ≤ 9223372036854775807 := hcx
                  clear hom hgm hcx k18 HSt HBx K18 hc6 HCk CAr CTb HB17 HBx17 K17 HSp HFl HSn HSf17 HSf18 HFe HKl HHv HKw
                  by_cases hc1 : cm = 1
                  · subst hc1
                    have hA1 : Hid (TailAt (some ⟨gm, 0, none⟩) gm F) := Lib.hid (.inr (hFn.out rfl))
                    have hi3 : (1 : Int) ≤ ((nF + 1 : Nat) : Int) := by omega
                    have hi4 : (1 : Int) ≤ (nF : Int) + 1 := by omega
                    have hwn : IntKind.i64.wrap ((nF : Int) + 1) = (nF : Int) + 1 := by rw [IntKind.wrap_i64]; omega
                    clear hFn hcm hcx'
                    go_wp2_with fail
                    go_region_held3 (fun y => y.cell? ⟨gm, 0, none⟩ = some (.int .i64 kk) ∧ y.cell? ⟨gm, 1, none⟩ = some (.int .i64 0) ∧ y.cell? ⟨gm, 2, none⟩ = some (.int .i64 9) ∧ y.cell? ⟨b19, 0, none⟩ = some (.int .i64 kk) ∧ y.cell? ⟨b19, 1, none⟩ = some (.int .i64 0) ∧ y.cell? ⟨b19, 2, none⟩ = some (.int .i64 9)) (go_keep)
                      (first
                        | (go_at_call 30; refine (CS.out _ _ _ ?_ hA1.out).mono ?_; (first | exact Kept.refl _ _ | exact (Kept.refl _ _).drewN _ | exact (Kept.refl _ _).drew); rintro e z1 ⟨rfl, hz1, r10, r11, r12, r13, r14, r15⟩)
                        | (go_at_call 7; refine (CAl.out _ _ hz1 ?_).mono ?_; (first | exact Kept.refl _ _ | exact (Kept.refl _ _).drewN _ | exact (Kept.refl _ _).drew); rintro e z2 ⟨rfl, hz2, r20, r21, r22, r23, r24, r25⟩)
                        | fail)
                    all_goals
                      have HK := Lib.hid (HW.out.trans hz2.out)
                      clear hz2
                      go_wp2_with fail
                      go_ret
                      exact ⟨rfl, HK.out⟩
                  · have hA1 : Hid (TailAt (some ⟨gm, 3, none⟩) gm F) := Lib.hid (.inl rfl)
                    have hi3 : (1 : Int) ≤ ((nF + 1 : Nat) : Int) := by omega
                    have hi4 : (1 : Int) ≤ (nF : Int) + 1 := by omega
                    have hwn : IntKind.i64.wrap ((nF : Int) + 1) = (nF : Int) + 1 := by rw [IntKind.wrap_i64]; omega
                    clear hFn
                    go_wp2_with fail
                    go_region_held3 (fun y => y.cell? ⟨gm, 0, none⟩ = some (.int .i64 kk) ∧ y.cell? ⟨gm, 1, none⟩ = some (.int .i64 0) ∧ y.cell? ⟨gm, 2, none⟩ = some (.int .i64 9) ∧ y.cell? ⟨b19, 0, none⟩ = some (.int .i64 kk) ∧ y.cell? ⟨b19, 1, none⟩ = some (.int .i64 0) ∧ y.cell? ⟨b19, 2, none⟩ = some (.int .i64 9)) (go_keep)
                      (first
                        | (go_at_call 30; refine (CS.out _ _ _ ?_ hA1.out).mono ?_; (first | exact Kept.refl _ _ | exact (Kept.refl _ _).drewN _ | exact (Kept.refl _ _).drew); rintro e z1 ⟨rfl, hz1, r10, r11, r12, r13, r14, r15⟩)
                        | (go_at_call 7; refine (CAl.out _ _ hz1 ?_).mono ?_; (first | exact Kept.refl _ _ | exact (Kept.refl _ _).drewN _ | exact (Kept.refl _ _).drew); rintro e z2 ⟨rfl, hz2, r20, r21, r22, r23, r24, r25⟩)
                        | fail)
                    all_goals
                      have HK := Lib.hid (HW.out.trans hz2.out)
                      clear hz2
                      go_wp2_with fail
                      go_ret
                      exact ⟨rfl, HK.out⟩
end
end Go.Proofs.YtagmmbkgjomdlaaGreatDoor.Wk
