/-
  The law WalkTurned returns true.
-/
import Derived.Test.YtagmmbkgjomdlaaGreatDoorG48
import Derived.Test.YtagmmbkgjomdlaaGreatDoorG42
import Derived.Test.YtagmmbkgjomdlaaGreatDoorWkFlt
import Derived.Deep.RegionHeld3
namespace Go.Proofs.YtagmmbkgjomdlaaGreatDoor.Wk
open Go.RowKit Go.Proofs.YtagmmbkgjomdlaaGreatDoor.Ar
open Go.Proofs.YtagmmbkgjomdlaaGreatDoor.Sp hiding Own own_from own_put back_own Seen own_cells seen_one
open Go.Proofs.YtagmmbkgjomdlaaGreatDoor.Sh (hdH ofE ofT ofS atG)
open Go.Proofs.YtagmmbkgjomdlaaGreatDoor.Hd (Hd Fields)
open Go.Proofs.YtagmmbkgjomdlaaGreatDoor.Tb (Ty Tab newF)
open Go.Proofs.YtagmmbkgjomdlaaGreatDoor.Bt (Bv hasV layB)
open Go.Proofs.YtagmmbkgjomdlaaGreatDoor.Wd (Table)
set_option linter.unusedVariables false

theorem xor_other (u b : Int) (u0 : 0 ≤ u) (u1 : u < 18446744073709551616) (b0 : 0 ≤ b) (b1 : b < 18446744073709551616) (hb : b ≠ 0) : ∃ x : Int, bits .xor .u64 u b = x ∧ x ≠ u ∧ 0 ≤ x ∧ x < 18446744073709551616 := by
  obtain ⟨un, rfl⟩ := Int.eq_ofNat_of_zero_le u0
  obtain ⟨bn, rfl⟩ := Int.eq_ofNat_of_zero_le b0
  refine ⟨((un ^^^ bn : Nat) : Int), bits_xor_u64_nat un bn (by omega) (by omega), fun e => ?_, by omega, ?_⟩
  · have e : un ^^^ bn = un := by omega
    have h : un ^^^ (un ^^^ bn) = un ^^^ un := by rw [e]
    rw [← Nat.xor_assoc, Nat.xor_self, Nat.zero_xor] at h
    omega
  · have := Nat.xor_lt_two_pow (n := 64) (x := un) (y := bn) (by omega) (by omega)
    omega
theorem cels_turn {w x : World} {s : Ids} {l : List Ty} {ws : List Int} {bs : List Bool} {cs L : List Cel} {v : Value} (m : Spc x s l ws bs) (hO : Sp.Own x v L) : ∀ g ∈ [s.ap, s.aq], v.ownBlock ≠ some g := by
  obtain ⟨n, a⟩ := m.ar
  intro g hg
  simp at hg
  rcases hg with rfl | rfl
  · exact Sp.Own.block_type hO a.head (by decide)
  · exact Sp.Own.block_type hO a.row (by decide)

section
variable {w : World}
set_option maxRecDepth 100000 in
set_option maxHeartbeats 16000000 in
theorem turned_walk (a0 : Int) (b0 : -9223372036854775808 ≤ a0 ∧ a0 ≤ 9223372036854775807) (A1 : Option Addr) (l : List Ty) (cap1 : Nat) (A2 : Option Addr) (L : List Stp) (cap2 : Nat) (tn : Int) (tn0 : 0 ≤ tn ∧ tn ≤ 255) (tb : Int) (tb0 : 0 ≤ tb ∧ tb < 18446744073709551616) (hF : Fields w) (hTb : Table w)
    (hl : l.length ≤ maxLen) (hS1 : Tb.Seen w A1 l) (hok1 : ∀ t ∈ l, t.ok) (hL : L.length ≤ maxLen) (hS2 : Sp.Steps w A2 L) (hok2 : ∀ s ∈ L, s.ok) (hrd : ∀ s ∈ L, Read w s) :
    Calls Tryz.prog 5 #[.int .i64 a0, .slice A1 l.length cap1, .slice A2 L.length cap2, .int .u8 tn, .int .u64 tb] w fun e w' => e = .returned (.bool true) ∧ Kept [] w w' := by
  have HA := Lib.hid (fun y (k : Kept [] w y) => alive10_ok (hF.keep0 k) (table_keep0 hTb k))
  have HH := Lib.hid (heavy2_ok a0 A1 l.length cap1 A2 L cap2 hS2 (fun s hs => (hrd s hs).few) hl hL)
  have HMd := Lib.hid (fun (h : l.length ≤ 100000) => made_ok (d := cap1) a0 b0.1 b0.2 hF hTb hS1 hok1 h)
  have HS1 := Lib.hid hS1
  have HS2 := Lib.hid hS2
  have HOk2 := Lib.hid hok2
  have HRd := Lib.hid hrd
  clear hF hTb hS1 hok1 hS2 hok2 hrd hl hL
  go_enter Tryz.func5, Tryz.ntmps5
  go_wp2_with fail
  refine HH.out.mono ?_
  rintro e y ⟨⟨b, rfl, hb⟩, rfl⟩
  clear HH
  cases b with
  | true =>
    clear hb
    go_wp2_with fail
    refine (HA.out _ (Kept.refl [] w)).mono ?_
    rintro e y ⟨rfl, hk⟩
    have HK := Lib.hid (((Kept.refl [] w)).trans hk)
    clear hk
    go_wp2_with fail
    go_ret
    exact ⟨rfl, HK.out⟩
  | false =>
    obtain ⟨⟨hn, hl, hL⟩, hEa⟩ := hb rfl
    have HEa := Lib.hid hEa
    clear hb hEa
    by_cases hgd : tb = 0
    · subst hgd
      go_wp2_with fail
      refine (HA.out _ (Kept.refl [] w)).mono ?_
      rintro e y ⟨rfl, hk⟩
      have HK := Lib.hid (((Kept.refl [] w)).trans hk)
      clear hk
      go_wp2_with fail
      go_ret
      exact ⟨rfl, HK.out⟩
    · have hgd2 : (tb == 0) = false := by simpa using hgd
      have HMd := Lib.hid (HMd.out (by omega))
      go_wp2_with fail
      refine HMd.out.mono ?_
      rintro e x1 (⟨_, rfl, k1⟩ | ⟨m, s, r, hm, hmb, rfl, hD⟩)
      · have K1 := Lib.hid k1
        clear k1
        go_wp2_with fail
        refine (HA.out _ K1.out).mono ?_
        rintro e y ⟨rfl, hk⟩
        have HK := Lib.hid ((K1.out).trans hk)
        clear hk
        go_wp2_with fail
        go_ret
        exact ⟨rfl, HK.out⟩
      · have H0 : Hid (Sp.Twin w x1 s r A1 cap1 l) := Lib.hid ⟨_, _, _, hD⟩
        clear hD hm hmb HMd
        go_wp2_with fail
        go_loopw [14] (fun t wr => ∃ j : Nat, t = .int .i64 (j : Int) ∧ j ≤ L.length ∧ Hid (Sp.Twin w wr s r A1 cap1 l)) (fun t _ => L.length - (intOf t).toNat)
        case atStart => exact ⟨0, rfl, Nat.zero_le _, H0⟩
        case round =>
          clear H0
          obtain ⟨j, rfl, hj, hr⟩ := hrel
          by_cases hlt : j < L.length
          · obtain ⟨g0, f0, st, rfl, hg0, hst, c0, c1, c2, c3, c4, c5⟩ := step_at (HS2.out.keep0 hr.out.start) j hlt
            have hok := HOk2.out st hst
            have hrdd := HRd.out st hst
            obtain ⟨gs, e1, e2, e3⟩ := hrdd.gs
            have hgm : gs.length ≤ 300 := by rw [e1]; exact HEa.out st hst
            have HDo := Lib.hid (does_ok hr.out HS1.out st hok hrdd.u gs e1 e2 e3 hrdd.nil hgm fun y hy => joins_ok hy HS1.out st.d st.g st.i st.n st.u st.A st.len st.cap hok.2.1.1 hok.2.1.2 hok.2.2.1.1 hok.2.2.1.2 hok.2.2.2.1.1 hok.2.2.2.1.2)
            clear hr hok hrdd e1 e2 e3 hgm hst gs
            go_wp2_with fail
            refine HDo.out.mono ?_
            rintro e y ⟨rfl, hz⟩
            have HZ := Lib.hid hz
            clear hz HDo c0 c1 c2 c3 c4 c5
            go_wp2_with fail
            go_roundw
            case rel => exact ⟨j + 1, by go_num, by omega, HZ⟩
            case measure => simp [intOf] <;> omega
          · obtain ⟨ws, bs, cs, hD⟩ := hr.out
            clear hr
            have hgs : gran ws = (bs.length : Int) := hD.mine.snd.len.symm
            have hbg := hD.big
            have hgt : gran ws ≤ 32768 := by have := hD.mine.spc.short; unfold gran; omega
            have HSn := Lib.hid hD.mine.snd
            have HSp := Lib.hid hD.mine.spc
            have HGl := Lib.hid hD.mine.glob
            have HKw := Lib.hid hD.mine.kept
            have HFr := Lib.hid hD.mine.fresh
            have hmost := most_of (good_spc hD.mine.glob.f hD.mine.spc) hD.mine.snd.scans
            obtain ⟨G, hG⟩ : ∃ G : Nat, gran ws = (G : Int) := ⟨bs.length, hgs⟩
            have hG8 : 8 ≤ G := by omega
            have hG3 : G ≤ 32768 := by omega
            have HGr := Lib.hid hG
            obtain ⟨nc, hnc⟩ : ∃ nc, cs.length = nc := ⟨_, rfl⟩
            have hpos : 0 < nc := by
              rcases Nat.eq_zero_or_pos nc with h | h
              · exfalso
                obtain rfl := List.length_eq_zero_iff.1 (hnc.trans h)
                have h0 : (0 : Int) = gran ws := hD.mine.snd.tiled
                omega
              · exact h
            have hnc3 : nc ≤ 32768 := by omega
            have HNc := Lib.hid hnc
            have hrem : tn.tmod (nc : Int) = tn % (nc : Int) := Int.tmod_eq_emod_of_nonneg tn0.1
            obtain ⟨kk, hkk⟩ : ∃ kk : Nat, tn % (nc : Int) = (kk : Int) := ⟨(tn % (nc : Int)).toNat, (Int.toNat_of_nonneg (Int.emod_nonneg _ (by omega))).symm⟩
            have hkl : kk < nc := by
              have : tn % (nc : Int) < (nc : Int) := Int.emod_lt_of_pos _ (by omega)
              omega
            have hm : tn.tmod (nc : Int) = (kk : Int) := hrem.trans hkk
            obtain ⟨x, hx⟩ : ∃ x, x = cs.getD kk Cel.zero := ⟨_, rfl⟩
            have hxm : x ∈ cs := by rw [hx]; exact cel_mem (by rw [hnc]; exact hkl)
            obtain ⟨⟨xa0, xa1⟩, ⟨xs0, xs1⟩, _⟩ := scans_cell hD.mine.snd.scans hgt x hxm
            have hxg : x.a < (G : Int) := by omega
            have HXm := Lib.hid hxm
            have HX := Lib.hid hx
            have tn1 := tn0.1
            have tn2 := tn0.2
            have CCl := Lib.hid (allCells_ok hD.mine.glob.f hD.mine.spc cs hD.mine.snd.scans)
            clear hD hgs hbg hgt hG hnc hrem hkk hxm hx HS1 HS2 HOk2 HRd HEa hmost
            go_wp2_with fail
            refine CCl.out.mono ?_
            rintro e x6 ⟨vc, rfl, hoc, _, k6⟩
            obtain ⟨Ac, cc, rfl, _, hsc, _⟩ := Sp.back_own (Kept.refl [] _) hoc
            obtain ⟨gc, oc, e6, _, c0, c1, c2, c3, c4⟩ := hsc.at kk (by rw [HNc.out]; exact hkl) x HX.out
            rw [HNc.out] at hoc ⊢
            subst e6
            obtain ⟨xa, ⟨xt, xy, xl, xz⟩⟩ := x
            simp only at c0 c1 c2 c3 c4 xa0 xa1 xs0 xs1 hxg
            have hk7 : Kept [] x6 (x6.alloc (.cells #[.int .i64 xa, .int .u8 xt, .int .i64 xy, .int .i64 xl, .int .i64 xz] 78)) := (Kept.refl [] x6).alloc _
            have hB7 := Has.new x6 78 [.int .i64 xa, .int .u8 xt, .int .i64 xy, .int .i64 xl, .int .i64 xz]
            have HB7 := Lib.hid hB7
            have HK7 := Lib.hid (k6.trans hk7)
            have HO7 := Lib.hid (hoc.keep0 hk7)
            clear hoc hsc k6 hk7 hB7 CCl
            go_wp2_with fail
            generalize x6.alloc (.cells #[.int .i64 xa, .int .u8 xt, .int .i64 xy, .int .i64 xl, .int .i64 xz] 78) = y7 at *
            generalize x6.heap.size = b16 at *
            clear c0 c1 c2 c3 c4
            obtain ⟨d0, d1, d2, d3, d4⟩ := cells5 HB7.out
            have HSp7 := Lib.hid (HSp.out.keep0 HK7.out)
            have hwi : Ar.within ws.length (2 * xa) 1 = true := (Ar.within_iff _ _ _).2 ⟨by omega, by omega, by have := HGr.out; unfold gran at this; omega⟩
            obtain ⟨u, hu⟩ : ∃ u, u = atG ws xa := ⟨_, rfl⟩
            have hu01 : 0 ≤ u ∧ u < 18446744073709551616 := by
              have := HSp.out.wds (2 * xa).toNat
              rw [hu]
              unfold atG
              omega
            have HU := Lib.hid hu
            have CLd : Hid (∀ d, Calls Tryz.prog 32 #[.pointer (some ⟨s.ap, 0, none⟩), .int .i64 (2 * xa)] (y7.drewN d) fun e z => e = .returned (.tuple #[.int .u64 u, .int .i64 0]) ∧ z = y7.drewN d) := Lib.hid fun d => by
              obtain ⟨m, a⟩ := (HSp7.out.drewN d).ar
              have h := load_any a (2 * xa) (by omega) (by omega)
              rw [hwi, show loadV ws (2 * xa) = u by unfold loadV; rw [if_pos hwi, hu]; rfl, show errOf true = 0 from rfl] at h
              exact h.mono fun e z h => And.intro h.1 h.2.symm
            have CAr : Hid (∀ d, Calls Tryz.prog 23 #[.pointer (some ⟨s.sp, 0, none⟩)] (y7.drewN d) fun e z => e = .returned (.pointer (some ⟨s.ap, 0, none⟩)) ∧ z = y7.drewN d) := Lib.hid fun d => (arena_ok (HSp7.out.drewN d)).mono fun e z h => And.intro h.1 h.2.symm
            have hw1 : IntKind.i64.wrap (2 * xa) = 2 * xa := by rw [IntKind.wrap_i64]; omega
            obtain ⟨xv, hxv, hxn, hxv0, hxv1⟩ := xor_other u tb hu01.1 hu01.2 tb0.1 tb0.2 hgd
            have HXn : Hid (xv ≠ u) := Lib.hid hxn
            have HXv : Hid (0 ≤ xv ∧ xv < 18446744073709551616) := Lib.hid ⟨hxv0, hxv1⟩
            have HWi := Lib.hid hwi
            clear hu hu01 hwi hxn hxv0 hxv1
            go_quiet ((first | (go_at_call 23; exact Calls.quiet_of_same (CAr.out _)) | (go_at_call 32; exact Calls.quiet_of_same (CLd.out _))))
            have hk8 : Kept [] y7 (y7.drewN nq) := (Kept.refl [] y7).drewN nq
            clear CLd CAr d0 d1 d2 d3 d4
            generalize y7.drewN nq = y8 at *
            have HB8 := Lib.hid (HB7.out.keep0 hk8)
            have HSp8 := Lib.hid (HSp7.out.keep0 hk8)
            have HO8 := Lib.hid (HO7.out.keep0 hk8)
            have HK8 := Lib.hid (HK7.out.trans hk8)
            clear hk8 HB7 HSp7 HO7 HK7
            have D1 : Hid (∀ y, Kept [] y8 y → Calls Tryz.prog 23 #[.pointer (some ⟨s.sp, 0, none⟩)] y fun e z => e = .returned (.pointer (some ⟨s.ap, 0, none⟩)) ∧ Hid (Kept [] y8 z) ∧ z.cell? ⟨b16, 0, none⟩ = some (.int .i64 xa)) := Lib.hid fun y hy => (arena_ok (HSp8.out.keep0 hy)).mono fun e z ⟨he, hz⟩ => by subst hz; exact ⟨he, Lib.hid hy, (HB8.out.keep0 hy).cell 0⟩
            have D2 : Hid (∀ x y, Hid (Kept [] y8 x) → Kept [] x y → Calls Tryz.prog 33 #[.pointer (some ⟨s.ap, 0, none⟩), .int .i64 (2 * xa), .int .u64 xv] y fun e z => e = .returned (.int .i64 0) ∧ Hid ((∃ m, Arena z s.ap s.aq (setG ws xa xv) m) ∧ Kept [s.ap, s.aq] y8 z) ∧ z.cell? ⟨b16, 0, none⟩ = some (.int .i64 xa)) := Lib.hid fun x y hx hy => by
              have hxy := hx.out.trans hy
              obtain ⟨m, a⟩ := (HSp8.out.keep0 hxy).ar
              have h := store_any a (2 * xa) xv (by omega) (by omega)
              rw [HWi.out, show errOf true = 0 from rfl] at h
              refine h.mono fun e z ⟨he, ha, hz⟩ => ?_
              have hkz : Kept [s.ap, s.aq] y8 z := (hxy.none _).trans hz
              refine ⟨he, Lib.hid ⟨⟨_, ha⟩, hkz⟩, (HB8.out.kept hkz ?_).cell 0⟩
              have hbs := HSp8.out.beside HB8.out (by decide) (by decide) (by decide)
              simp [Ids.turn] at hbs ⊢
              exact ⟨hbs.1, hbs.2.1⟩
            have d0 : y8.cell? ⟨b16, 0, none⟩ = some (.int .i64 xa) := HB8.out.cell 0
            clear HB8
            go_wp2_with fail
            go_region_held3 (fun y => y.cell? ⟨b16, 0, none⟩ = some (.int .i64 xa)) (go_keep)
              (first
                | (go_at_call 23; refine (D1.out _ ?_).mono ?_; (first | exact Kept.refl _ _ | exact (Kept.refl _ _).drewN _ | exact (Kept.refl _ _).drew); rintro e z1 ⟨rfl, hz1, r1⟩)
                | (go_at_call 33; refine (D2.out _ _ hz1 ?_).mono ?_; (first | exact Kept.refl _ _ | exact (Kept.refl _ _).drewN _ | exact (Kept.refl _ _).drew); rintro e z2 ⟨rfl, hz2, r2⟩)
                | fail)
            all_goals
              have hkt : Kept s.turn y8 z2 := hz2.out.2.mono (fun i hi => by simp [Ids.turn] at hi ⊢; rcases hi with rfl | rfl <;> simp)
              have hlen : (setG ws xa xv).length = ws.length := setG_length _ _ _
              have hg2 : gran (setG ws xa xv) = (G : Int) := by rw [gran_eq hlen]; exact HGr.out
              have hS2 := HSp8.out.arena hz2.out.2 hz2.out.1 (setG_wm HSp8.out.wm HXv.out)
              have hF2 : Fields z2 := ((HGl.out.keep0 HK8.out).kept hkt).f
              have hO2 : Sp.Own z2 (.slice (some ⟨gc, oc, none⟩) nc cc) cs := HO8.out.kept hz2.out.2 (cels_turn (w := w) (cs := cs) HSp8.out HO8.out)
              have hK2 : Kept [] w z2 := (HKw.out.trans HK8.out).forget hkt HFr.out
              obtain ⟨cs', hC2⟩ := scans_all (setG ws xa xv) l (setG ws xa xv).length 0 (by omega)
              have hat : atG (setG ws xa xv) xa ≠ atG ws xa := by
                rw [atG_set _ _ _ _ xa0 (by have := HGr.out; unfold gran at this; omega) xa0, if_pos rfl, ← HU.out]
                exact HXn.out
              have hne : cs' ≠ cs := turned_other HSn.out.tiled HXm.out hat hC2
              have hc3 : cs'.length ≤ 1000000 := by have := most_of (good_spc hF2 hS2) hC2; omega
              have HNe := Lib.hid hne
              have HIn : Hid (∀ x ∈ chkF (setG ws xa xv) l bs cs', 0 ≤ x.a ∧ x.a < (G : Int)) := Lib.hid (by rw [← hg2]; exact chk_in hC2 (by rw [hg2]; omega))
              have HG2 := Lib.hid hg2
              have HS2 := Lib.hid hS2
              have HF2 := Lib.hid hF2
              have HO2 := Lib.hid hO2
              have HK2 := Lib.hid hK2
              have HC2 := Lib.hid hC2
              clear hkt hlen hg2 hS2 hF2 hO2 hK2 hC2 hat hne hz1 hz2 r2 d0 D1 D2 HSp8 HO8 HK8 HKw HFr HGl HSp HSn HXm HX HU HXn HXv HWi hxv
              generalize setG ws xa xv = wt at *
              generalize hFq : chkF wt l bs cs' = F at *
              have HFq := Lib.hid hFq
              clear hFq
              have CA2 := Lib.hid (arena_ok HS2.out)
              have CT2 := Lib.hid (table_ok HS2.out)
              have CS2 := Lib.hid (starts_ok HS2.out)
              go_wp2_with fail
              refine CA2.out.mono ?_
              rintro e y ⟨rfl, rfl⟩
              go_wp2_with fail
              refine CT2.out.mono ?_
              rintro e y ⟨rfl, rfl⟩
              go_wp2_with fail
              refine CS2.out.mono ?_
              rintro e x8 ⟨rfl, hb8, k8⟩
              have HCk := Lib.hid (check_ok (good_spc (HF2.out.keep0 k8) (HS2.out.keep0 k8)) HC2.out hb8)
              have K8 := Lib.hid k8
              clear hb8 k8 CA2 CT2 CS2
              generalize z2.heap.size = b8 at *
              go_wp2_with fail
              refine HCk.out.mono ?_
              rintro e x9 ⟨vf, rfl, hof, _, k9⟩
              rw [HFq.out] at hof
              have hk29 := K8.out.trans k9
              have HF9 := Lib.hid (HF2.out.keep0 hk29)
              have HS9 := Lib.hid (HS2.out.keep0 hk29)
              have HK9 := Lib.hid (HK2.out.trans hk29)
              have HC9 : Hid (Scans wt l 0 cs') := Lib.hid HC2.out
              have HG9 : Hid (gran wt = (G : Int)) := Lib.hid HG2.out
              have HWs : Hid (∀ y, Kept [] x9 y → Sp.Seen y (some ⟨gc, oc, none⟩) cs) := Lib.hid fun y hy => by
                have h := HO2.out.keep0 (hk29.trans hy)
                exact h.seen
              clear HFq k9 hk29 HCk K8 HF2 HS2 HK2 HC2 HG2 HO2
              cases F with
              | nil =>
                obtain ⟨Af, cf, rfl, hsf⟩ := back_flt (n := 0) hof rfl
                have hcl : Hid (∀ z : World, Kept [] x9 z → True) := Lib.hid fun _ _ => trivial
                have E1 : Hid (∀ y, Kept [] x9 y → Calls Tryz.prog 31 #[.pointer (some ⟨s.sp, 0, none⟩)] y fun e z => ∃ v, e = .returned v ∧ Hid (Sp.Own z v cs' ∧ Kept [] x9 z) ∧ True) := Lib.hid fun y hy => (allCells_ok (HF9.out.keep0 hy) (HS9.out.keep0 hy) cs' HC9.out).mono fun e z ⟨v, he, ho, _, hk⟩ => ⟨v, he, Lib.hid ⟨ho, hy.trans hk⟩, hcl.out z (hy.trans hk)⟩
                have E2 : Hid (∀ v x y, Hid (Sp.Own x v cs' ∧ Kept [] x9 x) → Kept [] x y → Calls Tryz.prog 11 #[v, .slice (some ⟨gc, oc, none⟩) nc cc] y fun e z => e = .returned (.bool false) ∧ Hid (Kept [] x9 z) ∧ True) := Lib.hid fun v x y hx hy => by
                  obtain ⟨o1, hk⟩ := hx.out
                  obtain ⟨B1, c1, rfl, _, s1, _⟩ := Sp.back_own (Kept.refl [] _) o1
                  have h := unlike_ok (cap := c1) (cap2 := cc) cs' cs (s1.keep0 hy) (HWs.out y (hk.trans hy)) (by omega) (by rw [HNc.out]; omega) HNe.out
                  rw [HNc.out] at h
                  exact h.mono fun e z ⟨he, hz⟩ => ⟨he, Lib.hid ((hk.trans hy).trans hz), hcl.out z ((hk.trans hy).trans hz)⟩
                have E3 : Hid (∀ x y, Hid (Kept [] x9 x) → Kept [] x y → Calls Tryz.prog 26 #[.pointer (some ⟨s.sp, 0, none⟩)] y fun e z => e = .returned (.int .i64 (G : Int)) ∧ Hid (Kept [] x9 z) ∧ True) := Lib.hid fun x y hx hy => by
                  have h := granules_ok (HS9.out.keep0 (hx.out.trans hy))
                  rw [HG9.out] at h
                  exact h.mono fun e z ⟨he, hz⟩ => by subst hz; exact ⟨he, Lib.hid (hx.out.trans hy), hcl.out _ (hx.out.trans hy)⟩
                have E4 : Hid (∀ x y, Hid (Kept [] x9 x) → Kept [] x y → Calls Tryz.prog 7 #[] y fun e z => e = .returned (.bool true) ∧ Hid (Kept [] x9 z) ∧ True) := Lib.hid fun x y hx hy => (HA.out y ((HK9.out.trans hx.out).trans hy)).mono fun e z ⟨he, hk⟩ => ⟨he, Lib.hid ((hx.out.trans hy).trans hk), hcl.out z ((hx.out.trans hy).trans hk)⟩
                have HW := Lib.hid HK9.out
                clear hof hsf hcl HA HF9 HS9 HK9 HC9 HG9 HWs HNc HNe HIn HGr
                go_wp2_with fail
                refine wp_region_any (by kernel_rfl) ?_
                try (change wpAny _ _ _ _ _ _ _ (World.drew _))
                refine wpAny_take (i := 0) (oi := { dst := some 107, op := .move (.tmp 20), type := 59, pos := "law.go:139", after := #[], guard := none }) (v := ?_) rfl (by kernel_rfl) (by kernel_rfl) (by kernel_rfl) (fun _ _ _ h => h) (Or.inl ⟨by rfl, ?_⟩) ?_
                rotate_left
                · intro w
                  go_simp
                  try (with_reducible rfl)
                try simp only [Act.put]
                try simp only [List.setIfInBounds_toArray]
                try simp only [List.set_cons_succ]
                try simp only [List.set_cons_zero]
                refine wpAny_take (i := 1) (oi := { dst := some 108, op := .binOp .eql 59 (.tmp 107) (.const (Go.Value.int .i64 0)) 59, type := 4, pos := "law.go:139", after := #[{ on := 0, ground := .data }], guard := none }) (v := ?_) rfl (by kernel_rfl) (by kernel_rfl) (by kernel_rfl) (fun _ _ _ h => h) (Or.inl ⟨by rfl, ?_⟩) ?_
                rotate_left
                · intro w
                  go_simp
                  try (with_reducible rfl)
                try simp only [Act.put]
                try simp only [List.setIfInBounds_toArray]
                try simp only [List.set_cons_succ]
                try simp only [List.set_cons_zero]
                refine wpAny_take (i := 2) (oi := { dst := some 109, op := .move (.tmp 108), type := 4, pos := "law.go:139", after := #[{ on := 1, ground := .data }], guard := none }) (v := ?_) rfl (by kernel_rfl) (by kernel_rfl) (by kernel_rfl) (fun _ _ _ h => h) (Or.inl ⟨by rfl, ?_⟩) ?_
                rotate_left
                · intro w
                  go_simp
                  try (with_reducible rfl)
                try simp only [Act.put]
                try simp only [List.setIfInBounds_toArray]
                try simp only [List.set_cons_succ]
                try simp only [List.set_cons_zero]
                refine wpAny_take (i := 3) (oi := { dst := some 110, op := .move (.tmp 11), type := 27, pos := "law.go:139", after := #[{ on := 2, ground := .guard }], guard := some (2, true) }) (v := ?_) rfl (by kernel_rfl) (by kernel_rfl) (by kernel_rfl) (fun _ _ _ h => h) (Or.inl ⟨by rfl, ?_⟩) ?_
                rotate_left
                · intro w
                  go_simp
                  try (with_reducible rfl)
                try simp only [Act.put]
                try simp only [List.setIfInBounds_toArray]
                try simp only [List.set_cons_succ]
                try simp only [List.set_cons_zero]
                refine wpAny_take (i := 5) (oi := { dst := some 112, op := .move (.tmp 15), type := 36, pos := "law.go:139", after := #[{ on := 2, ground := .guard }], guard := some (2, true) }) (v := ?_) rfl (by kernel_rfl) (by kernel_rfl) (by kernel_rfl) (fun _ _ _ h => h) (Or.inl ⟨by rfl, ?_⟩) ?_
                rotate_left
                · intro w
                  go_simp
                  try (with_reducible rfl)
                try simp only [Act.put]
                try simp only [List.setIfInBounds_toArray]
                try simp only [List.set_cons_succ]
                try simp only [List.set_cons_zero]
                refine wpAny_ready (rs := [4]) (by kernel_rfl) (by simp) ?_
                refine AllReady.cons rfl (fun K hK => ?_) AllReady.nil
                go_simp
                go_wp2_with ((go_at_call 31; refine (E1.out _ ?_).mono ?_; (first | exact Kept.refl _ _ | exact (Kept.refl _ _).drewN _ | exact (Kept.refl _ _).drew); rintro e z1 ⟨v1, rfl, hz1, -⟩))
                try (refine hK _ _ ?_; clear hK K)
                try simp only [Act.put]
                try simp only [List.setIfInBounds_toArray]
                try simp only [List.set_cons_succ]
                try simp only [List.set_cons_zero]
                refine wpAny_ready (rs := [6]) (by kernel_rfl) (by simp) ?_
                refine AllReady.cons rfl (fun K hK => ?_) AllReady.nil
                go_simp
                go_wp2_with ((go_at_call 11; refine (E2.out _ _ _ hz1 ?_).mono ?_; (first | exact Kept.refl _ _ | exact (Kept.refl _ _).drewN _ | exact (Kept.refl _ _).drew); rintro e z2 ⟨rfl, hz2, -⟩))
                try (refine hK _ _ ?_; clear hK K)
                try simp only [Act.put]
                try simp only [List.setIfInBounds_toArray]
                try simp only [List.set_cons_succ]
                try simp only [List.set_cons_zero]
                refine wpAny_take (i := 7) (oi := { dst := some 114, op := .unOp .not 4 (.tmp 113), type := 4, pos := "law.go:139", after := #[{ on := 6, ground := .data }, { on := 2, ground := .guard }], guard := some (2, true) }) (v := ?_) rfl (by kernel_rfl) (by kernel_rfl) (by kernel_rfl) (fun _ _ _ h => h) (Or.inl ⟨by rfl, ?_⟩) ?_
                rotate_left
                · intro w
                  go_simp
                  try (with_reducible rfl)
                try simp only [Act.put]
                try simp only [List.setIfInBounds_toArray]
                try simp only [List.set_cons_succ]
                try simp only [List.set_cons_zero]
                refine wpAny_take (i := 8) (oi := { dst := some 115, op := .pick (.tmp 109) (.tmp 114) (.const (Go.Value.bool false)), type := 4, pos := "law.go:139", after := #[{ on := 2, ground := .data }, { on := 7, ground := .data }], guard := none }) (v := ?_) rfl (by kernel_rfl) (by kernel_rfl) (by kernel_rfl) (fun _ _ _ h => h) (Or.inl ⟨by rfl, ?_⟩) ?_
                rotate_left
                · intro w
                  go_simp
                  try (with_reducible rfl)
                try simp only [Act.put]
                try simp only [List.setIfInBounds_toArray]
                try simp only [List.set_cons_succ]
                try simp only [List.set_cons_zero]
                refine wpAny_take (i := 9) (oi := { dst := some 116, op := .move (.tmp 115), type := 4, pos := "law.go:139", after := #[{ on := 8, ground := .data }, { on := 6, ground := .chain }], guard := none }) (v := ?_) rfl (by kernel_rfl) (by kernel_rfl) (by kernel_rfl) (fun _ _ _ h => h) (Or.inl ⟨by rfl, ?_⟩) ?_
                rotate_left
                · intro w
                  go_simp
                  try (with_reducible rfl)
                try simp only [Act.put]
                try simp only [List.setIfInBounds_toArray]
                try simp only [List.set_cons_succ]
                try simp only [List.set_cons_zero]
                refine wpAny_take (i := 10) (oi := { dst := some 117, op := .move (.tmp 19), type := 58, pos := "law.go:139", after := #[{ on := 9, ground := .guard }], guard := some (9, true) }) (v := ?_) rfl (by kernel_rfl) (by kernel_rfl) (by kernel_rfl) (fun _ _ _ h => h) (Or.inl ⟨by rfl, ?_⟩) ?_
                rotate_left
                · intro w
                  go_simp
                  try (with_reducible rfl)
                try simp only [Act.put]
                try simp only [List.setIfInBounds_toArray]
                try simp only [List.set_cons_succ]
                try simp only [List.set_cons_zero]
                refine wpAny_take (i := 11) (oi := { dst := some 118, op := .call { callee := .builtin .len, args := #[.tmp 117], argTypes := #[58] }, type := 3, pos := "law.go:139", after := #[{ on := 10, ground := .data }, { on := 9, ground := .guard }], guard := some (9, true) }) (v := ?_) rfl (by kernel_rfl) (by kernel_rfl) (by kernel_rfl) (fun _ _ _ h => h) (Or.inl ⟨by rfl, ?_⟩) ?_
                rotate_left
                · intro w
                  go_simp
                  try (with_reducible rfl)
                try simp only [Act.put]
                try simp only [List.setIfInBounds_toArray]
                try simp only [List.set_cons_succ]
                try simp only [List.set_cons_zero]
                refine wpAny_take (i := 12) (oi := { dst := some 119, op := .binOp .eql 3 (.tmp 118) (.const (Go.Value.int .i64 0)) 3, type := 4, pos := "law.go:139", after := #[{ on := 11, ground := .data }, { on := 9, ground := .guard }], guard := some (9, true) }) (v := ?_) rfl (by kernel_rfl) (by kernel_rfl) (by kernel_rfl) (fun _ _ _ h => h) (Or.inl ⟨by rfl, ?_⟩) ?_
                rotate_left
                · intro w
                  go_simp
                  try (with_reducible rfl)
                try simp only [Act.put]
                try simp only [List.setIfInBounds_toArray]
                try simp only [List.set_cons_succ]
                try simp only [List.set_cons_zero]
                refine wpAny_take (i := 13) (oi := { dst := some 120, op := .move (.tmp 119), type := 4, pos := "law.go:139", after := #[{ on := 12, ground := .data }, { on := 9, ground := .chain }, { on := 9, ground := .guard }], guard := some (9, true) }) (v := ?_) rfl (by kernel_rfl) (by kernel_rfl) (by kernel_rfl) (fun _ _ _ h => h) (Or.inl ⟨by rfl, ?_⟩) ?_
                rotate_left
                · intro w
                  go_simp
                  try (with_reducible rfl)
                try simp only [Act.put]
                try simp only [List.setIfInBounds_toArray]
                try simp only [List.set_cons_succ]
                try simp only [List.set_cons_zero]
                refine wpAny_take (i := 14) (oi := { dst := some 121, op := .move (.tmp 19), type := 58, pos := "law.go:139", after := #[{ on := 13, ground := .guard }], guard := some (13, false) }) (v := undef) rfl (by kernel_rfl) (by kernel_rfl) (by kernel_rfl) (fun _ _ _ h => h) (Or.inr ⟨by rfl, rfl⟩) ?_
                try simp only [Act.put]
                try simp only [List.setIfInBounds_toArray]
                try simp only [List.set_cons_succ]
                try simp only [List.set_cons_zero]
                refine wpAny_take (i := 15) (oi := { dst := some 122, op := .indexAddr 58 (.tmp 121) (.const (Go.Value.int .i64 0)), type := 0, pos := "law.go:139", after := #[{ on := 14, ground := .data }, { on := 13, ground := .guard }], guard := some (13, false) }) (v := undef) rfl (by kernel_rfl) (by kernel_rfl) (by kernel_rfl) (fun _ _ _ h => h) (Or.inr ⟨by rfl, rfl⟩) ?_
                try simp only [Act.put]
                try simp only [List.setIfInBounds_toArray]
                try simp only [List.set_cons_succ]
                try simp only [List.set_cons_zero]
                refine wpAny_take (i := 16) (oi := { dst := some 123, op := .fieldAddr 69 (.tmp 122) 0, type := 0, pos := "law.go:139", after := #[{ on := 15, ground := .data }, { on := 13, ground := .guard }], guard := some (13, false) }) (v := undef) rfl (by kernel_rfl) (by kernel_rfl) (by kernel_rfl) (fun _ _ _ h => h) (Or.inr ⟨by rfl, rfl⟩) ?_
                try simp only [Act.put]
                try simp only [List.setIfInBounds_toArray]
                try simp only [List.set_cons_succ]
                try simp only [List.set_cons_zero]
                refine wpAny_take (i := 17) (oi := { dst := some 124, op := .load 3 (.tmp 123), type := 3, pos := "law.go:139", after := #[{ on := 16, ground := .data }, { on := 13, ground := .guard }], guard := some (13, false) }) (v := undef) rfl (by kernel_rfl) (by kernel_rfl) (by kernel_rfl) (fun _ _ _ h => h) (Or.inr ⟨by rfl, rfl⟩) ?_
                try simp only [Act.put]
                try simp only [List.setIfInBounds_toArray]
                try simp only [List.set_cons_succ]
                try simp only [List.set_cons_zero]
                refine wpAny_take (i := 18) (oi := { dst := some 125, op := .binOp .geq 3 (.tmp 124) (.const (Go.Value.int .i64 0)) 3, type := 4, pos := "law.go:139", after := #[{ on := 17, ground := .data }, { on := 13, ground := .guard }], guard := some (13, false) }) (v := undef) rfl (by kernel_rfl) (by kernel_rfl) (by kernel_rfl) (fun _ _ _ h => h) (Or.inr ⟨by rfl, rfl⟩) ?_
                try simp only [Act.put]
                try simp only [List.setIfInBounds_toArray]
                try simp only [List.set_cons_succ]
                try simp only [List.set_cons_zero]
                refine wpAny_take (i := 19) (oi := { dst := some 126, op := .move (.tmp 125), type := 4, pos := "law.go:139", after := #[{ on := 18, ground := .data }, { on := 13, ground := .chain }, { on := 13, ground := .guard }], guard := some (13, false) }) (v := undef) rfl (by kernel_rfl) (by kernel_rfl) (by kernel_rfl) (fun _ _ _ h => h) (Or.inr ⟨by rfl, rfl⟩) ?_
                try simp only [Act.put]
                try simp only [List.setIfInBounds_toArray]
                try simp only [List.set_cons_succ]
                try simp only [List.set_cons_zero]
                refine wpAny_take (i := 20) (oi := { dst := some 127, op := .move (.tmp 19), type := 58, pos := "law.go:139", after := #[{ on := 19, ground := .guard }], guard := some (19, true) }) (v := undef) rfl (by kernel_rfl) (by kernel_rfl) (by kernel_rfl) (fun _ _ _ h => h) (Or.inr ⟨by rfl, rfl⟩) ?_
                try simp only [Act.put]
                try simp only [List.setIfInBounds_toArray]
                try simp only [List.set_cons_succ]
                try simp only [List.set_cons_zero]
                refine wpAny_take (i := 21) (oi := { dst := some 128, op := .indexAddr 58 (.tmp 127) (.const (Go.Value.int .i64 0)), type := 0, pos := "law.go:139", after := #[{ on := 20, ground := .data }, { on := 19, ground := .guard }], guard := some (19, true) }) (v := undef) rfl (by kernel_rfl) (by kernel_rfl) (by kernel_rfl) (fun _ _ _ h => h) (Or.inr ⟨by rfl, rfl⟩) ?_
                try simp only [Act.put]
                try simp only [List.setIfInBounds_toArray]
                try simp only [List.set_cons_succ]
                try simp only [List.set_cons_zero]
                refine wpAny_take (i := 22) (oi := { dst := some 129, op := .fieldAddr 69 (.tmp 128) 0, type := 0, pos := "law.go:139", after := #[{ on := 21, ground := .data }, { on := 19, ground := .guard }], guard := some (19, true) }) (v := undef) rfl (by kernel_rfl) (by kernel_rfl) (by kernel_rfl) (fun _ _ _ h => h) (Or.inr ⟨by rfl, rfl⟩) ?_
                try simp only [Act.put]
                try simp only [List.setIfInBounds_toArray]
                try simp only [List.set_cons_succ]
                try simp only [List.set_cons_zero]
                refine wpAny_take (i := 23) (oi := { dst := some 130, op := .load 3 (.tmp 129), type := 3, pos := "law.go:139", after := #[{ on := 22, ground := .data }, { on := 19, ground := .guard }], guard := some (19, true) }) (v := undef) rfl (by kernel_rfl) (by kernel_rfl) (by kernel_rfl) (fun _ _ _ h => h) (Or.inr ⟨by rfl, rfl⟩) ?_
                try simp only [Act.put]
                try simp only [List.setIfInBounds_toArray]
                try simp only [List.set_cons_succ]
                try simp only [List.set_cons_zero]
                refine wpAny_take (i := 24) (oi := { dst := some 131, op := .move (.tmp 11), type := 27, pos := "law.go:139", after := #[{ on := 19, ground := .guard }], guard := some (19, true) }) (v := undef) rfl (by kernel_rfl) (by kernel_rfl) (by kernel_rfl) (fun _ _ _ h => h) (Or.inr ⟨by rfl, rfl⟩) ?_
                try simp only [Act.put]
                try simp only [List.setIfInBounds_toArray]
                try simp only [List.set_cons_succ]
                try simp only [List.set_cons_zero]
                refine wpAny_take (i := 25) (oi := { dst := some 132, op := .call { callee := .value (.func 26), args := #[.tmp 131], argTypes := #[27] }, type := 3, pos := "law.go:139", after := #[{ on := 24, ground := .data }, { on := 19, ground := .chain }, { on := 19, ground := .guard }], guard := some (19, true) }) (v := undef) rfl (by kernel_rfl) (by kernel_rfl) (by kernel_rfl) (fun _ _ _ h => h) (Or.inr ⟨by rfl, rfl⟩) ?_
                try simp only [Act.put]
                try simp only [List.setIfInBounds_toArray]
                try simp only [List.set_cons_succ]
                try simp only [List.set_cons_zero]
                refine wpAny_take (i := 26) (oi := { dst := some 133, op := .binOp .lss 3 (.tmp 130) (.tmp 132) 3, type := 4, pos := "law.go:139", after := #[{ on := 23, ground := .data }, { on := 25, ground := .data }, { on := 19, ground := .guard }], guard := some (19, true) }) (v := undef) rfl (by kernel_rfl) (by kernel_rfl) (by kernel_rfl) (fun _ _ _ h => h) (Or.inr ⟨by rfl, rfl⟩) ?_
                try simp only [Act.put]
                try simp only [List.setIfInBounds_toArray]
                try simp only [List.set_cons_succ]
                try simp only [List.set_cons_zero]
                refine wpAny_take (i := 27) (oi := { dst := some 134, op := .pick (.tmp 126) (.tmp 133) (.const (Go.Value.bool false)), type := 4, pos := "law.go:139", after := #[{ on := 19, ground := .data }, { on := 26, ground := .data }, { on := 13, ground := .guard }], guard := some (13, false) }) (v := undef) rfl (by kernel_rfl) (by kernel_rfl) (by kernel_rfl) (fun _ _ _ h => h) (Or.inr ⟨by rfl, rfl⟩) ?_
                try simp only [Act.put]
                try simp only [List.setIfInBounds_toArray]
                try simp only [List.set_cons_succ]
                try simp only [List.set_cons_zero]
                refine wpAny_take (i := 28) (oi := { dst := some 135, op := .pick (.tmp 120) (.const (Go.Value.bool true)) (.tmp 134), type := 4, pos := "law.go:139", after := #[{ on := 13, ground := .data }, { on := 27, ground := .data }, { on := 9, ground := .guard }], guard := some (9, true) }) (v := ?_) rfl (by kernel_rfl) (by kernel_rfl) (by kernel_rfl) (fun _ _ _ h => h) (Or.inl ⟨by rfl, ?_⟩) ?_
                rotate_left
                · intro w
                  go_simp
                  try (with_reducible rfl)
                try simp only [Act.put]
                try simp only [List.setIfInBounds_toArray]
                try simp only [List.set_cons_succ]
                try simp only [List.set_cons_zero]
                refine wpAny_take (i := 29) (oi := { dst := some 136, op := .pick (.tmp 116) (.tmp 135) (.const (Go.Value.bool false)), type := 4, pos := "law.go:139", after := #[{ on := 9, ground := .data }, { on := 28, ground := .data }], guard := none }) (v := ?_) rfl (by kernel_rfl) (by kernel_rfl) (by kernel_rfl) (fun _ _ _ h => h) (Or.inl ⟨by rfl, ?_⟩) ?_
                rotate_left
                · intro w
                  go_simp
                  try (with_reducible rfl)
                try simp only [Act.put]
                try simp only [List.setIfInBounds_toArray]
                try simp only [List.set_cons_succ]
                try simp only [List.set_cons_zero]
                refine wpAny_take (i := 30) (oi := { dst := some 137, op := .move (.tmp 136), type := 4, pos := "law.go:139", after := #[{ on := 29, ground := .data }, { on := 25, ground := .chain }], guard := none }) (v := ?_) rfl (by kernel_rfl) (by kernel_rfl) (by kernel_rfl) (fun _ _ _ h => h) (Or.inl ⟨by rfl, ?_⟩) ?_
                rotate_left
                · intro w
                  go_simp
                  try (with_reducible rfl)
                try simp only [Act.put]
                try simp only [List.setIfInBounds_toArray]
                try simp only [List.set_cons_succ]
                try simp only [List.set_cons_zero]
                refine wpAny_ready (rs := [31]) (by kernel_rfl) (by simp) ?_
                refine AllReady.cons rfl (fun K hK => ?_) AllReady.nil
                go_simp
                go_wp2_with ((go_at_call 7; refine (E4.out _ _ hz2 ?_).mono ?_; (first | exact Kept.refl _ _ | exact (Kept.refl _ _).drewN _ | exact (Kept.refl _ _).drew); rintro e z4 ⟨rfl, hz4, -⟩))
                try (refine hK _ _ ?_; clear hK K)
                try simp only [Act.put]
                try simp only [List.setIfInBounds_toArray]
                try simp only [List.set_cons_succ]
                try simp only [List.set_cons_zero]
                refine wpAny_take (i := 32) (oi := { dst := some 139, op := .pick (.tmp 137) (.tmp 138) (.const (Go.Value.bool false)), type := 4, pos := "law.go:139", after := #[{ on := 30, ground := .data }, { on := 31, ground := .data }], guard := none }) (v := ?_) rfl (by kernel_rfl) (by kernel_rfl) (by kernel_rfl) (fun _ _ _ h => h) (Or.inl ⟨by rfl, ?_⟩) ?_
                rotate_left
                · intro w
                  go_simp
                  try (with_reducible rfl)
                try simp only [Act.put]
                try simp only [List.setIfInBounds_toArray]
                try simp only [List.set_cons_succ]
                try simp only [List.set_cons_zero]
                refine wpAny_take (i := 33) (oi := { dst := some 10, op := .assign (.tmp 139), type := 4, pos := "law.go:139", after := #[{ on := 32, ground := .data }, { on := 31, ground := .chain }, { on := 0, ground := .phase }, { on := 1, ground := .phase }, { on := 2, ground := .phase }, { on := 3, ground := .phase }, { on := 4, ground := .phase }, { on := 5, ground := .phase }, { on := 6, ground := .phase }, { on := 7, ground := .phase }, { on := 8, ground := .phase }, { on := 9, ground := .phase }, { on := 10, ground := .phase }, { on := 11, ground := .phase }, { on := 12, ground := .phase }, { on := 13, ground := .phase }, { on := 14, ground := .phase }, { on := 15, ground := .phase }, { on := 16, ground := .phase }, { on := 17, ground := .phase }, { on := 18, ground := .phase }, { on := 19, ground := .phase }, { on := 20, ground := .phase }, { on := 21, ground := .phase }, { on := 22, ground := .phase }, { on := 23, ground := .phase }, { on := 24, ground := .phase }, { on := 25, ground := .phase }, { on := 26, ground := .phase }, { on := 27, ground := .phase }, { on := 28, ground := .phase }, { on := 29, ground := .phase }, { on := 30, ground := .phase }, { on := 31, ground := .phase }, { on := 32, ground := .phase }], guard := none }) (v := ?_) rfl (by kernel_rfl) (by kernel_rfl) (by kernel_rfl) (fun _ _ _ h => h) (Or.inl ⟨by rfl, ?_⟩) ?_
                rotate_left
                · intro w
                  go_simp
                  try (with_reducible rfl)
                try simp only [Act.put]
                try simp only [List.setIfInBounds_toArray]
                try simp only [List.set_cons_succ]
                try simp only [List.set_cons_zero]
                refine wpAny_done (by kernel_rfl) ?_ _
                have HK := Lib.hid (HW.out.trans hz4.out)
                clear hz4
                go_wp2_with fail
                go_ret
                exact ⟨rfl, HK.out⟩
              | cons ft F =>
                obtain ⟨gF, cF, rfl, hgF, _, _⟩ := own_cons hof rfl
                obtain ⟨hx0, hx1⟩ := HIn.out ft (by simp)
                have hcl : Hid (∀ z, Kept [] x9 z → z.cell? ⟨gF, 0, none⟩ = some (.int .i64 ft.a)) := Lib.hid fun z hz => (hof.keep0 hz).cell 0 _ rfl
                have r0 := hcl.out x9 (Kept.refl _ _)
                obtain ⟨nF, hnF⟩ : ∃ nF, F.length = nF := ⟨_, rfl⟩
                rw [hnF]
                have E1 : Hid (∀ y, Kept [] x9 y → Calls Tryz.prog 31 #[.pointer (some ⟨s.sp, 0, none⟩)] y fun e z => ∃ v, e = .returned v ∧ Hid (Sp.Own z v cs' ∧ Kept [] x9 z) ∧ z.cell? ⟨gF, 0, none⟩ = some (.int .i64 ft.a)) := Lib.hid fun y hy => (allCells_ok (HF9.out.keep0 hy) (HS9.out.keep0 hy) cs' HC9.out).mono fun e z ⟨v, he, ho, _, hk⟩ => ⟨v, he, Lib.hid ⟨ho, hy.trans hk⟩, hcl.out z (hy.trans hk)⟩
                have E2 : Hid (∀ v x y, Hid (Sp.Own x v cs' ∧ Kept [] x9 x) → Kept [] x y → Calls Tryz.prog 11 #[v, .slice (some ⟨gc, oc, none⟩) nc cc] y fun e z => e = .returned (.bool false) ∧ Hid (Kept [] x9 z) ∧ z.cell? ⟨gF, 0, none⟩ = some (.int .i64 ft.a)) := Lib.hid fun v x y hx hy => by
                  obtain ⟨o1, hk⟩ := hx.out
                  obtain ⟨B1, c1, rfl, _, s1, _⟩ := Sp.back_own (Kept.refl [] _) o1
                  have h := unlike_ok (cap := c1) (cap2 := cc) cs' cs (s1.keep0 hy) (HWs.out y (hk.trans hy)) (by omega) (by rw [HNc.out]; omega) HNe.out
                  rw [HNc.out] at h
                  exact h.mono fun e z ⟨he, hz⟩ => ⟨he, Lib.hid ((hk.trans hy).trans hz), hcl.out z ((hk.trans hy).trans hz)⟩
                have E3 : Hid (∀ x y, Hid (Kept [] x9 x) → Kept [] x y → Calls Tryz.prog 26 #[.pointer (some ⟨s.sp, 0, none⟩)] y fun e z => e = .returned (.int .i64 (G : Int)) ∧ Hid (Kept [] x9 z) ∧ z.cell? ⟨gF, 0, none⟩ = some (.int .i64 ft.a)) := Lib.hid fun x y hx hy => by
                  have h := granules_ok (HS9.out.keep0 (hx.out.trans hy))
                  rw [HG9.out] at h
                  exact h.mono fun e z ⟨he, hz⟩ => by subst hz; exact ⟨he, Lib.hid (hx.out.trans hy), hcl.out _ (hx.out.trans hy)⟩
                have E4 : Hid (∀ x y, Hid (Kept [] x9 x) → Kept [] x y → Calls Tryz.prog 7 #[] y fun e z => e = .returned (.bool true) ∧ Hid (Kept [] x9 z) ∧ z.cell? ⟨gF, 0, none⟩ = some (.int .i64 ft.a)) := Lib.hid fun x y hx hy => (HA.out y ((HK9.out.trans hx.out).trans hy)).mono fun e z ⟨he, hk⟩ => ⟨he, Lib.hid ((hx.out.trans hy).trans hk), hcl.out z ((hx.out.trans hy).trans hk)⟩
                have HW := Lib.hid HK9.out
                clear hof hgF hcl HA HF9 HS9 HK9 HC9 HG9 HWs HNc HNe HIn HGr hnF
                generalize ft.a = fa at *
                go_wp2_with fail
                go_region_held3 (fun y => y.cell? ⟨gF, 0, none⟩ = some (.int .i64 fa)) (go_keep)
                  (first
                    | (go_at_call 31; refine (E1.out _ ?_).mono ?_; (first | exact Kept.refl _ _ | exact (Kept.refl _ _).drewN _ | exact (Kept.refl _ _).drew); rintro e z1 ⟨v1, rfl, hz1, q1⟩)
                    | (go_at_call 11; refine (E2.out _ _ _ hz1 ?_).mono ?_; (first | exact Kept.refl _ _ | exact (Kept.refl _ _).drewN _ | exact (Kept.refl _ _).drew); rintro e z2 ⟨rfl, hz2, q2⟩)
                    | (go_at_call 26; refine (E3.out _ _ hz2 ?_).mono ?_; (first | exact Kept.refl _ _ | exact (Kept.refl _ _).drewN _ | exact (Kept.refl _ _).drew); rintro e z3 ⟨rfl, hz3, q3⟩)
                    | (go_at_call 7; (first | (refine (E4.out _ _ hz3 ?_).mono ?_; (first | exact Kept.refl _ _ | exact (Kept.refl _ _).drewN _ | exact (Kept.refl _ _).drew); rintro e z4 ⟨rfl, hz4, q4⟩) | (refine (E4.out _ _ hz2 ?_).mono ?_; (first | exact Kept.refl _ _ | exact (Kept.refl _ _).drewN _ | exact (Kept.refl _ _).drew); rintro e z4 ⟨rfl, hz4, q4⟩)))
                    | fail)
                all_goals
                  have HK := Lib.hid (HW.out.trans hz4.out)
                  clear hz4
                  go_wp2_with fail
                  go_ret
                  exact ⟨rfl, HK.out⟩
end
end Go.Proofs.YtagmmbkgjomdlaaGreatDoor.Wk
