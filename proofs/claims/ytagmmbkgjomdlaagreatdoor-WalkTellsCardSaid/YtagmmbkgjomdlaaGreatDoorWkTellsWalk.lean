/-
  The law WalkTells returns true.
-/
import Derived.Test.YtagmmbkgjomdlaaGreatDoorG48
import Derived.Test.YtagmmbkgjomdlaaGreatDoorG50
import Derived.Test.YtagmmbkgjomdlaaGreatDoorG49
import Derived.Deep.RegionHeld3
namespace Go.Proofs.YtagmmbkgjomdlaaGreatDoor.Wk
open Go.RowKit Go.Proofs.YtagmmbkgjomdlaaGreatDoor.Ar
open Go.Proofs.YtagmmbkgjomdlaaGreatDoor.Sp hiding Own own_from own_put back_own Seen own_cells seen_one
open Go.Proofs.YtagmmbkgjomdlaaGreatDoor.Sh (hdH ofE ofT ofS atG)
open Go.Proofs.YtagmmbkgjomdlaaGreatDoor.Hd (Hd Fields)
open Go.Proofs.YtagmmbkgjomdlaaGreatDoor.Tb (Ty Tab newF)
open Go.Proofs.YtagmmbkgjomdlaaGreatDoor.Bt (Bv hasV layB)
open Go.Proofs.YtagmmbkgjomdlaaGreatDoor.Wd (Table)
set_option linter.unusedVariables false

/-- The two cells of the document's space. -/
def CC (z : World) (r q cap nw : Nat) (A1 : Option Addr) (nl cap1 : Nat) : Prop := z.cell? ⟨r, 0, none⟩ = some (.slice (some ⟨q, 0, none⟩) nw cap) ∧ z.cell? ⟨r, 1, none⟩ = some (.slice A1 nl cap1)
theorem by_back {y : World} {v : Value} {l : List Int} (hO : By.Own y v l) : ∃ A c, v = .slice A l.length c ∧ By.Seen y A l := by
  rcases hO.form with ⟨rfl, rfl⟩ | ⟨g', cap', rfl, hlt, _, _⟩
  · exact ⟨none, 0, rfl, fun h => absurd rfl h⟩
  · exact ⟨_, _, rfl, By.Own.seen hO hlt⟩

section
variable {w : World}
set_option maxRecDepth 100000 in
set_option maxHeartbeats 16000000 in
theorem tells_walk (a0 : Int) (b0 : -9223372036854775808 ≤ a0 ∧ a0 ≤ 9223372036854775807) (A1 : Option Addr) (l : List Ty) (cap1 : Nat) (A2 : Option Addr) (L : List Stp) (cap2 : Nat) (A3 : Option Addr) (tags : List Int) (cap3 : Nat) (htm : tags.length ≤ maxLen) (hS3 : By.Seen w A3 tags) (hn3 : A3 = none → cap3 = 0) (hF : Fields w) (hTb : Table w)
    (hl : l.length ≤ maxLen) (hS1 : Tb.Seen w A1 l) (hok1 : ∀ t ∈ l, t.ok) (hL : L.length ≤ maxLen) (hS2 : Sp.Steps w A2 L) (hok2 : ∀ s ∈ L, s.ok) (hrd : ∀ s ∈ L, Read w s) :
    Calls Tryz.prog 3 #[.int .i64 a0, .slice A1 l.length cap1, .slice A2 L.length cap2, .slice A3 tags.length cap3] w fun e w' => e = .returned (.bool true) ∧ Kept [] w w' := by
  have HA := Lib.hid (fun y (k : Kept [] w y) => alive10_ok (hF.keep0 k) (table_keep0 hTb k))
  have HH := Lib.hid (heavy2_ok a0 A1 l.length cap1 A2 L cap2 hS2 (fun s hs => (hrd s hs).few) hl hL)
  have HMd := Lib.hid (fun (h : l.length ≤ 100000) => made_ok (d := cap1) a0 b0.1 b0.2 hF hTb hS1 hok1 h)
  have HS1 := Lib.hid hS1
  have HS2 := Lib.hid hS2
  have HOk2 := Lib.hid hok2
  have HRd := Lib.hid hrd
  have HS3 := Lib.hid hS3
  unfold maxLen at htm
  clear hS3
  clear hF hTb hS1 hok1 hS2 hok2 hrd hl hL
  go_enter Tryz.func3, Tryz.ntmps3
  go_wp2_with fail
  refine HH.out.mono ?_
  rintro e y ⟨⟨b, rfl, hb⟩, rfl⟩
  clear HH
  cases b with
  | true =>
    clear hb
    go_wp2_with fail
    refine (HA.out _ (Kept.refl [] w)).mono ?_
    rintro e y ⟨rfl, hk⟩
    have HK := Lib.hid (((Kept.refl [] w)).trans hk)
    clear hk
    go_wp2_with fail
    go_ret
    exact ⟨rfl, HK.out⟩
  | false =>
    obtain ⟨⟨hn, hl, hL⟩, hEa⟩ := hb rfl
    have HEa := Lib.hid hEa
    clear hb hEa
    by_cases hgd : 60 < tags.length
    · clear HMd HEa HS1 HS2 HOk2 HRd HS3
      go_wp2_with fail
      refine (HA.out _ (Kept.refl [] w)).mono ?_
      rintro e y ⟨rfl, hk⟩
      have HK := Lib.hid (((Kept.refl [] w)).trans hk)
      clear hk
      go_wp2_with fail
      go_ret
      exact ⟨rfl, HK.out⟩
    · skip
      have HMd := Lib.hid (HMd.out (by omega))
      go_wp2_with fail
      refine HMd.out.mono ?_
      rintro e x1 (⟨_, rfl, k1⟩ | ⟨m, s, r, hm, hmb, rfl, hD⟩)
      · have K1 := Lib.hid k1
        clear k1
        go_wp2_with fail
        refine (HA.out _ K1.out).mono ?_
        rintro e y ⟨rfl, hk⟩
        have HK := Lib.hid ((K1.out).trans hk)
        clear hk
        go_wp2_with fail
        go_ret
        exact ⟨rfl, HK.out⟩
      · have H0 : Hid (Sp.Twin w x1 s r A1 cap1 l) := Lib.hid ⟨_, _, _, hD⟩
        clear hD hm hmb HMd
        go_wp2_with fail
        go_loopw [12] (fun t wr => ∃ j : Nat, t = .int .i64 (j : Int) ∧ j ≤ L.length ∧ Hid (Sp.Twin w wr s r A1 cap1 l)) (fun t _ => L.length - (intOf t).toNat)
        case atStart => exact ⟨0, rfl, Nat.zero_le _, H0⟩
        case round =>
          clear H0
          obtain ⟨j, rfl, hj, hr⟩ := hrel
          by_cases hlt : j < L.length
          · obtain ⟨g0, f0, st, rfl, hg0, hst, c0, c1, c2, c3, c4, c5⟩ := step_at (HS2.out.keep0 hr.out.start) j hlt
            have hok := HOk2.out st hst
            have hrdd := HRd.out st hst
            obtain ⟨gs, e1, e2, e3⟩ := hrdd.gs
            have hgm : gs.length ≤ 300 := by rw [e1]; exact HEa.out st hst
            have HDo := Lib.hid (does_ok hr.out HS1.out st hok hrdd.u gs e1 e2 e3 hrdd.nil hgm fun y hy => joins_ok hy HS1.out st.d st.g st.i st.n st.u st.A st.len st.cap hok.2.1.1 hok.2.1.2 hok.2.2.1.1 hok.2.2.1.2 hok.2.2.2.1.1 hok.2.2.2.1.2)
            clear hr hok hrdd e1 e2 e3 hgm hst gs
            go_wp2_with fail
            refine HDo.out.mono ?_
            rintro e y ⟨rfl, hz⟩
            have HZ := Lib.hid hz
            clear hz HDo c0 c1 c2 c3 c4 c5
            go_wp2_with fail
            go_roundw
            case rel => exact ⟨j + 1, by go_num, by omega, HZ⟩
            case measure => simp [intOf] <;> omega
          · obtain ⟨ws, bs, cs, hD⟩ := hr.out
            clear hr
            have HD := Lib.hid hD
            obtain ⟨q, cap, hd, hq⟩ := hD.doc
            have HAl := Lib.hid (all_ok hd ((fit_of hD.mine HS1.out).keep0 hD.mine.kept))
            clear hD hd hq
            go_wp2_with fail
            refine HAl.out.mono ?_
            rintro e y8 ⟨vc, rfl, hoc, _, k8⟩
            obtain ⟨Ac, cc, rfl, _⟩ := Sp.back_own (Kept.refl [] _) hoc
            have h8 := HD.out.keep0 k8
            obtain ⟨q, cap, hd, hq⟩ := h8.doc
            have hfit := fit_of h8.mine HS1.out
            have hsc : Scans ws l 0 cs := h8.mine.snd.scans
            have hmost := hfit.most
            have hgr : gran ws ≤ 32768 := by have := hfit.short; unfold gran; omega
            have hof := objs_few hmost
            have hgl := gapR_len tags cs
            have hel : (edgF (objs cs) (rfs ws l (objs cs))).length ≤ 65536 := Nat.le_trans (edgF_len _ _) (rfs_few hsc hgr)
            have hgo : ∀ y, Kept [] y8 y → From y (some ⟨s.sp, 0, none⟩) (some ⟨s.ap, 0, none⟩) (some ⟨s.tp, 0, none⟩) ∧ Good y (some ⟨s.ap, 0, none⟩) (some ⟨s.tp, 0, none⟩) l ws := fun y hy => ⟨from_spc (h8.mine.spc.keep0 hy), good_spc (h8.mine.glob.f.keep0 hy) (h8.mine.spc.keep0 hy)⟩
            have cells : Hid (∀ z, Kept [] y8 z → CC z r q cap ws.length A1 l.length cap1) := Lib.hid fun z hz => ⟨(hd.keep0 hz).cells.1, (hd.keep0 hz).cells.2.1⟩
            have C1 : Hid (∀ y, Kept [] y8 y → Calls Tryz.prog 12 #[.pointer (some ⟨s.sp, 0, none⟩)] y fun e z => ∃ v, e = .returned v ∧ Hid (Sp.Own z v (objs cs) ∧ Kept [] y8 z) ∧ CC z r q cap ws.length A1 l.length cap1) := Lib.hid fun y hy => (objects_ok (hgo y hy).1 (hgo y hy).2 hsc).mono fun e z ⟨v, he, ho, _, hk⟩ => ⟨v, he, Lib.hid ⟨ho, hy.trans hk⟩, cells.out z (hy.trans hk)⟩
            have C2 : Hid (∀ v x y, Hid (Sp.Own x v (objs cs) ∧ Kept [] y8 x) → Kept [] x y → Calls Tryz.prog 13 #[.slice Ac cs.length cc] y fun e z => ∃ v2, e = .returned v2 ∧ Hid (Sp.Own z v (objs cs) ∧ Sp.Own z v2 (objs cs) ∧ Kept [] y8 z) ∧ CC z r q cap ws.length A1 l.length cap1) := Lib.hid fun v x y hx hy => (dobjects_ok cs (hoc.seen.keep0 (hx.out.2.trans hy)) hmost).mono fun e z ⟨v2, he, ho, _, hk⟩ => ⟨v2, he, Lib.hid ⟨hx.out.1.keep0 (hy.trans hk), ho, (hx.out.2.trans hy).trans hk⟩, cells.out z ((hx.out.2.trans hy).trans hk)⟩
            have C3 : Hid (∀ v v2 x y, Hid (Sp.Own x v (objs cs) ∧ Sp.Own x v2 (objs cs) ∧ Kept [] y8 x) → Kept [] x y → Calls Tryz.prog 11 #[v, v2] y fun e z => e = .returned (.bool true) ∧ Hid (Kept [] y8 z) ∧ CC z r q cap ws.length A1 l.length cap1) := Lib.hid fun v v2 x y hx hy => by
              obtain ⟨o1, o2, hk⟩ := hx.out
              obtain ⟨B1, c1, rfl, _, s1, _⟩ := Sp.back_own (Kept.refl [] _) o1
              obtain ⟨B2, c2, rfl, _, s2, _⟩ := Sp.back_own (Kept.refl [] _) o2
              exact (same_ok (objs cs) (s1.keep0 hy) (s2.keep0 hy) (by omega)).mono fun e z ⟨he, hz⟩ => ⟨he, Lib.hid ((hk.trans hy).trans hz), cells.out z ((hk.trans hy).trans hz)⟩
            have HTg : Hid (∀ x y, Hid (Kept [] y8 x) → Kept [] x y → By.Seen y A3 tags) := Lib.hid fun x y hx hy => HS3.out.keep0 ((h8.mine.kept.trans hx.out).trans hy)
            have HAp : Hid (∀ x y z v, Hid (Kept [] y8 x) → Kept [] x y → By.Own z v ([] ++ tags) → y.grownBy z (Value.slice none 0 0).ownBlock → Hid (By.Own z v tags ∧ Kept [] y8 z) ∧ CC z r q cap ws.length A1 l.length cap1) := Lib.hid fun x y z v hx hy o g => by
              have hk : Kept [] y8 z := (hx.out.trans hy).trans (own_grown (Kept.refl [] y) (.inl rfl) g)
              rw [List.nil_append] at o
              exact ⟨Lib.hid ⟨o, hk⟩, cells.out z hk⟩
            have C4 : Hid (∀ v x y, Hid (By.Own x v tags ∧ Kept [] y8 x) → Kept [] x y → Calls Tryz.prog 15 #[.pointer (some ⟨s.sp, 0, none⟩), v] y fun e z => ∃ v2, e = .returned v2 ∧ Hid (Own Rn z v2 (gapR tags cs) ∧ Kept [] y8 z) ∧ CC z r q cap ws.length A1 l.length cap1) := Lib.hid fun v x y hx hy => by
              obtain ⟨o1, hk⟩ := hx.out
              obtain ⟨B1, c1, rfl, s1⟩ := by_back o1
              exact (gaps_ok (c := c1) (hgo y (hk.trans hy)).1 (hgo y (hk.trans hy)).2 hsc (s1.keep0 hy) (by omega)).mono fun e z ⟨v, he, ho, _, hz⟩ => ⟨v, he, Lib.hid ⟨ho, (hk.trans hy).trans hz⟩, cells.out z ((hk.trans hy).trans hz)⟩
            have C5 : Hid (∀ v x y, Hid (Own Rn x v (gapR tags cs) ∧ Kept [] y8 x) → Kept [] x y → Calls Tryz.prog 16 #[.slice Ac cs.length cc, .slice A3 tags.length cap3] y fun e z => ∃ v2, e = .returned v2 ∧ Hid (Own Rn z v (gapR tags cs) ∧ Own Rn z v2 (gapR tags cs) ∧ Kept [] y8 z) ∧ CC z r q cap ws.length A1 l.length cap1) := Lib.hid fun v x y hx hy => (dgaps_ok cs tags (hoc.seen.keep0 (hx.out.2.trans hy)) hmost (HS3.out.keep0 ((h8.mine.kept.trans hx.out.2).trans hy)) (by omega)).mono fun e z ⟨v2, he, ho, _, hk⟩ => ⟨v2, he, Lib.hid ⟨hx.out.1.keep0 (hy.trans hk), ho, (hx.out.2.trans hy).trans hk⟩, cells.out z ((hx.out.2.trans hy).trans hk)⟩
            have C6 : Hid (∀ v v2 x y, Hid (Own Rn x v (gapR tags cs) ∧ Own Rn x v2 (gapR tags cs) ∧ Kept [] y8 x) → Kept [] x y → Calls Tryz.prog 14 #[v, v2] y fun e z => e = .returned (.bool true) ∧ Hid (Kept [] y8 z) ∧ CC z r q cap ws.length A1 l.length cap1) := Lib.hid fun v v2 x y hx hy => by
              obtain ⟨o1, o2, hk⟩ := hx.out
              obtain ⟨B1, c1, rfl, _, s1⟩ := back_own (K := Rn) o1
              obtain ⟨B2, c2, rfl, _, s2⟩ := back_own (K := Rn) o2
              exact (sameRn_ok (gapR tags cs) (s1.keep0 hy) (s2.keep0 hy) (by omega)).mono fun e z ⟨he, hz⟩ => ⟨he, Lib.hid ((hk.trans hy).trans hz), cells.out z ((hk.trans hy).trans hz)⟩
            have C7 : Hid (∀ x y, Hid (Kept [] y8 x) → Kept [] x y → Calls Tryz.prog 18 #[.pointer (some ⟨s.sp, 0, none⟩)] y fun e z => ∃ v, e = .returned v ∧ Hid (Own Edg z v (edgF (objs cs) (rfs ws l (objs cs))) ∧ Kept [] y8 z) ∧ CC z r q cap ws.length A1 l.length cap1) := Lib.hid fun x y hx hy => (edges_ok (hgo y (hx.out.trans hy)).1 (hgo y (hx.out.trans hy)).2 hsc).mono fun e z ⟨v, he, ho, _, hk⟩ => ⟨v, he, Lib.hid ⟨ho, (hx.out.trans hy).trans hk⟩, cells.out z ((hx.out.trans hy).trans hk)⟩
            have C8 : Hid (∀ v x y, Hid (Own Edg x v (edgF (objs cs) (rfs ws l (objs cs))) ∧ Kept [] y8 x) → Kept [] x y → Calls Tryz.prog 19 #[.slice (some ⟨q, 0, none⟩) ws.length cap, .slice A1 l.length cap1] y fun e z => ∃ v2, e = .returned v2 ∧ Hid (Own Edg z v (edgF (objs cs) (rfs ws l (objs cs))) ∧ Own Edg z v2 (edgF (objs cs) (rfs ws l (objs cs))) ∧ Kept [] y8 z) ∧ CC z r q cap ws.length A1 l.length cap1) := Lib.hid fun v x y hx hy => (dedges_ok ((hd.keep0 (hx.out.2.trans hy)).row.seen) hfit.short (Sh.wds_of hfit.wm) (hfit.types.keep0 ((h8.mine.kept.trans hx.out.2).trans hy)) hfit.ok hfit.few cs hfit.tiled).mono fun e z ⟨v2, he, ho, _, hk⟩ => ⟨v2, he, Lib.hid ⟨hx.out.1.keep0 (hy.trans hk), ho, (hx.out.2.trans hy).trans hk⟩, cells.out z ((hx.out.2.trans hy).trans hk)⟩
            have C9 : Hid (∀ v v2 x y, Hid (Own Edg x v (edgF (objs cs) (rfs ws l (objs cs))) ∧ Own Edg x v2 (edgF (objs cs) (rfs ws l (objs cs))) ∧ Kept [] y8 x) → Kept [] x y → Calls Tryz.prog 17 #[v, v2] y fun e z => e = .returned (.bool true) ∧ Hid (Kept [] y8 z) ∧ CC z r q cap ws.length A1 l.length cap1) := Lib.hid fun v v2 x y hx hy => by
              obtain ⟨o1, o2, hk⟩ := hx.out
              obtain ⟨B1, c1, rfl, _, s1⟩ := back_own (K := Edg) o1
              obtain ⟨B2, c2, rfl, _, s2⟩ := back_own (K := Edg) o2
              exact (sameEdg_ok (edgF (objs cs) (rfs ws l (objs cs))) (s1.keep0 hy) (s2.keep0 hy) (by omega)).mono fun e z ⟨he, hz⟩ => ⟨he, Lib.hid ((hk.trans hy).trans hz), cells.out z ((hk.trans hy).trans hz)⟩
            obtain ⟨tt, htt⟩ : ∃ tt, tt = tally cs := ⟨_, rfl⟩
            have C10 : Hid (∀ x y, Hid (Kept [] y8 x) → Kept [] x y → Calls Tryz.prog 20 #[.pointer (some ⟨s.sp, 0, none⟩)] y fun e z => e = .returned (.agg #[.int .i64 tt.o, .int .i64 tt.f, .int .i64 tt.r, .int .i64 tt.u, .int .i64 tt.e, .int .i64 tt.l]) ∧ Hid (Kept [] y8 z) ∧ CC z r q cap ws.length A1 l.length cap1) := Lib.hid fun x y hx hy => (count_ok (hgo y (hx.out.trans hy)).1 (hgo y (hx.out.trans hy)).2 hsc).mono fun e z ⟨he, hk⟩ => ⟨by rw [he, htt]; rfl, Lib.hid ((hx.out.trans hy).trans hk), cells.out z ((hx.out.trans hy).trans hk)⟩
            have C11 : Hid (∀ x y, Hid (Kept [] y8 x) → Kept [] x y → Calls Tryz.prog 21 #[.slice Ac cs.length cc] y fun e z => e = .returned (.agg #[.int .i64 tt.o, .int .i64 tt.f, .int .i64 tt.r, .int .i64 tt.u, .int .i64 tt.e, .int .i64 tt.l]) ∧ Hid (Kept [] y8 z) ∧ CC z r q cap ws.length A1 l.length cap1) := Lib.hid fun x y hx hy => (dcount_ok cs (hoc.seen.keep0 (hx.out.trans hy)) hmost (fun c hc => (scans_cell hsc hgr c hc).2.1)).mono fun e z ⟨he, hk⟩ => ⟨by rw [he, htt]; rfl, Lib.hid ((hx.out.trans hy).trans hk), cells.out z ((hx.out.trans hy).trans hk)⟩
            have C12 : Hid (∀ x y, Hid (Kept [] y8 x) → Kept [] x y → Calls Tryz.prog 7 #[] y fun e z => e = .returned (.bool true) ∧ Hid (Kept [] y8 z) ∧ CC z r q cap ws.length A1 l.length cap1) := Lib.hid fun x y hx hy => (HA.out y ((h8.mine.kept.trans hx.out).trans hy)).mono fun e z ⟨he, hk⟩ => ⟨he, Lib.hid ((hx.out.trans hy).trans hk), cells.out z ((hx.out.trans hy).trans hk)⟩
            have HW := Lib.hid h8.mine.kept
            obtain ⟨r0, r1⟩ := cells.out y8 (Kept.refl _ _)
            have hse := fun y => sameTal y tt.o tt.f tt.r tt.u tt.e tt.l tt.o tt.f tt.r tt.u tt.e tt.l
            have hng := guardTal
            have hqe := eqT_refl tt.o tt.f tt.r tt.u tt.e tt.l
            have htl : tags.length ≤ 60 := by omega
            clear hoc k8 h8 hd hq hfit hsc hmost hgr hof hgl hel hgo cells htt HD HAl HA HS1 HS2 HOk2 HRd HEa HS3
            generalize ws.length = nw at *
            generalize l.length = nl at *
            generalize cs.length = nc at *
            go_wp2_with fail
            go_region_held3 (fun y => y.cell? ⟨r, 0, none⟩ = some (.slice (some ⟨q, 0, none⟩) nw cap) ∧ y.cell? ⟨r, 1, none⟩ = some (.slice A1 nl cap1)) (go_keep)
              (first
                | (go_at_call 12; refine (C1.out _ ?_).mono ?_; (first | exact Kept.refl _ _ | exact (Kept.refl _ _).drewN _ | exact (Kept.refl _ _).drew); rintro e z1 ⟨v1, rfl, hz1, r10, r11⟩)
                | (go_at_call 13; refine (C2.out _ _ _ hz1 ?_).mono ?_; (first | exact Kept.refl _ _ | exact (Kept.refl _ _).drewN _ | exact (Kept.refl _ _).drew); rintro e z2 ⟨v2, rfl, hz2, r20, r21⟩)
                | (go_at_call 11; refine (C3.out _ _ _ _ hz2 ?_).mono ?_; (first | exact Kept.refl _ _ | exact (Kept.refl _ _).drewN _ | exact (Kept.refl _ _).drew); rintro e z3 ⟨rfl, hz3, r30, r31⟩)
                | (refine By.step_append_seen (by rfl) (.const (.slice none 0 0)) (.tmp 64) (by rfl) (.slice none 0 0) [] (by rfl) (By.Own.nil _) A3 tags.length cap3 tags (by rfl) rfl hn3 (HTg.out _ _ hz3 (by first | exact Kept.refl _ _ | exact (Kept.refl _ _).drewN _ | exact (Kept.refl _ _).drew)) (by simp only [List.length_nil]; omega) ?_; intro v4 z4 o4 g4 b4; obtain ⟨hz4, r40, r41⟩ := HAp.out _ _ _ _ hz3 (by first | exact Kept.refl _ _ | exact (Kept.refl _ _).drewN _ | exact (Kept.refl _ _).drew) o4 g4; clear o4 g4 b4)
                | (go_at_call 15; refine (C4.out _ _ _ hz4 ?_).mono ?_; (first | exact Kept.refl _ _ | exact (Kept.refl _ _).drewN _ | exact (Kept.refl _ _).drew); rintro e z5 ⟨v5, rfl, hz5, r50, r51⟩)
                | (go_at_call 16; refine (C5.out _ _ _ hz5 ?_).mono ?_; (first | exact Kept.refl _ _ | exact (Kept.refl _ _).drewN _ | exact (Kept.refl _ _).drew); rintro e z6 ⟨v6, rfl, hz6, r60, r61⟩)
                | (go_at_call 14; refine (C6.out _ _ _ _ hz6 ?_).mono ?_; (first | exact Kept.refl _ _ | exact (Kept.refl _ _).drewN _ | exact (Kept.refl _ _).drew); rintro e z7 ⟨rfl, hz7, r70, r71⟩)
                | (go_at_call 18; refine (C7.out _ _ hz7 ?_).mono ?_; (first | exact Kept.refl _ _ | exact (Kept.refl _ _).drewN _ | exact (Kept.refl _ _).drew); rintro e z8 ⟨v8, rfl, hz8, r80, r81⟩)
                | (go_at_call 19; refine (C8.out _ _ _ hz8 ?_).mono ?_; (first | exact Kept.refl _ _ | exact (Kept.refl _ _).drewN _ | exact (Kept.refl _ _).drew); rintro e z9 ⟨v9, rfl, hz9, r90, r91⟩)
                | (go_at_call 17; refine (C9.out _ _ _ _ hz9 ?_).mono ?_; (first | exact Kept.refl _ _ | exact (Kept.refl _ _).drewN _ | exact (Kept.refl _ _).drew); rintro e za ⟨rfl, hza, ra0, ra1⟩)
                | (go_at_call 20; refine (C10.out _ _ hza ?_).mono ?_; (first | exact Kept.refl _ _ | exact (Kept.refl _ _).drewN _ | exact (Kept.refl _ _).drew); rintro e zb ⟨rfl, hzb, rb0, rb1⟩)
                | (go_at_call 21; refine (C11.out _ _ hzb ?_).mono ?_; (first | exact Kept.refl _ _ | exact (Kept.refl _ _).drewN _ | exact (Kept.refl _ _).drew); rintro e zc ⟨rfl, hzc, rc0, rc1⟩)
                | (go_at_call 7; refine (C12.out _ _ hzc ?_).mono ?_; (first | exact Kept.refl _ _ | exact (Kept.refl _ _).drewN _ | exact (Kept.refl _ _).drew); rintro e zd ⟨rfl, hzd, rd0, rd1⟩)
                | fail)
            all_goals
              have HK := Lib.hid (HW.out.trans hzd.out)
              clear hzd
              go_wp2_with fail
              go_ret
              exact ⟨rfl, HK.out⟩
end
end Go.Proofs.YtagmmbkgjomdlaaGreatDoor.Wk
