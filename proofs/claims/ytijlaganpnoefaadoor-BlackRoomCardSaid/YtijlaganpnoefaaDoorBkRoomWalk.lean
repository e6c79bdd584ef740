/-
  Stage 12, black: the law BlackRoom returns true.
-/
import Derived.Test.YtijlaganpnoefaaDoorBkOld
import Derived.Test.YtijlaganpnoefaaDoorBkRoom
namespace Go.Proofs.YtijlaganpnoefaaDoor.Bk
open Go.RowKit Go.Proofs.YtijlaganpnoefaaDoor.Ar
set_option linter.unusedVariables false
section
variable {G : World → Prop} {P : World → World → Nat → List Nat → List Int → Prop} {w x y : World} {p : Nat} {T : List Nat} {ls ds : List Int}
theorem duo_any (C : Ctr G P) (h : P w x p T ls) (hb : Bl y (x.heap.size + 1) x.heap.size ds) (k : Kept [] x y) : BDuo P w y p T ls (x.heap.size + 1) x.heap.size ds := by
  have hm := (C.start h).more
  exact ⟨C.keep0 h k, hb, fun hi => by have := (C.fresh h _ hi).2; omega, fun hi => by have := (C.fresh h _ hi).2; omega, by omega, hm⟩
set_option maxRecDepth 100000 in
set_option maxHeartbeats 32000000 in
theorem room_walk (C : Ctr G P) (hG : G w) (n : Int) (A : Option Addr) (L : List BStp) (cap : Nat) (a2 a3 a4 : Int) (hn : I64 n) (h2 : I64 a2) (h3 : I64 a3) (h4 : I64 a4) (hS : BSteps w A L) (hR : ∀ s ∈ L, BRead w s) (hL : L.length ≤ 4398046511104) :
    Calls Tryd.prog 5 #[.int .i64 n, .slice A L.length cap, .int .i64 a2, .int .i64 a3, .int .i64 a4] w fun e y => e = .returned (.bool true) ∧ Kept [] w y := by
  have HA := Lib.hid (fun y (k : Kept [] w y) => alive12_ok C (C.gkeep hG k))
  have HH := Lib.hid (heavy12_ok n A L cap hS (fun s hs => (hR s hs).few) hL)
  have HNo := Lib.hid (fun (h : n < 0 ∨ 65536 < n) => C.new_no (x := w) n hG hn h)
  have HYes := Lib.hid (fun (m : Nat) (h : m ≤ 65536) => C.new_yes (x := w) m hG (Kept.refl [] w) h)
  have HC := Lib.hid C
  have HS := Lib.hid hS
  have HR := Lib.hid hR
  have H2 := Lib.hid h2
  have H3 := Lib.hid h3
  have h2m : a2 ≤ 9223372036854775807 := h2.2
  clear C hG hS hR hL hn h2 h3 h4
  go_enter Tryd.func5, Tryd.ntmps5
  go_wp2_with fail
  refine HH.out.mono ?_
  rintro e y ⟨⟨b, rfl, hb⟩, rfl⟩
  clear HH
  cases b with
  | true =>
    clear hb
    go_wp2_with fail
    refine (HA.out _ (Kept.refl [] w)).mono ?_
    rintro e y ⟨rfl, hk⟩
    have HK := Lib.hid (((Kept.refl [] w)).trans hk)
    clear hk
    go_wp2_with fail
    go_ret
    exact ⟨rfl, HK.out⟩
  | false =>
    obtain ⟨hn, hLl, hEa⟩ := hb rfl
    have HEa := Lib.hid hEa
    clear hb hEa
    by_cases t1 : 400 < n
    · clear hn
      go_wp2_with fail
      refine (HA.out _ (Kept.refl [] w)).mono ?_
      rintro e y ⟨rfl, hk⟩
      have HK := Lib.hid (((Kept.refl [] w)).trans hk)
      clear hk
      go_wp2_with fail
      go_ret
      exact ⟨rfl, HK.out⟩
    · clear hn
      by_cases t2 : a4 < 1
      · have t4 := t2
        go_wp2_with fail
        refine (HA.out _ (Kept.refl [] w)).mono ?_
        rintro e y ⟨rfl, hk⟩
        have HK := Lib.hid (((Kept.refl [] w)).trans hk)
        clear hk
        go_wp2_with fail
        go_ret
        exact ⟨rfl, HK.out⟩
      · by_cases t3 : 400 < a4
        · have t4 := t3
          go_wp2_with fail
          refine (HA.out _ (Kept.refl [] w)).mono ?_
          rintro e y ⟨rfl, hk⟩
          have HK := Lib.hid (((Kept.refl [] w)).trans hk)
          clear hk
          go_wp2_with fail
          go_ret
          exact ⟨rfl, HK.out⟩
        · by_cases h0 : n < 0
          · have HN := Lib.hid (HNo.out (.inl h0))
            clear HNo HYes
            go_wp2_with fail
            refine HN.out.mono ?_
            rintro e x1 ⟨rfl, k1⟩
            have K1 := Lib.hid k1
            clear k1 HN
            go_wp2_with fail
            refine (HA.out _ K1.out).mono ?_
            rintro e y ⟨rfl, hk⟩
            have HK := Lib.hid ((K1.out).trans hk)
            clear hk
            go_wp2_with fail
            go_ret
            exact ⟨rfl, HK.out⟩
          · obtain ⟨m, rfl⟩ := Int.eq_ofNat_of_zero_le (show 0 ≤ n by omega)
            obtain ⟨n0, rfl⟩ := Int.eq_ofNat_of_zero_le (show 0 ≤ a4 by omega)
            have HN := Lib.hid (HYes.out m (by omega))
            clear HNo HYes h0
            go_wp2_with fail
            refine HN.out.mono ?_
            rintro e x1 ⟨p, T1, rfl, hP1, _, _⟩
            have H0 : Hid (∃ T ls, P w x1 p T ls ∧ ls.length = m) := Lib.hid ⟨_, _, hP1, List.length_replicate⟩
            clear hP1 HN
            go_wp2_with fail
            go_loopw [13] (fun t wr => ∃ j : Nat, t = .int .i64 (j : Int) ∧ j ≤ L.length ∧ Hid (∃ T ls, P w wr p T ls ∧ ls.length = m)) (fun t _ => L.length - (intOf t).toNat)
            case atStart => exact ⟨0, rfl, Nat.zero_le _, H0⟩
            case round =>
              clear H0
              obtain ⟨j, rfl, hj, hr⟩ := hrel
              by_cases hlt : j < L.length
              · obtain ⟨g0, f0, rfl, hg0, _, _⟩ := HS.out.at j hlt
                have hmem := List.getElem_mem hlt
                have HRd := Lib.hid (HR.out _ hmem)
                have hfew := HEa.out _ hmem
                have HCell : Hid (∀ y, Kept [] w y → y.cell? ⟨g0, f0 + j * 2, none⟩ = some (.int .i64 (L[j]'hlt).d) ∧ y.cell? ⟨g0, f0 + j * 2 + 1, none⟩ = some (.slice (L[j]'hlt).A (L[j]'hlt).len (L[j]'hlt).cap)) := Lib.hid fun y k => by
                  obtain ⟨g1, f1, e, _, c0, c1⟩ := (HS.out.keep0 k).at j hlt
                  cases e
                  exact ⟨c0, c1⟩
                clear hmem
                generalize L[j]'hlt = s at *
                obtain ⟨sd, sA, sl, sc⟩ := s
                obtain ⟨gs, hgl, hgs, hgI⟩ := HRd.out.gs
                simp only at *
                subst hgl
                have HGs := Lib.hid hgs
                have HGI := Lib.hid hgI
                obtain ⟨T, ls, hP, hlm⟩ := hr.out
                obtain ⟨c0, c1⟩ := HCell.out wr (HC.out.start hP)
                have CN : Hid (∀ y, Kept [] wr y → Calls Tryd.prog 11 #[.int .i64 (m : Int)] y fun e z => ∃ r, e = .returned (.pointer (some ⟨r, 0, none⟩)) ∧ Hid (∃ q, BDuo P w z p T ls r q (List.replicate m 0)) ∧ z.cell? ⟨g0, f0 + j * 2, none⟩ = some (.int .i64 sd) ∧ z.cell? ⟨g0, f0 + j * 2 + 1, none⟩ = some (.slice sA gs.length sc)) := Lib.hid fun y k => by
                  refine (bnew_ok m (by omega) y).mono ?_
                  rintro e z ⟨he, hb, kz⟩
                  have hd := duo_any HC.out (HC.out.keep0 hP k) hb kz
                  have hc := HCell.out z (HC.out.start hd.ours)
                  exact ⟨_, he, Lib.hid ⟨_, hd⟩, hc.1, hc.2⟩
                have CD : Hid (∀ y0 y r, (∃ q, BDuo P w y0 p T ls r q (List.replicate m 0)) → Kept [] y0 y → Calls Tryd.prog 15 #[.pointer (some ⟨p, 0, none⟩), .pointer (some ⟨r, 0, none⟩), .agg #[.int .i64 sd, .slice sA gs.length sc]] y fun e z => ∃ v, e = .returned (.bool v) ∧ Hid (∃ T ls, P w z p T ls ∧ ls.length = m) ∧ z.cell? ⟨g0, f0 + j * 2, none⟩ = some (.int .i64 sd) ∧ z.cell? ⟨g0, f0 + j * 2 + 1, none⟩ = some (.slice sA gs.length sc)) := Lib.hid fun y0 y r hq k => by
                  obtain ⟨q, hd⟩ := hq
                  refine (does_gen HC.out (hd.keep0 HC.out k) (by rw [List.length_replicate]; exact hlm.symm) ⟨sd, sA, gs.length, sc⟩ gs rfl HGs.out HGI.out HRd.out.nil (by omega)).mono ?_
                  rintro e z ⟨he, T', hd'⟩
                  have hc := HCell.out z (HC.out.start hd'.ours)
                  exact ⟨_, he, Lib.hid ⟨T', _, hd'.ours, by rw [stepL_length]; exact hlm⟩, hc.1, hc.2⟩
                clear hP hr hgs hgI HGs HGI HRd HCell
                go_wp2_with fail
                go_region_held3 (fun y => y.cell? ⟨g0, f0 + j * 2, none⟩ = some (.int .i64 sd) ∧ y.cell? ⟨g0, f0 + j * 2 + 1, none⟩ = some (.slice sA gs.length sc)) (go_keep)
                  (first
                    | (go_at_call 11; refine (CN.out _ ?_).mono ?_; (first | exact Kept.refl _ _ | exact (Kept.refl _ _).drew | exact (Kept.refl _ _).drewN _); rintro e z1 ⟨r1, rfl, hN1, w1, w2⟩)
                    | (go_at_call 15; refine (CD.out _ _ _ hN1.out ?_).mono ?_; (first | exact Kept.refl _ _ | exact (Kept.refl _ _).drew | exact (Kept.refl _ _).drewN _); rintro e z2 ⟨v2, rfl, hN2, u1, u2⟩)
                    | fail)
                all_goals
                  go_wp2_with fail
                  go_roundw
                  case rel => exact ⟨j + 1, by go_num, by omega, hN2⟩
                  case measure => simp [intOf] <;> omega
              · obtain ⟨T, ls, hP, hlm⟩ := hr.out
                have HAged := Lib.hid (HC.out.aged hP).1
                have HFi := Lib.hid (HC.out.first a2 a3 (n0 : Int) hP H2.out H3.out (by unfold I64; omega))
                have HP := Lib.hid hP
                have h3m := H3.out
                unfold I64 at h3m
                obtain rfl : j = L.length := by omega
                clear hP hr hlt hj HS HR HEa
                cases hF : firstL ls a2 a3 (n0 : Int) with
                | none =>
                  rw [hF] at HFi
                  have hfn := first_none hF (show 1 ≤ n0 by omega)
                  clear hF
                  simp only [Option.getD_none, Option.isSome_none] at HFi
                  by_cases hb : a3 < 0
                  · have hb3 := hb
                    by_cases ha : a2 < 0
                    · have ha2 := ha
                      have HX : Hid (∀ g : Nat, (0 : Int) ≤ (g : Int) → (g : Int) ≤ (0 : Int) - (n0 : Int) → roomTo ls g n0 = false) := Lib.hid fun g h1 h2 => hfn g (by omega) (by unfold endL; omega)
                      clear hfn
                      go_wp2_with fail
                      refine HFi.out.mono ?_
                      rintro e x5 ⟨rfl, k5⟩
                      have H5 : Hid (Kept [] x5 x5) := Lib.hid (Kept.refl _ _)
                      have HHas := Lib.hid (fun y (k : Kept [] x5 y) (u : Int) (hu : I64 u) => HC.out.has u (HC.out.keep0 HP.out (k5.trans k)) hu)
                      have HWo := Lib.hid (fun y (k : Kept [] x5 y) => HC.out.start (HC.out.keep0 HP.out (k5.trans k)))
                      clear k5 HFi HP
                      go_wp2_with fail
                      go_loopw [17] (fun t wr => ∃ g : Int, t = .int .i64 g ∧ (0 : Int) ≤ g ∧ g ≤ 9223372036854775807 ∧ Hid (Kept [] x5 wr)) (fun t _ => (((0 : Int) - (n0 : Int)) + 1 - intOf t).toNat)
                      case atStart => exact ⟨(0 : Int), rfl, by omega, by omega, H5⟩
                      case round =>
                        clear H5
                        obtain ⟨g, rfl, hg0, hg1, hk⟩ := hrel
                        by_cases hlt : g ≤ (0 : Int) - (n0 : Int)
                        · exfalso
                          omega
                        · have K1 := Lib.hid (HWo.out _ hk.out)
                          clear HHas HWo hk HX
                          go_wp2_with fail
                          refine (HA.out _ K1.out).mono ?_
                          rintro e y ⟨rfl, hk⟩
                          have HK := Lib.hid ((K1.out).trans hk)
                          clear hk
                          go_wp2_with fail
                          go_ret
                          exact ⟨rfl, HK.out⟩
                    · have ha2 := ha
                      have HX : Hid (∀ g : Nat, a2 ≤ (g : Int) → (g : Int) ≤ (0 : Int) - (n0 : Int) → roomTo ls g n0 = false) := Lib.hid fun g h1 h2 => hfn g (by omega) (by unfold endL; omega)
                      clear hfn
                      go_wp2_with fail
                      refine HFi.out.mono ?_
                      rintro e x5 ⟨rfl, k5⟩
                      have H5 : Hid (Kept [] x5 x5) := Lib.hid (Kept.refl _ _)
                      have HHas := Lib.hid (fun y (k : Kept [] x5 y) (u : Int) (hu : I64 u) => HC.out.has u (HC.out.keep0 HP.out (k5.trans k)) hu)
                      have HWo := Lib.hid (fun y (k : Kept [] x5 y) => HC.out.start (HC.out.keep0 HP.out (k5.trans k)))
                      clear k5 HFi HP
                      go_wp2_with fail
                      go_loopw [17] (fun t wr => ∃ g : Int, t = .int .i64 g ∧ a2 ≤ g ∧ g ≤ 9223372036854775807 ∧ Hid (Kept [] x5 wr)) (fun t _ => (((0 : Int) - (n0 : Int)) + 1 - intOf t).toNat)
                      case atStart => exact ⟨a2, rfl, by omega, by omega, H5⟩
                      case round =>
                        clear H5
                        obtain ⟨g, rfl, hg0, hg1, hk⟩ := hrel
                        by_cases hlt : g ≤ (0 : Int) - (n0 : Int)
                        · exfalso
                          omega
                        · have K1 := Lib.hid (HWo.out _ hk.out)
                          clear HHas HWo hk HX
                          go_wp2_with fail
                          refine (HA.out _ K1.out).mono ?_
                          rintro e y ⟨rfl, hk⟩
                          have HK := Lib.hid ((K1.out).trans hk)
                          clear hk
                          go_wp2_with fail
                          go_ret
                          exact ⟨rfl, HK.out⟩
                  · by_cases hb2 : a3 ≤ (m : Int)
                    · have hb3 := hb2
                      by_cases ha : a2 < 0
                      · have ha2 := ha
                        have HX : Hid (∀ g : Nat, (0 : Int) ≤ (g : Int) → (g : Int) ≤ a3 - (n0 : Int) → roomTo ls g n0 = false) := Lib.hid fun g h1 h2 => hfn g (by omega) (by unfold endL; omega)
                        clear hfn
                        go_wp2_with fail
                        refine HFi.out.mono ?_
                        rintro e x5 ⟨rfl, k5⟩
                        have H5 : Hid (Kept [] x5 x5) := Lib.hid (Kept.refl _ _)
                        have HHas := Lib.hid (fun y (k : Kept [] x5 y) (u : Int) (hu : I64 u) => HC.out.has u (HC.out.keep0 HP.out (k5.trans k)) hu)
                        have HWo := Lib.hid (fun y (k : Kept [] x5 y) => HC.out.start (HC.out.keep0 HP.out (k5.trans k)))
                        clear k5 HFi HP
                        go_wp2_with fail
                        go_loopw [17] (fun t wr => ∃ g : Int, t = .int .i64 g ∧ (0 : Int) ≤ g ∧ g ≤ 9223372036854775807 ∧ Hid (Kept [] x5 wr)) (fun t _ => ((a3 - (n0 : Int)) + 1 - intOf t).toNat)
                        case atStart => exact ⟨(0 : Int), rfl, by omega, by omega, H5⟩
                        case round =>
                          clear H5
                          obtain ⟨g, rfl, hg0, hg1, hk⟩ := hrel
                          by_cases hlt : g ≤ a3 - (n0 : Int)
                          · have hlt2 := hlt
                            obtain ⟨gn, rfl⟩ := Int.eq_ofNat_of_zero_le (show 0 ≤ g by omega)
                            have HI0 : Hid (true = roomTo ls gn 0) := Lib.hid rfl
                            have HE := Lib.hid (HX.out gn hg0 (by omega))
                            go_wp2_with fail
                            go_loopw [18, 19] (fun u t wr => ∃ (k : Nat) (bb : Bool), u = .bool bb ∧ t = .int .i64 ((gn : Int) + (k : Int)) ∧ k ≤ n0 ∧ Hid (bb = roomTo ls gn k) ∧ Hid (Kept [] x5 wr)) (fun _ t _ => ((gn : Int) + (n0 : Int) - intOf t).toNat)
                            case atStart => exact ⟨0, true, rfl, by simp, Nat.zero_le _, HI0, hk⟩
                            case round =>
                              clear HI0 hk
                              obtain ⟨k, bb, rfl, rfl, hkn, hi, hk⟩ := hrel
                              by_cases hkt : k < n0
                              · have hst := room_step HAged.out (g := gn) (m := k) (by omega)
                                cases bb with
                                | true =>
                                  rw [← hi.out, Bool.true_and] at hst
                                  have HHa := Lib.hid (HHas.out _ hk.out ((gn : Int) + (k : Int)) (by unfold I64; omega))
                                  generalize hasL ls ((gn : Int) + (k : Int)) = hh at *
                                  have HSt := Lib.hid hst
                                  clear hst hi
                                  go_wp2_with fail
                                  refine HHa.out.mono ?_
                                  rintro e y6 ⟨rfl, k6⟩
                                  have K6 := Lib.hid (hk.out.trans k6)
                                  clear k6 HHa hk
                                  go_wp2_with fail
                                  go_roundw
                                  case rel => exact ⟨k + 1, _, rfl, by go_num, by omega, HSt, K6⟩
                                  case measure => simp [intOf] <;> omega
                                | false =>
                                  have HSt := Lib.hid (room_no hi.out.symm).symm
                                  clear hst hi
                                  go_wp2_with fail
                                  go_roundw
                                  case rel => exact ⟨k + 1, _, rfl, by go_num, by omega, HSt, hk⟩
                                  case measure => simp [intOf] <;> omega
                              · obtain rfl : k = n0 := by omega
                                have he := hi.out.trans HE.out
                                clear hi HE
                                subst he
                                go_wp2_with fail
                                go_roundw
                                case rel => exact ⟨(gn : Int) + 1, rfl, by omega, by omega, hk⟩
                                case measure => simp [intOf] <;> omega
                          · have K1 := Lib.hid (HWo.out _ hk.out)
                            clear HHas HWo hk HX
                            go_wp2_with fail
                            refine (HA.out _ K1.out).mono ?_
                            rintro e y ⟨rfl, hk⟩
                            have HK := Lib.hid ((K1.out).trans hk)
                            clear hk
                            go_wp2_with fail
                            go_ret
                            exact ⟨rfl, HK.out⟩
                      · have ha2 := ha
                        have HX : Hid (∀ g : Nat, a2 ≤ (g : Int) → (g : Int) ≤ a3 - (n0 : Int) → roomTo ls g n0 = false) := Lib.hid fun g h1 h2 => hfn g (by omega) (by unfold endL; omega)
                        clear hfn
                        go_wp2_with fail
                        refine HFi.out.mono ?_
                        rintro e x5 ⟨rfl, k5⟩
                        have H5 : Hid (Kept [] x5 x5) := Lib.hid (Kept.refl _ _)
                        have HHas := Lib.hid (fun y (k : Kept [] x5 y) (u : Int) (hu : I64 u) => HC.out.has u (HC.out.keep0 HP.out (k5.trans k)) hu)
                        have HWo := Lib.hid (fun y (k : Kept [] x5 y) => HC.out.start (HC.out.keep0 HP.out (k5.trans k)))
                        clear k5 HFi HP
                        go_wp2_with fail
                        go_loopw [17] (fun t wr => ∃ g : Int, t = .int .i64 g ∧ a2 ≤ g ∧ g ≤ 9223372036854775807 ∧ Hid (Kept [] x5 wr)) (fun t _ => ((a3 - (n0 : Int)) + 1 - intOf t).toNat)
                        case atStart => exact ⟨a2, rfl, by omega, by omega, H5⟩
                        case round =>
                          clear H5
                          obtain ⟨g, rfl, hg0, hg1, hk⟩ := hrel
                          by_cases hlt : g ≤ a3 - (n0 : Int)
                          · have hlt2 := hlt
                            obtain ⟨gn, rfl⟩ := Int.eq_ofNat_of_zero_le (show 0 ≤ g by omega)
                            have HI0 : Hid (true = roomTo ls gn 0) := Lib.hid rfl
                            have HE := Lib.hid (HX.out gn hg0 (by omega))
                            go_wp2_with fail
                            go_loopw [18, 19] (fun u t wr => ∃ (k : Nat) (bb : Bool), u = .bool bb ∧ t = .int .i64 ((gn : Int) + (k : Int)) ∧ k ≤ n0 ∧ Hid (bb = roomTo ls gn k) ∧ Hid (Kept [] x5 wr)) (fun _ t _ => ((gn : Int) + (n0 : Int) - intOf t).toNat)
                            case atStart => exact ⟨0, true, rfl, by simp, Nat.zero_le _, HI0, hk⟩
                            case round =>
                              clear HI0 hk
                              obtain ⟨k, bb, rfl, rfl, hkn, hi, hk⟩ := hrel
                              by_cases hkt : k < n0
                              · have hst := room_step HAged.out (g := gn) (m := k) (by omega)
                                cases bb with
                                | true =>
                                  rw [← hi.out, Bool.true_and] at hst
                                  have HHa := Lib.hid (HHas.out _ hk.out ((gn : Int) + (k : Int)) (by unfold I64; omega))
                                  generalize hasL ls ((gn : Int) + (k : Int)) = hh at *
                                  have HSt := Lib.hid hst
                                  clear hst hi
                                  go_wp2_with fail
                                  refine HHa.out.mono ?_
                                  rintro e y6 ⟨rfl, k6⟩
                                  have K6 := Lib.hid (hk.out.trans k6)
                                  clear k6 HHa hk
                                  go_wp2_with fail
                                  go_roundw
                                  case rel => exact ⟨k + 1, _, rfl, by go_num, by omega, HSt, K6⟩
                                  case measure => simp [intOf] <;> omega
                                | false =>
                                  have HSt := Lib.hid (room_no hi.out.symm).symm
                                  clear hst hi
                                  go_wp2_with fail
                                  go_roundw
                                  case rel => exact ⟨k + 1, _, rfl, by go_num, by omega, HSt, hk⟩
                                  case measure => simp [intOf] <;> omega
                              · obtain rfl : k = n0 := by omega
                                have he := hi.out.trans HE.out
                                clear hi HE
                                subst he
                                go_wp2_with fail
                                go_roundw
                                case rel => exact ⟨(gn : Int) + 1, rfl, by omega, by omega, hk⟩
                                case measure => simp [intOf] <;> omega
                          · have K1 := Lib.hid (HWo.out _ hk.out)
                            clear HHas HWo hk HX
                            go_wp2_with fail
                            refine (HA.out _ K1.out).mono ?_
                            rintro e y ⟨rfl, hk⟩
                            have HK := Lib.hid ((K1.out).trans hk)
                            clear hk
                            go_wp2_with fail
                            go_ret
                            exact ⟨rfl, HK.out⟩
                    · have hb3 := hb2
                      by_cases ha : a2 < 0
                      · have ha2 := ha
                        have HX : Hid (∀ g : Nat, (0 : Int) ≤ (g : Int) → (g : Int) ≤ (m : Int) - (n0 : Int) → roomTo ls g n0 = false) := Lib.hid fun g h1 h2 => hfn g (by omega) (by unfold endL; omega)
                        clear hfn
                        go_wp2_with fail
                        refine HFi.out.mono ?_
                        rintro e x5 ⟨rfl, k5⟩
                        have H5 : Hid (Kept [] x5 x5) := Lib.hid (Kept.refl _ _)
                        have HHas := Lib.hid (fun y (k : Kept [] x5 y) (u : Int) (hu : I64 u) => HC.out.has u (HC.out.keep0 HP.out (k5.trans k)) hu)
                        have HWo := Lib.hid (fun y (k : Kept [] x5 y) => HC.out.start (HC.out.keep0 HP.out (k5.trans k)))
                        clear k5 HFi HP
                        go_wp2_with fail
                        go_loopw [17] (fun t wr => ∃ g : Int, t = .int .i64 g ∧ (0 : Int) ≤ g ∧ g ≤ 9223372036854775807 ∧ Hid (Kept [] x5 wr)) (fun t _ => (((m : Int) - (n0 : Int)) + 1 - intOf t).toNat)
                        case atStart => exact ⟨(0 : Int), rfl, by omega, by omega, H5⟩
                        case round =>
                          clear H5
                          obtain ⟨g, rfl, hg0, hg1, hk⟩ := hrel
                          by_cases hlt : g ≤ (m : Int) - (n0 : Int)
                          · have hlt2 := hlt
                            obtain ⟨gn, rfl⟩ := Int.eq_ofNat_of_zero_le (show 0 ≤ g by omega)
                            have HI0 : Hid (true = roomTo ls gn 0) := Lib.hid rfl
                            have HE := Lib.hid (HX.out gn hg0 (by omega))
                            go_wp2_with fail
                            go_loopw [18, 19] (fun u t wr => ∃ (k : Nat) (bb : Bool), u = .bool bb ∧ t = .int .i64 ((gn : Int) + (k : Int)) ∧ k ≤ n0 ∧ Hid (bb = roomTo ls gn k) ∧ Hid (Kept [] x5 wr)) (fun _ t _ => ((gn : Int) + (n0 : Int) - intOf t).toNat)
                            case atStart => exact ⟨0, true, rfl, by simp, Nat.zero_le _, HI0, hk⟩
                            case round =>
                              clear HI0 hk
                              obtain ⟨k, bb, rfl, rfl, hkn, hi, hk⟩ := hrel
                              by_cases hkt : k < n0
                              · have hst := room_step HAged.out (g := gn) (m := k) (by omega)
                                cases bb with
                                | true =>
                                  rw [← hi.out, Bool.true_and] at hst
                                  have HHa := Lib.hid (HHas.out _ hk.out ((gn : Int) + (k : Int)) (by unfold I64; omega))
                                  generalize hasL ls ((gn : Int) + (k : Int)) = hh at *
                                  have HSt := Lib.hid hst
                                  clear hst hi
                                  go_wp2_with fail
                                  refine HHa.out.mono ?_
                                  rintro e y6 ⟨rfl, k6⟩
                                  have K6 := Lib.hid (hk.out.trans k6)
                                  clear k6 HHa hk
                                  go_wp2_with fail
                                  go_roundw
                                  case rel => exact ⟨k + 1, _, rfl, by go_num, by omega, HSt, K6⟩
                                  case measure => simp [intOf] <;> omega
                                | false =>
                                  have HSt := Lib.hid (room_no hi.out.symm).symm
                                  clear hst hi
                                  go_wp2_with fail
                                  go_roundw
                                  case rel => exact ⟨k + 1, _, rfl, by go_num, by omega, HSt, hk⟩
                                  case measure => simp [intOf] <;> omega
                              · obtain rfl : k = n0 := by omega
                                have he := hi.out.trans HE.out
                                clear hi HE
                                subst he
                                go_wp2_with fail
                                go_roundw
                                case rel => exact ⟨(gn : Int) + 1, rfl, by omega, by omega, hk⟩
                                case measure => simp [intOf] <;> omega
                          · have K1 := Lib.hid (HWo.out _ hk.out)
                            clear HHas HWo hk HX
                            go_wp2_with fail
                            refine (HA.out _ K1.out).mono ?_
                            rintro e y ⟨rfl, hk⟩
                            have HK := Lib.hid ((K1.out).trans hk)
                            clear hk
                            go_wp2_with fail
                            go_ret
                            exact ⟨rfl, HK.out⟩
                      · have ha2 := ha
                        have HX : Hid (∀ g : Nat, a2 ≤ (g : Int) → (g : Int) ≤ (m : Int) - (n0 : Int) → roomTo ls g n0 = false) := Lib.hid fun g h1 h2 => hfn g (by omega) (by unfold endL; omega)
                        clear hfn
                        go_wp2_with fail
                        refine HFi.out.mono ?_
                        rintro e x5 ⟨rfl, k5⟩
                        have H5 : Hid (Kept [] x5 x5) := Lib.hid (Kept.refl _ _)
                        have HHas := Lib.hid (fun y (k : Kept [] x5 y) (u : Int) (hu : I64 u) => HC.out.has u (HC.out.keep0 HP.out (k5.trans k)) hu)
                        have HWo := Lib.hid (fun y (k : Kept [] x5 y) => HC.out.start (HC.out.keep0 HP.out (k5.trans k)))
                        clear k5 HFi HP
                        go_wp2_with fail
                        go_loopw [17] (fun t wr => ∃ g : Int, t = .int .i64 g ∧ a2 ≤ g ∧ g ≤ 9223372036854775807 ∧ Hid (Kept [] x5 wr)) (fun t _ => (((m : Int) - (n0 : Int)) + 1 - intOf t).toNat)
                        case atStart => exact ⟨a2, rfl, by omega, by omega, H5⟩
                        case round =>
                          clear H5
                          obtain ⟨g, rfl, hg0, hg1, hk⟩ := hrel
                          by_cases hlt : g ≤ (m : Int) - (n0 : Int)
                          · have hlt2 := hlt
                            obtain ⟨gn, rfl⟩ := Int.eq_ofNat_of_zero_le (show 0 ≤ g by omega)
                            have HI0 : Hid (true = roomTo ls gn 0) := Lib.hid rfl
                            have HE := Lib.hid (HX.out gn hg0 (by omega))
                            go_wp2_with fail
                            go_loopw [18, 19] (fun u t wr => ∃ (k : Nat) (bb : Bool), u = .bool bb ∧ t = .int .i64 ((gn : Int) + (k : Int)) ∧ k ≤ n0 ∧ Hid (bb = roomTo ls gn k) ∧ Hid (Kept [] x5 wr)) (fun _ t _ => ((gn : Int) + (n0 : Int) - intOf t).toNat)
                            case atStart => exact ⟨0, true, rfl, by simp, Nat.zero_le _, HI0, hk⟩
                            case round =>
                              clear HI0 hk
                              obtain ⟨k, bb, rfl, rfl, hkn, hi, hk⟩ := hrel
                              by_cases hkt : k < n0
                              · have hst := room_step HAged.out (g := gn) (m := k) (by omega)
                                cases bb with
                                | true =>
                                  rw [← hi.out, Bool.true_and] at hst
                                  have HHa := Lib.hid (HHas.out _ hk.out ((gn : Int) + (k : Int)) (by unfold I64; omega))
                                  generalize hasL ls ((gn : Int) + (k : Int)) = hh at *
                                  have HSt := Lib.hid hst
                                  clear hst hi
                                  go_wp2_with fail
                                  refine HHa.out.mono ?_
                                  rintro e y6 ⟨rfl, k6⟩
                                  have K6 := Lib.hid (hk.out.trans k6)
                                  clear k6 HHa hk
                                  go_wp2_with fail
                                  go_roundw
                                  case rel => exact ⟨k + 1, _, rfl, by go_num, by omega, HSt, K6⟩
                                  case measure => simp [intOf] <;> omega
                                | false =>
                                  have HSt := Lib.hid (room_no hi.out.symm).symm
                                  clear hst hi
                                  go_wp2_with fail
                                  go_roundw
                                  case rel => exact ⟨k + 1, _, rfl, by go_num, by omega, HSt, hk⟩
                                  case measure => simp [intOf] <;> omega
                              · obtain rfl : k = n0 := by omega
                                have he := hi.out.trans HE.out
                                clear hi HE
                                subst he
                                go_wp2_with fail
                                go_roundw
                                case rel => exact ⟨(gn : Int) + 1, rfl, by omega, by omega, hk⟩
                                case measure => simp [intOf] <;> omega
                          · have K1 := Lib.hid (HWo.out _ hk.out)
                            clear HHas HWo hk HX
                            go_wp2_with fail
                            refine (HA.out _ K1.out).mono ?_
                            rintro e y ⟨rfl, hk⟩
                            have HK := Lib.hid ((K1.out).trans hk)
                            clear hk
                            go_wp2_with fail
                            go_ret
                            exact ⟨rfl, HK.out⟩
                | some v =>
                  rw [hF] at HFi
                  obtain ⟨v0, v1, v2, v3⟩ := first_some hF
                  clear hF
                  simp only [Option.getD_some, Option.isSome_some] at HFi
                  by_cases hb : a3 < 0
                  · have hb3 := hb
                    by_cases ha : a2 < 0
                    · have ha2 := ha
                      exfalso
                      unfold endL at v2
                      omega
                    · have ha2 := ha
                      exfalso
                      unfold endL at v2
                      omega
                  · by_cases hb2 : a3 ≤ (m : Int)
                    · have hb3 := hb2
                      by_cases ha : a2 < 0
                      · have ha2 := ha
                        have hv1 : (0 : Int) ≤ v := by omega
                        have hv2 : v ≤ a3 - (n0 : Int) := by
                          unfold endL at v2
                          omega
                        have HX : Hid (∀ g : Nat, (0 : Int) ≤ (g : Int) → (g : Int) ≤ v → roomTo ls g n0 = ((g : Int) == v)) := Lib.hid fun g h1 h2 => v3 g (by omega) h2
                        have q1 : ¬ v < 0 := by omega
                        have q2 : ¬ v < a2 := by omega
                        have q3 : ¬ a3 - (n0 : Int) < v := by omega
                        clear v1 v2 v3
                        go_wp2_with fail
                        refine HFi.out.mono ?_
                        rintro e x5 ⟨rfl, k5⟩
                        have H5 : Hid (Kept [] x5 x5) := Lib.hid (Kept.refl _ _)
                        have HHas := Lib.hid (fun y (k : Kept [] x5 y) (u : Int) (hu : I64 u) => HC.out.has u (HC.out.keep0 HP.out (k5.trans k)) hu)
                        have HWo := Lib.hid (fun y (k : Kept [] x5 y) => HC.out.start (HC.out.keep0 HP.out (k5.trans k)))
                        clear k5 HFi HP
                        go_wp2_with fail
                        go_loopw [17] (fun t wr => ∃ g : Int, t = .int .i64 g ∧ (0 : Int) ≤ g ∧ g ≤ 9223372036854775807 ∧ Hid (Kept [] x5 wr)) (fun t _ => ((a3 - (n0 : Int)) + 1 - intOf t).toNat)
                        case atStart => exact ⟨(0 : Int), rfl, by omega, by omega, H5⟩
                        case round =>
                          clear H5
                          obtain ⟨g, rfl, hg0, hg1, hk⟩ := hrel
                          by_cases hlt : g ≤ a3 - (n0 : Int)
                          · by_cases hgv : g ≤ v
                            · have hgv2 := hgv
                              obtain ⟨gn, rfl⟩ := Int.eq_ofNat_of_zero_le (show 0 ≤ g by omega)
                              have HI0 : Hid (true = roomTo ls gn 0) := Lib.hid rfl
                              have HE := Lib.hid (HX.out gn hg0 (by omega))
                              go_wp2_with fail
                              go_loopw [18, 19] (fun u t wr => ∃ (k : Nat) (bb : Bool), u = .bool bb ∧ t = .int .i64 ((gn : Int) + (k : Int)) ∧ k ≤ n0 ∧ Hid (bb = roomTo ls gn k) ∧ Hid (Kept [] x5 wr)) (fun _ t _ => ((gn : Int) + (n0 : Int) - intOf t).toNat)
                              case atStart => exact ⟨0, true, rfl, by simp, Nat.zero_le _, HI0, hk⟩
                              case round =>
                                clear HI0 hk
                                obtain ⟨k, bb, rfl, rfl, hkn, hi, hk⟩ := hrel
                                by_cases hkt : k < n0
                                · have hst := room_step HAged.out (g := gn) (m := k) (by omega)
                                  cases bb with
                                  | true =>
                                    rw [← hi.out, Bool.true_and] at hst
                                    have HHa := Lib.hid (HHas.out _ hk.out ((gn : Int) + (k : Int)) (by unfold I64; omega))
                                    generalize hasL ls ((gn : Int) + (k : Int)) = hh at *
                                    have HSt := Lib.hid hst
                                    clear hst hi
                                    go_wp2_with fail
                                    refine HHa.out.mono ?_
                                    rintro e y6 ⟨rfl, k6⟩
                                    have K6 := Lib.hid (hk.out.trans k6)
                                    clear k6 HHa hk
                                    go_wp2_with fail
                                    go_roundw
                                    case rel => exact ⟨k + 1, _, rfl, by go_num, by omega, HSt, K6⟩
                                    case measure => simp [intOf] <;> omega
                                  | false =>
                                    have HSt := Lib.hid (room_no hi.out.symm).symm
                                    clear hst hi
                                    go_wp2_with fail
                                    go_roundw
                                    case rel => exact ⟨k + 1, _, rfl, by go_num, by omega, HSt, hk⟩
                                    case measure => simp [intOf] <;> omega
                                · obtain rfl : k = n0 := by omega
                                  have he := hi.out.trans HE.out
                                  clear hi HE
                                  by_cases hv : (gn : Int) = v
                                  · rw [hv, beq_self_eq_true] at he
                                    subst he
                                    have hbv : ((gn : Int) == v) = true := by rw [hv]; simp
                                    go_wp2_with fail
                                    go_roundw
                                    case rel => exact ⟨_, rfl, by omega, by omega, hk⟩
                                    case measure => simp [intOf] <;> omega
                                  · have hbv : ((gn : Int) == v) = false := by simpa using hv
                                    rw [hbv] at he
                                    subst he
                                    go_wp2_with fail
                                    go_roundw
                                    case rel => exact ⟨(gn : Int) + 1, rfl, by omega, by omega, hk⟩
                                    case measure => simp [intOf] <;> omega
                            · have K1 := Lib.hid (HWo.out _ hk.out)
                              clear HHas HWo hk HX
                              go_wp2_with fail
                              refine (HA.out _ K1.out).mono ?_
                              rintro e y ⟨rfl, hk⟩
                              have HK := Lib.hid ((K1.out).trans hk)
                              clear hk
                              go_wp2_with fail
                              go_ret
                              exact ⟨rfl, HK.out⟩
                          · have K1 := Lib.hid (HWo.out _ hk.out)
                            clear HHas HWo hk HX
                            go_wp2_with fail
                            refine (HA.out _ K1.out).mono ?_
                            rintro e y ⟨rfl, hk⟩
                            have HK := Lib.hid ((K1.out).trans hk)
                            clear hk
                            go_wp2_with fail
                            go_ret
                            exact ⟨rfl, HK.out⟩
                      · have ha2 := ha
                        have hv1 : a2 ≤ v := by omega
                        have hv2 : v ≤ a3 - (n0 : Int) := by
                          unfold endL at v2
                          omega
                        have HX : Hid (∀ g : Nat, a2 ≤ (g : Int) → (g : Int) ≤ v → roomTo ls g n0 = ((g : Int) == v)) := Lib.hid fun g h1 h2 => v3 g (by omega) h2
                        have q1 : ¬ v < 0 := by omega
                        have q2 : ¬ v < a2 := by omega
                        have q3 : ¬ a3 - (n0 : Int) < v := by omega
                        clear v1 v2 v3
                        go_wp2_with fail
                        refine HFi.out.mono ?_
                        rintro e x5 ⟨rfl, k5⟩
                        have H5 : Hid (Kept [] x5 x5) := Lib.hid (Kept.refl _ _)
                        have HHas := Lib.hid (fun y (k : Kept [] x5 y) (u : Int) (hu : I64 u) => HC.out.has u (HC.out.keep0 HP.out (k5.trans k)) hu)
                        have HWo := Lib.hid (fun y (k : Kept [] x5 y) => HC.out.start (HC.out.keep0 HP.out (k5.trans k)))
                        clear k5 HFi HP
                        go_wp2_with fail
                        go_loopw [17] (fun t wr => ∃ g : Int, t = .int .i64 g ∧ a2 ≤ g ∧ g ≤ 9223372036854775807 ∧ Hid (Kept [] x5 wr)) (fun t _ => ((a3 - (n0 : Int)) + 1 - intOf t).toNat)
                        case atStart => exact ⟨a2, rfl, by omega, by omega, H5⟩
                        case round =>
                          clear H5
                          obtain ⟨g, rfl, hg0, hg1, hk⟩ := hrel
                          by_cases hlt : g ≤ a3 - (n0 : Int)
                          · by_cases hgv : g ≤ v
                            · have hgv2 := hgv
                              obtain ⟨gn, rfl⟩ := Int.eq_ofNat_of_zero_le (show 0 ≤ g by omega)
                              have HI0 : Hid (true = roomTo ls gn 0) := Lib.hid rfl
                              have HE := Lib.hid (HX.out gn hg0 (by omega))
                              go_wp2_with fail
                              go_loopw [18, 19] (fun u t wr => ∃ (k : Nat) (bb : Bool), u = .bool bb ∧ t = .int .i64 ((gn : Int) + (k : Int)) ∧ k ≤ n0 ∧ Hid (bb = roomTo ls gn k) ∧ Hid (Kept [] x5 wr)) (fun _ t _ => ((gn : Int) + (n0 : Int) - intOf t).toNat)
                              case atStart => exact ⟨0, true, rfl, by simp, Nat.zero_le _, HI0, hk⟩
                              case round =>
                                clear HI0 hk
                                obtain ⟨k, bb, rfl, rfl, hkn, hi, hk⟩ := hrel
                                by_cases hkt : k < n0
                                · have hst := room_step HAged.out (g := gn) (m := k) (by omega)
                                  cases bb with
                                  | true =>
                                    rw [← hi.out, Bool.true_and] at hst
                                    have HHa := Lib.hid (HHas.out _ hk.out ((gn : Int) + (k : Int)) (by unfold I64; omega))
                                    generalize hasL ls ((gn : Int) + (k : Int)) = hh at *
                                    have HSt := Lib.hid hst
                                    clear hst hi
                                    go_wp2_with fail
                                    refine HHa.out.mono ?_
                                    rintro e y6 ⟨rfl, k6⟩
                                    have K6 := Lib.hid (hk.out.trans k6)
                                    clear k6 HHa hk
                                    go_wp2_with fail
                                    go_roundw
                                    case rel => exact ⟨k + 1, _, rfl, by go_num, by omega, HSt, K6⟩
                                    case measure => simp [intOf] <;> omega
                                  | false =>
                                    have HSt := Lib.hid (room_no hi.out.symm).symm
                                    clear hst hi
                                    go_wp2_with fail
                                    go_roundw
                                    case rel => exact ⟨k + 1, _, rfl, by go_num, by omega, HSt, hk⟩
                                    case measure => simp [intOf] <;> omega
                                · obtain rfl : k = n0 := by omega
                                  have he := hi.out.trans HE.out
                                  clear hi HE
                                  by_cases hv : (gn : Int) = v
                                  · rw [hv, beq_self_eq_true] at he
                                    subst he
                                    have hbv : ((gn : Int) == v) = true := by rw [hv]; simp
                                    go_wp2_with fail
                                    go_roundw
                                    case rel => exact ⟨_, rfl, by omega, by omega, hk⟩
                                    case measure => simp [intOf] <;> omega
                                  · have hbv : ((gn : Int) == v) = false := by simpa using hv
                                    rw [hbv] at he
                                    subst he
                                    go_wp2_with fail
                                    go_roundw
                                    case rel => exact ⟨(gn : Int) + 1, rfl, by omega, by omega, hk⟩
                                    case measure => simp [intOf] <;> omega
                            · have K1 := Lib.hid (HWo.out _ hk.out)
                              clear HHas HWo hk HX
                              go_wp2_with fail
                              refine (HA.out _ K1.out).mono ?_
                              rintro e y ⟨rfl, hk⟩
                              have HK := Lib.hid ((K1.out).trans hk)
                              clear hk
                              go_wp2_with fail
                              go_ret
                              exact ⟨rfl, HK.out⟩
                          · have K1 := Lib.hid (HWo.out _ hk.out)
                            clear HHas HWo hk HX
                            go_wp2_with fail
                            refine (HA.out _ K1.out).mono ?_
                            rintro e y ⟨rfl, hk⟩
                            have HK := Lib.hid ((K1.out).trans hk)
                            clear hk
                            go_wp2_with fail
                            go_ret
                            exact ⟨rfl, HK.out⟩
                    · have hb3 := hb2
                      by_cases ha : a2 < 0
                      · have ha2 := ha
                        have hv1 : (0 : Int) ≤ v := by omega
                        have hv2 : v ≤ (m : Int) - (n0 : Int) := by
                          unfold endL at v2
                          omega
                        have HX : Hid (∀ g : Nat, (0 : Int) ≤ (g : Int) → (g : Int) ≤ v → roomTo ls g n0 = ((g : Int) == v)) := Lib.hid fun g h1 h2 => v3 g (by omega) h2
                        have q1 : ¬ v < 0 := by omega
                        have q2 : ¬ v < a2 := by omega
                        have q3 : ¬ (m : Int) - (n0 : Int) < v := by omega
                        clear v1 v2 v3
                        go_wp2_with fail
                        refine HFi.out.mono ?_
                        rintro e x5 ⟨rfl, k5⟩
                        have H5 : Hid (Kept [] x5 x5) := Lib.hid (Kept.refl _ _)
                        have HHas := Lib.hid (fun y (k : Kept [] x5 y) (u : Int) (hu : I64 u) => HC.out.has u (HC.out.keep0 HP.out (k5.trans k)) hu)
                        have HWo := Lib.hid (fun y (k : Kept [] x5 y) => HC.out.start (HC.out.keep0 HP.out (k5.trans k)))
                        clear k5 HFi HP
                        go_wp2_with fail
                        go_loopw [17] (fun t wr => ∃ g : Int, t = .int .i64 g ∧ (0 : Int) ≤ g ∧ g ≤ 9223372036854775807 ∧ Hid (Kept [] x5 wr)) (fun t _ => (((m : Int) - (n0 : Int)) + 1 - intOf t).toNat)
                        case atStart => exact ⟨(0 : Int), rfl, by omega, by omega, H5⟩
                        case round =>
                          clear H5
                          obtain ⟨g, rfl, hg0, hg1, hk⟩ := hrel
                          by_cases hlt : g ≤ (m : Int) - (n0 : Int)
                          · by_cases hgv : g ≤ v
                            · have hgv2 := hgv
                              obtain ⟨gn, rfl⟩ := Int.eq_ofNat_of_zero_le (show 0 ≤ g by omega)
                              have HI0 : Hid (true = roomTo ls gn 0) := Lib.hid rfl
                              have HE := Lib.hid (HX.out gn hg0 (by omega))
                              go_wp2_with fail
                              go_loopw [18, 19] (fun u t wr => ∃ (k : Nat) (bb : Bool), u = .bool bb ∧ t = .int .i64 ((gn : Int) + (k : Int)) ∧ k ≤ n0 ∧ Hid (bb = roomTo ls gn k) ∧ Hid (Kept [] x5 wr)) (fun _ t _ => ((gn : Int) + (n0 : Int) - intOf t).toNat)
                              case atStart => exact ⟨0, true, rfl, by simp, Nat.zero_le _, HI0, hk⟩
                              case round =>
                                clear HI0 hk
                                obtain ⟨k, bb, rfl, rfl, hkn, hi, hk⟩ := hrel
                                by_cases hkt : k < n0
                                · have hst := room_step HAged.out (g := gn) (m := k) (by omega)
                                  cases bb with
                                  | true =>
                                    rw [← hi.out, Bool.true_and] at hst
                                    have HHa := Lib.hid (HHas.out _ hk.out ((gn : Int) + (k : Int)) (by unfold I64; omega))
                                    generalize hasL ls ((gn : Int) + (k : Int)) = hh at *
                                    have HSt := Lib.hid hst
                                    clear hst hi
                                    go_wp2_with fail
                                    refine HHa.out.mono ?_
                                    rintro e y6 ⟨rfl, k6⟩
                                    have K6 := Lib.hid (hk.out.trans k6)
                                    clear k6 HHa hk
                                    go_wp2_with fail
                                    go_roundw
                                    case rel => exact ⟨k + 1, _, rfl, by go_num, by omega, HSt, K6⟩
                                    case measure => simp [intOf] <;> omega
                                  | false =>
                                    have HSt := Lib.hid (room_no hi.out.symm).symm
                                    clear hst hi
                                    go_wp2_with fail
                                    go_roundw
                                    case rel => exact ⟨k + 1, _, rfl, by go_num, by omega, HSt, hk⟩
                                    case measure => simp [intOf] <;> omega
                                · obtain rfl : k = n0 := by omega
                                  have he := hi.out.trans HE.out
                                  clear hi HE
                                  by_cases hv : (gn : Int) = v
                                  · rw [hv, beq_self_eq_true] at he
                                    subst he
                                    have hbv : ((gn : Int) == v) = true := by rw [hv]; simp
                                    go_wp2_with fail
                                    go_roundw
                                    case rel => exact ⟨_, rfl, by omega, by omega, hk⟩
                                    case measure => simp [intOf] <;> omega
                                  · have hbv : ((gn : Int) == v) = false := by simpa using hv
                                    rw [hbv] at he
                                    subst he
                                    go_wp2_with fail
                                    go_roundw
                                    case rel => exact ⟨(gn : Int) + 1, rfl, by omega, by omega, hk⟩
                                    case measure => simp [intOf] <;> omega
                            · have K1 := Lib.hid (HWo.out _ hk.out)
                              clear HHas HWo hk HX
                              go_wp2_with fail
                              refine (HA.out _ K1.out).mono ?_
                              rintro e y ⟨rfl, hk⟩
                              have HK := Lib.hid ((K1.out).trans hk)
                              clear hk
                              go_wp2_with fail
                              go_ret
                              exact ⟨rfl, HK.out⟩
                          · have K1 := Lib.hid (HWo.out _ hk.out)
                            clear HHas HWo hk HX
                            go_wp2_with fail
                            refine (HA.out _ K1.out).mono ?_
                            rintro e y ⟨rfl, hk⟩
                            have HK := Lib.hid ((K1.out).trans hk)
                            clear hk
                            go_wp2_with fail
                            go_ret
                            exact ⟨rfl, HK.out⟩
                      · have ha2 := ha
                        have hv1 : a2 ≤ v := by omega
                        have hv2 : v ≤ (m : Int) - (n0 : Int) := by
                          unfold endL at v2
                          omega
                        have HX : Hid (∀ g : Nat, a2 ≤ (g : Int) → (g : Int) ≤ v → roomTo ls g n0 = ((g : Int) == v)) := Lib.hid fun g h1 h2 => v3 g (by omega) h2
                        have q1 : ¬ v < 0 := by omega
                        have q2 : ¬ v < a2 := by omega
                        have q3 : ¬ (m : Int) - (n0 : Int) < v := by omega
                        clear v1 v2 v3
                        go_wp2_with fail
                        refine HFi.out.mono ?_
                        rintro e x5 ⟨rfl, k5⟩
                        have H5 : Hid (Kept [] x5 x5) := Lib.hid (Kept.refl _ _)
                        have HHas := Lib.hid (fun y (k : Kept [] x5 y) (u : Int) (hu : I64 u) => HC.out.has u (HC.out.keep0 HP.out (k5.trans k)) hu)
                        have HWo := Lib.hid (fun y (k : Kept [] x5 y) => HC.out.start (HC.out.keep0 HP.out (k5.trans k)))
                        clear k5 HFi HP
                        go_wp2_with fail
                        go_loopw [17] (fun t wr => ∃ g : Int, t = .int .i64 g ∧ a2 ≤ g ∧ g ≤ 9223372036854775807 ∧ Hid (Kept [] x5 wr)) (fun t _ => (((m : Int) - (n0 : Int)) + 1 - intOf t).toNat)
                        case atStart => exact ⟨a2, rfl, by omega, by omega, H5⟩
                        case round =>
                          clear H5
                          obtain ⟨g, rfl, hg0, hg1, hk⟩ := hrel
                          by_cases hlt : g ≤ (m : Int) - (n0 : Int)
                          · by_cases hgv : g ≤ v
                            · have hgv2 := hgv
                              obtain ⟨gn, rfl⟩ := Int.eq_ofNat_of_zero_le (show 0 ≤ g by omega)
                              have HI0 : Hid (true = roomTo ls gn 0) := Lib.hid rfl
                              have HE := Lib.hid (HX.out gn hg0 (by omega))
                              go_wp2_with fail
                              go_loopw [18, 19] (fun u t wr => ∃ (k : Nat) (bb : Bool), u = .bool bb ∧ t = .int .i64 ((gn : Int) + (k : Int)) ∧ k ≤ n0 ∧ Hid (bb = roomTo ls gn k) ∧ Hid (Kept [] x5 wr)) (fun _ t _ => ((gn : Int) + (n0 : Int) - intOf t).toNat)
                              case atStart => exact ⟨0, true, rfl, by simp, Nat.zero_le _, HI0, hk⟩
                              case round =>
                                clear HI0 hk
                                obtain ⟨k, bb, rfl, rfl, hkn, hi, hk⟩ := hrel
                                by_cases hkt : k < n0
                                · have hst := room_step HAged.out (g := gn) (m := k) (by omega)
                                  cases bb with
                                  | true =>
                                    rw [← hi.out, Bool.true_and] at hst
                                    have HHa := Lib.hid (HHas.out _ hk.out ((gn : Int) + (k : Int)) (by unfold I64; omega))
                                    generalize hasL ls ((gn : Int) + (k : Int)) = hh at *
                                    have HSt := Lib.hid hst
                                    clear hst hi
                                    go_wp2_with fail
                                    refine HHa.out.mono ?_
                                    rintro e y6 ⟨rfl, k6⟩
                                    have K6 := Lib.hid (hk.out.trans k6)
                                    clear k6 HHa hk
                                    go_wp2_with fail
                                    go_roundw
                                    case rel => exact ⟨k + 1, _, rfl, by go_num, by omega, HSt, K6⟩
                                    case measure => simp [intOf] <;> omega
                                  | false =>
                                    have HSt := Lib.hid (room_no hi.out.symm).symm
                                    clear hst hi
                                    go_wp2_with fail
                                    go_roundw
                                    case rel => exact ⟨k + 1, _, rfl, by go_num, by omega, HSt, hk⟩
                                    case measure => simp [intOf] <;> omega
                                · obtain rfl : k = n0 := by omega
                                  have he := hi.out.trans HE.out
                                  clear hi HE
                                  by_cases hv : (gn : Int) = v
                                  · rw [hv, beq_self_eq_true] at he
                                    subst he
                                    have hbv : ((gn : Int) == v) = true := by rw [hv]; simp
                                    go_wp2_with fail
                                    go_roundw
                                    case rel => exact ⟨_, rfl, by omega, by omega, hk⟩
                                    case measure => simp [intOf] <;> omega
                                  · have hbv : ((gn : Int) == v) = false := by simpa using hv
                                    rw [hbv] at he
                                    subst he
                                    go_wp2_with fail
                                    go_roundw
                                    case rel => exact ⟨(gn : Int) + 1, rfl, by omega, by omega, hk⟩
                                    case measure => simp [intOf] <;> omega
                            · have K1 := Lib.hid (HWo.out _ hk.out)
                              clear HHas HWo hk HX
                              go_wp2_with fail
                              refine (HA.out _ K1.out).mono ?_
                              rintro e y ⟨rfl, hk⟩
                              have HK := Lib.hid ((K1.out).trans hk)
                              clear hk
                              go_wp2_with fail
                              go_ret
                              exact ⟨rfl, HK.out⟩
                          · have K1 := Lib.hid (HWo.out _ hk.out)
                            clear HHas HWo hk HX
                            go_wp2_with fail
                            refine (HA.out _ K1.out).mono ?_
                            rintro e y ⟨rfl, hk⟩
                            have HK := Lib.hid ((K1.out).trans hk)
                            clear hk
                            go_wp2_with fail
                            go_ret
                            exact ⟨rfl, HK.out⟩
end
end Go.Proofs.YtijlaganpnoefaaDoor.Bk
