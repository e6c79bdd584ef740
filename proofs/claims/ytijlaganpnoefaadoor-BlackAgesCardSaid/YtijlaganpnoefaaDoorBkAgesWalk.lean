/-
  Stage 12, black: the law BlackAges returns true.
-/
import Derived.Test.YtijlaganpnoefaaDoorBkAlive
import Derived.Test.YtijlaganpnoefaaDoorBkAges
namespace Go.Proofs.YtijlaganpnoefaaDoor.Bk
open Go.RowKit Go.Proofs.YtijlaganpnoefaaDoor.Ar
set_option linter.unusedVariables false
section
variable {G : World → Prop} {P : World → World → Nat → List Nat → List Int → Prop} {w : World}
set_option maxRecDepth 100000 in
set_option maxHeartbeats 16000000 in
theorem ages_walk (C : Ctr G P) (hG : G w) (n : Int) (A : Option Addr) (L : List BStp) (cap : Nat) (g : Int) (hn : I64 n) (hg : I64 g) (hS : BSteps w A L) (hR : ∀ s ∈ L, BRead w s) (hL : L.length ≤ 4398046511104) :
    Calls Tryd.prog 4 #[.int .i64 n, .slice A L.length cap, .int .i64 g] w fun e y => e = .returned (.bool true) ∧ Kept [] w y := by
  have HA := Lib.hid (fun y (k : Kept [] w y) => alive12_ok C (C.gkeep hG k))
  have HH := Lib.hid (heavy12_ok n A L cap hS (fun s hs => (hR s hs).few) hL)
  have HNo := Lib.hid (fun (h : n < 0 ∨ 65536 < n) => C.new_no (x := w) n hG hn h)
  have HYes := Lib.hid (fun (m : Nat) (h : m ≤ 65536) => C.new_yes (x := w) m hG (Kept.refl [] w) h)
  have HC := Lib.hid C
  have HS := Lib.hid hS
  have HR := Lib.hid hR
  have Hg := Lib.hid hg
  clear C hG hS hR hL hn hg
  go_enter Tryd.func4, Tryd.ntmps4
  go_wp2_with fail
  refine HH.out.mono ?_
  rintro e y ⟨⟨b, rfl, hb⟩, rfl⟩
  clear HH
  cases b with
  | true =>
    clear hb
    go_wp2_with fail
    refine (HA.out _ (Kept.refl [] w)).mono ?_
    rintro e y ⟨rfl, hk⟩
    have HK := Lib.hid hk
    clear hk
    go_wp2_with fail
    go_ret
    exact ⟨rfl, HK.out⟩
  | false =>
    obtain ⟨hn, hLl, hEa⟩ := hb rfl
    have HEa := Lib.hid hEa
    clear hb hEa
    by_cases h4 : 400 < n
    · clear hn
      go_wp2_with fail
      refine (HA.out _ (Kept.refl [] w)).mono ?_
      rintro e y ⟨rfl, hk⟩
      have HK := Lib.hid hk
      clear hk
      go_wp2_with fail
      go_ret
      exact ⟨rfl, HK.out⟩
    · clear hn
      by_cases h0 : n < 0
      · have HN := Lib.hid (HNo.out (.inl h0))
        clear HNo HYes
        go_wp2_with fail
        refine HN.out.mono ?_
        rintro e x1 ⟨rfl, k1⟩
        have K1 := Lib.hid k1
        clear k1 HN
        go_wp2_with fail
        refine (HA.out _ K1.out).mono ?_
        rintro e y ⟨rfl, hk⟩
        have HK := Lib.hid (K1.out.trans hk)
        clear hk
        go_wp2_with fail
        go_ret
        exact ⟨rfl, HK.out⟩
      · obtain ⟨m, rfl⟩ := Int.eq_ofNat_of_zero_le (show 0 ≤ n by omega)
        have HN := Lib.hid (HYes.out m (by omega))
        clear HNo HYes h0
        go_wp2_with fail
        refine HN.out.mono ?_
        rintro e x1 ⟨p, T1, rfl, hP1, _, _⟩
        have H0 : Hid (P w x1 p T1 (List.replicate m 0) ∧ (List.replicate m (0 : Int)).length = m ∧ AgeIs (List.replicate m 0) g false false) := Lib.hid ⟨hP1, List.length_replicate, AgeIs.start m g⟩
        clear hP1 HN
        go_wp2_with fail
        go_loopw [9, 10, 11] (fun u a t wr => ∃ (j : Nat) (nb ab : Bool), u = .bool nb ∧ a = .bool ab ∧ t = .int .i64 (j : Int) ∧ j ≤ L.length ∧ Hid (∃ T ls, P w wr p T ls ∧ ls.length = m ∧ AgeIs ls g nb ab)) (fun _ _ t _ => L.length - (intOf t).toNat)
        case atStart => exact ⟨0, false, false, rfl, rfl, rfl, Nat.zero_le _, Lib.hid ⟨_, _, H0.out⟩⟩
        case round =>
          clear H0
          obtain ⟨j, nb, ab, rfl, rfl, rfl, hj, hr⟩ := hrel
          by_cases hlt : j < L.length
          · obtain ⟨g0, f0, rfl, hg0, _, _⟩ := HS.out.at j hlt
            have hmem := List.getElem_mem hlt
            have HRd := Lib.hid (HR.out _ hmem)
            have hfew := HEa.out _ hmem
            have HCell : Hid (∀ y, Kept [] w y → y.cell? ⟨g0, f0 + j * 2, none⟩ = some (.int .i64 (L[j]'hlt).d) ∧ y.cell? ⟨g0, f0 + j * 2 + 1, none⟩ = some (.slice (L[j]'hlt).A (L[j]'hlt).len (L[j]'hlt).cap)) := Lib.hid fun y k => by
              obtain ⟨g1, f1, e, _, c0, c1⟩ := (HS.out.keep0 k).at j hlt
              cases e
              exact ⟨c0, c1⟩
            clear hmem
            generalize L[j]'hlt = s at *
            obtain ⟨sd, sA, sl, sc⟩ := s
            simp only at *
            obtain ⟨T, ls, hP, hlm, hAge⟩ := hr.out
            have HCnt := Lib.hid (HC.out.count hP)
            have hcl : (listL ls).length ≤ 400 := by have := list_len ls; omega
            have HP := Lib.hid hP
            have HAge := Lib.hid hAge
            have HAged := Lib.hid (HC.out.aged hP).1
            clear hP hAge hr
            obtain ⟨cn, hcn⟩ : ∃ cn, (listL ls).length = cn := ⟨_, rfl⟩
            rw [hcn] at HCnt hcl
            have HCn := Lib.hid hcn
            clear hcn
            go_wp2_with fail
            refine HCnt.out.mono ?_
            rintro e x2 ⟨rfl, k2⟩
            have hP2 := HC.out.keep0 HP.out k2
            obtain ⟨c0, c1⟩ := HCell.out x2 (HC.out.start hP2)
            have HP2 := Lib.hid hP2
            clear hP2 k2 HCnt HP
            by_cases e0 : sd = 0
            · subst e0
              have hb0 : ((0 : Int) == 0) = true := rfl
              obtain ⟨gs, hgl, hgs, hgI⟩ := HRd.out.gs
              simp only at hgl hgs
              subst hgl
              have HGs := Lib.hid hgs
              have HHit := Lib.hid (HC.out.hit (c := sc) gs HP2.out (fun y ky => HGs.out.keep0 ((HC.out.start HP2.out).forget ky fun i hi => (HC.out.fresh HP2.out i hi).1)) (by omega) hgI)
              clear hgs hgI
              by_cases ha : inAll ls.length gs = true
              · rw [(hit_yes ha).1, (hit_yes ha).2] at HHit
                have HA2 := Lib.hid (HAge.out.hit ha)
                have hl2 : (hitAll ls gs).length = m := by rw [hitAll_length]; exact hlm
                clear ha HAge HAged hlm
                go_wp2_with fail
                refine HHit.out.mono ?_
                rintro e x3 ⟨rfl, T3, hP3, _, _⟩
                have HP3 := Lib.hid hP3
                obtain ⟨_, c1⟩ := HCell.out x3 (HC.out.start hP3)
                clear hP3 HHit
                have HM0 : Hid ((nb || decide (g ∈ gs.take 0)) = nb) := Lib.hid (by simp)
                go_wp2_with fail
                go_loopw [9, 13] (fun u t wi => ∃ (k : Nat) (vb : Bool), u = .bool vb ∧ t = .int .i64 (k : Int) ∧ k ≤ gs.length ∧ Hid (vb = (nb || decide (g ∈ gs.take k))) ∧ Hid (Kept [] x3 wi)) (fun _ t _ => gs.length - (intOf t).toNat)
                case atStart => exact ⟨0, nb, rfl, rfl, Nat.zero_le _, Lib.hid HM0.out.symm, Lib.hid (Kept.refl _ _)⟩
                case round =>
                  clear HM0 c0 c1
                  obtain ⟨k, vb, rfl, rfl, hk, hv, hki⟩ := hrel
                  have HPi := Lib.hid (HC.out.keep0 HP3.out hki.out)
                  have HWi := Lib.hid (HC.out.start HPi.out)
                  obtain ⟨c0, c1⟩ := HCell.out wr HWi.out
                  by_cases hkt : k < gs.length
                  · obtain ⟨g1, f1, rfl, hc⟩ := (HGs.out.keep0 HWi.out).cells (by intro e; simp [e] at hkt)
                    have ct := hc k hkt
                    have hms := mem_take_succ hkt g
                    have HV := Lib.hid (show vb = true → true = (nb || decide (g ∈ gs.take (k + 1))) from fun e => by rw [hms, ← Bool.or_assoc, ← hv.out, e]; rfl)
                    have HV2 := Lib.hid (show vb = false → (gs.getD k 0 == g) = (nb || decide (g ∈ gs.take (k + 1))) from fun e => by rw [hms, ← Bool.or_assoc, ← hv.out, e]; rfl)
                    clear hc hms hv
                    generalize gs.getD k 0 = q at *
                    cases vb with
                    | true =>
                      go_wp2_with fail
                      go_roundw
                      case rel => exact ⟨k + 1, _, rfl, by go_num, by omega, Lib.hid (HV.out rfl), hki⟩
                      case measure => simp [intOf] <;> omega
                    | false =>
                      go_wp2_with fail
                      go_roundw
                      case rel => exact ⟨k + 1, _, rfl, by go_num, by omega, Lib.hid (HV2.out rfl), hki⟩
                      case measure => simp [intOf] <;> omega
                  · obtain rfl : k = gs.length := by omega
                    have hv2 := hv.out
                    rw [List.take_length] at hv2
                    rw [← hv2] at HA2
                    clear hv hv2 HCell HGs HP3 hki
                    have HHas := Lib.hid (HC.out.has g HPi.out Hg.out)
                    rw [(HA2.out).has] at HHas
                    have HRel : Hid (∀ z, Kept [] _ z → ∃ T ls, P w z p T ls ∧ ls.length = m ∧ AgeIs ls g vb ab) := Lib.hid fun z kz => ⟨_, _, HC.out.keep0 HPi.out kz, hl2, HA2.out⟩
                    cases vb <;> cases ab
                    all_goals
                      go_wp2_with fail
                      refine HHas.out.mono ?_
                      rintro e z ⟨rfl, kz⟩
                      have HRel := Lib.hid (HRel.out z kz)
                      clear kz HHas
                      go_wp2_with fail
                      go_roundw
                      case rel => exact ⟨j + 1, _, _, rfl, rfl, by go_num, by omega, HRel⟩
                      case measure => simp [intOf] <;> omega
              · have ha2 : inAll ls.length gs = false := by simpa using ha
                rw [(hit_no ha2).1, (hit_no ha2).2] at HHit
                clear ha ha2 HAged
                go_wp2_with fail
                refine HHit.out.mono ?_
                rintro e x3 ⟨rfl, T3, hP3, _, _⟩
                have HP3 := Lib.hid hP3
                clear hP3 HHit HCell HGs
                have HHas := Lib.hid (HC.out.has g HP3.out Hg.out)
                rw [(HAge.out).has] at HHas
                have HRel : Hid (∀ z, Kept [] _ z → ∃ T ls, P w z p T ls ∧ ls.length = m ∧ AgeIs ls g nb ab) := Lib.hid fun z kz => ⟨_, _, HC.out.keep0 HP3.out kz, hlm, HAge.out⟩
                cases nb <;> cases ab
                all_goals
                  go_wp2_with fail
                  refine HHas.out.mono ?_
                  rintro e z ⟨rfl, kz⟩
                  have HRel := Lib.hid (HRel.out z kz)
                  clear kz HHas
                  go_wp2_with fail
                  go_roundw
                  case rel => exact ⟨j + 1, _, _, rfl, rfl, by go_num, by omega, HRel⟩
                  case measure => simp [intOf] <;> omega
            · by_cases e1 : sd = 1
              · subst e1
                have hb0 : ((1 : Int) == 0) = false := rfl
                have hb1 : ((1 : Int) == 1) = true := rfl
                have HTn := Lib.hid (HC.out.turn HP2.out)
                have HA2 := Lib.hid HAge.out.turn
                have hl2 : (turnL ls).length = m := by rw [turnL_length]; exact hlm
                have hcl2 : (listL (turnL ls)).length ≤ 400 := by have := list_len (turnL ls); omega
                have hless := turn_count HAged.out
                rw [HCn.out] at hless
                have hon := (ones_bound ls).1
                clear HAge HAged hlm
                generalize ones ls = o at *
                go_wp2_with fail
                refine HTn.out.mono ?_
                rintro e x3 ⟨rfl, T3, hP3, _, _⟩
                have HP3 := Lib.hid hP3
                have HCt2 := Lib.hid (HC.out.count hP3)
                generalize (listL (turnL ls)).length = c2 at *
                obtain rfl : o = (cn : Int) - (c2 : Int) := by omega
                clear hP3 HTn HCell hless
                go_wp2_with fail
                refine HCt2.out.mono ?_
                rintro e x4 ⟨rfl, k4⟩
                have HP4 := Lib.hid (HC.out.keep0 HP3.out k4)
                clear k4 HCt2 HP3
                have HHas := Lib.hid (HC.out.has g HP4.out Hg.out)
                rw [(HA2.out).has] at HHas
                have HRel : Hid (∀ z, Kept [] _ z → ∃ T ls, P w z p T ls ∧ ls.length = m ∧ AgeIs ls g false nb) := Lib.hid fun z kz => ⟨_, _, HC.out.keep0 HP4.out kz, hl2, HA2.out⟩
                cases nb
                all_goals
                  go_wp2_with fail
                  refine HHas.out.mono ?_
                  rintro e z ⟨rfl, kz⟩
                  have HRel := Lib.hid (HRel.out z kz)
                  clear kz HHas
                  go_wp2_with fail
                  go_roundw
                  case rel => exact ⟨j + 1, _, _, rfl, rfl, by go_num, by omega, HRel⟩
                  case measure => simp [intOf] <;> omega
              · have hb0 : (sd == 0) = false := by simpa using e0
                have hb1 : (sd == 1) = false := by simpa using e1
                clear HCell
                have HHas := Lib.hid (HC.out.has g HP2.out Hg.out)
                rw [(HAge.out).has] at HHas
                have HRel : Hid (∀ z, Kept [] _ z → ∃ T ls, P w z p T ls ∧ ls.length = m ∧ AgeIs ls g nb ab) := Lib.hid fun z kz => ⟨_, _, HC.out.keep0 HP2.out kz, hlm, HAge.out⟩
                cases nb <;> cases ab
                all_goals
                  go_wp2_with fail
                  refine HHas.out.mono ?_
                  rintro e z ⟨rfl, kz⟩
                  have HRel := Lib.hid (HRel.out z kz)
                  clear kz HHas
                  go_wp2_with fail
                  go_roundw
                  case rel => exact ⟨j + 1, _, _, rfl, rfl, by go_num, by omega, HRel⟩
                  case measure => simp [intOf] <;> omega
          · obtain ⟨T, ls, hP, _, _⟩ := hr.out
            have K1 := Lib.hid (HC.out.start hP)
            obtain rfl : j = L.length := by omega
            clear hP hr hlt hj HS HR HEa
            go_wp2_with fail
            refine (HA.out _ K1.out).mono ?_
            rintro e y ⟨rfl, hk⟩
            have HK := Lib.hid (K1.out.trans hk)
            clear hk
            go_wp2_with fail
            go_ret
            exact ⟨rfl, HK.out⟩
end
end Go.Proofs.YtijlaganpnoefaaDoor.Bk
