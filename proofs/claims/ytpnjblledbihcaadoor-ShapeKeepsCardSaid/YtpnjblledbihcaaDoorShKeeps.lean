/-
  The law ShapeKeeps, walked.
-/
import Derived.Test.YtpnjblledbihcaaDoorShKeepsLaw
import Derived.Test.YtpnjblledbihcaaDoorShMeth
import Derived.Test.YtpnjblledbihcaaDoorGKd
import Derived.Test.YtpnjblledbihcaaDoorGTb
import Derived.Deep.DeepCutAuto
import Derived.BigQuiet
namespace Go.Proofs.YtpnjblledbihcaaDoor.Sh
open Go.RowKit Go.Proofs.YtpnjblledbihcaaDoor.Ar
open Go.Proofs.YtpnjblledbihcaaDoor.Hd (Hd Fields newF_fit)
open Go.Proofs.YtpnjblledbihcaaDoor.Tb (Ty Tab Made NewPost newF newF_len errT dget_ok cells3)
set_option linter.unusedVariables false

set_option maxRecDepth 100000 in
set_option maxHeartbeats 1000000 in
theorem keeps_long {w : World} (hF : Fields w) {A B C : Option Addr} {c d k m1 m2 m3 : Nat} (h : (m1 : Int) > 70 ∨ (m2 : Int) > 60 ∨ (m3 : Int) > 60) (h1 : m1 ≤ maxLen) (h2 : m2 ≤ maxLen) (h3 : m3 ≤ maxLen) (g i n : Int) :
    Calls Tryd.prog 6 #[.slice A m1 c, .int .i64 g, .int .i64 i, .int .i64 n, .slice B m2 d, .slice C m3 k] w fun e w' => e = .returned (.bool true) ∧ Kept [] w w' := by
  have HAl := Lib.hid (fun y (k : Kept [] w y) => alive_ok (hF.keep0 k))
  have K0 := Lib.hid (Kept.refl [] w)
  have h1' : m1 ≤ 9223372036854775807 := by unfold maxLen at h1; omega
  have h2' : m2 ≤ 9223372036854775807 := by unfold maxLen at h2; omega
  have h3' : m3 ≤ 9223372036854775807 := by unfold maxLen at h3; omega
  clear hF h1 h2 h3
  by_cases c1 : (m1 : Int) > 70
  · clear h
    go_enter Tryd.func6, Tryd.ntmps6
    go_wp2_with fail
    refine (HAl.out _ K0.out).mono ?_
    rintro e xz ⟨rfl, kz⟩
    have Kz := Lib.hid (K0.out.trans kz)
    clear kz HAl
    go_wp2_with fail
    go_ret
    exact ⟨rfl, Kz.out⟩
  · by_cases c2 : (m2 : Int) > 60
    · clear h
      go_enter Tryd.func6, Tryd.ntmps6
      go_wp2_with fail
      refine (HAl.out _ K0.out).mono ?_
      rintro e xz ⟨rfl, kz⟩
      have Kz := Lib.hid (K0.out.trans kz)
      clear kz HAl
      go_wp2_with fail
      go_ret
      exact ⟨rfl, Kz.out⟩
    · have c3 : (m3 : Int) > 60 := by omega
      clear h
      go_enter Tryd.func6, Tryd.ntmps6
      go_wp2_with fail
      refine (HAl.out _ K0.out).mono ?_
      rintro e xz ⟨rfl, kz⟩
      have Kz := Lib.hid (K0.out.trans kz)
      clear kz HAl
      go_wp2_with fail
      go_ret
      exact ⟨rfl, Kz.out⟩

set_option maxRecDepth 100000 in
set_option maxHeartbeats 16000000 in
theorem keeps_main {w : World} (hF : Fields w) {A B C : Option Addr} {c d k : Nat} {l : List Ty} {bs us : List Int} (hL : Tb.Seen w A l) (hok : ∀ x ∈ l, x.ok) (hll : ¬ (l.length : Int) > 70) (hSb : SeenB w B bs) (hbl : ¬ (bs.length : Int) > 60) (hbb : ∀ v ∈ bs, 0 ≤ v ∧ v ≤ 255) (hSu : Seen w C us) (hul : ¬ (us.length : Int) > 60) (hum : Wm us) (g i n : Int)
    (g0 : -9223372036854775808 ≤ g) (g1 : g ≤ 9223372036854775807) (i0 : -9223372036854775808 ≤ i) (i1 : i ≤ 9223372036854775807) :
    Calls Tryd.prog 6 #[.slice A l.length c, .int .i64 g, .int .i64 i, .int .i64 n, .slice B bs.length d, .slice C us.length k] w fun e w' => e = .returned (.bool true) ∧ Kept [] w w' := by
  have HFd := Lib.hid hF
  have HAl := Lib.hid (fun y (k : Kept [] w y) => alive_ok (hF.keep0 k))
  have HN := Lib.hid (Ar.new_ok 256 (by decide) w)
  have HNw := Lib.hid (fun y (k : Kept [] w y) => Tb.new_ok c (hL.keep0 k) hok (by omega))
  have HGt := Lib.hid (fun y (k : Kept [] w y) => dget_ok (c := c) (hL.keep0 k) (by omega) i i0 i1)
  have HSb := Lib.hid hSb
  have Hbb := Lib.hid hbb
  have HSu := Lib.hid hSu.later
  have Hum := Lib.hid hum
  clear hF hL hok hSb hbb hSu hum
  go_enter Tryd.func6, Tryd.ntmps6
  go_wp2_with fail
  refine HN.out.mono ?_
  rintro e x1 ⟨p, q, rfl, hp, hq, hA, hK⟩
  have HA1 := Lib.hid (And.intro hA (And.intro hp hq))
  have K1 := Lib.hid hK
  clear hA hK hp hq HN
  go_wp2_with fail
  refine (HNw.out _ K1.out).mono ?_
  rintro e x2 (⟨h0, tp, A1, c1, rfl, hm⟩ | ⟨h0, rfl, k2⟩)
  · have e1 := newF_len [] h0
    rw [List.nil_append] at e1
    have hm2 : Made x1 x2 tp A1 c1 l := by rw [e1] at hm; exact hm
    have hl64 := hm2.1.len
    have HB := Lib.hid (both_of K1.out HA1.out.1 HA1.out.2.1 HA1.out.2.2 hm2 (Wm.zeros 256))
    have hmk := both_make HFd.out HB.out g i n g0 g1 i0 i1
    have hla : Hid (makeE (List.replicate 256 (0 : Int)).length l g i n = 0 → ∃ gn sz, MadeAt (List.replicate 256 0) l g i n gn sz) := Lib.hid fun h => made_at hl64 h
    generalize hz : List.replicate 256 (0 : Int) = zs at *
    have Hzl : Hid (zs.length = 256) := Lib.hid (by rw [← hz]; simp)
    generalize her : makeE zs.length l g i n = er at *
    have HMk := Lib.hid hmk
    clear h0 e1 hm hm2 hmk hz her HNw HA1 K1 HB hl64
    go_wp2_with fail
    refine HMk.out.mono ?_
    rintro e x3 ⟨rfl, hb3, _⟩
    have HB3 := Lib.hid hb3
    clear hb3 HMk
    by_cases hz : er = 0
    · subst hz
      obtain ⟨gn, sz, hM⟩ := hla.out rfl
      obtain rfl := hM.gEq
      have hv := both_view HFd.out HB3.out (gn : Int) g0 g1
      rw [hM.of, hM.dec.2, hM.ty] at hv
      have hk := getT_ok HB3.out.tab i
      have hsb := Kd.slots_bound hM.err
      obtain ⟨sl, hsl⟩ := Int.eq_ofNat_of_zero_le hsb.1
      have hos : ofS (makeW zs l (gn : Int) i n) l (gn : Int) = (sl : Int) := by
        unfold ofS Kd.slotsR
        rw [hM.ty, hM.dec.2]
        simp only
        rw [if_pos hM.err, hsl]
      rw [hos] at hv
      have hroom : 2 * gn + 1 + sl ≤ 256 := by
        have a1 := hM.sz'
        have a2 := hM.isin
        rw [Hzl.out] at a2
        omega
      have hwl : (makeW zs l (gn : Int) i n).length = 256 := by rw [hM.len, Hzl.out]
      have HM := Lib.hid (And.intro hk.1 (And.intro hk.2 (And.intro hM.err (And.intro hsl (And.intro hM.has hwl)))))
      have HV := Lib.hid hv
      clear hv hk hsb hos hsl hM hla hwl
      generalize makeW zs l (gn : Int) i n = W0 at *
      go_wp2_with fail
      refine HV.out.mono ?_
      rintro e x4 ⟨_, ⟨h0, _⟩ | ⟨_, v, rfl, hvw⟩⟩
      · exact absurd rfl h0
      · have HVw := Lib.hid hvw
        clear hvw HV HB3
        go_wp2_with fail
        go_loopw [19] (fun t wr => ∃ a : Nat, a ≤ bs.length ∧ t = .int .i64 (a : Int) ∧ Hid (∃ ws : List Int, ws.length = 256 ∧ Vw w wr v p q tp A1 c1 l (ws) (gn : Int) ⟨1, i, n, sz⟩ (Tb.getT l i) (sl : Int))) (fun t _ => bs.length - (intOf t).toNat)
        case atStart => exact ⟨0, Nat.zero_le _, rfl, Lib.hid ⟨W0, HM.out.2.2.2.2.2, HVw.out⟩⟩
        case round =>
          obtain ⟨a, ha, rfl, hr⟩ := hrel
          go_upto_region 13 with fail
          go_cut [94] (fun vv wx => vv = .bool (decide (a < bs.length ∧ a < us.length)) ∧ wx = wr)
          case first =>
            by_cases h1 : a < bs.length
            · by_cases h2 : a < us.length
              · have hd : Hid (decide (a < bs.length ∧ a < us.length) = true) := Lib.hid (decide_eq_true ⟨h1, h2⟩)
                go_wp2_with fail
                go_meet
                case rel => exact ⟨by rw [hd.out], rfl⟩
              · have hd : Hid (decide (a < bs.length ∧ a < us.length) = false) := Lib.hid (decide_eq_false (fun h => h2 h.2))
                go_wp2_with fail
                go_meet
                case rel => exact ⟨by rw [hd.out], rfl⟩
            · have hd : Hid (decide (a < bs.length ∧ a < us.length) = false) := Lib.hid (decide_eq_false (fun h => h1 h.1))
              go_wp2_with fail
              go_meet
              case rel => exact ⟨by rw [hd.out], rfl⟩
          case rest =>
            obtain ⟨rfl, rfl⟩ := hcut
            by_cases hx : a < bs.length ∧ a < us.length
            · rw [decide_eq_true hx]
              obtain ⟨h1, h2⟩ := hx
              obtain ⟨ws, hwl, hvw⟩ := hr.out
              have HVr := Lib.hid hvw
              have Hwl := Lib.hid hwl
              obtain ⟨gb, fb, rfl, hcb⟩ := HSb.out (by rintro rfl; exact absurd h1 (Nat.not_lt_zero _))
              obtain ⟨gu, fu, rfl, hcu⟩ := HSu.out (by rintro rfl; exact absurd h2 (Nat.not_lt_zero _))
              have HCu : Hid (∀ y, Kept [] w y → y.cell? ⟨gu, fu + a, none⟩ = some (.int .u64 (us.getD a 0))) := Lib.hid fun y k => hcu y k a h2
              have hb1 := hcb wc hvw.both.kept a h1
              have hbn : ∃ kn : Nat, bs.getD a 0 = (kn : Int) ∧ kn ≤ 255 := by
                have hm : bs.getD a 0 ∈ bs := by rw [List.getD_eq_getElem?_getD, List.getElem?_eq_getElem h1]; exact List.getElem_mem h1
                have := Hbb.out _ hm
                exact ⟨(bs.getD a 0).toNat, by omega, by omega⟩
              have hun : 0 ≤ us.getD a 0 ∧ us.getD a 0 < 18446744073709551616 := by
                have hm : us.getD a 0 ∈ us := by rw [List.getD_eq_getElem?_getD, List.getElem?_eq_getElem h2]; exact List.getElem_mem h2
                exact Hum.out _ hm
              obtain ⟨kn, hkn, hk255⟩ := hbn
              rw [hkn] at hb1
              have Hun := Lib.hid hun
              clear hcb hcu hkn hr hvw hwl hun
              generalize us.getD a 0 = u at *
              have hwd := words_own HVr.out.both.ar.choose_spec
              rw [Hwl.out] at hwd
              have HWd := Lib.hid hwd
              clear hwd
              go_wp2_with fail
              refine HWd.out.mono ?_
              rintro e y1 ⟨b1, rfl, hge1, hh1, k1⟩
              have HV1 := Lib.hid (HVr.out.keep0 k1)
              have HH1 := Lib.hid hh1
              have Hge1 : Hid (wc.heap.size ≤ b1) := Lib.hid hge1
              have cu1 := HCu.out _ HV1.out.both.kept
              clear hge1 hh1 k1 HWd hb1
              have hst := vstore_ok HV1.out.view HV1.out.both.ar.choose_spec (kn : Int) u (by omega) (by omega) (by rw [Hwl.out]; omega)
              have HSt := Lib.hid hst
              clear hst
              go_wp2_with fail
              refine HSt.out.mono ?_
              rintro e y2 ⟨rfl, ha2, k2⟩
              have hnb1 : b1 ∉ [p, q] := by
                obtain ⟨m, ha⟩ := HVr.out.both.ar
                have l1 := ha.head.lt
                have l2 := ha.row.lt
                have := Hge1.out
                simp
                omega
              have HH2 := Lib.hid (HH1.out.kept k2 hnb1)
              by_cases hs : (kn : Int) < (sl : Int)
              · have hE : slotE (sl : Int) (kn : Int) = 0 := if_pos ⟨by omega, hs⟩
                have hP : vput ws (gn : Int) (sl : Int) (kn : Int) u = ws.set (2 * gn + 1 + kn) u := by
                  unfold vput
                  rw [if_pos ⟨by omega, hs⟩]
                  congr 1 <;> omega
                rw [hP] at ha2
                rw [hE]
                have HV2 := Lib.hid (HV1.out.wrote k2 ha2 (HV1.out.both.wm.set _ u Hun.out))
                have hwd := words_own HV2.out.both.ar.choose_spec
                rw [List.length_set, Hwl.out] at hwd
                have HWd := Lib.hid hwd
                clear hwd hE hP ha2 k2 HSt HV1 HH1 cu1 hnb1
                go_wp2_with fail
                refine HWd.out.mono ?_
                rintro e y3 ⟨b2, rfl, hge2, hh3, k3⟩
                have HV3 := Lib.hid (HV2.out.keep0 k3)
                have hbb : b2 ≠ b1 := by have := HH2.out.lt; omega
                have HH3 := Lib.hid (HH2.out.keep0 k3)
                have HN3 := Lib.hid hh3
                have Hbb2 := Lib.hid hbb
                have Hjr : Hid (2 * gn + 1 + kn < 256) := Lib.hid (by omega)
                clear hge2 hh3 k3 HWd HV2 HH2 hbb
                have hsl3 := Lib.hid (slots_ok HV3.out.view)
                go_wp2_with fail
                refine hsl3.out.mono ?_
                rintro e y4 ⟨rfl, rfl⟩
                clear hsl3
                go_wp2_with fail
                go_loopw [24] (fun t wr2 => ∃ j : Nat, j ≤ 256 ∧ t = .int .i64 (j : Int) ∧ Hid (Has wr2 b1 22 (ints (mid ws (2 * gn + 1 + kn) u j)) ∧ Kept [b1] y3 wr2)) (fun t _ => 256 - (intOf t).toNat)
                case atStart => exact ⟨0, Nat.zero_le _, rfl, Lib.hid ⟨by rw [mid_zero]; exact HH3.out, Kept.refl _ _⟩⟩
                case round =>
                  obtain ⟨j, hj, rfl, hr2⟩ := hrel
                  by_cases hlt : j < 256
                  · have hn2 := HN3.out.kept hr2.out.2 (by simpa using Hbb2.out)
                    have cn := hn2.cell j
                    have hjl : j < (ws.set (2 * gn + 1 + kn) u).length := by rw [List.length_set, Hwl.out]; exact hlt
                    rw [ints_get _ j hjl] at cn
                    have hml : j < (mid ws (2 * gn + 1 + kn) u j).length := by rw [mid_length, Hwl.out]; exact hlt
                    by_cases hJ : j = 2 * gn + 1 + kn
                    · have hcw := hr2.out.1.cell j
                      rw [ints_get _ j hml] at hcw
                      have hfw := hr2.out.1.free j
                      have hput : Hid (Has (wr.setCell ⟨b1, j, none⟩ (.int .u64 u)) b1 22 (ints (mid ws (2 * gn + 1 + kn) u (j + 1)))) := Lib.hid (by
                        have h := hr2.out.1.put j (.int .u64 u)
                        rw [ints_set] at h
                        subst hJ
                        rw [mid_here] at h
                        exact h)
                      have hkk : Hid (Kept [b1] y3 (wr.setCell ⟨b1, j, none⟩ (.int .u64 u))) := Lib.hid (hr2.out.2.setCell _ _ (.inl (by simp)))
                      have cu := HCu.out _ (HV3.out.both.kept.forget hr2.out.2 (by
                        intro i hi
                        have := HVr.out.both.kept.more
                        have := Hge1.out
                        rw [List.mem_singleton.1 hi]
                        omega))
                      have hug : (ws.set (2 * gn + 1 + kn) u).getD j 0 = u := by rw [hJ]; exact set_get _ _ _ (by rw [Hwl.out]; exact Hjr.out)
                      rw [hug] at cn
                      have cn' : (wr.setCell ⟨b1, j, none⟩ (.int .u64 u)).cell? ⟨b2, j, none⟩ = some (.int .u64 u) := by
                        have := (hn2.beside ⟨b1, j, none⟩ Hbb2.out (.int .u64 u)).cell j
                        rw [ints_get _ j hjl, hug] at this
                        exact this
                      have cw' : (wr.setCell ⟨b1, j, none⟩ (.int .u64 u)).cell? ⟨b1, j, none⟩ = some (.int .u64 u) := by
                        have := hput.out.cell j
                        rw [ints_get _ j (by rw [mid_length, Hwl.out]; exact hlt), mid_get _ _ _ _ (by rw [Hwl.out]; exact hlt), hug] at this
                        exact this
                      have huu : (u != u) = false := by simp
                      have hjb : ((j : Int) == 2 * (gn : Int) + 1 + (kn : Int)) = true := by rw [beq_iff_eq]; omega
                      clear hr2 hn2 hug hml hjl
                      subst hJ
                      go_wp2_with fail
                      generalize wr.setCell ⟨b1, 2 * gn + 1 + kn, none⟩ (.int .u64 u) = y5 at *
                      go_quiet (fail)
                      go_wp2_with fail
                      go_roundw
                      case rel => exact ⟨2 * gn + 1 + kn + 1, by omega, by go_num, Lib.hid ⟨by first | exact hput.out | exact hput.out.drewN _, by first | exact hkk.out | exact hkk.out.drewN _⟩⟩
                      case measure => simp [intOf]; omega
                    · have hsame : (mid ws (2 * gn + 1 + kn) u j).getD j 0 = (ws.set (2 * gn + 1 + kn) u).getD j 0 := by
                        rw [← mid_else ws _ u j hJ]
                        exact mid_get _ _ _ _ (by rw [Hwl.out]; exact hlt)
                      have hcw := hr2.out.1.cell j
                      rw [ints_get _ j hml, hsame] at hcw
                      have HH5 : Hid (Has wr b1 22 (ints (mid ws (2 * gn + 1 + kn) u (j + 1))) ∧ Kept [b1] y3 wr) := Lib.hid ⟨by rw [mid_else _ _ _ _ hJ]; exact hr2.out.1, hr2.out.2⟩
                      have hjb : ((j : Int) == 2 * (gn : Int) + 1 + (kn : Int)) = false := beq_eq_false_iff_ne.2 (by omega)
                      clear hr2 hn2 hsame hml hjl
                      generalize (ws.set (2 * gn + 1 + kn) u).getD j 0 = z at *
                      have hzz : (z != z) = false := by simp
                      go_wp2_with fail
                      go_quiet (fail)
                      go_wp2_with fail
                      go_roundw
                      case rel => exact ⟨j + 1, by omega, by go_num, Lib.hid ⟨by first | exact HH5.out.1 | exact HH5.out.1.drewN _, by first | exact HH5.out.2 | exact HH5.out.2.drewN _⟩⟩
                      case measure => simp [intOf]; omega
                  · obtain rfl : j = 256 := by omega
                    have hv6 := HVr.out.past HV3.out Hge1.out hr2.out.2
                    have hld := vload_ok hv6.view hv6.both.ar.choose_spec (kn : Int) (by omega) (by omega) (by rw [List.length_set, Hwl.out]; omega)
                    have hlv : vloadV (ws.set (2 * gn + 1 + kn) u) (gn : Int) (sl : Int) (kn : Int) = u := by
                      unfold vloadV
                      rw [if_pos ⟨by omega, hs⟩, show (2 * (gn : Int) + 1 + (kn : Int)).toNat = 2 * gn + 1 + kn by omega]
                      exact set_get _ _ _ (by rw [Hwl.out]; exact Hjr.out)
                    rw [hlv, show slotE (sl : Int) (kn : Int) = 0 from if_pos ⟨by omega, hs⟩] at hld
                    have HLd := Lib.hid hld
                    have cu := HCu.out _ hv6.both.kept
                    have HN6 : Hid (∃ ws : List Int, ws.length = 256 ∧ Vw w wr v p q tp A1 c1 l (ws) (gn : Int) ⟨1, i, n, sz⟩ (Tb.getT l i) (sl : Int)) := Lib.hid ⟨_, by rw [List.length_set]; exact Hwl.out, hv6⟩
                    have huu : (u != u) = false := by simp
                    clear hr2 hv6 hld hlv
                    go_wp2_with fail
                    refine HLd.out.mono ?_
                    rintro e y7 ⟨rfl, rfl⟩
                    go_wp2_with fail
                    go_roundw
                    case rel => exact ⟨a + 1, by omega, by go_num, HN6⟩
                    case measure => simp [intOf]; omega
              · have hE : slotE (sl : Int) (kn : Int) = 2 := if_neg (by omega)
                have hP : vput ws (gn : Int) (sl : Int) (kn : Int) u = ws := by
                  unfold vput
                  rw [if_neg (by omega)]
                rw [hP] at ha2
                rw [hE]
                have HV2 := Lib.hid (HV1.out.wrote k2 ha2 HV1.out.both.wm)
                have hwd := words_own HV2.out.both.ar.choose_spec
                rw [Hwl.out] at hwd
                have HWd := Lib.hid hwd
                clear hwd hE hP ha2 k2 HSt HV1 HH1 cu1 hnb1
                go_wp2_with fail
                refine HWd.out.mono ?_
                rintro e y3 ⟨b2, rfl, hge2, hh3, k3⟩
                have HV3 := Lib.hid (HV2.out.keep0 k3)
                have HH3 := Lib.hid (HH2.out.keep0 k3)
                have HN3 := Lib.hid hh3
                clear hge2 hh3 k3 HWd HV2 HH2
                have hsl3 := Lib.hid (slots_ok HV3.out.view)
                go_wp2_with fail
                refine hsl3.out.mono ?_
                rintro e y4 ⟨rfl, rfl⟩
                clear hsl3
                go_wp2_with fail
                go_loopw [24] (fun t wr2 => ∃ j : Nat, j ≤ 256 ∧ t = .int .i64 (j : Int) ∧ Hid (Kept [] y3 wr2)) (fun t _ => 256 - (intOf t).toNat)
                case atStart => exact ⟨0, Nat.zero_le _, rfl, Lib.hid (Kept.refl _ _)⟩
                case round =>
                  obtain ⟨j, hj, rfl, hr2⟩ := hrel
                  by_cases hlt : j < 256
                  · have cn := (HN3.out.keep0 hr2.out).cell j
                    have cw := (HH3.out.keep0 hr2.out).cell j
                    rw [ints_get _ j (by rw [Hwl.out]; exact hlt)] at cn cw
                    generalize ws.getD j 0 = z at *
                    have hzz : (z != z) = false := by simp
                    go_wp2_with fail
                    go_quiet (fail)
                    go_wp2_with fail
                    go_roundw
                    case rel => exact ⟨j + 1, by omega, by go_num, Lib.hid (by first | exact hr2.out | exact hr2.out.drewN _)⟩
                    case measure => simp [intOf]; omega
                  · obtain rfl : j = 256 := by omega
                    have hv6 := HV3.out.keep0 hr2.out
                    have hld := vload_ok hv6.view hv6.both.ar.choose_spec (kn : Int) (by omega) (by omega) (by rw [Hwl.out]; omega)
                    rw [show slotE (sl : Int) (kn : Int) = 2 from if_neg (by omega)] at hld
                    have HLd := Lib.hid hld
                    have HN6 : Hid (∃ ws : List Int, ws.length = 256 ∧ Vw w wr v p q tp A1 c1 l (ws) (gn : Int) ⟨1, i, n, sz⟩ (Tb.getT l i) (sl : Int)) := Lib.hid ⟨_, Hwl.out, hv6⟩
                    clear hr2 hv6 hld
                    generalize vloadV ws (gn : Int) (sl : Int) (kn : Int) = z at *
                    go_wp2_with fail
                    refine HLd.out.mono ?_
                    rintro e y7 ⟨rfl, rfl⟩
                    go_wp2_with fail
                    go_roundw
                    case rel => exact ⟨a + 1, by omega, by go_num, HN6⟩
                    case measure => simp [intOf]; omega
            · rw [decide_eq_false hx]
              obtain ⟨ws, hwl, hvw⟩ := hr.out
              have HVc := Lib.hid hvw
              have Hwl := Lib.hid hwl
              obtain ⟨hk, hm, herr, hslo, hhas, _⟩ := HM.out
              have hgt := HGt.out wc hvw.both.kept
              rw [hhas, show errT true = 0 from rfl] at hgt
              unfold Tb.Ty.val at hgt
              have HGt2 := Lib.hid hgt
              have hdr := fun y => Kd.refsDoc_ok (Tb.getT l i).k (Tb.getT l i).wd (Tb.getT l i).ms n hm y
              unfold Kd.RefsPost Kd.refsR Kd.typV at hdr
              simp only [herr, hslo, if_true, Int.toNat_natCast] at hdr
              have hsl16 := (Kd.slots_bound herr).2
              rw [hslo] at hsl16
              have hlen0 := Kd.refsTo_length (Tb.getT l i).k (Tb.getT l i).wd (Tb.getT l i).ms sl
              have hmem : Hid (∀ r ∈ Kd.refsTo (Tb.getT l i).k (Tb.getT l i).wd (Tb.getT l i).ms sl, ∃ n : Nat, r = (n : Int) ∧ n < sl) := Lib.hid fun r hr => refsTo_mem hr
              have hpl := pairs_length ws (gn : Int) (Tb.getT l i) sl
              have HTg : Hid (∀ y, Kept [] wc y → Calls Tryd.prog 19 #[.pointer (some ⟨v, 0, none⟩)] y fun e z => ∃ A c, e = .returned (.slice A (wordsOf ((Kd.refsTo (Tb.getT l i).k (Tb.getT l i).wd (Tb.getT l i).ms sl).map fun r => (r, ws.getD (2 * (gn : Int) + 1 + r).toNat 0))).length c) ∧ Seen z A (wordsOf ((Kd.refsTo (Tb.getT l i).k (Tb.getT l i).wd (Tb.getT l i).ms sl).map fun r => (r, ws.getD (2 * (gn : Int) + 1 + r).toNat 0))) ∧ Kept [] y z) := Lib.hid fun y k => by
                refine (vtargets_ok y _ _ (src_of (HVc.out.keep0 k) rfl hk hm herr hslo (by rw [Hwl.out]; exact hroom)) (by omega)).mono ?_
                rintro e z ⟨v, rfl, hO, _, k⟩
                obtain ⟨A, c, rfl, hb⟩ := back_own k hO
                exact ⟨A, c, rfl, hb.2.1, k⟩
              have HLd : Hid (∀ y (rn : Nat), Kept [] wc y → rn < sl → Calls Tryd.prog 12 #[.pointer (some ⟨v, 0, none⟩), .int .i64 (rn : Int)] y fun e z => e = .returned (.tuple #[.int .u64 (ws.getD (2 * (gn : Int) + 1 + (rn : Int)).toNat 0), .int .i64 0]) ∧ y = z) := Lib.hid fun y rn k hrn => by
                have h := vload_ok (HVc.out.keep0 k).view (HVc.out.keep0 k).both.ar.choose_spec (rn : Int) (by omega) (by omega) (by rw [Hwl.out]; omega)
                unfold vloadV slotE at h
                rw [if_pos ⟨by omega, by omega⟩, if_pos ⟨by omega, by omega⟩] at h
                exact h
              have HTn : Hid (∀ y : World, Has (y.alloc (.cells #[.int .u8 ((Tb.getT l i).k : Int), .int .i64 (Tb.getT l i).wd, .int .u64 ((Tb.getT l i).ms : Int)] 55)) y.heap.size 55 [.int .u8 ((Tb.getT l i).k : Int), .int .i64 (Tb.getT l i).wd, .int .u64 ((Tb.getT l i).ms : Int)]) := Lib.hid fun y => Has.new y _ _
              clear hgt hpl hvw hwl hr HGt hk hm herr hslo hhas HM
              generalize Kd.refsTo (Tb.getT l i).k (Tb.getT l i).wd (Tb.getT l i).ms sl = R at *
              have hstep : Hid (∀ j, j < R.length → wordsOf ((R.take (j + 1)).map fun r => (r, ws.getD (2 * (gn : Int) + 1 + r).toNat 0)) = if ws.getD (2 * (gn : Int) + 1 + R.getD j 0).toNat 0 = 0 then wordsOf ((R.take j).map fun r => (r, ws.getD (2 * (gn : Int) + 1 + r).toNat 0)) else wordsOf ((R.take j).map fun r => (r, ws.getD (2 * (gn : Int) + 1 + r).toNat 0)) ++ [ws.getD (2 * (gn : Int) + 1 + R.getD j 0).toNat 0]) := Lib.hid fun j hj => by
                rw [List.take_succ_eq_append_getElem hj, List.map_append]
                have : R.getD j 0 = R[j] := by rw [List.getD_eq_getElem?_getD, List.getElem?_eq_getElem hj]; rfl
                rw [this]
                exact wordsOf_snoc _ _
              have hwl2 : Hid (∀ j, (wordsOf ((R.take j).map fun r => (r, ws.getD (2 * (gn : Int) + 1 + r).toNat 0))).length ≤ 65536) := Lib.hid fun j => by
                refine Nat.le_trans (wordsOf_length _) ?_
                rw [List.length_map, List.length_take]
                omega
              have hwl3 : Hid ((wordsOf (R.map fun r => (r, ws.getD (2 * (gn : Int) + 1 + r).toNat 0))).length ≤ 65536) := Lib.hid (by
                refine Nat.le_trans (wordsOf_length _) ?_
                rw [List.length_map]
                omega)
              have Hlen0 := Lib.hid hlen0
              have HDr := Lib.hid hdr
              have Hsl16 := Lib.hid hsl16
              clear hlen0 hdr hsl16
              go_wp2_with fail
              refine HGt2.out.mono ?_
              rintro e x5 ⟨rfl, k5⟩
              have K5 := Lib.hid (k5.alloc (.cells #[.int .u8 ((Tb.getT l i).k : Int), .int .i64 (Tb.getT l i).wd, .int .u64 ((Tb.getT l i).ms : Int)] 55))
              have t5 := HTn.out x5
              obtain ⟨d0, d1, d2⟩ := cells3 t5
              clear k5 t5 HGt2 HTn
              go_wp2_with fail
              generalize x5.alloc (.cells #[.int .u8 ((Tb.getT l i).k : Int), .int .i64 (Tb.getT l i).wd, .int .u64 ((Tb.getT l i).ms : Int)] 55) = y5 at *
              generalize x5.heap.size = b27 at *
              refine (HDr.out _).mono ?_
              rintro e x6 ⟨v6, rfl, hO6, k6⟩
              have hform : ∃ A cap, v6 = .slice A R.length cap ∧ (R ≠ [] → ∃ rg, A = some ⟨rg, 0, none⟩ ∧ LayI x6 rg R) := by
                by_cases hR : R = []
                · rcases hO6.form with ⟨h1, _⟩ | ⟨g', cap', h1, _⟩
                  · exact ⟨none, 0, by rw [h1, hR]; rfl, fun h => absurd hR h⟩
                  · exact ⟨_, _, h1, fun h => absurd hR h⟩
                · obtain ⟨rg, cap, h1, h2⟩ := layI_of_own hO6 hR
                  exact ⟨_, _, h1, fun _ => ⟨rg, rfl, h2⟩⟩
              obtain ⟨B6, cap6, rfl, hB⟩ := hform
              have HB6 := Lib.hid hB
              have K6 := Lib.hid (K5.out.trans k6)
              clear hO6 hB k6 K5 HDr d0 d1 d2
              obtain ⟨N, hN⟩ : ∃ N, N = R.length := ⟨_, rfl⟩
              rw [← hN] at hstep Hlen0 ⊢
              have HNR := Lib.hid hN
              have hNb : N ≤ 65536 := by have := Hlen0.out; have := Hsl16.out; omega
              clear hN
              have hall : Hid (wordsOf ((R.take N).map fun r => (r, ws.getD (2 * (gn : Int) + 1 + r).toNat 0)) = wordsOf (R.map fun r => (r, ws.getD (2 * (gn : Int) + 1 + r).toNat 0))) := Lib.hid (by rw [HNR.out, List.take_length])
              go_wp2_with fail
              go_loopw [31, 32] (fun s i wr => ∃ j : Nat, j ≤ N ∧ i = .int .i64 (j : Int) ∧ Hid (Ar.Own wr s (wordsOf ((R.take j).map fun r => (r, ws.getD (2 * (gn : Int) + 1 + r).toNat 0))) ∧ FreshV x6 s ∧ Kept [] x6 wr)) (fun _ i _ => N - (intOf i).toNat)
              case atStart => exact ⟨0, Nat.zero_le _, rfl, Lib.hid ⟨Ar.Own.nil _, .inl rfl, Kept.refl _ _⟩⟩
              case round =>
                obtain ⟨j, hj, rfl, hr'⟩ := hrel
                by_cases hlt : j < N
                · have hne : R ≠ [] := fun e => by have h1 := HNR.out; rw [e] at h1; have h2 : N = 0 := h1; omega
                  obtain ⟨rg, rfl, hlay⟩ := HB6.out hne
                  have hjR : j < R.length := by have := HNR.out; omega
                  have hrm : R.getD j 0 ∈ R := by rw [List.getD_eq_getElem?_getD, List.getElem?_eq_getElem hjR]; exact List.getElem_mem hjR
                  obtain ⟨rn, hrn, hrs⟩ := hmem.out _ hrm
                  have hlay' : LayI wr rg R := by
                    obtain ⟨rest, hh⟩ := hlay
                    exact ⟨rest, hh.keep0 hr'.out.2.2⟩
                  have e1 := hlay'.cell j hjR
                  rw [hrn] at e1
                  have HL := Lib.hid (HLd.out wr rn (K6.out.trans hr'.out.2.2) hrs)
                  have hst := hstep.out j hlt
                  rw [hrn] at hst
                  have hwj := hwl2.out j
                  have HO := Lib.hid hr'.out.1
                  have HVf := Lib.hid hr'.out.2.1
                  have HKw := Lib.hid hr'.out.2.2
                  clear hlay hlay' hrm hrn hr' hjR hne
                  generalize ws.getD (2 * (gn : Int) + 1 + (rn : Int)).toNat 0 = u at *
                  generalize wordsOf ((R.take j).map fun r => (r, ws.getD (2 * (gn : Int) + 1 + r).toNat 0)) = L at *
                  by_cases hz : u = 0
                  · subst hz
                    rw [if_pos rfl] at hst
                    have HN : Hid (Ar.Own wr u31 (wordsOf ((R.take (j + 1)).map fun r => (r, ws.getD (2 * (gn : Int) + 1 + r).toNat 0))) ∧ FreshV x6 u31 ∧ Kept [] x6 wr) := Lib.hid ⟨by rw [hst]; exact HO.out, HVf.out, HKw.out⟩
                    clear hst
                    go_wp2_with fail
                    refine HL.out.mono ?_
                    rintro e z7 ⟨rfl, rfl⟩
                    go_wp2_with fail
                    go_roundw
                    case rel => exact ⟨j + 1, by omega, by go_num, HN⟩
                    case measure => simp [intOf]; omega
                  · rw [if_neg hz] at hst
                    have hzb : (u != 0) = true := by rw [bne_iff_ne]; exact hz
                    have HSt := Lib.hid hst
                    have HKa := Lib.hid ((Kept.refl [] wr).alloc (.cells #[.int .u64 u] 22))
                    have HSn : Hid (Seen (wr.alloc (.cells #[.int .u64 u] 22)) (some ⟨wr.heap.size, 0, none⟩) [u]) := Row.seen (Has.new wr 22 (ints [u]))
                    have HOa := Lib.hid (HO.out.keep0 HKa.out)
                    clear hst
                    go_wp2_with fail
                    refine HL.out.mono ?_
                    rintro e z7 ⟨rfl, rfl⟩
                    go_wp2_with (at_builtin; (refine append_words rfl (.tmp 218) (.tmp 220) rfl u31 L rfl HOa.out (some ⟨wr.heap.size, 0, none⟩) 1 1 [u] rfl rfl (fun h => by cases h) HSn.out (by omega) ?_))
                    intro s2 w2 hO2 hG2 hB2
                    have hwk2 := HKw.out.trans HKa.out
                    have hF2 := own_fresh (v' := s2) hwk2 HVf.out (by rw [World.size_alloc]; exact hB2)
                    have hK2 := own_grown hwk2 HVf.out hG2
                    have HN := Lib.hid (show Ar.Own w2 s2 (wordsOf ((R.take (j + 1)).map fun r => (r, ws.getD (2 * (gn : Int) + 1 + r).toNat 0))) ∧ FreshV x6 s2 ∧ Kept [] x6 w2 from ⟨by rw [HSt.out]; exact hO2, hF2, hK2⟩)
                    clear hO2 hG2 hB2 hK2 hF2 HKa HSn HO hwk2
                    go_wp2_with fail
                    go_roundw
                    case rel => exact ⟨j + 1, by omega, by go_num, HN⟩
                    case measure => simp [intOf]; omega
                · obtain rfl : j = N := by omega
                  obtain ⟨hO7, _, hk7⟩ := hr'.out
                  rw [hall.out] at hO7
                  obtain ⟨A7, c7, rfl, hb7⟩ := back_own hk7 hO7
                  have HS7 := Lib.hid hb7.2.1
                  have K7 := Lib.hid (K6.out.trans hk7)
                  have HT7 := Lib.hid (HTg.out _ (K6.out.trans hk7))
                  clear hO7 hk7 hb7 hr' hall hstep
                  generalize wordsOf (R.map fun r => (r, ws.getD (2 * (gn : Int) + 1 + r).toNat 0)) = T at *
                  go_wp2_with fail
                  refine HT7.out.mono ?_
                  rintro e x8 ⟨A8, c8, rfl, hs8, k8⟩
                  have hsm := sameW_any A8 A7 T T c8 c7 x8 hs8 (HS7.out.keep0 k8) (by have := hwl3.out; omega) (by have := hwl3.out; omega)
                  rw [sameB_self] at hsm
                  have HSm := Lib.hid hsm
                  have K8 := Lib.hid (HVc.out.both.kept.trans (K7.out.trans k8))
                  clear hsm hs8 k8 HT7
                  go_wp2_with fail
                  refine HSm.out.mono ?_
                  rintro e x9 ⟨rfl, kk, rfl⟩
                  have K9 := Lib.hid (K8.out.trans ((Kept.refl [] x8).drewN kk))
                  clear HSm
                  generalize x8.drewN kk = x9 at *
                  go_wp2_with fail
                  refine (HAl.out _ K9.out).mono ?_
                  rintro e xz ⟨rfl, kz⟩
                  have Kz := Lib.hid (K9.out.trans kz)
                  clear kz HAl
                  go_wp2_with fail
                  go_ret
                  exact ⟨rfl, Kz.out⟩
    · have hzb : (er != 0) = true := by rw [bne_iff_ne]; exact hz
      have K3 := Lib.hid HB3.out.kept
      clear HB3
      go_wp2_with fail
      refine (HAl.out _ K3.out).mono ?_
      rintro e xz ⟨rfl, kz⟩
      have Kz := Lib.hid (K3.out.trans kz)
      clear kz HAl
      go_wp2_with fail
      go_ret
      exact ⟨rfl, Kz.out⟩
  · have hbn : ((newF [] l).2 != 0) = true := by rw [bne_iff_ne]; exact h0
    have K2 := Lib.hid (K1.out.trans k2)
    clear k2 HNw h0
    generalize (newF [] l).2 = ne at *
    go_wp2_with fail
    refine (HAl.out _ K2.out).mono ?_
    rintro e xz ⟨rfl, kz⟩
    have Kz := Lib.hid (K2.out.trans kz)
    clear kz HAl
    go_wp2_with fail
    go_ret
    exact ⟨rfl, Kz.out⟩
theorem keeps_walk {w : World} (hF : Fields w) {A B C : Option Addr} {c d k : Nat} {l : List Ty} {bs us : List Int} (hlc : l.length ≤ c) (hcm : c ≤ maxLen) (hL : Tb.Seen w A l) (hok : ∀ x ∈ l, x.ok) (hbd : bs.length ≤ d) (hdm : d ≤ maxLen) (hSb : SeenB w B bs) (hbb : ∀ v ∈ bs, 0 ≤ v ∧ v ≤ 255) (huk : us.length ≤ k) (hkm : k ≤ maxLen) (hSu : Seen w C us) (hum : Wm us) (g i n : Int)
    (g0 : -9223372036854775808 ≤ g) (g1 : g ≤ 9223372036854775807) (i0 : -9223372036854775808 ≤ i) (i1 : i ≤ 9223372036854775807) :
    Calls Tryd.prog 6 #[.slice A l.length c, .int .i64 g, .int .i64 i, .int .i64 n, .slice B bs.length d, .slice C us.length k] w fun e w' => e = .returned (.bool true) ∧ Kept [] w w' := by
  by_cases h : (l.length : Int) > 70 ∨ (bs.length : Int) > 60 ∨ (us.length : Int) > 60
  · exact keeps_long hF h (Nat.le_trans hlc hcm) (Nat.le_trans hbd hdm) (Nat.le_trans huk hkm) g i n
  · exact keeps_main hF hL hok (fun hh => h (.inl hh)) hSb (fun hh => h (.inr (.inl hh))) hbb hSu (fun hh => h (.inr (.inr hh))) hum g i n g0 g1 i0 i1
end Go.Proofs.YtpnjblledbihcaaDoor.Sh
