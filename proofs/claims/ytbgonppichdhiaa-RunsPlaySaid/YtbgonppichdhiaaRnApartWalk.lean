/-
  The walk of the law RunsApart.
-/
import Derived.Test.YtbgonppichdhiaaRnApartLaw
import Derived.Deep.DeepCutAuto
namespace Go.Proofs.Ytbgonppichdhiaa.Rn
open Go.RowKit Go.Proofs.Ytbgonppichdhiaa.Ar Go.Proofs.Ytbgonppichdhiaa.Bt Go.Proofs.Ytbgonppichdhiaa.Lk Go.Sort
set_option linter.unusedVariables false
attribute [local go_sem ↓] Go.wp_at_zero Go.wp_at_succ

/-- A row of steps that came in, read in a later world. -/
theorem Steps.later {w : World} {A : Option Addr} {L : List Stp} (h : Steps w A L) (hl : L ≠ []) : ∃ g f, A = some ⟨g, f, none⟩ ∧ ∀ x, Kept [] w x → ∀ i s, L[i]? = some s → ∀ j v, s.cells[j]? = some v → x.cell? ⟨g, f + (i * 3 + j), none⟩ = some v := by
  obtain ⟨g, f, e, hg, hc⟩ := h hl
  exact ⟨g, f, e, fun x hk i s hi j v hv => (World.cell?_of_block (w := w) (hk.old g hg (by simp))).trans (hc i s hi j v hv)⟩
set_option maxRecDepth 100000 in
set_option maxHeartbeats 800000 in
theorem apart_long (A : Option Addr) (k cap : Nat) (i : Int) (w : World) (hm : 60 < k) (hl : k ≤ maxLen) :
    Calls Try.prog 4 #[.slice A k cap, .int .i64 i] w fun e w' => e = .returned (.bool true) ∧ Kept [] w w' := by
  unfold maxLen at hl
  have HA := Lib.hid (alive_ok w)
  go_enter Try.func4, Try.ntmps4
  go_wp2_with fail
  refine HA.out.mono ?_; rintro e w' ⟨rfl, hk⟩
  have HK := Lib.hid hk
  clear hk
  go_wp2_with fail
  go_ret
  exact ⟨rfl, HK.out⟩

set_option maxRecDepth 100000 in
set_option maxHeartbeats 16000000 in
theorem apart_walk (A : Option Addr) (L : List Stp) (cap : Nat) (i : Int) (w : World) (hL : L.length ≤ 60) (hst : Steps w A L) (hoks : ∀ s ∈ L, s.ok) (i1 : -9223372036854775808 ≤ i) (i2 : i ≤ 9223372036854775807) :
    Calls Try.prog 4 #[.slice A L.length cap, .int .i64 i] w fun e w' => e = .returned (.bool true) ∧ Kept [] w w' := by
  have HA := Lib.hid (fun x => alive_ok x)
  have HN := Lib.hid (Sx.new w)
  have HS := Lib.hid hst
  have HO := Lib.hid hoks
  clear hst hoks
  go_enter Try.func4, Try.ntmps4
  go_wp2_with fail
  refine HN.out.mono ?_
  rintro e x0 ⟨rfl, h0⟩
  have H0 := Lib.hid h0
  clear h0 HN
  generalize w.heap.size = p at *
  go_wp2_with fail
  go_loopw [6, 7, 8] (fun th tot t wr => ∃ (j : Nat) (rs : List R), j ≤ L.length ∧ t = .int .i64 (j : Int) ∧ th = .bool (hasI rs i) ∧ tot = .int .i64 ((total rs : Nat) : Int) ∧ Hid (Sx w wr p rs)) (fun _ _ t _ => L.length - (intOf t).toNat)
  case atStart => exact ⟨0, [], Nat.zero_le _, rfl, rfl, rfl, H0⟩
  case round =>
    clear H0
    obtain ⟨j, rs, hj, rfl, rfl, rfl, hG⟩ := hrel
    have htl := total_le hG.out.fine
    by_cases hlt : j < L.length
    · have hne : L ≠ [] := fun h0 => by rw [h0] at hlt; simp at hlt
      obtain ⟨g0, f0, rfl, hcs⟩ := HS.out.later hne
      obtain ⟨st, hsj⟩ : ∃ st, L[j]? = some st := ⟨_, List.getElem?_eq_getElem hlt⟩
      have hok := HO.out st (List.mem_of_getElem? hsj)
      have hcl := fun x hk => hcs x hk j st hsj
      obtain ⟨sd, sa, sn⟩ := st
      obtain ⟨⟨b1, b2⟩, ⟨b3, b4⟩, ⟨b5, b6⟩⟩ := hok
      simp only at b1 b2 b3 b4 b5 b6
      have HC : Hid (∀ x, Kept [] w x → x.cell? ⟨g0, f0 + j * 3, none⟩ = some (.int .i64 sd) ∧ x.cell? ⟨g0, f0 + j * 3 + 1, none⟩ = some (.int .i64 sa) ∧ x.cell? ⟨g0, f0 + j * 3 + 2, none⟩ = some (.int .i64 sn)) := Lib.hid fun x hk => ⟨hcl x hk 0 _ rfl, hcl x hk 1 _ rfl, hcl x hk 2 _ rfl⟩
      clear hcl hcs hsj hne
      obtain ⟨d0, d1, d2⟩ := HC.out wr hG.out.world
      go_upto_region 12 with fail
      have hkb : Kept [] wr (wr.alloc (.cells #[.int .i64 sa, .int .i64 sn] 29)) := (Kept.refl [] wr).alloc _
      have hB : Has (wr.alloc (.cells #[.int .i64 sa, .int .i64 sn] 29)) wr.heap.size 29 [.int .i64 sa, .int .i64 sn] := Has.new wr _ [.int .i64 sa, .int .i64 sn]
      clear d0 d1 d2
      generalize wr.alloc (.cells #[.int .i64 sa, .int .i64 sn] 29) = W1 at *
      generalize wr.heap.size = b9 at *
      have HG1 := Lib.hid (hG.out.stay hkb)
      have HB1 := Lib.hid hB
      clear hkb hB hG
      have r0 := HB1.out.cell 0
      have r1 := HB1.out.cell 1
      simp at r0 r1
      go_cut [10] (fun v wx => Hid (v = .bool (inB i sa sn)) ∧ W1 = wx)
      case first =>
        go_wp2_with fail
        all_goals
          go_meet
          case rel =>
            first
              | exact ⟨Lib.hid (by unfold inB; rw [decide_eq_true ‹sa ≤ i›]; rfl), rfl⟩
              | exact ⟨Lib.hid (by unfold inB; rw [decide_eq_false (by omega)]; rfl), rfl⟩
      case rest =>
        obtain ⟨hv, rfl⟩ := hcut
        have hv' := hv.out
        subst hv'
        clear hv
        obtain ⟨d0, d1, d2⟩ := HC.out W1 HG1.out.world
        have hlt0 : True := trivial
        by_cases h0 : sd = 0
        · subst h0
          have HAC := Lib.hid (Sx.add HG1.out sa sn b3 b4 b5 b6)
          unfold runV at HAC
          by_cases hE : addE rs sa sn = 0
          · obtain ⟨t1, t2⟩ := add_tells HG1.out.fine i2 hE
            obtain ⟨hl1, hl2⟩ := addE_len hE
            have hf := addW_fine HG1.out.fine sa sn
            rw [hE] at HAC
            have Ht1 := Lib.hid t1
            have htl2 := total_le hf
            clear hE t1
            generalize addW rs sa sn = rs2 at *
            obtain ⟨tb, htb⟩ : ∃ tb, tb = total rs2 := ⟨_, rfl⟩
            rw [← htb] at t2 htl2
            have Htb := Lib.hid htb
            clear htb
            obtain ⟨ta, hta⟩ : ∃ ta, ta = total rs := ⟨_, rfl⟩
            rw [← hta] at t2 htl ⊢
            have Ht2 := Lib.hid t2
            have htb0 : 0 ≤ (ta : Int) + sn := by omega
            clear hta t2 hf HG1
            generalize inB i sa sn = ib at *
            cases hI : hasI rs i with
            | true =>
              have HI : Hid (hasI rs2 i = (true)) := Lib.hid (by rw [Ht1.out, hI]; simp)
              clear hI Ht1
              go_wp2_with fail
              refine HAC.out.mono ?_
              rintro e y ⟨rfl, hGy, ho⟩
              have hb9 := ho.has HB1.out (by decide) (by decide)
              have r0 := hb9.cell 0
              have r1 := hb9.cell 1
              simp at r0 r1
              have HGy := Lib.hid hGy
              obtain ⟨d0, d1, d2⟩ := HC.out y hGy.world
              have HHas := Lib.hid (Sx.hasN hGy i)
              rw [HI.out] at HHas
              clear hGy ho hb9 HAC
              go_wp2_with fail
              rw [← Ht2.out]
              refine HHas.out.mono ?_
              rintro e y1 ⟨rfl, hk⟩
              have HTo := Lib.hid (Sx.total (HGy.out.stay hk))
              rw [← Htb.out] at HTo
              have HG2 := Lib.hid (HGy.out.stay hk)
              clear hk HHas HGy d0 d1 d2 r0 r1
              go_wp2_with fail
              refine HTo.out.mono ?_
              rintro e y2 ⟨rfl, hk⟩
              have HG3 := Lib.hid (HG2.out.stay hk)
              clear hk HTo HG2
              go_wp2_with fail
              go_roundw
              case rel => exact ⟨j + 1, rs2, by omega, by go_num, by rw [HI.out], by rw [← Htb.out], HG3⟩
              case measure => simp [intOf]; omega
            | false =>
              have HI : Hid (hasI rs2 i = (ib)) := Lib.hid (by rw [Ht1.out, hI]; simp)
              clear hI Ht1
              go_wp2_with fail
              refine HAC.out.mono ?_
              rintro e y ⟨rfl, hGy, ho⟩
              have hb9 := ho.has HB1.out (by decide) (by decide)
              have r0 := hb9.cell 0
              have r1 := hb9.cell 1
              simp at r0 r1
              have HGy := Lib.hid hGy
              obtain ⟨d0, d1, d2⟩ := HC.out y hGy.world
              have HHas := Lib.hid (Sx.hasN hGy i)
              rw [HI.out] at HHas
              clear hGy ho hb9 HAC
              go_wp2_with fail
              rw [← Ht2.out]
              refine HHas.out.mono ?_
              rintro e y1 ⟨rfl, hk⟩
              have HTo := Lib.hid (Sx.total (HGy.out.stay hk))
              rw [← Htb.out] at HTo
              have HG2 := Lib.hid (HGy.out.stay hk)
              clear hk HHas HGy d0 d1 d2 r0 r1
              go_wp2_with fail
              refine HTo.out.mono ?_
              rintro e y2 ⟨rfl, hk⟩
              have HG3 := Lib.hid (HG2.out.stay hk)
              clear hk HTo HG2
              go_wp2_with fail
              go_roundw
              case rel => exact ⟨j + 1, rs2, by omega, by go_num, by rw [HI.out], by rw [← Htb.out], HG3⟩
              case measure => simp [intOf]; omega
          · have hb' : (addE rs sa sn == 0) = false := beq_eq_false_iff_ne.2 hE
            have hno := addW_no hE
            rw [hno] at HAC
            clear hno hE HG1
            generalize addE rs sa sn = E at *
            generalize inB i sa sn = ib at *
            obtain ⟨th, hth⟩ : ∃ th, th = hasI rs i := ⟨_, rfl⟩
            rw [← hth]
            have HI : Hid (hasI rs i = th) := Lib.hid hth.symm
            clear hth
            go_wp2_with fail
            refine HAC.out.mono ?_
            rintro e y ⟨rfl, hGy, ho⟩
            have hb9 := ho.has HB1.out (by decide) (by decide)
            have r0 := hb9.cell 0
            have r1 := hb9.cell 1
            simp at r0 r1
            have HGy := Lib.hid hGy
            obtain ⟨d0, d1, d2⟩ := HC.out y hGy.world
            have HHas := Lib.hid (Sx.hasN hGy i)
            rw [HI.out] at HHas
            clear hGy ho hb9 HAC
            go_wp2_with fail
            refine HHas.out.mono ?_
            rintro e y1 ⟨rfl, hk⟩
            have HTo := Lib.hid (Sx.total (HGy.out.stay hk))
            have HG2 := Lib.hid (HGy.out.stay hk)
            clear hk HHas HGy d0 d1 d2 r0 r1
            go_wp2_with fail
            refine HTo.out.mono ?_
            rintro e y2 ⟨rfl, hk⟩
            have HG3 := Lib.hid (HG2.out.stay hk)
            clear hk HTo HG2
            go_wp2_with fail
            go_roundw
            case rel => exact ⟨j + 1, rs, by omega, by go_num, by rw [HI.out], rfl, HG3⟩
            case measure => simp [intOf]; omega
        · have g0 : (sd == 0) = false := beq_eq_false_iff_ne.2 h0
          by_cases h1 : sd = 1
          · subst h1
            clear h0
            have HAC := Lib.hid (Sx.cut HG1.out sa sn b3 b4 b5 b6)
            unfold runV at HAC
            by_cases hE : cutE rs sa sn = 0
            · obtain ⟨t1, t2⟩ := cut_tells HG1.out.fine i2 hE
              obtain ⟨hl1, hl2⟩ := cutE_len hE
              have hf := cutW_fine HG1.out.fine sa sn
              rw [hE] at HAC
              have Ht1 := Lib.hid t1
              have htl2 := total_le hf
              clear hE t1
              generalize cutW rs sa sn = rs2 at *
              obtain ⟨tb, htb⟩ : ∃ tb, tb = total rs2 := ⟨_, rfl⟩
              rw [← htb] at t2 htl2
              have Htb := Lib.hid htb
              clear htb
              obtain ⟨ta, hta⟩ : ∃ ta, ta = total rs := ⟨_, rfl⟩
              rw [← hta] at t2 htl ⊢
              have Ht2 := Lib.hid t2
              have htb0 : 0 ≤ (ta : Int) - sn := by omega
              clear hta t2 hf HG1
              generalize inB i sa sn = ib at *
              cases hI : hasI rs i with
              | true =>
                have HI : Hid (hasI rs2 i = (!ib)) := Lib.hid (by rw [Ht1.out, hI]; simp)
                clear hI Ht1
                go_wp2_with fail
                refine HAC.out.mono ?_
                rintro e y ⟨rfl, hGy, ho⟩
                have hb9 := ho.has HB1.out (by decide) (by decide)
                have r0 := hb9.cell 0
                have r1 := hb9.cell 1
                simp at r0 r1
                have HGy := Lib.hid hGy
                obtain ⟨d0, d1, d2⟩ := HC.out y hGy.world
                have HHas := Lib.hid (Sx.hasN hGy i)
                rw [HI.out] at HHas
                clear hGy ho hb9 HAC
                go_wp2_with fail
                rw [← Ht2.out]
                refine HHas.out.mono ?_
                rintro e y1 ⟨rfl, hk⟩
                have HTo := Lib.hid (Sx.total (HGy.out.stay hk))
                rw [← Htb.out] at HTo
                have HG2 := Lib.hid (HGy.out.stay hk)
                clear hk HHas HGy d0 d1 d2 r0 r1
                go_wp2_with fail
                refine HTo.out.mono ?_
                rintro e y2 ⟨rfl, hk⟩
                have HG3 := Lib.hid (HG2.out.stay hk)
                clear hk HTo HG2
                go_wp2_with fail
                go_roundw
                case rel => exact ⟨j + 1, rs2, by omega, by go_num, by rw [HI.out], by rw [← Htb.out], HG3⟩
                case measure => simp [intOf]; omega
              | false =>
                have HI : Hid (hasI rs2 i = (false)) := Lib.hid (by rw [Ht1.out, hI]; simp)
                clear hI Ht1
                go_wp2_with fail
                refine HAC.out.mono ?_
                rintro e y ⟨rfl, hGy, ho⟩
                have hb9 := ho.has HB1.out (by decide) (by decide)
                have r0 := hb9.cell 0
                have r1 := hb9.cell 1
                simp at r0 r1
                have HGy := Lib.hid hGy
                obtain ⟨d0, d1, d2⟩ := HC.out y hGy.world
                have HHas := Lib.hid (Sx.hasN hGy i)
                rw [HI.out] at HHas
                clear hGy ho hb9 HAC
                go_wp2_with fail
                rw [← Ht2.out]
                refine HHas.out.mono ?_
                rintro e y1 ⟨rfl, hk⟩
                have HTo := Lib.hid (Sx.total (HGy.out.stay hk))
                rw [← Htb.out] at HTo
                have HG2 := Lib.hid (HGy.out.stay hk)
                clear hk HHas HGy d0 d1 d2 r0 r1
                go_wp2_with fail
                refine HTo.out.mono ?_
                rintro e y2 ⟨rfl, hk⟩
                have HG3 := Lib.hid (HG2.out.stay hk)
                clear hk HTo HG2
                go_wp2_with fail
                go_roundw
                case rel => exact ⟨j + 1, rs2, by omega, by go_num, by rw [HI.out], by rw [← Htb.out], HG3⟩
                case measure => simp [intOf]; omega
            · have hb' : (cutE rs sa sn == 0) = false := beq_eq_false_iff_ne.2 hE
              have hno := cutW_no hE
              rw [hno] at HAC
              clear hno hE HG1
              generalize cutE rs sa sn = E at *
              generalize inB i sa sn = ib at *
              obtain ⟨th, hth⟩ : ∃ th, th = hasI rs i := ⟨_, rfl⟩
              rw [← hth]
              have HI : Hid (hasI rs i = th) := Lib.hid hth.symm
              clear hth
              go_wp2_with fail
              refine HAC.out.mono ?_
              rintro e y ⟨rfl, hGy, ho⟩
              have hb9 := ho.has HB1.out (by decide) (by decide)
              have r0 := hb9.cell 0
              have r1 := hb9.cell 1
              simp at r0 r1
              have HGy := Lib.hid hGy
              obtain ⟨d0, d1, d2⟩ := HC.out y hGy.world
              have HHas := Lib.hid (Sx.hasN hGy i)
              rw [HI.out] at HHas
              clear hGy ho hb9 HAC
              go_wp2_with fail
              refine HHas.out.mono ?_
              rintro e y1 ⟨rfl, hk⟩
              have HTo := Lib.hid (Sx.total (HGy.out.stay hk))
              have HG2 := Lib.hid (HGy.out.stay hk)
              clear hk HHas HGy d0 d1 d2 r0 r1
              go_wp2_with fail
              refine HTo.out.mono ?_
              rintro e y2 ⟨rfl, hk⟩
              have HG3 := Lib.hid (HG2.out.stay hk)
              clear hk HTo HG2
              go_wp2_with fail
              go_roundw
              case rel => exact ⟨j + 1, rs, by omega, by go_num, by rw [HI.out], rfl, HG3⟩
              case measure => simp [intOf]; omega
          · have g1 : (sd == 1) = false := beq_eq_false_iff_ne.2 h1
            clear h0 h1
            have HHas := Lib.hid (Sx.hasN HG1.out i)
            have HGy := HG1
            obtain ⟨th, hth⟩ : ∃ th, th = hasI rs i := ⟨_, rfl⟩
            rw [← hth] at HHas ⊢
            have HI : Hid (hasI rs i = th) := Lib.hid hth.symm
            clear hth HG1
            generalize inB i sa sn = ib at *
            go_wp2_with fail
            refine HHas.out.mono ?_
            rintro e y1 ⟨rfl, hk⟩
            have HTo := Lib.hid (Sx.total (HGy.out.stay hk))
            have HG2 := Lib.hid (HGy.out.stay hk)
            clear hk HHas HGy d0 d1 d2 r0 r1
            go_wp2_with fail
            refine HTo.out.mono ?_
            rintro e y2 ⟨rfl, hk⟩
            have HG3 := Lib.hid (HG2.out.stay hk)
            clear hk HTo HG2
            go_wp2_with fail
            go_roundw
            case rel => exact ⟨j + 1, rs, by omega, by go_num, by rw [HI.out], rfl, HG3⟩
            case measure => simp [intOf]; omega
    · obtain rfl : j = L.length := by omega
      clear hlt hj HS HO
      have HL := Lib.hid (Sx.list hG.out)
      go_wp2_with fail
      refine HL.out.mono ?_
      rintro e y1 ⟨v, rfl, hO, _, hk⟩
      have HG := Lib.hid (hG.out.stay hk)
      obtain ⟨B, rcap, rfl, hcap, hcs⟩ := ownR_later hO
      have HCS := Lib.hid hcs
      have hnl := hG.out.fine.len0
      have Hstep := Lib.hid (fun t (ht : t < rs.length) r hr => apart_step hG.out.fine (t := t) ht r hr)
      clear hO hk hcs HL hG
      obtain ⟨N, hN⟩ : ∃ N, N = rs.length := ⟨_, rfl⟩
      rw [← hN] at hnl hcap ⊢
      have HN := Lib.hid hN
      clear hN
      generalize hasI rs i = th at *
      go_wp2_with fail
      go_loopw [12, 13, 14] (fun en su t wr => ∃ k : Nat, k ≤ N ∧ t = .int .i64 (k : Int) ∧ en = .int .i64 (endOf (rs.take k)) ∧ su = .int .i64 ((total (rs.take k) : Nat) : Int) ∧ Hid (Kept [] y1 wr)) (fun _ _ t _ => N - (intOf t).toNat)
      case atStart => exact ⟨0, Nat.zero_le _, rfl, rfl, rfl, Lib.hid (Kept.refl _ _)⟩
      case round =>
        obtain ⟨k, hk, rfl, rfl, rfl, hr⟩ := hrel
        by_cases hlt : k < N
        · have hltl : k < rs.length := by rw [← HN.out]; exact hlt
          obtain ⟨g, rfl, hcell⟩ : ∃ g, B = some ⟨g, 0, none⟩ ∧ ∀ x, Kept [] y1 x → ∀ t, t < rs.length → x.cell? ⟨g, t * 2, none⟩ = some (.int .i64 ((rs.getD t (0, 0)).1 : Int)) ∧ x.cell? ⟨g, t * 2 + 1, none⟩ = some (.int .i64 ((rs.getD t (0, 0)).2 : Int)) := by
            rcases HCS.out with e | h
            · rw [e] at hltl; simp at hltl
            · exact h
          obtain ⟨r, hrr⟩ : ∃ r, r = rs.getD k (0, 0) := ⟨_, rfl⟩
          obtain ⟨s1, s2, s3, s4, s5, s6, s7, s8, s9, s10⟩ := Hstep.out k hltl r hrr
          have hcl := fun x hx => hcell x hx k hltl
          rw [← hrr] at hcl
          obtain ⟨ra, rl⟩ := r
          simp only at s1 s2 s3 s4 s5 s6 s7 s8 s9 s10 hcl
          have HCl := Lib.hid hcl
          obtain ⟨c0, c1⟩ := hcl wr hr.out
          have HO1 := Lib.hid (fun x (hx : Kept [] y1 x) => Sx.of (HG.out.stay hx) (ra : Int))
          have HO2 := Lib.hid (fun x (hx : Kept [] y1 x) => Sx.of (HG.out.stay hx) ((ra : Int) + (rl : Int) - 1))
          have HH := Lib.hid (fun x (hx : Kept [] y1 x) => Sx.hasN (HG.out.stay hx) ((ra : Int) + (rl : Int)))
          rw [s8] at HO1
          rw [s9] at HO2
          rw [s10] at HH
          have HO1' : Hid (∀ x, Kept [] y1 x → Calls Try.prog 14 #[.pointer (some ⟨p, 0, none⟩), .int .i64 (ra : Int)] x fun e w' => e = .returned (.tuple #[.agg #[.int .i64 (ra : Int), .int .i64 (rl : Int)], .bool true]) ∧ Kept [] x w') := HO1
          have HO2' : Hid (∀ x, Kept [] y1 x → Calls Try.prog 14 #[.pointer (some ⟨p, 0, none⟩), .int .i64 ((ra : Int) + (rl : Int) - 1)] x fun e w' => e = .returned (.tuple #[.agg #[.int .i64 (ra : Int), .int .i64 (rl : Int)], .bool true]) ∧ Kept [] x w') := HO2
          have S5 := Lib.hid s5
          have S6 := Lib.hid s6
          clear hcell hrr hltl s5 s6 s8 s9 s10 HO1 HO2 hcl
          generalize endOf (rs.take k) = ev at *
          generalize total (rs.take k) = tv at *
          go_wp2_with fail
          have hwa : IntKind.i64.wrap ((ra : Int) + (rl : Int)) = (ra : Int) + (rl : Int) := by rw [IntKind.wrap_i64]; omega
          go_quiet (fail)
          have hkq : Kept [] wr (wr.drewN nq) := (Kept.refl [] wr).drewN nq
          clear c0 c1 hwa
          generalize wr.drewN nq = W2 at hkq ⊢
          have H2 := Lib.hid (hr.out.trans hkq)
          obtain ⟨c0, c1⟩ := HCl.out W2 H2.out
          clear hkq hr
          go_wp2_with fail
          refine (HO1'.out _ H2.out).mono ?_
          rintro e y2 ⟨rfl, hk2⟩
          have H3 := Lib.hid (H2.out.trans hk2)
          clear hk2 c0 c1 H2 HO1'
          go_wp2_with fail
          have hk3 : Kept [] y2 (y2.alloc (.cells #[.int .i64 (ra : Int), .int .i64 (rl : Int)] 29)) := (Kept.refl [] y2).alloc _
          have hx3 : Has (y2.alloc (.cells #[.int .i64 (ra : Int), .int .i64 (rl : Int)] 29)) y2.heap.size 29 [.int .i64 (ra : Int), .int .i64 (rl : Int)] := Has.new y2 _ [.int .i64 (ra : Int), .int .i64 (rl : Int)]
          generalize y2.alloc (.cells #[.int .i64 (ra : Int), .int .i64 (rl : Int)] 29) = y3 at *
          generalize y2.heap.size = bx at *
          have H4 := Lib.hid (H3.out.trans hk3)
          have HX3 := Lib.hid hx3
          clear hk3 hx3 H3
          refine (HO2'.out _ H4.out).mono ?_
          rintro e y4 ⟨rfl, hk4⟩
          have H5 := Lib.hid (H4.out.trans hk4)
          have HX4 := Lib.hid (HX3.out.keep0 hk4)
          clear hk4 H4 HX3 HO2'
          go_wp2_with fail
          have hk5 : Kept [] y4 (y4.alloc (.cells #[.int .i64 (ra : Int), .int .i64 (rl : Int)] 29)) := (Kept.refl [] y4).alloc _
          have hy5 : Has (y4.alloc (.cells #[.int .i64 (ra : Int), .int .i64 (rl : Int)] 29)) y4.heap.size 29 [.int .i64 (ra : Int), .int .i64 (rl : Int)] := Has.new y4 _ [.int .i64 (ra : Int), .int .i64 (rl : Int)]
          generalize y4.alloc (.cells #[.int .i64 (ra : Int), .int .i64 (rl : Int)] 29) = y5 at *
          generalize y4.heap.size = bz at *
          have H6 := Lib.hid (H5.out.trans hk5)
          have HX5 := Lib.hid (HX4.out.keep0 hk5)
          have HY5 := Lib.hid hy5
          clear hk5 hy5 H5 HX4
          have x0 := cell_regrown (show y5.cell? ⟨bx, 0, none⟩ = some (.int .i64 (ra : Int)) from HX5.out.cell 0)
          have x1 := cell_regrown (show y5.cell? ⟨bx, 1, none⟩ = some (.int .i64 (rl : Int)) from HX5.out.cell 1)
          have z0 := cell_regrown (show y5.cell? ⟨bz, 0, none⟩ = some (.int .i64 (ra : Int)) from HY5.out.cell 0)
          have z1 := cell_regrown (show y5.cell? ⟨bz, 1, none⟩ = some (.int .i64 (rl : Int)) from HY5.out.cell 1)
          have c0 := cell_regrown (HCl.out y5 H6.out).1
          have c1 := cell_regrown (HCl.out y5 H6.out).2
          have CC := Lib.hid (fun d os => Calls.regrown_of ((HH.out (grow (redrawn y5 d) os) (H6.out.trans (Kept.ofBelow (below_regrown y5 d os) []))).mono fun _ _ ⟨he, hk⟩ => ⟨he, hk.below (Nat.le_refl _) (by simp)⟩))
          clear HX5 HY5
          refine wp_region_quiet_below (by kernel_rfl) (by kernel_rfl) ?_
          repeat (first | go_big_quiet_step (exact CC.out _ _) | quiet_step (exact CC.out _ _))
          refine wpQuiet_nil ?_
          rintro _ ⟨⟨dq, osq⟩, rfl⟩
          have hk7 := Kept.ofBelow (below_regrown y5 dq osq) []
          clear x0 x1 z0 z1 c0 c1 CC
          generalize grow (redrawn y5 dq) osq = y6 at hk7 ⊢
          have H7 := Lib.hid (H6.out.trans hk7)
          clear hk7 H6
          go_wp2_with fail
          go_roundw
          case rel => exact ⟨k + 1, by omega, by go_num, by rw [S5.out], by rw [S6.out, Int.natCast_add], H7⟩
          case measure => simp [intOf]; omega
        · obtain rfl : k = N := by omega
          have Htk : Hid (total (rs.take k) = total rs) := Lib.hid (by rw [HN.out, List.take_length])
          rw [Htk.out]
          have HV := Lib.hid (HA.out wr)
          have HW := Lib.hid (HG.out.world.trans hr.out)
          clear hr HA HG
          generalize total rs = tt at *
          generalize endOf (rs.take k) = ev at *
          go_wp2_with fail
          refine HV.out.mono ?_
          rintro e y2 ⟨rfl, hk2⟩
          have H2 := Lib.hid (HW.out.trans hk2)
          clear hk2
          go_wp2_with fail
          go_ret
          exact ⟨rfl, H2.out⟩
theorem apart_any (A : Option Addr) (L : List Stp) (cap : Nat) (i : Int) (w : World) (hc : L.length ≤ cap) (hm : cap ≤ maxLen) (hst : Steps w A L) (hoks : ∀ s ∈ L, s.ok) (i1 : -9223372036854775808 ≤ i) (i2 : i ≤ 9223372036854775807) :
    Calls Try.prog 4 #[.slice A L.length cap, .int .i64 i] w fun e w' => e = .returned (.bool true) ∧ Kept [] w w' := by
  by_cases h : L.length ≤ 60
  · exact apart_walk A L cap i w h hst hoks i1 i2
  · exact apart_long A L.length cap i w (by omega) (by omega)
end Go.Proofs.Ytbgonppichdhiaa.Rn
