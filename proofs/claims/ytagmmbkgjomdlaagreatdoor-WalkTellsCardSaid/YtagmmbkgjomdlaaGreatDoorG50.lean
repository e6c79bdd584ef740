/-
  Several texts in one: WkDocObjs, WkDocGaps, WkDocCount.
-/
import Derived.Test.YtagmmbkgjomdlaaGreatDoorG41
import Derived.Test.YtagmmbkgjomdlaaGreatDoorG43
import Derived.Deep.RegionLaw
import Derived.StillTailTactics
/-
  The document's Objects and begins, of a row of cells.
-/
namespace Go.Proofs.YtagmmbkgjomdlaaGreatDoor.Wk
open Go.RowKit Go.Proofs.YtagmmbkgjomdlaaGreatDoor.Ar Go.Proofs.YtagmmbkgjomdlaaGreatDoor.Sp
open Go.Proofs.YtagmmbkgjomdlaaGreatDoor.Hd (Hd)
set_option linter.unusedVariables false

set_option maxRecDepth 100000 in
set_option maxHeartbeats 2000000 in
theorem dobjects_ok {w : World} {A : Option Addr} {c : Nat} (cs : List Cel) (hA : Sp.Seen w A cs) (hlen : cs.length ≤ 32768) :
    Calls Tryz.prog 13 #[.slice A cs.length c] w fun e w' => ∃ v, e = .returned v ∧ Sp.Own w' v (objs cs) ∧ Sp.FreshV w v ∧ Kept [] w w' := by
  have HA := Lib.hid hA
  have H0 : Hid (Sp.Own w (.slice none 0 0) (objs (cs.take 0)) ∧ Sp.FreshV w (.slice none 0 0) ∧ Kept [] w w) := Lib.hid ⟨Sp.Own.nil _, .inl rfl, Kept.refl _ _⟩
  clear hA
  go_enter Tryz.func13, Tryz.ntmps13
  go_wp2_with fail
  go_loopw [3, 4] (fun v t wr => ∃ j : Nat, t = .int .i64 (j : Int) ∧ j ≤ cs.length ∧ Hid (Sp.Own wr v (objs (cs.take j)) ∧ Sp.FreshV w v ∧ Kept [] w wr)) (fun _ t _ => cs.length - (intOf t).toNat)
  case atStart => exact ⟨0, rfl, Nat.zero_le _, H0⟩
  case round =>
    obtain ⟨j, rfl, hj, hr⟩ := hrel
    clear H0
    generalize u3 = v at *
    have HO := Lib.hid hr.out.1
    have HV := Lib.hid hr.out.2.1
    have HK := Lib.hid hr.out.2.2
    clear hr
    by_cases hlt : j < cs.length
    · obtain ⟨g, o, rfl, hg, c0, c1, c2, c3, c4⟩ := (HA.out.keep0 HK.out).at j hlt _ rfl
      have hsn := objs_snoc (cs.take j) (cs.getD j Cel.zero)
      rw [← cel_take hlt] at hsn
      have hfew : (objs (cs.take j)).length ≤ 32768 := Nat.le_trans (List.length_filter_le _ _) (by rw [List.length_take]; omega)
      generalize cs.getD j Cel.zero = x at *
      obtain ⟨xa, ⟨xt, xy, xl, xz⟩⟩ := x
      simp only at hsn c0 c1 c2 c3 c4
      by_cases ht : xt = 1
      · subst ht
        rw [if_pos rfl] at hsn
        have HSn := Lib.hid hsn
        have hka : Kept [] wr (wr.alloc (.cells #[.int .i64 xa, .int .u8 1, .int .i64 xy, .int .i64 xl, .int .i64 xz] 78)) := (Kept.refl [] wr).alloc _
        have HSe : Hid (Sp.Seen (wr.alloc (.cells #[.int .i64 xa, .int .u8 1, .int .i64 xy, .int .i64 xl, .int .i64 xz] 78)) (some ⟨wr.heap.size, 0, none⟩) [⟨xa, ⟨1, xy, xl, xz⟩⟩]) := Lib.hid (Sp.seen_one (x := ⟨xa, ⟨1, xy, xl, xz⟩⟩) (Has.new wr _ _))
        have HOa := Lib.hid (HO.out.keep0 hka)
        have HKa := Lib.hid (HK.out.trans hka)
        clear hka hsn
        generalize objs (cs.take j) = os at *
        go_wp2_with (at_builtin; (refine append_cels rfl (.tmp 18) (.tmp 23) rfl v os rfl HOa.out (some ⟨wr.heap.size, 0, none⟩) 1 [⟨xa, ⟨1, xy, xl, xz⟩⟩] rfl (fun h => by cases h) HSe.out (by rw [List.length_singleton]; omega) ?_))
        intro v' w4 o4 g4 b4 _
        have hk4 := own_grown HKa.out HV.out g4
        have hf4 := own_fresh (v' := v') HKa.out HV.out (by rw [World.size_alloc]; exact b4)
        have HN : Hid (Sp.Own w4 v' (objs (cs.take (j + 1))) ∧ Sp.FreshV w v' ∧ Kept [] w w4) := Lib.hid ⟨by rw [HSn.out]; exact o4, hf4, hk4⟩
        clear o4 g4 b4 hk4 hf4 HSn HSe HOa HKa HO HK HV
        go_wp2_with fail
        go_roundw
        case rel => exact ⟨j + 1, by go_num, by omega, HN⟩
        case measure => simp [intOf] <;> omega
      · rw [if_neg ht] at hsn
        have hb : (xt == 1) = false := by simpa using ht
        have HN : Hid (Sp.Own wr v (objs (cs.take (j + 1))) ∧ Sp.FreshV w v ∧ Kept [] w wr) := Lib.hid ⟨by rw [hsn]; exact HO.out, HV.out, HK.out⟩
        clear hsn ht HO HK HV
        go_wp2_with fail
        go_roundw
        case rel => exact ⟨j + 1, by go_num, by omega, HN⟩
        case measure => simp [intOf] <;> omega
    · obtain rfl : j = cs.length := by omega
      have ho := HO.out
      rw [List.take_length] at ho
      have HO := Lib.hid ho
      clear ho
      go_wp2_with fail
      go_ret
      exact ⟨v, rfl, HO.out, HV.out, HK.out⟩
end Go.Proofs.YtagmmbkgjomdlaaGreatDoor.Wk

/-
  The document's Gaps, of a row of cells and a row of tags.
-/
namespace Go.Proofs.YtagmmbkgjomdlaaGreatDoor.Wk
open Go.RowKit Go.Proofs.YtagmmbkgjomdlaaGreatDoor.Ar
open Go.Proofs.YtagmmbkgjomdlaaGreatDoor.Sp hiding Own own_from own_put back_own Seen own_cells seen_one
open Go.Proofs.YtagmmbkgjomdlaaGreatDoor.Hd (Hd)
set_option linter.unusedVariables false

set_option maxRecDepth 100000 in
set_option maxHeartbeats 4000000 in
theorem dgaps_ok {w : World} {A G : Option Addr} {c d : Nat} (cs : List Cel) (tags : List Int) (hA : Sp.Seen w A cs) (hlen : cs.length ≤ 32768) (hG : By.Seen w G tags) (htl : tags.length ≤ 1000000) :
    Calls Tryz.prog 16 #[.slice A cs.length c, .slice G tags.length d] w fun e w' => ∃ v, e = .returned v ∧ Own Rn w' v (gapR tags cs) ∧ Sp.FreshV w v ∧ Kept [] w w' := by
  have HA := Lib.hid hA
  have HG := Lib.hid hG
  have H0 : Hid (Own Rn w (.slice none 0 0) (gapR tags (cs.take 0)) ∧ Sp.FreshV w (.slice none 0 0) ∧ Kept [] w w) := Lib.hid ⟨Own.nil _, .inl rfl, Kept.refl _ _⟩
  clear hA hG
  go_enter Tryz.func16, Tryz.ntmps16
  go_wp2_with fail
  go_loopw [5, 6] (fun v t wr => ∃ j : Nat, t = .int .i64 (j : Int) ∧ j ≤ cs.length ∧ Hid (Own Rn wr v (gapR tags (cs.take j)) ∧ Sp.FreshV w v ∧ Kept [] w wr)) (fun _ t _ => cs.length - (intOf t).toNat)
  case atStart => exact ⟨0, rfl, Nat.zero_le _, H0⟩
  case round =>
    obtain ⟨j, rfl, hj, hr⟩ := hrel
    clear H0
    generalize u5 = v at *
    have HO := Lib.hid hr.out.1
    have HV := Lib.hid hr.out.2.1
    have HK := Lib.hid hr.out.2.2
    clear hr
    by_cases hlt : j < cs.length
    · obtain ⟨gb, o, rfl, hg, a0, a1, a2, a3, a4⟩ := HA.out.at j hlt _ rfl
      have hsn := gapR_snoc tags (cs.take j) (cs.getD j Cel.zero)
      rw [← cel_take hlt] at hsn
      have hfew : (gapR tags (cs.take j)).length + 1 ≤ 1073741824 := by
        have h1 := gapR_len tags (cs.take j)
        have h2 : (cs.take j).length ≤ j := by rw [List.length_take]; omega
        omega
      generalize cs.getD j Cel.zero = x at *
      obtain ⟨xa, ⟨xt, xy, xl, xz⟩⟩ := x
      simp only at hsn a0 a1 a2 a3 a4
      have HCl : Hid (∀ y : World, Kept [] w y → y.cell? ⟨gb, o + j * 5, none⟩ = some (.int .i64 xa) ∧ y.cell? ⟨gb, o + j * 5 + 1, none⟩ = some (.int .u8 xt) ∧ y.cell? ⟨gb, o + j * 5 + 4, none⟩ = some (.int .i64 xz)) := Lib.hid fun y ky => ⟨(World.cell?_of_block (w := w) (ky.old gb hg (by simp))).trans a0, (World.cell?_of_block (w := w) (ky.old gb hg (by simp))).trans a1, (World.cell?_of_block (w := w) (ky.old gb hg (by simp))).trans a4⟩
      have HSn := Lib.hid hsn
      obtain ⟨wo, hwo⟩ : ∃ wo, wo = wr := ⟨_, rfl⟩
      subst hwo
      have HI0 : Hid (false = (tags.take 0).contains xt ∧ Kept [] wo wo) := Lib.hid ⟨by simp, Kept.refl _ _⟩
      clear a0 a1 a2 a3 a4 hsn
      generalize gapR tags (cs.take j) = rs at *
      go_wp2_with fail
      go_loopw [7, 8] (fun b t wi => ∃ (k : Nat) (bb : Bool), b = .bool bb ∧ t = .int .i64 (k : Int) ∧ k ≤ tags.length ∧ Hid (bb = (tags.take k).contains xt ∧ Kept [] wo wi)) (fun _ t _ => tags.length - (intOf t).toNat)
      case atStart => exact ⟨0, false, rfl, rfl, Nat.zero_le _, HI0⟩
      case round =>
        clear HI0
        obtain ⟨k, bb, rfl, rfl, hk, hi⟩ := hrel
        by_cases hkt : k < tags.length
        · have htk := num_take hkt
          have hcon : ∀ b2 : Bool, b2 = (bb || (xt == tags.getD k 0)) → b2 = (tags.take (k + 1)).contains xt := fun b2 e => by
            rw [e, hi.out.1, htk, Bool.eq_iff_iff, Bool.or_eq_true, List.contains_iff_mem, List.contains_iff_mem, List.mem_append, List.mem_singleton, beq_iff_eq]
          have HCon := Lib.hid hcon
          cases bb with
          | true =>
            have HN : Hid (true = (tags.take (k + 1)).contains xt ∧ Kept [] wo (wr.drewN 0)) := Lib.hid ⟨HCon.out true (by simp), hi.out.2.drewN 0⟩
            clear hcon htk HN
            go_wp2_with fail
            go_quiet (fail)
            have HN : Hid (true = (tags.take (k + 1)).contains xt ∧ Kept [] wo (wr.drewN nq)) := Lib.hid ⟨HCon.out true (by simp), hi.out.2.drewN nq⟩
            clear hi HCon
            go_wp2_with fail
            go_roundw
            case rel => exact ⟨k + 1, true, rfl, by go_num, by omega, HN⟩
            case measure => simp [intOf] <;> omega
          | false =>
            obtain ⟨gt, ot, rfl, hct⟩ := (HG.out.keep0 (HK.out.trans hi.out.2)).cells (by intro e; simp [e] at hkt)
            have ct := hct k hkt
            obtain ⟨c0, c1, c4⟩ := HCl.out wr (HK.out.trans hi.out.2)
            clear hct hcon htk
            generalize tags.getD k 0 = y at *
            by_cases hy : y = xt
            · have hq : (y == xt) = true := by simpa using hy
              have HCn : Hid (true = (tags.take (k + 1)).contains xt) := Lib.hid (HCon.out true (by simp [hy]))
              clear hy HCon
              go_wp2_with fail
              go_quiet (fail)
              have HN : Hid (true = (tags.take (k + 1)).contains xt ∧ Kept [] wo (wr.drewN nq)) := Lib.hid ⟨HCn.out, hi.out.2.drewN nq⟩
              clear hi HCn c0 c1 c4 ct hq
              go_wp2_with fail
              go_roundw
              case rel => exact ⟨k + 1, true, rfl, by go_num, by omega, HN⟩
              case measure => simp [intOf] <;> omega
            · have hq : (y == xt) = false := by simpa using hy
              have HCn : Hid (false = (tags.take (k + 1)).contains xt) := Lib.hid (HCon.out false (by simp; exact fun e => hy e.symm))
              clear hy HCon
              go_wp2_with fail
              go_quiet (fail)
              have HN : Hid (false = (tags.take (k + 1)).contains xt ∧ Kept [] wo (wr.drewN nq)) := Lib.hid ⟨HCn.out, hi.out.2.drewN nq⟩
              clear hi HCn c0 c1 c4 ct hq
              go_wp2_with fail
              go_roundw
              case rel => exact ⟨k + 1, false, rfl, by go_num, by omega, HN⟩
              case measure => simp [intOf] <;> omega
        · obtain rfl : k = tags.length := by omega
          have hb := hi.out.1
          rw [List.take_length] at hb
          have hki := hi.out.2
          have hO1 := HO.out.keep0 hki
          have hK1 := HK.out.trans hki
          obtain ⟨c0, c1, c4⟩ := HCl.out wr hK1
          have HO1 := Lib.hid hO1
          have HK1 := Lib.hid hK1
          have hsn := HSn.out
          rw [← hb] at hsn
          clear hi hb hki hO1 hK1 HO HK HSn
          cases bb with
          | false =>
            have HN : Hid (Own Rn wr v (gapR tags (cs.take (j + 1))) ∧ Sp.FreshV w v ∧ Kept [] w wr) := Lib.hid ⟨by rw [hsn, if_neg (by simp)]; exact HO1.out, HV.out, HK1.out⟩
            clear hsn HO1 HV HK1
            go_wp2_with fail
            go_roundw
            case rel => exact ⟨j + 1, by go_num, by omega, HN⟩
            case measure => simp [intOf] <;> omega
          | true =>
            by_cases ht : xt = 1
            · subst ht
              have HN : Hid (Own Rn wr v (gapR tags (cs.take (j + 1))) ∧ Sp.FreshV w v ∧ Kept [] w wr) := Lib.hid ⟨by rw [hsn, if_neg (by simp)]; exact HO1.out, HV.out, HK1.out⟩
              clear hsn HO1 HV HK1
              go_wp2_with fail
              go_roundw
              case rel => exact ⟨j + 1, by go_num, by omega, HN⟩
              case measure => simp [intOf] <;> omega
            · have hq : (xt != 1) = true := by simpa using ht
              rw [if_pos (by simp [ht])] at hsn
              have HSn := Lib.hid hsn
              clear hsn ht
              go_wp2_with fail
              have hka : Kept [] wr ((wr.alloc (.cells #[.int .i64 xa, .int .i64 xz] 92)).drew) := ((Kept.refl [] wr).alloc _).drew
              have H0 : Hid (Seen Rn ((wr.alloc (.cells #[.int .i64 xa, .int .i64 xz] 92)).drew) (some ⟨wr.heap.size, 0, none⟩) [((xa, xz) : Int × Int)]) := Lib.hid (seen_one (K := Rn) (Has.new wr 92 [.int .i64 xa, .int .i64 xz]).drew)
              have HOa := Lib.hid (HO1.out.keep0 hka)
              have Hka := Lib.hid (HK1.out.trans hka)
              clear hka HO1 HK1
              go_region_law ((refine step_append Rn (by rfl) (.tmp 45) (.tmp 58) (by rfl) v rs (by rfl) HOa.out (some ⟨wr.heap.size, 0, none⟩) 1 1 [((xa, xz) : Int × Int)] (by rfl) rfl (fun h => by cases h) H0.out hfew ?_; intro v' w4 o4 g4 b4; have hn : Hid (Own Rn w4 v' (gapR tags (cs.take (j + 1))) ∧ Sp.FreshV w v' ∧ Kept [] w w4) := Lib.hid ⟨by rw [HSn.out]; exact o4, own_fresh (v' := v') Hka.out HV.out b4, own_grown Hka.out HV.out g4⟩; clear o4 g4 b4))
              all_goals
                clear H0 HOa Hka HSn HV c0 c1 c4 hq
                go_wp2_with fail
                go_roundw
                case rel => exact ⟨j + 1, by go_num, by omega, hn⟩
                case measure => simp [intOf] <;> omega
    · obtain rfl : j = cs.length := by omega
      have ho := HO.out
      rw [List.take_length] at ho
      have HO := Lib.hid ho
      clear ho
      go_wp2_with fail
      go_ret
      exact ⟨v, rfl, HO.out, HV.out, HK.out⟩
end Go.Proofs.YtagmmbkgjomdlaaGreatDoor.Wk

/-
  The document's Count, of a row of cells.
-/
namespace Go.Proofs.YtagmmbkgjomdlaaGreatDoor.Wk
open Go.RowKit Go.Proofs.YtagmmbkgjomdlaaGreatDoor.Ar Go.Proofs.YtagmmbkgjomdlaaGreatDoor.Sp
open Go.Proofs.YtagmmbkgjomdlaaGreatDoor.Hd (Hd)
set_option linter.unusedVariables false

set_option maxRecDepth 100000 in
set_option maxHeartbeats 4000000 in
theorem dcount_ok {w : World} {A : Option Addr} {c : Nat} (cs : List Cel) (hA : Sp.Seen w A cs) (hlen : cs.length ≤ 32768) (hsz : ∀ c ∈ cs, (1 ≤ c.h.sz ∧ c.h.sz ≤ 32768)) :
    Calls Tryz.prog 21 #[.slice A cs.length c] w fun e w' => e = .returned (.agg (tally cs).enc.toArray) ∧ Kept [] w w' := by
  have HA := Lib.hid hA
  have HZ := Lib.hid hsz
  obtain ⟨tt, htt⟩ : ∃ tt, tt = tally cs := ⟨_, rfl⟩
  rw [← htt]
  have HT := Lib.hid htt
  have A2 : Has ((w.alloc (.cells #[.int .i64 0, .int .i64 0, .int .i64 0, .int .i64 0, .int .i64 0, .int .i64 0] 53)).alloc (.cells #[.int .i64 0, .int .i64 0, .int .i64 0, .int .i64 0, .int .i64 0, .int .i64 0] 53)) (w.heap.size + 1) 53 [.int .i64 0, .int .i64 0, .int .i64 0, .int .i64 0, .int .i64 0, .int .i64 0] := by
    have := Has.new (w.alloc (.cells #[.int .i64 0, .int .i64 0, .int .i64 0, .int .i64 0, .int .i64 0, .int .i64 0] 53)) 53 [.int .i64 0, .int .i64 0, .int .i64 0, .int .i64 0, .int .i64 0, .int .i64 0]
    rwa [World.size_alloc] at this
  have A1 : Has ((w.alloc (.cells #[.int .i64 0, .int .i64 0, .int .i64 0, .int .i64 0, .int .i64 0, .int .i64 0] 53)).alloc (.cells #[.int .i64 0, .int .i64 0, .int .i64 0, .int .i64 0, .int .i64 0, .int .i64 0] 53)) w.heap.size 53 [.int .i64 0, .int .i64 0, .int .i64 0, .int .i64 0, .int .i64 0, .int .i64 0] := (Has.new w 53 [.int .i64 0, .int .i64 0, .int .i64 0, .int .i64 0, .int .i64 0, .int .i64 0]).alloc _
  obtain ⟨d0, d1, d2, d3, d4, d5⟩ := cells6 A2
  obtain ⟨f0, f1, f2, f3, f4, f5⟩ := free6 A2
  have H0 : Hid (Has ((w.alloc (.cells #[.int .i64 0, .int .i64 0, .int .i64 0, .int .i64 0, .int .i64 0, .int .i64 0] 53)).alloc (.cells #[.int .i64 0, .int .i64 0, .int .i64 0, .int .i64 0, .int .i64 0, .int .i64 0] 53)) (w.heap.size + 1) 53 (tally (cs.take 0)).enc ∧ Has ((w.alloc (.cells #[.int .i64 0, .int .i64 0, .int .i64 0, .int .i64 0, .int .i64 0, .int .i64 0] 53)).alloc (.cells #[.int .i64 0, .int .i64 0, .int .i64 0, .int .i64 0, .int .i64 0, .int .i64 0] 53)) w.heap.size 53 [.int .i64 0, .int .i64 0, .int .i64 0, .int .i64 0, .int .i64 0, .int .i64 0] ∧ Kept [] w ((w.alloc (.cells #[.int .i64 0, .int .i64 0, .int .i64 0, .int .i64 0, .int .i64 0, .int .i64 0] 53)).alloc (.cells #[.int .i64 0, .int .i64 0, .int .i64 0, .int .i64 0, .int .i64 0, .int .i64 0] 53))) := Lib.hid ⟨A2, A1, ((Kept.refl [] w).alloc _).alloc _⟩
  clear hA hsz htt A1 A2
  go_enter Tryz.func21, Tryz.ntmps21
  go_wp2_with fail
  clear d0 d1 d2 d3 d4 d5 f0 f1 f2 f3 f4 f5
  go_loopw [4] (fun t wr => ∃ k : Nat, t = .int .i64 (k : Int) ∧ k ≤ cs.length ∧ Hid (Has wr (w.heap.size + 1) 53 (tally (cs.take k)).enc ∧ Has wr w.heap.size 53 [.int .i64 0, .int .i64 0, .int .i64 0, .int .i64 0, .int .i64 0, .int .i64 0] ∧ Kept [] w wr)) (fun t _ => cs.length - (intOf t).toNat)
  case atStart => exact ⟨0, rfl, Nat.zero_le _, H0⟩
  case round =>
    obtain ⟨k, rfl, hk, hr⟩ := hrel
    clear H0
    by_cases hlt : k < cs.length
    · obtain ⟨gb, o, rfl, hg, a0, a1, a2, a3, a4⟩ := HA.out.at k hlt _ rfl
      have hos := tally_snoc (cs.take k) (cs.getD k Cel.zero)
      rw [← cel_take hlt] at hos
      have hti := tally_in _ (cs.take k) rfl (fun c hc => HZ.out c (List.mem_of_mem_take hc))
      have hle : ((cs.take k).length : Int) ≤ 32768 := by rw [List.length_take]; omega
      have hzz := HZ.out _ (cel_mem hlt)
      generalize cs.getD k Cel.zero = x at *
      obtain ⟨xa, ⟨xt, xy, xl, xz⟩⟩ := x
      simp only at hos hzz a0 a1 a2 a3 a4
      have HCl : Hid (∀ y : World, Kept [] w y → y.cell? ⟨gb, o + k * 5 + 1, none⟩ = some (.int .u8 xt) ∧ y.cell? ⟨gb, o + k * 5 + 4, none⟩ = some (.int .i64 xz)) := Lib.hid fun y ky => ⟨(World.cell?_of_block (w := w) (ky.old gb hg (by simp))).trans a1, (World.cell?_of_block (w := w) (ky.old gb hg (by simp))).trans a4⟩
      obtain ⟨c1, c4⟩ := HCl.out wr hr.out.2.2
      clear a0 a1 a2 a3 a4
      have h3 := hr.out.1
      have HOs := Lib.hid hos
      have H2 := Lib.hid hr.out.2.1
      have HK := Lib.hid hr.out.2.2
      clear hr hos
      generalize (cs.take k).length = nv at *
      generalize tally (cs.take k) = tt at *
      obtain ⟨t0, t1, t2, t3, t4, t5⟩ := tt
      unfold Tal.In at hti
      simp only at hti
      unfold Tal.enc at h3
      simp only at h3
      obtain ⟨d0, d1, d2, d3, d4, d5⟩ := cells6 h3
      obtain ⟨f0, f1, f2, f3, f4, f5⟩ := free6 h3
      have H3 := Lib.hid h3
      have w0 : IntKind.i64.wrap (t0 + 1) = t0 + 1 := by rw [IntKind.wrap_i64]; omega
      have w1 : IntKind.i64.wrap (t1 + 1) = t1 + 1 := by rw [IntKind.wrap_i64]; omega
      have w2 : IntKind.i64.wrap (t2 + 1) = t2 + 1 := by rw [IntKind.wrap_i64]; omega
      have w3 : IntKind.i64.wrap (t3 + xz) = t3 + xz := by rw [IntKind.wrap_i64]; omega
      have w4 : IntKind.i64.wrap (t4 + xz) = t4 + xz := by rw [IntKind.wrap_i64]; omega
      have w5 : IntKind.i64.wrap (t5 + xz) = t5 + xz := by rw [IntKind.wrap_i64]; omega
      clear h3 hti hzz hle
      unfold Tal.add at HOs
      simp only at HOs
      by_cases ht : xt = 1
      · subst ht
        rw [if_pos rfl] at HOs
        have hk1 : Kept [w.heap.size + 1] wr (wr.setCell ⟨w.heap.size + 1, 0, none⟩ (.int .i64 (t0 + 1))) := (Kept.refl _ wr).setCell _ _ (.inl (by simp))
        have h31 : Has (wr.setCell ⟨w.heap.size + 1, 0, none⟩ (.int .i64 (t0 + 1))) (w.heap.size + 1) 53 [.int .i64 (t0 + 1), .int .i64 t1, .int .i64 t2, .int .i64 t3, .int .i64 t4, .int .i64 t5] := H3.out.put 0 (.int .i64 (t0 + 1))
        have h21 := H2.out.kept hk1 (by simp)
        have hK1 := HK.out.forget hk1 (by simp)
        clear hk1
        go_wp2_with fail
        generalize wr.setCell ⟨w.heap.size + 1, 0, none⟩ (.int .i64 (t0 + 1)) = W1 at *
        have H31 := Lib.hid h31
        have H21 := Lib.hid h21
        have HK1 := Lib.hid hK1
        clear c1 c4 d0 d1 d2 d3 d4 d5 f0 f1 f2 f3 f4 f5 H3 H2 HK
        obtain ⟨c1, c4⟩ := HCl.out W1 hK1
        obtain ⟨d0, d1, d2, d3, d4, d5⟩ := cells6 h31
        clear h31 h21 hK1
        go_still_tail 10, (by kernel_rfl)
        change wpList _ _ _ _ _ W1.drew
        have hk2 : Kept [] W1 W1.drew := (Kept.refl [] W1).drew
        clear c1 c4 d0 d1 d2 d3 d4 d5
        generalize W1.drew = W2 at hk2 ⊢
        have h32 := H31.out.keep0 hk2
        have H32 := Lib.hid h32
        have H22 := Lib.hid (H21.out.keep0 hk2)
        have HK2 := Lib.hid (HK1.out.trans hk2)
        obtain ⟨f0, f1, f2, f3, f4, f5⟩ := free6 h32
        obtain ⟨d0, d1, d2, d3, d4, d5⟩ := cells6 h32
        clear h32 hk2 H31 H21 HK1
        have HN : Hid (Has (W2.setCell ⟨w.heap.size + 1, 3, none⟩ (.int .i64 (t3 + xz))) (w.heap.size + 1) 53 (tally (cs.take (k + 1))).enc ∧ Has (W2.setCell ⟨w.heap.size + 1, 3, none⟩ (.int .i64 (t3 + xz))) w.heap.size 53 [.int .i64 0, .int .i64 0, .int .i64 0, .int .i64 0, .int .i64 0, .int .i64 0] ∧ Kept [] w (W2.setCell ⟨w.heap.size + 1, 3, none⟩ (.int .i64 (t3 + xz)))) := Lib.hid (by
          have hKS : Kept [w.heap.size + 1] W2 (W2.setCell ⟨w.heap.size + 1, 3, none⟩ (.int .i64 (t3 + xz))) := (Kept.refl _ W2).setCell _ _ (.inl (by simp))
          exact ⟨by rw [HOs.out]; exact H32.out.put 3 (.int .i64 (t3 + xz)), H22.out.kept hKS (by simp), HK2.out.forget hKS (by simp)⟩)
        clear HOs H32 H22 HK2
        go_wp2_with fail
        go_roundw
        case rel => exact ⟨k + 1, by go_num, by omega, HN⟩
        case measure => simp [intOf] <;> omega
      · by_cases ht2 : xt = 2
        · subst ht2
          rw [if_neg (by decide), if_pos rfl] at HOs
          have hk1 : Kept [w.heap.size + 1] wr (wr.setCell ⟨w.heap.size + 1, 1, none⟩ (.int .i64 (t1 + 1))) := (Kept.refl _ wr).setCell _ _ (.inl (by simp))
          have h31 : Has (wr.setCell ⟨w.heap.size + 1, 1, none⟩ (.int .i64 (t1 + 1))) (w.heap.size + 1) 53 [.int .i64 t0, .int .i64 (t1 + 1), .int .i64 t2, .int .i64 t3, .int .i64 t4, .int .i64 t5] := H3.out.put 1 (.int .i64 (t1 + 1))
          have h21 := H2.out.kept hk1 (by simp)
          have hK1 := HK.out.forget hk1 (by simp)
          clear hk1
          go_wp2_with fail
          generalize wr.setCell ⟨w.heap.size + 1, 1, none⟩ (.int .i64 (t1 + 1)) = W1 at *
          have H31 := Lib.hid h31
          have H21 := Lib.hid h21
          have HK1 := Lib.hid hK1
          clear c1 c4 d0 d1 d2 d3 d4 d5 f0 f1 f2 f3 f4 f5 H3 H2 HK
          obtain ⟨c1, c4⟩ := HCl.out W1 hK1
          obtain ⟨d0, d1, d2, d3, d4, d5⟩ := cells6 h31
          clear h31 h21 hK1
          go_still_tail 10, (by kernel_rfl)
          change wpList _ _ _ _ _ W1.drew
          have hk2 : Kept [] W1 W1.drew := (Kept.refl [] W1).drew
          clear c1 c4 d0 d1 d2 d3 d4 d5
          generalize W1.drew = W2 at hk2 ⊢
          have h32 := H31.out.keep0 hk2
          have H32 := Lib.hid h32
          have H22 := Lib.hid (H21.out.keep0 hk2)
          have HK2 := Lib.hid (HK1.out.trans hk2)
          obtain ⟨f0, f1, f2, f3, f4, f5⟩ := free6 h32
          obtain ⟨d0, d1, d2, d3, d4, d5⟩ := cells6 h32
          clear h32 hk2 H31 H21 HK1
          have HN : Hid (Has (W2.setCell ⟨w.heap.size + 1, 5, none⟩ (.int .i64 (t5 + xz))) (w.heap.size + 1) 53 (tally (cs.take (k + 1))).enc ∧ Has (W2.setCell ⟨w.heap.size + 1, 5, none⟩ (.int .i64 (t5 + xz))) w.heap.size 53 [.int .i64 0, .int .i64 0, .int .i64 0, .int .i64 0, .int .i64 0, .int .i64 0] ∧ Kept [] w (W2.setCell ⟨w.heap.size + 1, 5, none⟩ (.int .i64 (t5 + xz)))) := Lib.hid (by
            have hKS : Kept [w.heap.size + 1] W2 (W2.setCell ⟨w.heap.size + 1, 5, none⟩ (.int .i64 (t5 + xz))) := (Kept.refl _ W2).setCell _ _ (.inl (by simp))
            exact ⟨by rw [HOs.out]; exact H32.out.put 5 (.int .i64 (t5 + xz)), H22.out.kept hKS (by simp), HK2.out.forget hKS (by simp)⟩)
          clear HOs H32 H22 HK2
          go_wp2_with fail
          go_roundw
          case rel => exact ⟨k + 1, by go_num, by omega, HN⟩
          case measure => simp [intOf] <;> omega
        · rw [if_neg ht, if_neg ht2] at HOs
          have hb1 : (xt == 1) = false := by simpa using ht
          have hb2 : (xt == 2) = false := by simpa using ht2
          have hk1 : Kept [w.heap.size + 1] wr (wr.setCell ⟨w.heap.size + 1, 2, none⟩ (.int .i64 (t2 + 1))) := (Kept.refl _ wr).setCell _ _ (.inl (by simp))
          have h31 : Has (wr.setCell ⟨w.heap.size + 1, 2, none⟩ (.int .i64 (t2 + 1))) (w.heap.size + 1) 53 [.int .i64 t0, .int .i64 t1, .int .i64 (t2 + 1), .int .i64 t3, .int .i64 t4, .int .i64 t5] := H3.out.put 2 (.int .i64 (t2 + 1))
          have h21 := H2.out.kept hk1 (by simp)
          have hK1 := HK.out.forget hk1 (by simp)
          clear hk1
          go_wp2_with fail
          generalize wr.setCell ⟨w.heap.size + 1, 2, none⟩ (.int .i64 (t2 + 1)) = W1 at *
          have H31 := Lib.hid h31
          have H21 := Lib.hid h21
          have HK1 := Lib.hid hK1
          clear c1 c4 d0 d1 d2 d3 d4 d5 f0 f1 f2 f3 f4 f5 H3 H2 HK
          obtain ⟨c1, c4⟩ := HCl.out W1 hK1
          obtain ⟨d0, d1, d2, d3, d4, d5⟩ := cells6 h31
          clear h31 h21 hK1
          go_still_tail 10, (by kernel_rfl)
          change wpList _ _ _ _ _ W1.drew
          have hk2 : Kept [] W1 W1.drew := (Kept.refl [] W1).drew
          clear c1 c4 d0 d1 d2 d3 d4 d5
          generalize W1.drew = W2 at hk2 ⊢
          have h32 := H31.out.keep0 hk2
          have H32 := Lib.hid h32
          have H22 := Lib.hid (H21.out.keep0 hk2)
          have HK2 := Lib.hid (HK1.out.trans hk2)
          obtain ⟨f0, f1, f2, f3, f4, f5⟩ := free6 h32
          obtain ⟨d0, d1, d2, d3, d4, d5⟩ := cells6 h32
          clear h32 hk2 H31 H21 HK1
          have HN : Hid (Has (W2.setCell ⟨w.heap.size + 1, 4, none⟩ (.int .i64 (t4 + xz))) (w.heap.size + 1) 53 (tally (cs.take (k + 1))).enc ∧ Has (W2.setCell ⟨w.heap.size + 1, 4, none⟩ (.int .i64 (t4 + xz))) w.heap.size 53 [.int .i64 0, .int .i64 0, .int .i64 0, .int .i64 0, .int .i64 0, .int .i64 0] ∧ Kept [] w (W2.setCell ⟨w.heap.size + 1, 4, none⟩ (.int .i64 (t4 + xz)))) := Lib.hid (by
            have hKS : Kept [w.heap.size + 1] W2 (W2.setCell ⟨w.heap.size + 1, 4, none⟩ (.int .i64 (t4 + xz))) := (Kept.refl _ W2).setCell _ _ (.inl (by simp))
            exact ⟨by rw [HOs.out]; exact H32.out.put 4 (.int .i64 (t4 + xz)), H22.out.kept hKS (by simp), HK2.out.forget hKS (by simp)⟩)
          clear HOs H32 H22 HK2
          go_wp2_with fail
          go_roundw
          case rel => exact ⟨k + 1, by go_num, by omega, HN⟩
          case measure => simp [intOf] <;> omega
    · obtain rfl : k = cs.length := by omega
      have h3 := hr.out.1
      rw [List.take_length, ← HT.out] at h3
      have h2 := hr.out.2.1
      have HK := Lib.hid hr.out.2.2
      clear hr HT HA HZ
      obtain ⟨t0, t1, t2, t3, t4, t5⟩ := tt
      unfold Tal.enc at h3
      simp only at h3
      obtain ⟨d0, d1, d2, d3, d4, d5⟩ := cells6 h3
      obtain ⟨e0, e1, e2, e3, e4, e5⟩ := cells6 h2
      obtain ⟨f0, f1, f2, f3, f4, f5⟩ := free6 h2
      have hkp : Kept [w.heap.size] wr (put6 w.heap.size (.int .i64 t0) (.int .i64 t1) (.int .i64 t2) (.int .i64 t3) (.int .i64 t4) (.int .i64 t5) wr) := put6_kept (Kept.refl _ _) (.inl (by simp)) _ _ _ _ _ _
      have hH := put6_has h2 (.int .i64 t0) (.int .i64 t1) (.int .i64 t2) (.int .i64 t3) (.int .i64 t4) (.int .i64 t5)
      have HKp := Lib.hid (HK.out.forget hkp (by simp))
      have HH := Lib.hid hH
      clear h2 h3 hkp hH HK
      go_wp2_with fail
      exact bodyPost_ret (results_cell_row rfl _ _ w.heap.size 53 #[.int .i64 t0, .int .i64 t1, .int .i64 t2, .int .i64 t3, .int .i64 t4, .int .i64 t5] (0, 0) _ rfl HH.out Tryz.underlying53 rfl size_tally) rfl ⟨rfl, HKp.out⟩
end Go.Proofs.YtagmmbkgjomdlaaGreatDoor.Wk
