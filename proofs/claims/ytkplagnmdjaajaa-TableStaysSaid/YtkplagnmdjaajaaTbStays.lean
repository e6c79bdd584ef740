/-
  TableStays, walked.
-/
import Derived.Test.YtkplagnmdjaajaaTbStaysLaw
namespace Go.Proofs.Ytkplagnmdjaajaa.Tb
open Go.RowKit Go.Proofs.Ytkplagnmdjaajaa.Ar Go.Maps
set_option linter.unusedVariables false

set_option maxRecDepth 100000 in
set_option maxHeartbeats 8000000 in
theorem stays_main {w : World} {A : Option Addr} {c : Nat} {l : List Ty} (hS : Seen w A l) (hok : ∀ x ∈ l, x.ok) (hl : ¬ (l.length : Int) > 200) :
    Calls Try.prog 6 #[.slice A l.length c] w fun e w' => e = .returned (.bool true) ∧ Kept [] w w' := by
  have HAl := Lib.hid alive_ok
  have HS := Lib.hid hS
  have HOK := Lib.hid hok
  have HNw := Lib.hid (new_ok (w := w) (A := none) (l := []) 0 (Seen.nil _ _) (fun x hx => by cases hx) (by decide))
  clear hS hok
  simp only [List.length_nil] at HNw
  go_enter Try.func6, Try.ntmps6
  go_wp2_with fail
  refine HNw.out.mono ?_
  rintro e w1 (⟨_, p, A1, c1, rfl, hm⟩ | ⟨h0, _⟩)
  · have HI : Hid (Inv w w1 p A1 c1 (.slice none 0 0) [] []) := Lib.hid ⟨hm, Own.nil _, .inl rfl, fun g hg => by cases hg⟩
    clear hm HNw
    go_wp2_with fail
    go_loopw [5, 6] (fun v t wr => ∃ (i : Nat) (K : List Ty) (A5 A' : Option Addr) (c5 c' : Nat), v = .slice A5 K.length c5 ∧ t = .int .i64 (i : Int) ∧ i ≤ l.length ∧ Hid (Inv w wr p A' c' (.slice A5 K.length c5) K K)) (fun _ t _ => l.length - (intOf t).toNat)
    case atStart => exact ⟨0, [], none, A1, 0, c1, rfl, rfl, Nat.zero_le _, HI⟩
    case round =>
      obtain ⟨i, K, A5, A', c5, c', rfl, rfl, hi, hI⟩ := hrel
      clear HI
      by_cases hlt : i < l.length
      · obtain ⟨g, f, rfl, hg, hcells⟩ := HS.out.at i hlt _ rfl
        have Hc := Lib.hid hcells
        obtain ⟨k0, k1, k2⟩ := hcells wr hI.out.1.2.2.2
        have HA := Lib.hid (add_ok hI.out.1.1 (l.getD i Ty.zero) (getD_ok HOK.out hlt))
        have hK64 := hI.out.1.1.len
        clear hcells hg
        generalize l.getD i Ty.zero = x at *
        unfold Ty.val at HA
        go_wp2_with fail
        refine HA.out.mono ?_
        rintro e w2 hap
        obtain ⟨A2, c2, rfl, hi2⟩ := hI.out.added hap
        have HI2 := Lib.hid hi2
        obtain ⟨k0, k1, k2⟩ := Hc.out w2 hi2.1.2.2.2
        have hK64b := hi2.1.1.len
        clear hap hi2 HA hI
        by_cases he : addE K x = 0
        · have e1 : addL K x = K ++ [x] := by unfold addL; rw [if_pos he]
          have e2 : addN K x = (K.length : Int) + 1 := by unfold addN; rw [if_pos he]
          rw [e1] at HI2 hK64b
          rw [e2, he]
          have hKl : (K ++ [x]).length = K.length + 1 := by rw [List.length_append]; rfl
          clear e1 e2 he
          have HKa := Lib.hid ((Kept.refl [] w2).alloc (.cells #[.int .u8 (x.k : Int), .int .i64 x.wd, .int .u64 (x.ms : Int)] 30))
          have HSe : Hid (Seen (w2.alloc (.cells #[.int .u8 (x.k : Int), .int .i64 x.wd, .int .u64 (x.ms : Int)] 30)) (some ⟨w2.heap.size, 0, none⟩) [x]) := Lib.hid (seen_one (Has.new w2 30 [.int .u8 (x.k : Int), .int .i64 x.wd, .int .u64 (x.ms : Int)]))
          have HIa := Lib.hid (HI2.out.later HKa.out)
          clear HI2
          go_wp2_with (at_builtin; (refine append_types rfl (.tmp 45) (.tmp 50) rfl (.slice A5 K.length c5) K rfl HIa.out.2.1 (some ⟨w2.heap.size, 0, none⟩) 1 [x] rfl (fun h => by cases h) HSe.out (by simp only [List.length_cons, List.length_nil]; omega) ?_))
          intro s3 w3 hO3 hG3 hB3 hn3
          have hi3 := HIa.out.push hO3 hG3 (by simpa using hB3)
          obtain ⟨A6, c6, rfl⟩ := hi3.form
          rw [hKl] at hi3
          have HI3 := Lib.hid hi3
          have HAll := Lib.hid (all_ok hi3.1.1)
          rw [hKl] at HAll
          clear hO3 hG3 hB3 hn3 hi3 HIa HSe HKa
          simp only [hKl]
          have HKl := Lib.hid hKl
          clear hKl
          generalize K ++ [x] = K2 at *
          go_wp2_with fail
          refine HAll.out.mono ?_
          rintro e w4 ⟨A4, c4, rfl, hO4, hF4, hn4, hk4⟩
          have HSm := Lib.hid (same_ok (a := K2) (b := K2) (c := c4) (d := c6) hO4.seen (HI3.out.2.1.keep0 hk4).seen (by omega) (by omega))
          rw [decide_eq_true (rfl : K2 = K2), HKl.out] at HSm
          have HF4 : Hid (A4 = none ∨ ∃ B, A4 = some ⟨B, 0, none⟩ ∧ w3.heap.size ≤ B) := Lib.hid (by
            rcases hO4.form with ⟨e, _⟩ | ⟨B, cap, e, _⟩
            · injection e with e
              exact .inl e
            · injection e with e
              refine .inr ⟨B, e, ?_⟩
              rcases hF4 with h | ⟨b, h, hb⟩
              · rw [e] at h; cases h
              · rw [e] at h
                have h : B = b := by simpa [Value.ownBlock] using h
                omega)
          have HO4 : Hid (w4.ownsRow 0 30 3 (.slice A4 (K.length + 1) c4) (K.length + 1) (tyCells K2)) := Lib.hid (by
            have := hO4
            unfold Own at this
            rwa [HKl.out] at this)
          have HN4 : Hid (A4 = none → K.length + 1 = 0) := Lib.hid (fun e => by
            have := hn4.1 e
            rw [← HKl.out, this]
            rfl)
          have HK4 := Lib.hid hk4
          clear hO4 hF4 hn4 hk4 HAll
          go_wp2_with fail
          refine HSm.out.mono ?_
          rintro e w5 ⟨rfl, hk5⟩
          have HRaw : Hid (Raw w3 w5 (.slice A4 (K.length + 1) c4) (K.length + 1)) := Lib.hid ⟨⟨tyCells K2, World.ownsRow.kept HO4.out (row := none) ⟨hk5.os, hk5.tape, hk5.out, hk5.more, fun i hi _ => hk5.old i hi (by simp)⟩ (by
            cases A4 with
            | none => exact .inl rfl
            | some a => exact .inr (by simp [Value.ownBlock]))⟩, HK4.out.trans hk5⟩
          clear hk5 HSm HO4 HK4
          go_wp2_with fail
          go_loopw [10] (fun t wr => ∃ k : Nat, t = .int .i64 (k : Int) ∧ k ≤ K.length + 1 ∧ Hid (Raw w3 wr (.slice A4 (K.length + 1) c4) (K.length + 1))) (fun t _ => K.length + 1 - (intOf t).toNat)
          case atStart => exact ⟨0, rfl, Nat.zero_le _, HRaw⟩
          case round =>
            clear HRaw
            obtain ⟨k, rfl, hk, hr⟩ := hrel
            by_cases hkl : k < K.length + 1
            · rcases HF4.out with rfl | ⟨B, rfl, hB⟩
              · have := HN4.out rfl
                omega
              · have HB := Lib.hid hB
                obtain ⟨⟨xs, hx⟩, _⟩ := hr.out
                obtain ⟨⟨a0, a1, a2, d0, d1, d2⟩, f0, f1, f2⟩ := raw_cells hx hkl
                clear hx hB
                go_wp2_with fail
                have hn := raw_put (raw_put (raw_put hr.out HB.out (k * 3) (.int .u8 99) (by omega) rfl) HB.out (k * 3 + 1) (.int .i64 0) (by omega) rfl) HB.out (k * 3 + 2) (.int .u64 0) (by omega) rfl
                have HN := Lib.hid hn
                clear hn hr d0 d1 d2 f0 f1 f2
                go_roundw
                case rel => exact ⟨k + 1, by go_num, by omega, HN⟩
                case measure => simp [intOf] <;> omega
            · have hke : k = K.length + 1 := by omega
              subst hke
              have HI4 := Lib.hid (HI3.out.later hr.out.2)
              clear HI3 hr
              go_wp2_with fail
              go_roundw
              case rel => exact ⟨i + 1, K2, A6, A2, c6, c2, by rw [HKl.out], by go_num, by omega, by rw [HKl.out]; exact HI4⟩
              case measure => simp [intOf] <;> omega
        · have e1 : addL K x = K := by unfold addL; rw [if_neg he]
          have e2 : addN K x = 0 := by unfold addN; rw [if_neg he]
          have hbn : (addE K x == 0) = false := by rw [beq_eq_false_iff_ne]; exact he
          rw [e1] at HI2
          rw [e2]
          generalize addE K x = er at *
          have HAll := Lib.hid (all_ok HI2.out.1.1)
          obtain ⟨K2, hK2⟩ : ∃ K2, K2 = K := ⟨K, rfl⟩
          have HKl : Hid (K2.length = K.length) := Lib.hid (by rw [hK2])
          have HI3 : Hid (Inv w w2 p A2 c2 (.slice A5 K.length c5) K2 K2) := Lib.hid (by rw [hK2]; exact HI2.out)
          have HAll : Hid (Calls Try.prog 12 #[.pointer (some ⟨p, 0, none⟩)] w2 fun e w' => ∃ A' c', e = .returned (.slice A' K.length c') ∧ Own w' (.slice A' K2.length c') K2 ∧ Fresh w2 (.slice A' K2.length c') ∧ (A' = none ↔ K2 = []) ∧ Kept [] w2 w') := Lib.hid (by rw [hK2]; exact HAll.out)
          have hl2 : K2.length = K.length := by rw [hK2]
          clear e1 e2 he HI2 hK2
          go_wp2_with fail
          refine HAll.out.mono ?_
          rintro e w4 ⟨A4, c4, rfl, hO4, hF4, hn4, hk4⟩
          have HSm := Lib.hid (same_ok (a := K2) (b := K2) (c := c4) (d := c5) hO4.seen (HI3.out.2.1.keep0 hk4).seen (by omega) (by omega))
          rw [decide_eq_true (rfl : K2 = K2), HKl.out] at HSm
          have HF4 : Hid (A4 = none ∨ ∃ B, A4 = some ⟨B, 0, none⟩ ∧ w2.heap.size ≤ B) := Lib.hid (by
            rcases hO4.form with ⟨e, _⟩ | ⟨B, cap, e, _⟩
            · injection e with e
              exact .inl e
            · injection e with e
              refine .inr ⟨B, e, ?_⟩
              rcases hF4 with h | ⟨b, h, hb⟩
              · rw [e] at h; cases h
              · rw [e] at h
                have h : B = b := by simpa [Value.ownBlock] using h
                omega)
          have HO4 : Hid (w4.ownsRow 0 30 3 (.slice A4 (K.length) c4) (K.length) (tyCells K2)) := Lib.hid (by
            have := hO4
            unfold Own at this
            rwa [HKl.out] at this)
          have HN4 : Hid (A4 = none → K.length = 0) := Lib.hid (fun e => by
            have := hn4.1 e
            rw [← HKl.out, this]
            rfl)
          have HK4 := Lib.hid hk4
          clear hO4 hF4 hn4 hk4 HAll
          go_wp2_with fail
          refine HSm.out.mono ?_
          rintro e w5 ⟨rfl, hk5⟩
          have HRaw : Hid (Raw w2 w5 (.slice A4 (K.length) c4) (K.length)) := Lib.hid ⟨⟨tyCells K2, World.ownsRow.kept HO4.out (row := none) ⟨hk5.os, hk5.tape, hk5.out, hk5.more, fun i hi _ => hk5.old i hi (by simp)⟩ (by
            cases A4 with
            | none => exact .inl rfl
            | some a => exact .inr (by simp [Value.ownBlock]))⟩, HK4.out.trans hk5⟩
          clear hk5 HSm HO4 HK4
          go_wp2_with fail
          go_loopw [10] (fun t wr => ∃ k : Nat, t = .int .i64 (k : Int) ∧ k ≤ K.length ∧ Hid (Raw w2 wr (.slice A4 (K.length) c4) (K.length))) (fun t _ => K.length - (intOf t).toNat)
          case atStart => exact ⟨0, rfl, Nat.zero_le _, HRaw⟩
          case round =>
            clear HRaw
            obtain ⟨k, rfl, hk, hr⟩ := hrel
            by_cases hkl : k < K.length
            · rcases HF4.out with rfl | ⟨B, rfl, hB⟩
              · have := HN4.out rfl
                omega
              · have HB := Lib.hid hB
                obtain ⟨⟨xs, hx⟩, _⟩ := hr.out
                obtain ⟨⟨a0, a1, a2, d0, d1, d2⟩, f0, f1, f2⟩ := raw_cells hx hkl
                clear hx hB
                go_wp2_with fail
                have hn := raw_put (raw_put (raw_put hr.out HB.out (k * 3) (.int .u8 99) (by omega) rfl) HB.out (k * 3 + 1) (.int .i64 0) (by omega) rfl) HB.out (k * 3 + 2) (.int .u64 0) (by omega) rfl
                have HN := Lib.hid hn
                clear hn hr d0 d1 d2 f0 f1 f2
                go_roundw
                case rel => exact ⟨k + 1, by go_num, by omega, HN⟩
                case measure => simp [intOf] <;> omega
            · obtain rfl : k = K.length := by omega
              have HI4 := Lib.hid (HI3.out.later hr.out.2)
              clear HI3 hr
              go_wp2_with fail
              go_roundw
              case rel => exact ⟨i + 1, K2, A5, A2, c5, c2, by rw [HKl.out], by go_num, by omega, by rw [HKl.out]; exact HI4⟩
              case measure => simp [intOf] <;> omega
      · obtain rfl : i = l.length := by omega
        have HI2 := Lib.hid hI.out
        have hK64 := hI.out.1.1.len
        have hal := Lib.hid hI.out.1.1.all
        clear hI
        go_wp2_with fail
        go_loopw [11] (fun t wr => ∃ j : Nat, t = .int .i64 (j : Int) ∧ j ≤ K.length ∧ Hid (Inv w wr p A' c' (.slice A5 K.length c5) K K)) (fun t _ => K.length - (intOf t).toNat)
        case atStart => exact ⟨0, rfl, Nat.zero_le _, HI2⟩
        case round =>
          clear HI2
          obtain ⟨j, rfl, hj, hI⟩ := hrel
          by_cases hlj : j < K.length
          · obtain ⟨g, f, rfl, hg, hcells⟩ := hI.out.2.1.seen.at j hlj _ rfl
            have HG := Lib.hid (get_ok hI.out.1.1 ((j : Int) + 1) (by omega) (by omega))
            obtain ⟨e1, e2⟩ := hasT_yes (l := K) (i := (j : Int) + 1) (t := j) (by omega) hlj
            rw [e1, e2] at HG
            have Hc := Lib.hid hcells
            clear e1 e2 hcells hg
            generalize K.getD j Ty.zero = x at *
            unfold Ty.val errT at HG
            simp only [if_true] at HG
            go_wp2_with fail
            refine HG.out.mono ?_
            rintro e w2 ⟨rfl, hk2⟩
            have HI3 := Lib.hid ((hI.out.later hk2).later ((Kept.refl [] w2).alloc (.cells #[.int .u8 (x.k : Int), .int .i64 x.wd, .int .u64 (x.ms : Int)] 30)))
            have q0 := fun o => (Hc.out (w2.alloc o) (hk2.alloc o)).1
            have q1 := fun o => (Hc.out (w2.alloc o) (hk2.alloc o)).2.1
            have q2 := fun o => (Hc.out (w2.alloc o) (hk2.alloc o)).2.2
            clear hk2 HG hI
            go_wp2_with fail
            go_region
            have HW := HI3.out
            go_wp2_with fail
            go_roundw
            case rel => exact ⟨j + 1, by go_num, by omega, Lib.hid (by first | exact HW | exact HW.later ((Kept.refl [] _).drew))⟩
            case measure => simp [intOf] <;> omega
          · obtain rfl : j = K.length := by omega
            have HK := Lib.hid hI.out.1.2.2.2
            have HL := Lib.hid (len_ok hI.out.1.1)
            clear hI
            go_wp2_with fail
            refine HL.out.mono ?_
            rintro e w2 ⟨rfl, hk2⟩
            have HK2 := Lib.hid (HK.out.trans hk2)
            clear hk2 HL HK
            go_wp2_with fail
            refine (HAl.out _).mono ?_
            rintro e w8 ⟨rfl, hk8⟩
            have HK8 := Lib.hid (HK2.out.trans hk8)
            clear hk8 HK2
            go_wp2_with fail
            go_ret
            exact ⟨rfl, HK8.out⟩
  · exact absurd rfl h0
set_option maxRecDepth 100000 in
set_option maxHeartbeats 1000000 in
theorem stays_walk {w : World} {A : Option Addr} {c : Nat} {l : List Ty} (hS : Seen w A l) (hok : ∀ x ∈ l, x.ok) :
    Calls Try.prog 6 #[.slice A l.length c] w fun e w' => e = .returned (.bool true) ∧ Kept [] w w' := by
  by_cases hl : (l.length : Int) > 200
  · have HAl := Lib.hid alive_ok
    clear hS hok
    go_enter Try.func6, Try.ntmps6
    go_wp2_with fail
    refine (HAl.out _).mono ?_
    rintro e w1 ⟨rfl, hk⟩
    have HK := Lib.hid hk
    clear hk
    go_wp2_with fail
    go_ret
    exact ⟨rfl, HK.out⟩
  · exact stays_main hS hok hl
end Go.Proofs.Ytkplagnmdjaajaa.Tb
