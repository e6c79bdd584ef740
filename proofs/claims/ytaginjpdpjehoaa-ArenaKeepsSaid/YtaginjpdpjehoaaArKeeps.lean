/-
  The walk of the law ArenaKeeps.
-/
import Derived.Test.YtaginjpdpjehoaaArMoves
namespace Go.Proofs.Ytaginjpdpjehoaa.Ar
open Go.RowKit

theorem within_not {L : Nat} {i k : Int} (h : within L i k = false) : ¬ (0 ≤ i ∧ 0 ≤ k ∧ i + k ≤ (L : Int)) := fun hh => by rw [(within_iff _ _ _).2 hh] at h; cases h
theorem fill_get (ws : List Int) (i k v : Int) (j : Nat) : (fillW ws i k v).getD j 0 = if within ws.length i k = true ∧ i ≤ (j : Int) ∧ (j : Int) - i < k then v else ws.getD j 0 := by
  unfold fillW
  cases hr : within ws.length i k
  · rw [if_neg (by simp), if_neg (by simp)]
  · obtain ⟨a, b, c⟩ := (within_iff _ _ _).1 hr
    rw [if_pos rfl, putW_get _ _ _ _ (by rw [List.length_replicate]; omega), List.length_replicate]
    by_cases h : i ≤ (j : Int) ∧ (j : Int) - i < k
    · rw [if_pos (by omega), if_pos ⟨rfl, h⟩, List.getD, List.getElem?_replicate, if_pos (by omega)]
      rfl
    · rw [if_neg (by omega), if_neg (fun hh => h hh.2)]
theorem load_get {p q : Nat} {ws : List Int} {n : Int} {w : World} (h : Arena w p q ws n) (j : Nat) (hj : j < ws.length) :
    Calls Try.prog 21 #[.pointer (some ⟨p, 0, none⟩), .int .i64 j] w fun e w' => e = .returned (.tuple #[.int .u64 (ws.getD j 0), .int .i64 0]) ∧ w = w' := by
  have hs := h.short
  have hr : within ws.length (j : Int) 1 = true := (within_iff _ _ _).2 ⟨by omega, by omega, by omega⟩
  have e : loadV ws (j : Int) = ws.getD j 0 := by unfold loadV; rw [if_pos hr, Int.toNat_natCast]
  have hc := load_any h (j : Int) (by omega) (by omega)
  rw [hr, e] at hc
  exact hc

set_option maxRecDepth 100000 in
set_option maxHeartbeats 800000 in
theorem keeps_small (A : Option Addr) (l : List Int) (cap : Nat) (i n v at_ x : Int) (w : World) (hm : mayB l.length = false ∨ 400 < l.length) (hl : l.length ≤ maxLen) :
    Calls Try.prog 5 #[.slice A l.length cap, .int .i64 i, .int .i64 n, .int .u64 v, .int .i64 at_, .int .u64 x] w fun e w' => e = .returned (.bool true) ∧ Kept [] w w' := by
  unfold maxLen at hl
  have HA := Lib.hid alive_any
  generalize hL : l.length = L at *
  clear hL
  by_cases h1 : L < 16
  · clear hm
    go_enter Try.func5, Try.ntmps5
    go_wp2_with fail
    refine (HA.out _).mono ?_; rintro e w' ⟨rfl, hk⟩
    have HK := Lib.hid hk
    clear hk
    go_wp2_with fail
    go_ret
    exact ⟨rfl, HK.out⟩
  · by_cases h2 : 400 < L
    · clear hm
      go_enter Try.func5, Try.ntmps5
      go_wp2_with fail
      refine (HA.out _).mono ?_; rintro e w' ⟨rfl, hk⟩
      have HK := Lib.hid hk
      clear hk
      go_wp2_with fail
      go_ret
      exact ⟨rfl, HK.out⟩
    · have h3 : ((L : Int) % 2 != 0) = true := by
        rcases hm with hm | hm
        · rw [bne_iff_ne]
          intro h0
          rw [(mayB_iff _).2 ⟨by omega, by omega, by rw [Int.tmod_eq_emod_of_nonneg (by omega)]; exact h0⟩] at hm
          cases hm
        · omega
      clear hm
      go_enter Try.func5, Try.ntmps5
      go_wp2_with fail
      refine (HA.out _).mono ?_; rintro e w' ⟨rfl, hk⟩
      have HK := Lib.hid hk
      clear hk
      go_wp2_with fail
      go_ret
      exact ⟨rfl, HK.out⟩

set_option maxRecDepth 100000 in
set_option maxHeartbeats 3200000 in
theorem keeps_walk (A : Option Addr) (l : List Int) (cap : Nat) (i n v at_ x : Int) (w : World) (hs : Seen w A l) (hc : l.length ≤ cap) (hcm : cap ≤ maxLen)
    (i1 : -9223372036854775808 ≤ i) (i2 : i ≤ 9223372036854775807) (n1 : -9223372036854775808 ≤ n) (n2 : n ≤ 9223372036854775807) (a1 : -9223372036854775808 ≤ at_) (a2 : at_ ≤ 9223372036854775807) :
    Calls Try.prog 5 #[.slice A l.length cap, .int .i64 i, .int .i64 n, .int .u64 v, .int .i64 at_, .int .u64 x] w fun e w' => e = .returned (.bool true) ∧ Kept [] w w' := by
  by_cases hm : mayB l.length = false ∨ 400 < l.length
  · exact keeps_small A l cap i n v at_ x w hm (by omega)
  · have hm1 : mayB (l.length : Int) = true := by
      cases h : mayB (l.length : Int)
      · exact absurd (.inl h) hm
      · rfl
    have hm2 : l.length ≤ 400 := by
      rcases Nat.lt_or_ge 400 l.length with h | h
      · exact absurd (.inr h) hm
      · exact h
    obtain ⟨b1, b2, b3⟩ := (mayB_iff _).1 hm1
    have hd : ((l.length : Int) % 2 != 0) = false := by
      rw [Int.tmod_eq_emod_of_nonneg (by omega)] at b3
      rw [b3]
      rfl
    unfold maxLen at hcm
    have HA := Lib.hid alive_any
    have HN := Lib.hid (new_ok l.length hm1 w)
    have hne : l ≠ [] := fun h0 => by rw [h0] at b1; simp at b1
    obtain ⟨g, f, rfl, hcell⟩ := hs.later hne
    have HC := Lib.hid hcell
    clear hm hm1 b3 hcell hne hs
    go_enter Try.func5, Try.ntmps5
    go_wp2_with fail
    refine HN.out.mono ?_; rintro e x0 ⟨p, q, rfl, hp, hq, hA, hK⟩
    have HM : Hid (Mine w x0 p q (laid l 0) ((0 : Nat) : Int)) := Mine.ofNew rfl hp hq hA hK
    clear hp hq hA hK HN
    go_wp2_with fail
    go_loopw [15] (fun t wr => ∃ j : Nat, j ≤ l.length ∧ t = .int .i64 j ∧ Hid (Mine w wr p q (laid l j) j)) (fun t _ => l.length - (intOf t).toNat)
    case atStart => exact ⟨0, Nat.zero_le _, rfl, HM⟩
    case round =>
      obtain ⟨j, hj, rfl, hM⟩ := hrel
      by_cases hlt : j < l.length
      · have hcj := HC.out wr hM.out.2.2.2 j hlt
        have Hone := Lib.hid (lay_one hM.out hlt (by omega))
        generalize l.getD j 0 = y at *
        clear HM hM
        go_wp2_with fail
        refine Hone.out.mono ?_; rintro e x1 ⟨rfl, hM1⟩
        have HM1 := Lib.hid hM1
        clear hM1 hcj Hone
        go_wp2_with fail
        go_roundw
        case rel => exact ⟨j + 1, by omega, by go_num, HM1⟩
        case measure => simp [intOf]; omega
      · obtain rfl : j = l.length := by omega
        have HM2 : Hid (Mine w wr p q l l.length) := by have h := hM.out; rw [laid_all] at h; exact h
        clear HM hM hlt hj
        have Hf := Lib.hid (fill_any HM2.out.2.2.1 i n v i1 i2 n1 n2)
        go_wp2_with fail
        refine Hf.out.mono ?_; rintro e x2 ⟨rfl, hA2, hK2⟩
        have HM3 := Lib.hid (HM2.out.next hA2 hK2)
        clear hA2 hK2 Hf HM2
        have hst := store_any HM3.out.2.2.1 at_ x a1 a2
        rw [fillW_length] at hst
        have Hst := Lib.hid hst
        clear hst
        go_wp2_with fail
        refine Hst.out.mono ?_; rintro e x3 ⟨rfl, hA3, hK3⟩
        have HM4 := Lib.hid (HM3.out.next hA3 hK3)
        clear hA3 hK3 Hst HM3
        have hget : ∀ j : Nat, (fillW (fillW l i n v) at_ 1 x).getD j 0 = if within l.length at_ 1 = true ∧ at_ ≤ (j : Int) ∧ (j : Int) - at_ < 1 then x else if within l.length i n = true ∧ i ≤ (j : Int) ∧ (j : Int) - i < n then v else l.getD j 0 := by
          intro j
          rw [fill_get, fillW_length, fill_get]
        have hlen : (fillW (fillW l i n v) at_ 1 x).length = l.length := by rw [fillW_length, fillW_length]
        generalize fillW (fillW l i n v) at_ 1 x = R at *
        generalize fillN (fillW l i n v) (fillN l (l.length : Int) i n) at_ 1 = N at *
        have HLen := Lib.hid hlen
        have HG := Lib.hid hget
        clear hget hlen
        cases hF : within l.length i n
        · cases hS : within l.length at_ 1
          · have HF := Lib.hid hF
            have HS := Lib.hid hS
            have nF := within_not hF
            have nS := within_not hS
            clear hF hS
            rw [show errOf false = 2 from rfl]
            go_wp2_with fail
            go_loop [18] (fun t => ∃ j : Nat, j ≤ l.length ∧ t = .int .i64 j) (fun t => l.length - (intOf t).toNat)
            case atStart => exact ⟨0, Nat.zero_le _, rfl⟩
            case round =>
              obtain ⟨j, hj, rfl⟩ := hrel
              by_cases hlt : j < l.length
              · have hcj := HC.out x3 HM4.out.2.2.2 j hlt
                have hld := load_get HM4.out.2.2.1 j (by have := HLen.out; omega)
                have hv : R.getD j 0 = l.getD j 0 := by rw [HG.out j, if_neg (fun hh => by have := hh.1; rw [HS.out] at this; cases this), if_neg (fun hh => by have := hh.1; rw [HF.out] at this; cases this)]
                rw [hv] at hld
                generalize l.getD j 0 = y at *
                have Hld := Lib.hid hld
                clear hv hld HG HC
                go_wp2_with fail
                refine Hld.out.mono ?_; rintro e w' ⟨rfl, rfl⟩
                clear Hld
                go_wp2_with fail
                go_round
                case rel => exact ⟨j + 1, by omega, by go_num⟩
                case measure => simp [intOf]; omega
              · obtain rfl : j = l.length := by omega
                clear HC HG hlt hj
                go_wp2_with fail
                all_goals
                  refine (HA.out _).mono ?_; rintro e x7 ⟨rfl, hk⟩
                  have HK := Lib.hid (HM4.out.2.2.2.trans hk)
                  clear hk HM4
                  go_wp2_with fail
                  go_ret
                  exact ⟨ret_bool (by first | rfl | (simp; done) | (simp; omega)), HK.out⟩
          · have HF := Lib.hid hF
            have HS := Lib.hid hS
            have nF := within_not hF
            obtain ⟨yS1, _, yS3⟩ := (within_iff _ _ _).1 hS
            clear hF hS
            rw [show errOf true = 0 from rfl]
            rw [show errOf false = 2 from rfl]
            go_wp2_with fail
            go_loop [18] (fun t => ∃ j : Nat, j ≤ l.length ∧ t = .int .i64 j) (fun t => l.length - (intOf t).toNat)
            case atStart => exact ⟨0, Nat.zero_le _, rfl⟩
            case round =>
              obtain ⟨j, hj, rfl⟩ := hrel
              by_cases hlt : j < l.length
              · have hcj := HC.out x3 HM4.out.2.2.2 j hlt
                have hld := load_get HM4.out.2.2.1 j (by have := HLen.out; omega)
                rcases (show (at_ < (j : Int)) ∨ (at_ ≤ (j : Int) ∧ (j : Int) ≤ at_) ∨ ((j : Int) < at_) by omega) with hs | ⟨hs, hs2⟩ | hs
                · have hv : R.getD j 0 = l.getD j 0 := by rw [HG.out j, if_neg (fun hh => by have := hh.2; omega), if_neg (fun hh => by have := hh.1; rw [HF.out] at this; cases this)]
                  rw [hv] at hld
                  generalize l.getD j 0 = y at *
                  have Hld := Lib.hid hld
                  clear hv hld HG HC
                  go_wp2_with fail
                  refine Hld.out.mono ?_; rintro e w' ⟨rfl, rfl⟩
                  clear Hld
                  go_wp2_with fail
                  go_round
                  case rel => exact ⟨j + 1, by omega, by go_num⟩
                  case measure => simp [intOf]; omega
                · have hv : R.getD j 0 = x := by rw [HG.out j, if_pos ⟨HS.out, by omega, by omega⟩]
                  rw [hv] at hld
                  generalize l.getD j 0 = y at *
                  have Hld := Lib.hid hld
                  clear hv hld HG HC
                  go_wp2_with fail
                  refine Hld.out.mono ?_; rintro e w' ⟨rfl, rfl⟩
                  clear Hld
                  go_wp2_with fail
                  go_round
                  case rel => exact ⟨j + 1, by omega, by go_num⟩
                  case measure => simp [intOf]; omega
                · have hv : R.getD j 0 = l.getD j 0 := by rw [HG.out j, if_neg (fun hh => by have := hh.2; omega), if_neg (fun hh => by have := hh.1; rw [HF.out] at this; cases this)]
                  rw [hv] at hld
                  generalize l.getD j 0 = y at *
                  have Hld := Lib.hid hld
                  clear hv hld HG HC
                  go_wp2_with fail
                  refine Hld.out.mono ?_; rintro e w' ⟨rfl, rfl⟩
                  clear Hld
                  go_wp2_with fail
                  go_round
                  case rel => exact ⟨j + 1, by omega, by go_num⟩
                  case measure => simp [intOf]; omega
              · obtain rfl : j = l.length := by omega
                clear HC HG hlt hj
                go_wp2_with fail
                all_goals
                  refine (HA.out _).mono ?_; rintro e x7 ⟨rfl, hk⟩
                  have HK := Lib.hid (HM4.out.2.2.2.trans hk)
                  clear hk HM4
                  go_wp2_with fail
                  go_ret
                  exact ⟨ret_bool (by first | rfl | (simp; done) | (simp; omega)), HK.out⟩
        · cases hS : within l.length at_ 1
          · have HF := Lib.hid hF
            have HS := Lib.hid hS
            obtain ⟨yF1, yF2, yF3⟩ := (within_iff _ _ _).1 hF
            have nS := within_not hS
            clear hF hS
            rw [show errOf true = 0 from rfl]
            rw [show errOf false = 2 from rfl]
            go_wp2_with fail
            go_loop [18] (fun t => ∃ j : Nat, j ≤ l.length ∧ t = .int .i64 j) (fun t => l.length - (intOf t).toNat)
            case atStart => exact ⟨0, Nat.zero_le _, rfl⟩
            case round =>
              obtain ⟨j, hj, rfl⟩ := hrel
              by_cases hlt : j < l.length
              · have hcj := HC.out x3 HM4.out.2.2.2 j hlt
                have hld := load_get HM4.out.2.2.1 j (by have := HLen.out; omega)
                rcases (show ((j : Int) < i) ∨ (i ≤ (j : Int) ∧ (j : Int) - i < n) ∨ (i ≤ (j : Int) ∧ n ≤ (j : Int) - i) by omega) with hf | ⟨hf, hf2⟩ | ⟨hf, hf2⟩
                · have hv : R.getD j 0 = l.getD j 0 := by rw [HG.out j, if_neg (fun hh => by have := hh.1; rw [HS.out] at this; cases this), if_neg (fun hh => by have := hh.2; omega)]
                  rw [hv] at hld
                  generalize l.getD j 0 = y at *
                  have Hld := Lib.hid hld
                  clear hv hld HG HC
                  go_wp2_with fail
                  refine Hld.out.mono ?_; rintro e w' ⟨rfl, rfl⟩
                  clear Hld
                  go_wp2_with fail
                  go_round
                  case rel => exact ⟨j + 1, by omega, by go_num⟩
                  case measure => simp [intOf]; omega
                · have hv : R.getD j 0 = v := by rw [HG.out j, if_neg (fun hh => by have := hh.1; rw [HS.out] at this; cases this), if_pos ⟨HF.out, by omega, by omega⟩]
                  rw [hv] at hld
                  generalize l.getD j 0 = y at *
                  have Hld := Lib.hid hld
                  clear hv hld HG HC
                  go_wp2_with fail
                  refine Hld.out.mono ?_; rintro e w' ⟨rfl, rfl⟩
                  clear Hld
                  go_wp2_with fail
                  go_round
                  case rel => exact ⟨j + 1, by omega, by go_num⟩
                  case measure => simp [intOf]; omega
                · have hv : R.getD j 0 = l.getD j 0 := by rw [HG.out j, if_neg (fun hh => by have := hh.1; rw [HS.out] at this; cases this), if_neg (fun hh => by have := hh.2; omega)]
                  rw [hv] at hld
                  generalize l.getD j 0 = y at *
                  have Hld := Lib.hid hld
                  clear hv hld HG HC
                  go_wp2_with fail
                  refine Hld.out.mono ?_; rintro e w' ⟨rfl, rfl⟩
                  clear Hld
                  go_wp2_with fail
                  go_round
                  case rel => exact ⟨j + 1, by omega, by go_num⟩
                  case measure => simp [intOf]; omega
              · obtain rfl : j = l.length := by omega
                clear HC HG hlt hj
                go_wp2_with fail
                all_goals
                  refine (HA.out _).mono ?_; rintro e x7 ⟨rfl, hk⟩
                  have HK := Lib.hid (HM4.out.2.2.2.trans hk)
                  clear hk HM4
                  go_wp2_with fail
                  go_ret
                  exact ⟨ret_bool (by first | rfl | (simp; done) | (simp; omega)), HK.out⟩
          · have HF := Lib.hid hF
            have HS := Lib.hid hS
            obtain ⟨yF1, yF2, yF3⟩ := (within_iff _ _ _).1 hF
            obtain ⟨yS1, _, yS3⟩ := (within_iff _ _ _).1 hS
            clear hF hS
            rw [show errOf true = 0 from rfl]
            go_wp2_with fail
            go_loop [18] (fun t => ∃ j : Nat, j ≤ l.length ∧ t = .int .i64 j) (fun t => l.length - (intOf t).toNat)
            case atStart => exact ⟨0, Nat.zero_le _, rfl⟩
            case round =>
              obtain ⟨j, hj, rfl⟩ := hrel
              by_cases hlt : j < l.length
              · have hcj := HC.out x3 HM4.out.2.2.2 j hlt
                have hld := load_get HM4.out.2.2.1 j (by have := HLen.out; omega)
                rcases (show (at_ < (j : Int)) ∨ (at_ ≤ (j : Int) ∧ (j : Int) ≤ at_) ∨ ((j : Int) < at_) by omega) with hs | ⟨hs, hs2⟩ | hs
                · rcases (show ((j : Int) < i) ∨ (i ≤ (j : Int) ∧ (j : Int) - i < n) ∨ (i ≤ (j : Int) ∧ n ≤ (j : Int) - i) by omega) with hf | ⟨hf, hf2⟩ | ⟨hf, hf2⟩
                  · have hv : R.getD j 0 = l.getD j 0 := by rw [HG.out j, if_neg (fun hh => by have := hh.2; omega), if_neg (fun hh => by have := hh.2; omega)]
                    rw [hv] at hld
                    generalize l.getD j 0 = y at *
                    have Hld := Lib.hid hld
                    clear hv hld HG HC
                    go_wp2_with fail
                    refine Hld.out.mono ?_; rintro e w' ⟨rfl, rfl⟩
                    clear Hld
                    go_wp2_with fail
                    go_round
                    case rel => exact ⟨j + 1, by omega, by go_num⟩
                    case measure => simp [intOf]; omega
                  · have hv : R.getD j 0 = v := by rw [HG.out j, if_neg (fun hh => by have := hh.2; omega), if_pos ⟨HF.out, by omega, by omega⟩]
                    rw [hv] at hld
                    generalize l.getD j 0 = y at *
                    have Hld := Lib.hid hld
                    clear hv hld HG HC
                    go_wp2_with fail
                    refine Hld.out.mono ?_; rintro e w' ⟨rfl, rfl⟩
                    clear Hld
                    go_wp2_with fail
                    go_round
                    case rel => exact ⟨j + 1, by omega, by go_num⟩
                    case measure => simp [intOf]; omega
                  · have hv : R.getD j 0 = l.getD j 0 := by rw [HG.out j, if_neg (fun hh => by have := hh.2; omega), if_neg (fun hh => by have := hh.2; omega)]
                    rw [hv] at hld
                    generalize l.getD j 0 = y at *
                    have Hld := Lib.hid hld
                    clear hv hld HG HC
                    go_wp2_with fail
                    refine Hld.out.mono ?_; rintro e w' ⟨rfl, rfl⟩
                    clear Hld
                    go_wp2_with fail
                    go_round
                    case rel => exact ⟨j + 1, by omega, by go_num⟩
                    case measure => simp [intOf]; omega
                · rcases (show ((j : Int) < i) ∨ (i ≤ (j : Int) ∧ (j : Int) - i < n) ∨ (i ≤ (j : Int) ∧ n ≤ (j : Int) - i) by omega) with hf | ⟨hf, hf2⟩ | ⟨hf, hf2⟩
                  · have hv : R.getD j 0 = x := by rw [HG.out j, if_pos ⟨HS.out, by omega, by omega⟩]
                    rw [hv] at hld
                    generalize l.getD j 0 = y at *
                    have Hld := Lib.hid hld
                    clear hv hld HG HC
                    go_wp2_with fail
                    refine Hld.out.mono ?_; rintro e w' ⟨rfl, rfl⟩
                    clear Hld
                    go_wp2_with fail
                    go_round
                    case rel => exact ⟨j + 1, by omega, by go_num⟩
                    case measure => simp [intOf]; omega
                  · have hv : R.getD j 0 = x := by rw [HG.out j, if_pos ⟨HS.out, by omega, by omega⟩]
                    rw [hv] at hld
                    generalize l.getD j 0 = y at *
                    have Hld := Lib.hid hld
                    clear hv hld HG HC
                    go_wp2_with fail
                    refine Hld.out.mono ?_; rintro e w' ⟨rfl, rfl⟩
                    clear Hld
                    go_wp2_with fail
                    go_round
                    case rel => exact ⟨j + 1, by omega, by go_num⟩
                    case measure => simp [intOf]; omega
                  · have hv : R.getD j 0 = x := by rw [HG.out j, if_pos ⟨HS.out, by omega, by omega⟩]
                    rw [hv] at hld
                    generalize l.getD j 0 = y at *
                    have Hld := Lib.hid hld
                    clear hv hld HG HC
                    go_wp2_with fail
                    refine Hld.out.mono ?_; rintro e w' ⟨rfl, rfl⟩
                    clear Hld
                    go_wp2_with fail
                    go_round
                    case rel => exact ⟨j + 1, by omega, by go_num⟩
                    case measure => simp [intOf]; omega
                · rcases (show ((j : Int) < i) ∨ (i ≤ (j : Int) ∧ (j : Int) - i < n) ∨ (i ≤ (j : Int) ∧ n ≤ (j : Int) - i) by omega) with hf | ⟨hf, hf2⟩ | ⟨hf, hf2⟩
                  · have hv : R.getD j 0 = l.getD j 0 := by rw [HG.out j, if_neg (fun hh => by have := hh.2; omega), if_neg (fun hh => by have := hh.2; omega)]
                    rw [hv] at hld
                    generalize l.getD j 0 = y at *
                    have Hld := Lib.hid hld
                    clear hv hld HG HC
                    go_wp2_with fail
                    refine Hld.out.mono ?_; rintro e w' ⟨rfl, rfl⟩
                    clear Hld
                    go_wp2_with fail
                    go_round
                    case rel => exact ⟨j + 1, by omega, by go_num⟩
                    case measure => simp [intOf]; omega
                  · have hv : R.getD j 0 = v := by rw [HG.out j, if_neg (fun hh => by have := hh.2; omega), if_pos ⟨HF.out, by omega, by omega⟩]
                    rw [hv] at hld
                    generalize l.getD j 0 = y at *
                    have Hld := Lib.hid hld
                    clear hv hld HG HC
                    go_wp2_with fail
                    refine Hld.out.mono ?_; rintro e w' ⟨rfl, rfl⟩
                    clear Hld
                    go_wp2_with fail
                    go_round
                    case rel => exact ⟨j + 1, by omega, by go_num⟩
                    case measure => simp [intOf]; omega
                  · have hv : R.getD j 0 = l.getD j 0 := by rw [HG.out j, if_neg (fun hh => by have := hh.2; omega), if_neg (fun hh => by have := hh.2; omega)]
                    rw [hv] at hld
                    generalize l.getD j 0 = y at *
                    have Hld := Lib.hid hld
                    clear hv hld HG HC
                    go_wp2_with fail
                    refine Hld.out.mono ?_; rintro e w' ⟨rfl, rfl⟩
                    clear Hld
                    go_wp2_with fail
                    go_round
                    case rel => exact ⟨j + 1, by omega, by go_num⟩
                    case measure => simp [intOf]; omega
              · obtain rfl : j = l.length := by omega
                clear HC HG hlt hj
                go_wp2_with fail
                all_goals
                  refine (HA.out _).mono ?_; rintro e x7 ⟨rfl, hk⟩
                  have HK := Lib.hid (HM4.out.2.2.2.trans hk)
                  clear hk HM4
                  go_wp2_with fail
                  go_ret
                  exact ⟨rfl, HK.out⟩
end Go.Proofs.Ytaginjpdpjehoaa.Ar
