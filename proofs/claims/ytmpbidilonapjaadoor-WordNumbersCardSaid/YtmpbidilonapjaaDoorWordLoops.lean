/-
  The contracts of the document's Lay, and of Ones and Low, both the program's and the document's.
-/
import Derived.Test.YtmpbidilonapjaaDoorWordLay
namespace Go.Proofs.YtmpbidilonapjaaDoor.Wd
open Go.RowKit

set_option maxHeartbeats 800000 in
theorem layRef_any (v p n x : Int) (v0 : 0 ≤ v) (hv : v < 18446744073709551616) (x0 : 0 ≤ x) (hx : x < 18446744073709551616) (h1 : -9223372036854775808 ≤ n) (h2 : n ≤ 9223372036854775807) (w : World) :
    Calls Tryd.prog 21 #[.int .u64 v, .int .i64 p, .int .i64 n, .int .u64 x] w fun e w' => e = .returned (.tuple #[.int .u64 (layV v p n x), .int .i64 (layE p n x)]) ∧ w = w' := by
  have hf := may_any p n h1 h2
  by_cases h : okB p n = true
  · simp only [h] at hf
    obtain ⟨a1, a2, a3, a4⟩ := (okB_iff p n).1 h
    have Hf := Lib.hid hf
    clear hf
    by_cases hl : x.toNat < 2 ^ n.toNat
    · have hB := (layB_iff p n x).2 ⟨h, hl⟩
      have e1 : layV v p n x = (put v.toNat p.toNat n.toNat x.toNat : Nat) := by unfold layV; rw [if_pos hB]
      have e2 : layE p n x = 0 := by unfold layE; rw [if_pos hB]
      rw [e1, e2]; clear e1 e2
      have ht := put_tb v.toNat p.toNat n.toNat x.toNat
      have hF := put_lt v.toNat p.toNat n.toNat x.toNat (by omega) (by omega) hl
      generalize put v.toNat p.toNat n.toNat x.toNat = F at *
      have Ht := Lib.hid (fun i => ht i (by omega) (by omega) hl)
      have hguard : decide (n < 64) = true → decide (IntKind.u64.wrap ((2 : Int) ^ n.toNat) ≤ x) = false := fun hn => by
        have hn' : n < 64 := by simpa using hn
        have := two_pow_lt n.toNat (by omega)
        rw [cast_two, wrapN _ this]
        exact decide_eq_false (by omega)
      have Hg := Lib.hid hguard
      clear ht hB h hguard
      cases hn : decide (n < 64)
      all_goals
        try have hng := Hg.out hn
        go_enter Tryd.func21, Tryd.ntmps21
        go_wp2_with fail
        refine (Hf.out _).mono ?_; rintro e w' ⟨rfl, rfl⟩
        go_wp2_with fail
        go_loop [10, 11] (fun o i => ∃ k : Nat, k ≤ 64 ∧ i = .int .i64 (63 - (k : Int)) ∧ o = .int .u64 (F / 2 ^ (64 - k) : Nat)) (fun _ i => (intOf i + 1).toNat)
        case atStart => exact ⟨0, by omega, rfl, by rw [Nat.div_eq_of_lt (show F < 2 ^ (64 - 0) from hF)]; rfl⟩
        case round =>
          clear Hg
          obtain ⟨k, hk, rfl, rfl⟩ := hrel
          by_cases hlt : k < 64
          · have hb := bit_any v (63 - (k : Int)) v0 (by omega) (by omega)
            have hs := top_step F (63 - k)
            rw [show 63 - k + 1 = 64 - k by omega, Ht.out (63 - k)] at hs
            rw [show (63 - (k : Int)).toNat = 63 - k by omega] at hb
            have ho : F / 2 ^ (64 - k) < 9223372036854775808 := by
              have : F / 2 ^ (64 - k) ≤ F / 2 ^ 1 := Nat.div_le_div_left (Nat.pow_le_pow_right (by decide) (by omega)) (by decide)
              omega
            have ei : 63 - (k : Int) - 1 = 63 - ((k + 1 : Nat) : Int) := by omega
            rw [show 63 - k = 64 - (k + 1) by omega] at hs
            generalize hq : F / 2 ^ (64 - (k + 1)) = y at *
            generalize F / 2 ^ (64 - k) = o at *
            have Hq := Lib.hid hq
            have Ei := Lib.hid ei
            have Hb := Lib.hid hb
            clear hq ei hb
            by_cases hin : p ≤ 63 - (k : Int)
            · by_cases hin2 : 63 - (k : Int) < p + n
              · have hb2 := bit_any x (63 - (k : Int) - p) x0 (by omega) (by omega)
                rw [if_pos (by omega)] at hs
                rw [show (63 - (k : Int) - p).toNat = 64 - (k + 1) - p.toNat by omega] at hb2
                cases hbit : x.toNat.testBit (64 - (k + 1) - p.toNat)
                all_goals
                  rw [hbit] at hb2 hs
                  have Hb2 := Lib.hid hb2
                  have Hs := Lib.hid hs
                  clear hb2 hs hbit
                  go_wp2_with fail
                  refine (Hb.out _).mono ?_; rintro e w' ⟨rfl, rfl⟩
                  go_wp2_with fail
                  refine (Hb2.out _).mono ?_; rintro e w' ⟨rfl, rfl⟩
                  go_wp2_with fail
                  go_round
                  case rel => exact ⟨k + 1, by omega, by rw [Ei.out], by rw [Hq.out, Hs.out]; go_num⟩
                  case measure => simp [intOf]; omega
              · rw [if_neg (by omega)] at hs
                rw [show 63 - k = 64 - (k + 1) by omega] at Hb
                cases hbit : v.toNat.testBit (64 - (k + 1))
                all_goals
                  rw [hbit] at Hb hs
                  have Hs := Lib.hid hs
                  clear hs hbit
                  go_wp2_with fail
                  refine (Hb.out _).mono ?_; rintro e w' ⟨rfl, rfl⟩
                  go_wp2_with fail
                  go_round
                  case rel => exact ⟨k + 1, by omega, by rw [Ei.out], by rw [Hq.out, Hs.out]; go_num⟩
                  case measure => simp [intOf]; omega
            · rw [if_neg (by omega)] at hs
              rw [show 63 - k = 64 - (k + 1) by omega] at Hb
              cases hbit : v.toNat.testBit (64 - (k + 1))
              all_goals
                rw [hbit] at Hb hs
                have Hs := Lib.hid hs
                clear hs hbit
                go_wp2_with fail
                refine (Hb.out _).mono ?_; rintro e w' ⟨rfl, rfl⟩
                go_wp2_with fail
                go_round
                case rel => exact ⟨k + 1, by omega, by rw [Ei.out], by rw [Hq.out, Hs.out]; go_num⟩
                case measure => simp [intOf]; omega
          · obtain rfl : k = 64 := by omega
            go_wp2_with fail
            go_ret2
            exact ⟨by simp, rfl⟩
    · have hB : ¬ layB p n x = true := fun hh => hl ((layB_iff p n x).1 hh).2
      have e1 : layV v p n x = 0 := by unfold layV; rw [if_neg hB]
      have e2 : layE p n x = 2 := by unfold layE; rw [if_neg hB]
      rw [e1, e2]; clear e1 e2
      have hn : n < 64 := by
        refine Classical.byContradiction fun h64 => hl ?_
        rw [show n.toNat = 64 by omega]
        exact (Int.toNat_lt x0).2 hx
      have hn' : decide (n < 64) = true := by simpa using hn
      have hg : decide (IntKind.u64.wrap ((2 : Int) ^ n.toNat) ≤ x) = true := by
        have := two_pow_lt n.toNat (by omega)
        rw [cast_two, wrapN _ this]
        exact decide_eq_true (by omega)
      clear hB h hl
      go_enter Tryd.func21, Tryd.ntmps21
      go_wp2_with fail
      refine (Hf.out _).mono ?_; rintro e w' ⟨rfl, rfl⟩
      go_wp2_with fail
      go_ret2
      exact ⟨rfl, rfl⟩
  · have hB : ¬ layB p n x = true := fun hh => h ((layB_iff p n x).1 hh).1
    have e1 : layV v p n x = 0 := by unfold layV; rw [if_neg hB]
    have e2 : layE p n x = 2 := by unfold layE; rw [if_neg hB]
    rw [e1, e2]; clear e1 e2
    simp only [h] at hf
    have Hf := Lib.hid hf
    clear hf h hB
    go_enter Tryd.func21, Tryd.ntmps21
    go_wp2_with fail
    refine (Hf.out _).mono ?_; rintro e w' ⟨rfl, rfl⟩
    go_wp2_with fail
    go_ret2
    exact ⟨rfl, rfl⟩

/-! ### Ones -/
theorem onesRef_any (v : Int) (v0 : 0 ≤ v) (w : World) :
    Calls Tryd.prog 23 #[.int .u64 v] w fun e w' => e = .returned (.int .i64 (onesV v)) ∧ w = w' := by
  go_enter Tryd.func23, Tryd.ntmps23
  go_wp2_with fail
  go_loop [3, 4] (fun c i => ∃ k : Nat, k ≤ 64 ∧ i = .int .i64 k ∧ c = .int .i64 (ones v.toNat k : Nat)) (fun _ i => 64 - (intOf i).toNat)
  case atStart => exact ⟨0, by omega, rfl, rfl⟩
  case round =>
    obtain ⟨k, hk, rfl, rfl⟩ := hrel
    have hle := ones_le v.toNat k
    by_cases hlt : k < 64
    · have hb := bit_any v k v0 (by omega) (by omega)
      have hs : ones v.toNat (k + 1) = ones v.toNat k + v.toNat / 2 ^ k % 2 := rfl
      rw [bit_tb] at hs
      rw [Int.toNat_natCast] at hb
      generalize hq : ones v.toNat (k + 1) = y at *
      have Hq := Lib.hid hq
      generalize ones v.toNat k = x at *
      clear hq
      cases hbit : v.toNat.testBit k
      all_goals
        rw [hbit] at hb hs
        have Hb := Lib.hid hb
        have Hs := Lib.hid hs
        clear hb hs hbit
        go_wp2_with fail
        refine (Hb.out _).mono ?_; rintro e w' ⟨rfl, rfl⟩
        go_wp2_with fail
        go_round
        case rel => exact ⟨k + 1, by omega, by go_num, by rw [Hq.out, Hs.out]; go_num⟩
        case measure => simp [intOf]; omega
    · obtain rfl : k = 64 := by omega
      go_wp2_with fail
      go_ret
      exact ⟨rfl, rfl⟩
theorem ones_any (v : Int) (v0 : 0 ≤ v) (hv : v < 18446744073709551616) (w : World) :
    Calls Tryd.prog 22 #[.int .u64 v] w fun e w' => e = .returned (.int .i64 (onesV v)) ∧ ∃ k, w' = w.drewN k := by
  go_enter Tryd.func22, Tryd.ntmps22
  go_wp2_with fail
  go_loopw [3, 5] (fun c i wr => ∃ k : Nat, k ≤ 64 ∧ i = .int .i64 k ∧ c = .int .i64 (ones v.toNat k : Nat) ∧ ∃ m, wr = w.drewN m) (fun _ i _ => 64 - (intOf i).toNat)
  case atStart => exact ⟨0, by omega, rfl, rfl, 0, rfl⟩
  case round =>
    obtain ⟨k, hk, rfl, rfl, m, rfl⟩ := hrel
    have hle := ones_le v.toNat k
    by_cases hlt : k < 64
    · have hb := cut_any v k 1 v0 hv (by omega) (by omega) (by omega) (by omega)
      have hs : ones v.toNat (k + 1) = ones v.toNat k + fld v.toNat k 1 := rfl
      rw [Int.toNat_natCast, show (1 : Int).toNat = 1 from rfl] at hb
      have hf := fld_lt v.toNat k 1
      generalize hq : ones v.toNat (k + 1) = y at *
      have Hq := Lib.hid hq
      generalize ones v.toNat k = x at *
      generalize fld v.toNat k 1 = b at *
      have Hb := Lib.hid hb
      have Hs := Lib.hid hs
      clear hq hb hs
      go_wp2_with fail
      refine (Hb.out _).mono ?_; rintro e w' ⟨rfl, m2, rfl⟩
      go_wp2_with fail
      go_roundw
      case rel => exact ⟨k + 1, by omega, by go_num, by rw [Hq.out, Hs.out]; go_num, _, rfl⟩
      case measure => simp [intOf]; omega
    · obtain rfl : k = 64 := by omega
      go_wp2_with fail
      go_ret
      exact ⟨rfl, _, rfl⟩

/-! ### Low -/
theorem lowRef_any (v : Int) (v0 : 0 ≤ v) (w : World) :
    Calls Tryd.prog 25 #[.int .u64 v] w fun e w' => e = .returned (.int .i64 (lowV v)) ∧ w = w' := by
  go_enter Tryd.func25, Tryd.ntmps25
  go_wp2_with fail
  go_loop [3] (fun i => ∃ k : Nat, k ≤ 64 ∧ i = .int .i64 k ∧ lowFrom v.toNat 0 64 = lowFrom v.toNat k (64 - k)) (fun i => 64 - (intOf i).toNat)
  case atStart => exact ⟨0, by omega, rfl, rfl⟩
  case round =>
    obtain ⟨k, hk, rfl, hl⟩ := hrel
    have Hl := Lib.hid hl
    clear hl
    by_cases hlt : k < 64
    · have hb := bit_any v k v0 (by omega) (by omega)
      have hs : lowFrom v.toNat k (64 - k) = if v.toNat / 2 ^ k % 2 = 1 then k else lowFrom v.toNat (k + 1) (64 - (k + 1)) := by
        rw [show 64 - k = (64 - (k + 1)) + 1 by omega]; rfl
      rw [bit_tb] at hs
      rw [Int.toNat_natCast] at hb
      cases hbit : v.toNat.testBit k
      · rw [hbit] at hb hs
        rw [if_neg (by decide)] at hs
        have Hb := Lib.hid hb
        have Hs := Lib.hid hs
        clear hb hs hbit
        go_wp2_with fail
        refine (Hb.out _).mono ?_; rintro e w' ⟨rfl, rfl⟩
        go_wp2_with fail
        go_round
        case rel => exact ⟨k + 1, by omega, by go_num, Hl.out.trans Hs.out⟩
        case measure => simp [intOf]; omega
      · rw [hbit] at hb hs
        rw [if_pos (by decide)] at hs
        have Hb := Lib.hid hb
        have Hs := Lib.hid hs
        clear hb hs hbit
        go_wp2_with fail
        refine (Hb.out _).mono ?_; rintro e w' ⟨rfl, rfl⟩
        go_wp2_with fail
        go_ret
        exact ⟨by unfold lowV; rw [Hl.out.trans Hs.out]; rfl, rfl⟩
    · obtain rfl : k = 64 := by omega
      go_wp2_with fail
      go_ret
      exact ⟨by unfold lowV; rw [Hl.out]; rfl, rfl⟩

theorem tz_num (v : Nat) (h0 : 0 < v) (hv : v < 18446744073709551616) :
    IntKind.u64.wrap (bits .and .u64 (v : Int) (IntKind.u64.wrap (-(v : Int))) * 285870213051353865) / 288230376151711744 = (place (v &&& (18446744073709551616 - v)) : Nat) := by
  have e : IntKind.u64.wrap (-(v : Int)) = ((18446744073709551616 - v : Nat) : Int) := by rw [IntKind.wrap_u64]; omega
  rw [e, u64_and_nat _ _ hv (by omega), IntKind.wrap_u64]
  unfold place
  omega
theorem tz_zero (w : World) :
    Calls Tryd.prog 34 #[.int .u64 0] w fun e w' => e = .returned (.int .i64 64) ∧ w = w' := by
  go_enter Tryd.func34, Tryd.ntmps34
  go_wp2
  go_ret
  exact ⟨rfl, rfl⟩
theorem tz_more (v m L : Nat) (hne : ((v : Int) == 0) = false) (l1 : m < 64) (hL : L ≤ 64) (hn : IntKind.u64.wrap (bits .and .u64 (v : Int) (IntKind.u64.wrap (-(v : Int))) * 285870213051353865) / 288230376151711744 = (m : Int)) (w : World) (hc : w.cell? ⟨0, m, none⟩ = some (.int .u8 (L : Nat))) :
    Calls Tryd.prog 34 #[.int .u64 v] w fun e w' => e = .returned (.int .i64 (L : Nat)) ∧ w = w' := by
  go_enter Tryd.func34, Tryd.ntmps34
  go_wp2
  go_ret
  exact ⟨rfl, rfl⟩
theorem tz_any (v : Nat) (hv : v < 18446744073709551616) (w : World) (ht : ∀ i : Nat, i < 64 → w.cell? ⟨0, i, none⟩ = some (.int .u8 (tab.getD i 0))) :
    Calls Tryd.prog 34 #[.int .u64 v] w fun e w' => e = .returned (.int .i64 (lowV v)) ∧ w = w' := by
  by_cases h : v = 0
  · subst h
    have hz := tz_zero w
    rw [← low_zero] at hz
    exact hz
  · obtain ⟨m, L, l1, hL, e1, e2, e3⟩ := low_place v (by omega) hv
    have hn := tz_num v (by omega) hv
    have hc := ht m l1
    rw [e3] at hn
    rw [e1] at hc
    rw [e2]
    exact tz_more v m L (by simpa using h) l1 hL hn w hc
theorem low_any (v : Int) (v0 : 0 ≤ v) (hv : v < 18446744073709551616) (w : World) (ht : ∀ i : Nat, i < 64 → w.cell? ⟨0, i, none⟩ = some (.int .u8 (tab.getD i 0))) :
    Calls Tryd.prog 24 #[.int .u64 v] w fun e w' => e = .returned (.int .i64 (lowV v)) ∧ w = w' := by
  have hc := tz_any v.toNat (by omega) w ht
  rw [Int.toNat_of_nonneg v0] at hc
  have Hc := Lib.hid hc
  clear hc ht
  go_enter Tryd.func24, Tryd.ntmps24
  go_wp2_with fail
  refine (Hc.out).mono ?_; rintro e w' ⟨rfl, rfl⟩
  go_wp2_with fail
  go_ret
  exact ⟨rfl, rfl⟩
end Go.Proofs.YtmpbidilonapjaaDoor.Wd
