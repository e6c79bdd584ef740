/-
  The contracts of the functions on granules and on fields of bits.
-/
import Derived.Test.YtmpbidilonapjaaDoorWordBase
import Derived.IntWalk
namespace Go.Proofs.YtmpbidilonapjaaDoor.Wd
open Go.RowKit

/-! ### Granules -/
theorem up_any (n : Int) (h1 : -9223372036854775808 ≤ n) (h2 : n ≤ 9223372036854775807) (w : World) :
    Calls Tryd.prog 13 #[.int .i64 n] w fun e w' => e = .returned (.int .i64 (upV n)) ∧ w = w' := by
  by_cases h : n < 1
  · have e3 : upV n = 0 := by unfold upV; rw [if_pos h]
    rw [e3]; clear e3
    go_enter Tryd.func13, Tryd.ntmps13
    go_wp2
    go_ret
    exact ⟨rfl, rfl⟩
  · have e3 : upV n = (n - 1) / 2 + 1 := by unfold upV; rw [if_neg h]
    rw [e3]; clear e3
    go_enter Tryd.func13, Tryd.ntmps13
    go_wp2
    go_ret
    exact ⟨rfl, rfl⟩
theorem upRef_any (n : Int) (h1 : -9223372036854775808 ≤ n) (h2 : n ≤ 9223372036854775807) (w : World) :
    Calls Tryd.prog 14 #[.int .i64 n] w fun e w' => e = .returned (.int .i64 (upV n)) ∧ w = w' := by
  by_cases h : n < 1
  · have e3 : upV n = 0 := by unfold upV; rw [if_pos h]
    rw [e3]; clear e3
    go_enter Tryd.func14, Tryd.ntmps14
    go_wp2
    go_ret
    exact ⟨rfl, rfl⟩
  · have e3 : upV n = (n - 1) / 2 + 1 := by unfold upV; rw [if_neg h]
    rw [e3]; clear e3
    go_enter Tryd.func14, Tryd.ntmps14
    go_wp2
    go_ret
    exact ⟨rfl, rfl⟩
theorem down_any (n : Int) (h1 : -9223372036854775808 ≤ n) (h2 : n ≤ 9223372036854775807) (w : World) :
    Calls Tryd.prog 15 #[.int .i64 n] w fun e w' => e = .returned (.int .i64 (downV n)) ∧ w = w' := by
  by_cases h : n < 1
  · have e3 : downV n = 0 := by unfold downV; rw [if_pos h]
    rw [e3]; clear e3
    go_enter Tryd.func15, Tryd.ntmps15
    go_wp2
    go_ret
    exact ⟨rfl, rfl⟩
  · have e3 : downV n = n / 2 := by unfold downV; rw [if_neg h]
    rw [e3]; clear e3
    go_enter Tryd.func15, Tryd.ntmps15
    go_wp2
    go_ret
    exact ⟨rfl, rfl⟩
theorem downRef_any (n : Int) (h1 : -9223372036854775808 ≤ n) (h2 : n ≤ 9223372036854775807) (w : World) :
    Calls Tryd.prog 16 #[.int .i64 n] w fun e w' => e = .returned (.int .i64 (downV n)) ∧ w = w' := by
  by_cases h : n < 1
  · have e3 : downV n = 0 := by unfold downV; rw [if_pos h]
    rw [e3]; clear e3
    go_enter Tryd.func16, Tryd.ntmps16
    go_wp2
    go_ret
    exact ⟨rfl, rfl⟩
  · have e3 : downV n = n / 2 := by unfold downV; rw [if_neg h]
    rw [e3]; clear e3
    go_enter Tryd.func16, Tryd.ntmps16
    go_wp2
    go_ret
    exact ⟨rfl, rfl⟩

/-! ### Is there such a field? -/
theorem isField_any (p n : Int) (h1 : -9223372036854775808 ≤ n) (h2 : n ≤ 9223372036854775807) (w : World) :
    Calls Tryd.prog 30 #[.int .i64 p, .int .i64 n] w fun e w' => e = .returned (.bool (okB p n)) ∧ w = w' := by
  by_cases c1 : 1 ≤ n
  · by_cases c2 : 0 ≤ p
    · by_cases c3 : p ≤ 64 - n
      · have e : okB p n = true := by unfold okB; simp [c1, c2, c3]; omega
        rw [e]; clear e
        go_enter Tryd.func30, Tryd.ntmps30
        go_wp2
        go_ret
        exact ⟨rfl, rfl⟩
      · have e : okB p n = false := by unfold okB; simp [c1, c2, c3]
        rw [e]; clear e
        go_enter Tryd.func30, Tryd.ntmps30
        go_wp2
        go_ret
        exact ⟨rfl, rfl⟩
    · have e : okB p n = false := by unfold okB; simp [c1, c2]
      rw [e]; clear e
      go_enter Tryd.func30, Tryd.ntmps30
      go_wp2
      go_ret
      exact ⟨rfl, rfl⟩
  · have e : okB p n = false := by unfold okB; simp [c1]
    rw [e]; clear e
    go_enter Tryd.func30, Tryd.ntmps30
    go_wp2
    go_ret
    exact ⟨rfl, rfl⟩
theorem may_any (p n : Int) (h1 : -9223372036854775808 ≤ n) (h2 : n ≤ 9223372036854775807) (w : World) :
    Calls Tryd.prog 32 #[.int .i64 p, .int .i64 n] w fun e w' => e = .returned (.bool (okB p n)) ∧ w = w' := by
  by_cases c1 : 1 ≤ n
  · by_cases c0 : n ≤ 64
    · by_cases c2 : 0 ≤ p
      · by_cases c3 : p ≤ 64 - n
        · have e : okB p n = true := by unfold okB; simp [c0, c1, c2, c3]
          rw [e]; clear e
          go_enter Tryd.func32, Tryd.ntmps32
          go_wp2
          go_ret
          exact ⟨rfl, rfl⟩
        · have e : okB p n = false := by unfold okB; simp [c0, c1, c2, c3]
          rw [e]; clear e
          go_enter Tryd.func32, Tryd.ntmps32
          go_wp2
          go_ret
          exact ⟨rfl, rfl⟩
      · have e : okB p n = false := by unfold okB; simp [c0, c1, c2]
        rw [e]; clear e
        go_enter Tryd.func32, Tryd.ntmps32
        go_wp2
        go_ret
        exact ⟨rfl, rfl⟩
    · have e : okB p n = false := by unfold okB; simp [c0, c1]
      rw [e]; clear e
      go_enter Tryd.func32, Tryd.ntmps32
      go_wp2
      go_ret
      exact ⟨rfl, rfl⟩
  · have e : okB p n = false := by unfold okB; simp [c1]
    rw [e]; clear e
    go_enter Tryd.func32, Tryd.ntmps32
    go_wp2
    go_ret
    exact ⟨rfl, rfl⟩

/-! ### A field; a bit -/
theorem two_pow_lt (n : Nat) (hn : n < 64) : (2 : Nat) ^ n < 18446744073709551616 := Nat.pow_lt_pow_right (by decide) hn
theorem cast_two (n : Nat) : (2 : Int) ^ n = ((2 ^ n : Nat) : Int) := by rw [Int.natCast_pow]; rfl
theorem mask_num (n : Nat) (hn : n ≤ 64) : IntKind.u64.wrap (IntKind.u64.wrap ((2 : Int) ^ n) - 1) = ((2 ^ n - 1 : Nat) : Int) := by
  rw [IntKind.wrap_u64, IntKind.wrap_u64, cast_two]
  by_cases h : n = 64
  · subst h; decide
  · have := two_pow_lt n (by omega)
    have hp := Nat.two_pow_pos n
    omega
theorem cut_num (v p n : Nat) (hv : v < 18446744073709551616) (hn : n ≤ 64) : bits .and .u64 ((v : Int) / 2 ^ p) (IntKind.u64.wrap (IntKind.u64.wrap ((2 : Int) ^ n) - 1)) = (fld v p n : Nat) := by
  have hm : 2 ^ n - 1 < 18446744073709551616 := by
    by_cases h : n = 64
    · subst h; decide
    · have := two_pow_lt n (by omega)
      omega
  have hd : v / 2 ^ p < 18446744073709551616 := Nat.lt_of_le_of_lt (Nat.div_le_self _ _) hv
  rw [mask_num n hn, cast_two, ← Int.natCast_ediv, u64_and_nat _ _ hd hm, Nat.and_two_pow_sub_one_eq_mod]
  rfl
theorem bit_num (v p : Nat) : (((v : Int) / 2 ^ p).tmod 2 == 1) = v.testBit p := by
  rw [cast_two, ← Int.natCast_ediv, Int.tmod_eq_emod_of_nonneg (Int.natCast_nonneg _), Nat.testBit_eq_decide_div_mod_eq]
  by_cases h : v / 2 ^ p % 2 = 1
  · have e : ((v / 2 ^ p : Nat) : Int) % 2 = 1 := by omega
    rw [e]; simp [h]
  · have e : ((v / 2 ^ p : Nat) : Int) % 2 = 0 := by omega
    rw [e]; simp [h]

theorem cut_nat (v p n : Nat) (hv : v < 18446744073709551616) (hp : p < 64) (hn : n ≤ 64) (w : World) :
    Calls Tryd.prog 31 #[.int .u64 v, .int .i64 p, .int .i64 n] w fun e w' => e = .returned (.int .u64 (fld v p n : Nat)) ∧ ∃ k, w' = w.drewN k := by
  have hc := Lib.hid (cut_num v p n hv hn)
  go_enter Tryd.func31, Tryd.ntmps31
  go_wp2
  go_quiet (fail)
  rw [hc.out]
  go_wp2
  go_ret
  exact ⟨rfl, _, rfl⟩
theorem cut_any (v p n : Int) (v0 : 0 ≤ v) (hv : v < 18446744073709551616) (p0 : 0 ≤ p) (hp : p < 64) (n0 : 0 ≤ n) (hn : n ≤ 64) (w : World) :
    Calls Tryd.prog 31 #[.int .u64 v, .int .i64 p, .int .i64 n] w fun e w' => e = .returned (.int .u64 (fld v.toNat p.toNat n.toNat : Nat)) ∧ ∃ k, w' = w.drewN k := by
  have h := cut_nat v.toNat p.toNat n.toNat (by omega) (by omega) (by omega) w
  rw [Int.toNat_of_nonneg v0, Int.toNat_of_nonneg p0, Int.toNat_of_nonneg n0] at h
  exact h
theorem bit_nat (v p : Nat) (hp : p < 64) (w : World) :
    Calls Tryd.prog 33 #[.int .u64 v, .int .i64 p] w fun e w' => e = .returned (.bool (v.testBit p)) ∧ w = w' := by
  have hc := Lib.hid (bit_num v p)
  go_enter Tryd.func33, Tryd.ntmps33
  go_wp2
  rw [hc.out]
  go_ret
  exact ⟨rfl, rfl⟩
theorem bit_any (v p : Int) (v0 : 0 ≤ v) (p0 : 0 ≤ p) (hp : p < 64) (w : World) :
    Calls Tryd.prog 33 #[.int .u64 v, .int .i64 p] w fun e w' => e = .returned (.bool (v.toNat.testBit p.toNat)) ∧ w = w' := by
  have h := bit_nat v.toNat p.toNat (by omega) w
  rw [Int.toNat_of_nonneg v0, Int.toNat_of_nonneg p0] at h
  exact h

/-! ### Bits -/
theorem okB_iff (p n : Int) : okB p n = true ↔ 1 ≤ n ∧ n ≤ 64 ∧ 0 ≤ p ∧ p ≤ 64 - n := by unfold okB; simp [and_assoc]
theorem bits_any (v p n : Int) (v0 : 0 ≤ v) (hv : v < 18446744073709551616) (p1 : -9223372036854775808 ≤ p) (p2 : p ≤ 9223372036854775807) (h1 : -9223372036854775808 ≤ n) (h2 : n ≤ 9223372036854775807) (w : World) :
    Calls Tryd.prog 18 #[.int .u64 v, .int .i64 p, .int .i64 n] w fun e w' => e = .returned (.tuple #[.int .u64 (bitsV v p n), .int .i64 (bitsE p n)]) ∧ ∃ k, w' = w.drewN k := by
  have hf := isField_any p n h1 h2
  by_cases h : okB p n = true
  · have e1 : bitsV v p n = (fld v.toNat p.toNat n.toNat : Nat) := by unfold bitsV; rw [if_pos h]
    have e2 : bitsE p n = 0 := by unfold bitsE; rw [if_pos h]
    rw [e1, e2]; clear e1 e2
    simp only [h] at hf
    obtain ⟨a1, a2, a3, a4⟩ := (okB_iff p n).1 h
    have hc := cut_any v p n v0 hv a3 (by omega) (by omega) a2
    have Hf := Lib.hid hf
    have Hc := Lib.hid hc
    clear hf hc h
    generalize fld v.toNat p.toNat n.toNat = q at *
    go_enter Tryd.func18, Tryd.ntmps18
    go_wp2_with (first | (go_at_call 30; refine (Hf.out _).mono ?_; rintro e w' ⟨rfl, rfl⟩) | (go_at_call 31; refine (Hc.out _).mono ?_; rintro e w' ⟨rfl, k, rfl⟩))
    go_ret2
    exact ⟨rfl, _, rfl⟩
  · have e1 : bitsV v p n = 0 := by unfold bitsV; rw [if_neg h]
    have e2 : bitsE p n = 2 := by unfold bitsE; rw [if_neg h]
    rw [e1, e2]; clear e1 e2
    simp only [h] at hf
    have Hf := Lib.hid hf
    clear hf h
    go_enter Tryd.func18, Tryd.ntmps18
    go_wp2_with (go_at_call 30; refine (Hf.out _).mono ?_; rintro e w' ⟨rfl, rfl⟩)
    go_ret2
    exact ⟨rfl, 0, rfl⟩
end Go.Proofs.YtmpbidilonapjaaDoor.Wd
