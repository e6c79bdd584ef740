/-
  The contracts of the functions of package word that package bits calls, and of math/bits.Len64: each is what a function of numbers says.
-/
import Derived.Test.YtijlaganpnoefaaDoorProg
import Derived.Test.YtijlaganpnoefaaDoorWordMath
import Derived.WalkKit
import Derived.RegionTactic
import Derived.Outline
import Derived.IntWalk
import Derived.Deep.QuietTactic
import Derived.BigQuiet
import Derived.Lib.Hide
import Derived.Laws.Externs
import Derived.Laws.MathBits
import Derived.Laws.BitsAllLaws
namespace Go.Proofs.YtijlaganpnoefaaDoor.Wd
open Go.RowKit

theorem wrapN (a : Nat) (ha : a < 18446744073709551616) : IntKind.u64.wrap (a : Int) = (a : Int) := by rw [IntKind.wrap_u64]; omega
theorem isField_any (p n : Int) (h1 : -9223372036854775808 ≤ n) (h2 : n ≤ 9223372036854775807) (w : World) :
    Calls Tryd.prog 58 #[.int .i64 p, .int .i64 n] w fun e w' => e = .returned (.bool (okB p n)) ∧ w = w' := by
  by_cases c1 : 1 ≤ n
  · by_cases c2 : 0 ≤ p
    · by_cases c3 : p ≤ 64 - n
      · have e : okB p n = true := by unfold okB; simp [c1, c2, c3]; omega
        rw [e]; clear e
        go_enter Tryd.func58, Tryd.ntmps58
        go_wp2
        go_ret
        exact ⟨rfl, rfl⟩
      · have e : okB p n = false := by unfold okB; simp [c1, c2, c3]
        rw [e]; clear e
        go_enter Tryd.func58, Tryd.ntmps58
        go_wp2
        go_ret
        exact ⟨rfl, rfl⟩
    · have e : okB p n = false := by unfold okB; simp [c1, c2]
      rw [e]; clear e
      go_enter Tryd.func58, Tryd.ntmps58
      go_wp2
      go_ret
      exact ⟨rfl, rfl⟩
  · have e : okB p n = false := by unfold okB; simp [c1]
    rw [e]; clear e
    go_enter Tryd.func58, Tryd.ntmps58
    go_wp2
    go_ret
    exact ⟨rfl, rfl⟩
theorem two_pow_lt (n : Nat) (hn : n < 64) : (2 : Nat) ^ n < 18446744073709551616 := Nat.pow_lt_pow_right (by decide) hn
theorem cast_two (n : Nat) : (2 : Int) ^ n = ((2 ^ n : Nat) : Int) := by rw [Int.natCast_pow]; rfl
theorem mask_num (n : Nat) (hn : n ≤ 64) : IntKind.u64.wrap (IntKind.u64.wrap ((2 : Int) ^ n) - 1) = ((2 ^ n - 1 : Nat) : Int) := by
  rw [IntKind.wrap_u64, IntKind.wrap_u64, cast_two]
  by_cases h : n = 64
  · subst h; decide
  · have := two_pow_lt n (by omega)
    have hp := Nat.two_pow_pos n
    omega
theorem cut_num (v p n : Nat) (hv : v < 18446744073709551616) (hn : n ≤ 64) : bits .and .u64 ((v : Int) / 2 ^ p) (IntKind.u64.wrap (IntKind.u64.wrap ((2 : Int) ^ n) - 1)) = (fld v p n : Nat) := by
  have hm : 2 ^ n - 1 < 18446744073709551616 := by
    by_cases h : n = 64
    · subst h; decide
    · have := two_pow_lt n (by omega)
      omega
  have hd : v / 2 ^ p < 18446744073709551616 := Nat.lt_of_le_of_lt (Nat.div_le_self _ _) hv
  rw [mask_num n hn, cast_two, ← Int.natCast_ediv, u64_and_nat _ _ hd hm, Nat.and_two_pow_sub_one_eq_mod]
  rfl
theorem cut_nat (v p n : Nat) (hv : v < 18446744073709551616) (hp : p < 64) (hn : n ≤ 64) (w : World) :
    Calls Tryd.prog 51 #[.int .u64 v, .int .i64 p, .int .i64 n] w fun e w' => e = .returned (.int .u64 (fld v p n : Nat)) ∧ ∃ k, w' = w.drewN k := by
  have hc := Lib.hid (cut_num v p n hv hn)
  go_enter Tryd.func51, Tryd.ntmps51
  go_wp2
  go_quiet (fail)
  rw [hc.out]
  go_wp2
  go_ret
  exact ⟨rfl, _, rfl⟩
theorem cut_any (v p n : Int) (v0 : 0 ≤ v) (hv : v < 18446744073709551616) (p0 : 0 ≤ p) (hp : p < 64) (n0 : 0 ≤ n) (hn : n ≤ 64) (w : World) :
    Calls Tryd.prog 51 #[.int .u64 v, .int .i64 p, .int .i64 n] w fun e w' => e = .returned (.int .u64 (fld v.toNat p.toNat n.toNat : Nat)) ∧ ∃ k, w' = w.drewN k := by
  have h := cut_nat v.toNat p.toNat n.toNat (by omega) (by omega) (by omega) w
  rw [Int.toNat_of_nonneg v0, Int.toNat_of_nonneg p0, Int.toNat_of_nonneg n0] at h
  exact h
theorem okB_iff (p n : Int) : okB p n = true ↔ 1 ≤ n ∧ n ≤ 64 ∧ 0 ≤ p ∧ p ≤ 64 - n := by unfold okB; simp [and_assoc]
theorem bits_any (v p n : Int) (v0 : 0 ≤ v) (hv : v < 18446744073709551616) (p1 : -9223372036854775808 ≤ p) (p2 : p ≤ 9223372036854775807) (h1 : -9223372036854775808 ≤ n) (h2 : n ≤ 9223372036854775807) (w : World) :
    Calls Tryd.prog 56 #[.int .u64 v, .int .i64 p, .int .i64 n] w fun e w' => e = .returned (.tuple #[.int .u64 (bitsV v p n), .int .i64 (bitsE p n)]) ∧ ∃ k, w' = w.drewN k := by
  have hf := isField_any p n h1 h2
  by_cases h : okB p n = true
  · have e1 : bitsV v p n = (fld v.toNat p.toNat n.toNat : Nat) := by unfold bitsV; rw [if_pos h]
    have e2 : bitsE p n = 0 := by unfold bitsE; rw [if_pos h]
    rw [e1, e2]; clear e1 e2
    simp only [h] at hf
    obtain ⟨a1, a2, a3, a4⟩ := (okB_iff p n).1 h
    have hc := cut_any v p n v0 hv a3 (by omega) (by omega) a2
    have Hf := Lib.hid hf
    have Hc := Lib.hid hc
    clear hf hc h
    generalize fld v.toNat p.toNat n.toNat = q at *
    go_enter Tryd.func56, Tryd.ntmps56
    go_wp2_with (first | (go_at_call 58; refine (Hf.out _).mono ?_; rintro e w' ⟨rfl, rfl⟩) | (go_at_call 51; refine (Hc.out _).mono ?_; rintro e w' ⟨rfl, k, rfl⟩))
    go_ret2
    exact ⟨rfl, _, rfl⟩
  · have e1 : bitsV v p n = 0 := by unfold bitsV; rw [if_neg h]
    have e2 : bitsE p n = 2 := by unfold bitsE; rw [if_neg h]
    rw [e1, e2]; clear e1 e2
    simp only [h] at hf
    have Hf := Lib.hid hf
    clear hf h
    go_enter Tryd.func56, Tryd.ntmps56
    go_wp2_with (go_at_call 58; refine (Hf.out _).mono ?_; rintro e w' ⟨rfl, rfl⟩)
    go_ret2
    exact ⟨rfl, 0, rfl⟩
theorem layB_iff (p n x : Int) : layB p n x = true ↔ okB p n = true ∧ x.toNat < 2 ^ n.toNat := by unfold layB; simp
theorem put_num (v p n x : Nat) (hv : v < 18446744073709551616) (hp : p + n ≤ 64) (hx : x < 2 ^ n) :
    bits .or .u64 (bits .andNot .u64 (v : Int) (IntKind.u64.wrap (((fld v p n : Nat) : Int) * 2 ^ p))) (IntKind.u64.wrap ((x : Int) * 2 ^ p)) = (put v p n x : Nat) := by
  have h1 := field_lt _ n p (fld_lt v p n) hp
  have h2 := field_lt x n p hx hp
  rw [cast_two, ← Int.natCast_mul, ← Int.natCast_mul, wrapN _ h1, wrapN _ h2, u64_andNot_nat _ _ hv h1, u64_or_nat _ _ (Nat.lt_of_le_of_lt Nat.and_le_left hv) h2]
  rfl

theorem lay_any (v p n x : Int) (v0 : 0 ≤ v) (hv : v < 18446744073709551616) (x0 : 0 ≤ x) (hx : x < 18446744073709551616) (h1 : -9223372036854775808 ≤ n) (h2 : n ≤ 9223372036854775807) (w : World) :
    Calls Tryd.prog 54 #[.int .u64 v, .int .i64 p, .int .i64 n, .int .u64 x] w fun e w' => e = .returned (.tuple #[.int .u64 (layV v p n x), .int .i64 (layE p n x)]) ∧ ∃ k, w' = w.drewN k := by
  have hf := isField_any p n h1 h2
  by_cases h : okB p n = true
  · simp only [h] at hf
    obtain ⟨a1, a2, a3, a4⟩ := (okB_iff p n).1 h
    have hc := cut_any x 0 n x0 hx (by omega) (by omega) (by omega) a2
    have Hf := Lib.hid hf
    clear hf
    by_cases hl : x.toNat < 2 ^ n.toNat
    · have hB := (layB_iff p n x).2 ⟨h, hl⟩
      have e1 : layV v p n x = (put v.toNat p.toNat n.toNat x.toNat : Nat) := by unfold layV; rw [if_pos hB]
      have e2 : layE p n x = 0 := by unfold layE; rw [if_pos hB]
      rw [e1, e2]; clear e1 e2
      rw [show (0 : Int).toNat = 0 from rfl, fld_all _ _ hl] at hc
      have hd := cut_any v p n v0 hv a3 (by omega) (by omega) a2
      have hn := put_num v.toNat p.toNat n.toNat x.toNat (by omega) (by omega) hl
      rw [Int.toNat_of_nonneg v0, Int.toNat_of_nonneg x0] at hn
      rw [Int.toNat_of_nonneg x0] at hc
      generalize put v.toNat p.toNat n.toNat x.toNat = F at *
      have p64 : p < 64 := by omega
      generalize fld v.toNat p.toNat n.toNat = b at *
      have Hc := Lib.hid hc
      have Hd := Lib.hid hd
      have Hn := Lib.hid hn
      clear hc hd hn hB h hl
      go_enter Tryd.func54, Tryd.ntmps54
      go_wp2_with fail
      refine (Hf.out _).mono ?_; rintro e w' ⟨rfl, rfl⟩
      go_wp2_with fail
      refine (Hc.out _).mono ?_; rintro e w' ⟨rfl, k, rfl⟩
      go_wp2_with fail
      refine (Hd.out _).mono ?_; rintro e w' ⟨rfl, k2, rfl⟩
      go_wp2_with fail
      go_quiet (fail)
      go_wp2
      rw [Hn.out]
      go_ret2
      exact ⟨rfl, k + k2 + nq, World.drewN_drewN _ _ _⟩
    · have hB : ¬ layB p n x = true := fun hh => hl ((layB_iff p n x).1 hh).2
      have e1 : layV v p n x = 0 := by unfold layV; rw [if_neg hB]
      have e2 : layE p n x = 2 := by unfold layE; rw [if_neg hB]
      rw [e1, e2]; clear e1 e2
      have hne : (((fld x.toNat 0 n.toNat : Nat) : Int) != x) = true := by
        rw [bne_iff_ne]
        intro he
        exact hl ((fld_same _ _).1 (by omega))
      rw [show (0 : Int).toNat = 0 from rfl] at hc
      generalize fld x.toNat 0 n.toNat = b at *
      have Hc := Lib.hid hc
      clear hc hB h hl
      go_enter Tryd.func54, Tryd.ntmps54
      go_wp2_with fail
      refine (Hf.out _).mono ?_; rintro e w' ⟨rfl, rfl⟩
      go_wp2_with fail
      refine (Hc.out _).mono ?_; rintro e w' ⟨rfl, k, rfl⟩
      go_wp2_with fail
      go_ret2
      exact ⟨rfl, _, rfl⟩
  · have hB : ¬ layB p n x = true := fun hh => h ((layB_iff p n x).1 hh).1
    have e1 : layV v p n x = 0 := by unfold layV; rw [if_neg hB]
    have e2 : layE p n x = 2 := by unfold layE; rw [if_neg hB]
    rw [e1, e2]; clear e1 e2
    simp only [h] at hf
    have Hf := Lib.hid hf
    clear hf h hB
    go_enter Tryd.func54, Tryd.ntmps54
    go_wp2_with fail
    refine (Hf.out _).mono ?_; rintro e w' ⟨rfl, rfl⟩
    go_wp2_with fail
    go_ret2
    exact ⟨rfl, 0, rfl⟩

theorem ones_any (v : Int) (v0 : 0 ≤ v) (hv : v < 18446744073709551616) (w : World) :
    Calls Tryd.prog 41 #[.int .u64 v] w fun e w' => e = .returned (.int .i64 (onesV v)) ∧ ∃ k, w' = w.drewN k := by
  go_enter Tryd.func41, Tryd.ntmps41
  go_wp2_with fail
  go_loopw [3, 5] (fun c i wr => ∃ k : Nat, k ≤ 64 ∧ i = .int .i64 k ∧ c = .int .i64 (ones v.toNat k : Nat) ∧ ∃ m, wr = w.drewN m) (fun _ i _ => 64 - (intOf i).toNat)
  case atStart => exact ⟨0, by omega, rfl, rfl, 0, rfl⟩
  case round =>
    obtain ⟨k, hk, rfl, rfl, m, rfl⟩ := hrel
    have hle := ones_le v.toNat k
    by_cases hlt : k < 64
    · have hb := cut_any v k 1 v0 hv (by omega) (by omega) (by omega) (by omega)
      have hs : ones v.toNat (k + 1) = ones v.toNat k + fld v.toNat k 1 := rfl
      rw [Int.toNat_natCast, show (1 : Int).toNat = 1 from rfl] at hb
      have hf := fld_lt v.toNat k 1
      generalize hq : ones v.toNat (k + 1) = y at *
      have Hq := Lib.hid hq
      generalize ones v.toNat k = x at *
      generalize fld v.toNat k 1 = b at *
      have Hb := Lib.hid hb
      have Hs := Lib.hid hs
      clear hq hb hs
      go_wp2_with fail
      refine (Hb.out _).mono ?_; rintro e w' ⟨rfl, m2, rfl⟩
      go_wp2_with fail
      go_roundw
      case rel => exact ⟨k + 1, by omega, by go_num, by rw [Hq.out, Hs.out]; go_num, _, rfl⟩
      case measure => simp [intOf]; omega
    · obtain rfl : k = 64 := by omega
      go_wp2_with fail
      go_ret
      exact ⟨rfl, _, rfl⟩

theorem tz_num (v : Nat) (h0 : 0 < v) (hv : v < 18446744073709551616) :
    IntKind.u64.wrap (bits .and .u64 (v : Int) (IntKind.u64.wrap (-(v : Int))) * 285870213051353865) / 288230376151711744 = (place (v &&& (18446744073709551616 - v)) : Nat) := by
  have e : IntKind.u64.wrap (-(v : Int)) = ((18446744073709551616 - v : Nat) : Int) := by rw [IntKind.wrap_u64]; omega
  rw [e, u64_and_nat _ _ hv (by omega), IntKind.wrap_u64]
  unfold place
  omega
theorem tz_zero (w : World) :
    Calls Tryd.prog 59 #[.int .u64 0] w fun e w' => e = .returned (.int .i64 64) ∧ w = w' := by
  go_enter Tryd.func59, Tryd.ntmps59
  go_wp2
  go_ret
  exact ⟨rfl, rfl⟩
theorem tz_more (v m L : Nat) (hne : ((v : Int) == 0) = false) (l1 : m < 64) (hL : L ≤ 64) (hn : IntKind.u64.wrap (bits .and .u64 (v : Int) (IntKind.u64.wrap (-(v : Int))) * 285870213051353865) / 288230376151711744 = (m : Int)) (w : World) (hc : w.cell? ⟨0, m, none⟩ = some (.int .u8 (L : Nat))) :
    Calls Tryd.prog 59 #[.int .u64 v] w fun e w' => e = .returned (.int .i64 (L : Nat)) ∧ w = w' := by
  go_enter Tryd.func59, Tryd.ntmps59
  go_wp2
  go_ret
  exact ⟨rfl, rfl⟩
theorem tz_any (v : Nat) (hv : v < 18446744073709551616) (w : World) (ht : ∀ i : Nat, i < 64 → w.cell? ⟨0, i, none⟩ = some (.int .u8 (tab.getD i 0))) :
    Calls Tryd.prog 59 #[.int .u64 v] w fun e w' => e = .returned (.int .i64 (lowV v)) ∧ w = w' := by
  by_cases h : v = 0
  · subst h
    have hz := tz_zero w
    rw [← low_zero] at hz
    exact hz
  · obtain ⟨m, L, l1, hL, e1, e2, e3⟩ := low_place v (by omega) hv
    have hn := tz_num v (by omega) hv
    have hc := ht m l1
    rw [e3] at hn
    rw [e1] at hc
    rw [e2]
    exact tz_more v m L (by simpa using h) l1 hL hn w hc
theorem low_any (v : Int) (v0 : 0 ≤ v) (hv : v < 18446744073709551616) (w : World) (ht : ∀ i : Nat, i < 64 → w.cell? ⟨0, i, none⟩ = some (.int .u8 (tab.getD i 0))) :
    Calls Tryd.prog 57 #[.int .u64 v] w fun e w' => e = .returned (.int .i64 (lowV v)) ∧ w = w' := by
  have hc := tz_any v.toNat (by omega) w ht
  rw [Int.toNat_of_nonneg v0] at hc
  have Hc := Lib.hid hc
  clear hc ht
  go_enter Tryd.func57, Tryd.ntmps57
  go_wp2_with fail
  refine (Hc.out).mono ?_; rintro e w' ⟨rfl, rfl⟩
  go_wp2_with fail
  go_ret
  exact ⟨rfl, rfl⟩
/-- The table of the lowest bits, as the program's text lays it. -/
def Table (w : World) : Prop := ∀ i : Nat, i < 64 → w.cell? ⟨0, i, none⟩ = some (.int .u8 (tab.getD i 0))
theorem Table.drewN {w : World} (h : Table w) (k : Nat) : Table (w.drewN k) := h

end Go.Proofs.YtijlaganpnoefaaDoor.Wd
