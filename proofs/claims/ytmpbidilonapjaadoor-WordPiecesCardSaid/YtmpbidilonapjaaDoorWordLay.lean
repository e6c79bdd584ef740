/-
  The contracts of Lay, and of the document's Bits and Lay, bit by bit.
-/
import Derived.Test.YtmpbidilonapjaaDoorWordFields
namespace Go.Proofs.YtmpbidilonapjaaDoor.Wd
open Go.RowKit

theorem layB_iff (p n x : Int) : layB p n x = true ↔ okB p n = true ∧ x.toNat < 2 ^ n.toNat := by unfold layB; simp
theorem put_num (v p n x : Nat) (hv : v < 18446744073709551616) (hp : p + n ≤ 64) (hx : x < 2 ^ n) :
    bits .or .u64 (bits .andNot .u64 (v : Int) (IntKind.u64.wrap (((fld v p n : Nat) : Int) * 2 ^ p))) (IntKind.u64.wrap ((x : Int) * 2 ^ p)) = (put v p n x : Nat) := by
  have h1 := field_lt _ n p (fld_lt v p n) hp
  have h2 := field_lt x n p hx hp
  rw [cast_two, ← Int.natCast_mul, ← Int.natCast_mul, wrapN _ h1, wrapN _ h2, u64_andNot_nat _ _ hv h1, u64_or_nat _ _ (Nat.lt_of_le_of_lt Nat.and_le_left hv) h2]
  rfl

theorem lay_any (v p n x : Int) (v0 : 0 ≤ v) (hv : v < 18446744073709551616) (x0 : 0 ≤ x) (hx : x < 18446744073709551616) (h1 : -9223372036854775808 ≤ n) (h2 : n ≤ 9223372036854775807) (w : World) :
    Calls Tryd.prog 20 #[.int .u64 v, .int .i64 p, .int .i64 n, .int .u64 x] w fun e w' => e = .returned (.tuple #[.int .u64 (layV v p n x), .int .i64 (layE p n x)]) ∧ ∃ k, w' = w.drewN k := by
  have hf := isField_any p n h1 h2
  by_cases h : okB p n = true
  · simp only [h] at hf
    obtain ⟨a1, a2, a3, a4⟩ := (okB_iff p n).1 h
    have hc := cut_any x 0 n x0 hx (by omega) (by omega) (by omega) a2
    have Hf := Lib.hid hf
    clear hf
    by_cases hl : x.toNat < 2 ^ n.toNat
    · have hB := (layB_iff p n x).2 ⟨h, hl⟩
      have e1 : layV v p n x = (put v.toNat p.toNat n.toNat x.toNat : Nat) := by unfold layV; rw [if_pos hB]
      have e2 : layE p n x = 0 := by unfold layE; rw [if_pos hB]
      rw [e1, e2]; clear e1 e2
      rw [show (0 : Int).toNat = 0 from rfl, fld_all _ _ hl] at hc
      have hd := cut_any v p n v0 hv a3 (by omega) (by omega) a2
      have hn := put_num v.toNat p.toNat n.toNat x.toNat (by omega) (by omega) hl
      rw [Int.toNat_of_nonneg v0, Int.toNat_of_nonneg x0] at hn
      rw [Int.toNat_of_nonneg x0] at hc
      generalize put v.toNat p.toNat n.toNat x.toNat = F at *
      have p64 : p < 64 := by omega
      generalize fld v.toNat p.toNat n.toNat = b at *
      have Hc := Lib.hid hc
      have Hd := Lib.hid hd
      have Hn := Lib.hid hn
      clear hc hd hn hB h hl
      go_enter Tryd.func20, Tryd.ntmps20
      go_wp2_with fail
      refine (Hf.out _).mono ?_; rintro e w' ⟨rfl, rfl⟩
      go_wp2_with fail
      refine (Hc.out _).mono ?_; rintro e w' ⟨rfl, k, rfl⟩
      go_wp2_with fail
      refine (Hd.out _).mono ?_; rintro e w' ⟨rfl, k2, rfl⟩
      go_wp2_with fail
      go_quiet (fail)
      go_wp2
      rw [Hn.out]
      go_ret2
      exact ⟨rfl, k + k2 + nq, World.drewN_drewN _ _ _⟩
    · have hB : ¬ layB p n x = true := fun hh => hl ((layB_iff p n x).1 hh).2
      have e1 : layV v p n x = 0 := by unfold layV; rw [if_neg hB]
      have e2 : layE p n x = 2 := by unfold layE; rw [if_neg hB]
      rw [e1, e2]; clear e1 e2
      have hne : (((fld x.toNat 0 n.toNat : Nat) : Int) != x) = true := by
        rw [bne_iff_ne]
        intro he
        exact hl ((fld_same _ _).1 (by omega))
      rw [show (0 : Int).toNat = 0 from rfl] at hc
      generalize fld x.toNat 0 n.toNat = b at *
      have Hc := Lib.hid hc
      clear hc hB h hl
      go_enter Tryd.func20, Tryd.ntmps20
      go_wp2_with fail
      refine (Hf.out _).mono ?_; rintro e w' ⟨rfl, rfl⟩
      go_wp2_with fail
      refine (Hc.out _).mono ?_; rintro e w' ⟨rfl, k, rfl⟩
      go_wp2_with fail
      go_ret2
      exact ⟨rfl, _, rfl⟩
  · have hB : ¬ layB p n x = true := fun hh => h ((layB_iff p n x).1 hh).1
    have e1 : layV v p n x = 0 := by unfold layV; rw [if_neg hB]
    have e2 : layE p n x = 2 := by unfold layE; rw [if_neg hB]
    rw [e1, e2]; clear e1 e2
    simp only [h] at hf
    have Hf := Lib.hid hf
    clear hf h hB
    go_enter Tryd.func20, Tryd.ntmps20
    go_wp2_with fail
    refine (Hf.out _).mono ?_; rintro e w' ⟨rfl, rfl⟩
    go_wp2_with fail
    go_ret2
    exact ⟨rfl, 0, rfl⟩

/-! ### The document's answers, bit by bit -/
set_option maxHeartbeats 400000 in
theorem bitsRef_any (v p n : Int) (v0 : 0 ≤ v) (h1 : -9223372036854775808 ≤ n) (h2 : n ≤ 9223372036854775807) (w : World) :
    Calls Tryd.prog 19 #[.int .u64 v, .int .i64 p, .int .i64 n] w fun e w' => e = .returned (.tuple #[.int .u64 (bitsV v p n), .int .i64 (bitsE p n)]) ∧ w = w' := by
  have hf := may_any p n h1 h2
  by_cases h : okB p n = true
  · have e1 : bitsV v p n = (fld v.toNat p.toNat n.toNat : Nat) := by unfold bitsV; rw [if_pos h]
    have e2 : bitsE p n = 0 := by unfold bitsE; rw [if_pos h]
    rw [e1, e2]; clear e1 e2
    simp only [h] at hf
    obtain ⟨a1, a2, a3, a4⟩ := (okB_iff p n).1 h
    have Hf := Lib.hid hf
    clear hf h
    go_enter Tryd.func19, Tryd.ntmps19
    go_wp2_with fail
    refine (Hf.out _).mono ?_; rintro e w' ⟨rfl, rfl⟩
    go_wp2_with fail
    go_loop [8, 9] (fun x i => ∃ k : Nat, (k : Int) ≤ n ∧ i = .int .i64 (n - 1 - k) ∧ x = .int .u64 (fld v.toNat (p.toNat + (n.toNat - k)) k : Nat)) (fun _ i => (intOf i + 1).toNat)
    case atStart => exact ⟨0, by omega, by simp, by rw [fld_zero]; rfl⟩
    case round =>
      obtain ⟨k, hk, rfl, rfl⟩ := hrel
      by_cases hlt : (k : Int) < n
      · have hb := bit_any v (p + (n - 1 - k)) v0 (by omega) (by omega)
        have hs := fld_step v.toNat (p.toNat + (n.toNat - (k + 1))) k
        have hlo := fld_lt v.toNat (p.toNat + (n.toNat - k)) k
        have hpw : 2 ^ k ≤ 2 ^ 63 := Nat.pow_le_pow_right (by decide) (by omega)
        rw [show p.toNat + (n.toNat - (k + 1)) + 1 = p.toNat + (n.toNat - k) by omega, bit_tb] at hs
        rw [show (p + (n - 1 - k)).toNat = p.toNat + (n.toNat - (k + 1)) by omega] at hb
        have hx : fld v.toNat (p.toNat + (n.toNat - k)) k < 9223372036854775808 := by omega
        have ei : n - 1 - (k : Int) - 1 = n - 1 - ((k + 1 : Nat) : Int) := by omega
        generalize fld v.toNat (p.toNat + (n.toNat - k)) k = x at *
        generalize hq : fld v.toNat (p.toNat + (n.toNat - (k + 1))) (k + 1) = y at *
        have Hq := Lib.hid hq
        have Ei := Lib.hid ei
        clear hlo hpw hq ei
        cases hbit : v.toNat.testBit (p.toNat + (n.toNat - (k + 1)))
        · rw [hbit] at hb hs
          have Hb := Lib.hid hb
          have Hs : Hid (y = 2 * x) := Lib.hid (by simpa using hs)
          clear hb hs hbit
          go_wp2_with fail
          refine (Hb.out _).mono ?_; rintro e w' ⟨rfl, rfl⟩
          go_wp2_with fail
          go_round
          case rel => exact ⟨k + 1, by omega, by rw [Ei.out], by rw [Hq.out, Hs.out]; go_num⟩
          case measure => simp [intOf]; omega
        · rw [hbit] at hb hs
          have Hb := Lib.hid hb
          have Hs : Hid (y = 2 * x + 1) := Lib.hid (by simpa using hs)
          clear hb hs hbit
          go_wp2_with fail
          refine (Hb.out _).mono ?_; rintro e w' ⟨rfl, rfl⟩
          go_wp2_with fail
          go_round
          case rel => exact ⟨k + 1, by omega, by rw [Ei.out], by rw [Hq.out, Hs.out]; go_num⟩
          case measure => simp [intOf]; omega
      · obtain rfl : n = (k : Int) := by omega
        go_wp2_with fail
        go_ret2
        exact ⟨by simp, rfl⟩
  · have e1 : bitsV v p n = 0 := by unfold bitsV; rw [if_neg h]
    have e2 : bitsE p n = 2 := by unfold bitsE; rw [if_neg h]
    rw [e1, e2]; clear e1 e2
    simp only [h] at hf
    have Hf := Lib.hid hf
    clear hf h
    go_enter Tryd.func19, Tryd.ntmps19
    go_wp2_with fail
    refine (Hf.out _).mono ?_; rintro e w' ⟨rfl, rfl⟩
    go_wp2_with fail
    go_ret2
    exact ⟨rfl, rfl⟩
end Go.Proofs.YtmpbidilonapjaaDoor.Wd
