/-
  The walks of the laws WordBack and WordLaid.
-/
import Derived.Test.YtmpbidilonapjaaDoorWordSums
import Derived.Deep.DeepCutAuto
namespace Go.Proofs.YtmpbidilonapjaaDoor.Wd
open Go.RowKit

/-! ### What was laid -/
theorem laid_facts (v p n x : Int) (v0 : 0 ≤ v) (hv : v < 18446744073709551616) (x0 : 0 ≤ x) (h : layB p n x = true) :
    0 ≤ layV v p n x ∧ layV v p n x < 18446744073709551616 ∧ 0 ≤ bitsV v p n ∧ bitsV v p n < 18446744073709551616 ∧ bitsE p n = 0 ∧ layE p n x = 0 ∧ bitsV (layV v p n x) p n = x ∧
    layV (layV v p n x) p n (bitsV v p n) = v ∧ layE p n (bitsV v p n) = 0 ∧ onesV (layV v p n x) - onesV v = onesV x - onesV (bitsV v p n) := by
  obtain ⟨ho, hl⟩ := (layB_iff p n x).1 h
  obtain ⟨a1, a2, a3, a4⟩ := (okB_iff p n).1 ho
  have hpn : p.toNat + n.toNat ≤ 64 := by omega
  have hv' : v.toNat < 18446744073709551616 := by omega
  have eV : layV v p n x = (put v.toNat p.toNat n.toNat x.toNat : Nat) := by unfold layV; rw [if_pos h]
  have eB : bitsV v p n = (fld v.toNat p.toNat n.toNat : Nat) := by unfold bitsV; rw [if_pos ho]
  have hp := put_lt v.toNat p.toNat n.toNat x.toNat hv' hpn hl
  have hf := fld_lt v.toNat p.toNat n.toNat
  have hf2 : fld v.toNat p.toNat n.toNat < 18446744073709551616 := by
    have := field_lt _ n.toNat 0 hf (by omega)
    omega
  have hB2 : layB p n (bitsV v p n) = true := (layB_iff _ _ _).2 ⟨ho, by rw [eB, Int.toNat_natCast]; exact hf⟩
  refine ⟨by rw [eV]; omega, by rw [eV]; omega, by rw [eB]; omega, by rw [eB]; omega, ?_, ?_, ?_, ?_, ?_, ?_⟩
  · unfold bitsE; rw [if_pos ho]
  · unfold layE; rw [if_pos h]
  · unfold bitsV; rw [if_pos ho, eV, Int.toNat_natCast, fld_put _ _ _ _ hv' hpn hl]; omega
  · unfold layV; rw [if_pos hB2, if_pos h, eB, Int.toNat_natCast, Int.toNat_natCast, put_back _ _ _ _ hv' hpn hl]; omega
  · unfold layE; rw [if_pos hB2]
  · unfold onesV
    rw [eV, eB, Int.toNat_natCast, Int.toNat_natCast]
    exact ones_laid _ _ _ _ hv' hpn hl
theorem beside_num (v p n x : Int) (v0 : 0 ≤ v) (hv : v < 18446744073709551616) (h : layB p n x = true) :
    bits .andNot .u64 (bits .xor .u64 v (layV v p n x)) (IntKind.u64.wrap (IntKind.u64.wrap (IntKind.u64.wrap ((2 : Int) ^ n.toNat) - 1) * 2 ^ p.toNat)) = 0 := by
  obtain ⟨ho, hl⟩ := (layB_iff p n x).1 h
  obtain ⟨a1, a2, a3, a4⟩ := (okB_iff p n).1 ho
  have hpn : p.toNat + n.toNat ≤ 64 := by omega
  have hv' : v.toNat < 18446744073709551616 := by omega
  have eV : layV v p n x = (put v.toNat p.toNat n.toNat x.toNat : Nat) := by unfold layV; rw [if_pos h]
  have hp := put_lt v.toNat p.toNat n.toNat x.toNat hv' hpn hl
  have hm := field_lt (2 ^ n.toNat - 1) n.toNat p.toNat (Nat.sub_lt (Nat.two_pow_pos _) (by decide)) hpn
  have hb := put_beside v.toNat p.toNat n.toNat x.toNat hv' hpn hl
  rw [mask_num n.toNat (by omega), cast_two, ← Int.natCast_mul, wrapN _ hm, eV]
  obtain ⟨V, rfl⟩ := Int.eq_ofNat_of_zero_le v0
  rw [Int.toNat_natCast] at *
  rw [u64_xor_nat _ _ hv' hp, u64_andNot_nat _ _ (Nat.xor_lt_two_pow (n := 64) hv' hp) hm, hb]
  rfl
theorem ones_range (v : Int) : 0 ≤ onesV v ∧ onesV v ≤ 64 := by
  unfold onesV
  have := ones_le v.toNat 64
  omega

set_option maxHeartbeats 800000 in
theorem laid_walk (v p n x : Int) (v0 : 0 ≤ v) (v1 : v < 18446744073709551616) (p1 : -9223372036854775808 ≤ p) (p2 : p ≤ 9223372036854775807) (n1 : -9223372036854775808 ≤ n) (n2 : n ≤ 9223372036854775807) (x0 : 0 ≤ x) (x1 : x < 18446744073709551616) (w : World) (ht : Table w) :
    Calls Tryd.prog 6 #[.int .u64 v, .int .i64 p, .int .i64 n, .int .u64 x] w fun e w' => e = .returned (.bool true) ∧ ∃ k, w' = w.drewN k := by
  have HA := Lib.hid alive_any
  have hl := lay_any v p n x v0 v1 x0 x1 n1 n2
  by_cases h : layB p n x = true
  · obtain ⟨w0, w1, b0, b1, eE, eL, e1, e2, e3, e4⟩ := laid_facts v p n x v0 v1 x0 h
    have hb := bits_any v p n v0 v1 p1 p2 n1 n2
    have hb2 := bits_any (layV v p n x) p n w0 w1 p1 p2 n1 n2
    have hl2 := lay_any (layV v p n x) p n (bitsV v p n) w0 w1 b0 b1 n1 n2
    have o1 := ones_any (layV v p n x) w0 w1
    have o2 := ones_any v v0 v1
    have o3 := ones_any x x0 x1
    have o4 := ones_any (bitsV v p n) b0 b1
    have r1 := ones_range (layV v p n x)
    have r2 := ones_range v
    have r3 := ones_range x
    have r4 := ones_range (bitsV v p n)
    have hz := beside_num v p n x v0 v1 h
    obtain ⟨a1, a2, a3, a4⟩ := (okB_iff p n).1 ((layB_iff p n x).1 h).1
    rw [eE] at hb hb2
    rw [eL] at hl
    rw [e1] at hb2
    rw [e2, e3] at hl2
    generalize layV v p n x = W at *
    generalize bitsV v p n = B at *
    generalize onesV W = q1 at *
    generalize onesV v = q2 at *
    generalize onesV x = q3 at *
    generalize onesV B = q4 at *
    have hneq : (q1 - q2 != q3 - q4) = false := by rw [e4]; simp
    have p64 : p < 64 := by omega
    have Hb := Lib.hid hb
    have Hb2 := Lib.hid hb2
    have Hl := Lib.hid hl
    have Hl2 := Lib.hid hl2
    have O1 := Lib.hid o1
    have O2 := Lib.hid o2
    have O3 := Lib.hid o3
    have O4 := Lib.hid o4
    have Hz := Lib.hid hz
    have E4 := Lib.hid e4
    clear hb hb2 hl hl2 o1 o2 o3 o4 hz e1 e2 e3 e4 eE eL h
    go_enter Tryd.func6, Tryd.ntmps6
    go_wp2_with fail
    refine (Hb.out _).mono ?_; rintro e w' ⟨rfl, k1, rfl⟩
    go_wp2_with fail
    refine (Hl.out _).mono ?_; rintro e w' ⟨rfl, k2, rfl⟩
    go_wp2_with fail
    refine (Hb2.out _).mono ?_; rintro e w' ⟨rfl, k3, rfl⟩
    go_wp2_with fail
    refine (Hl2.out _).mono ?_; rintro e w' ⟨rfl, k4, rfl⟩
    go_wp2_with fail
    refine (O1.out _).mono ?_; rintro e w' ⟨rfl, k5, rfl⟩
    go_wp2_with fail
    refine (O2.out _).mono ?_; rintro e w' ⟨rfl, k6, rfl⟩
    go_wp2_with fail
    refine (O3.out _).mono ?_; rintro e w' ⟨rfl, k7, rfl⟩
    go_wp2_with fail
    refine (O4.out _).mono ?_; rintro e w' ⟨rfl, k8, rfl⟩
    by_cases hn : n < 64
    · have hz2 := Hz.out
      go_wp2_with fail
      refine (HA.out _ (ht.drewN _)).mono ?_; rintro e w' ⟨rfl, k, rfl⟩
      clear hz2
      go_wp2_with fail
      go_ret
      exact ⟨rfl, _, rfl⟩
    · go_wp2_with fail
      refine (HA.out _ (ht.drewN _)).mono ?_; rintro e w' ⟨rfl, k, rfl⟩
      go_wp2_with fail
      go_ret
      exact ⟨rfl, _, rfl⟩
  · have e1 : layV v p n x = 0 := by unfold layV; rw [if_neg h]
    have e2 : layE p n x = 2 := by unfold layE; rw [if_neg h]
    rw [e1, e2] at hl
    have hb := bits_any v p n v0 v1 p1 p2 n1 n2
    have Hb := Lib.hid hb
    have Hl := Lib.hid hl
    clear hb hl e1 e2 h
    go_enter Tryd.func6, Tryd.ntmps6
    go_wp2_with fail
    refine (Hb.out _).mono ?_; rintro e w' ⟨rfl, k1, rfl⟩
    go_wp2_with fail
    refine (Hl.out _).mono ?_; rintro e w' ⟨rfl, k2, rfl⟩
    go_wp2_with fail
    refine (HA.out _ (ht.drewN _)).mono ?_; rintro e w' ⟨rfl, k, rfl⟩
    go_wp2_with fail
    go_ret
    exact ⟨rfl, _, rfl⟩

/-! ### Sums, differences and products go back -/
theorem mul_back (a b : Int) (hb : 0 < b) : a * b / b = a ∧ a * b % b = 0 := ⟨Int.mul_ediv_cancel _ (by omega), Int.mul_emod_left _ _⟩
theorem granules (n : Int) (h0 : 0 ≤ n) : 0 ≤ upV n ∧ 0 ≤ downV n ∧ n ≤ upV n * 2 ∧ downV n * 2 ≤ n ∧ upV n - downV n ≤ 1 ∧ downV n ≤ upV n ∧ upV n * 2 ≤ n + 1 ∧ (upV n == downV n) = (n % 2 == 0) := by
  have e : ∀ x : Int, (upV n = x) → 0 ≤ x → x = (n + 1) / 2 → 0 ≤ upV n ∧ 0 ≤ downV n ∧ n ≤ upV n * 2 ∧ downV n * 2 ≤ n ∧ upV n - downV n ≤ 1 ∧ downV n ≤ upV n ∧ upV n * 2 ≤ n + 1 ∧ (upV n == downV n) = (n % 2 == 0) := by
    intro x hx x0 ex
    have hd : downV n = n / 2 := by
      unfold downV
      by_cases h : n < 1
      · rw [if_pos h]; omega
      · rw [if_neg h]
    rw [hx, hd]
    refine ⟨x0, by omega, by omega, by omega, by omega, by omega, by omega, ?_⟩
    by_cases h : n % 2 = 0
    · rw [show (x == n / 2) = true from beq_iff_eq.2 (by omega), show (n % 2 == 0) = true from beq_iff_eq.2 h]
    · rw [show (x == n / 2) = false from beq_eq_false_iff_ne.2 (by omega), show (n % 2 == 0) = false from beq_eq_false_iff_ne.2 h]
  by_cases h : n < 1
  · exact e 0 (by unfold upV; rw [if_pos h]) (by omega) (by omega)
  · exact e ((n - 1) / 2 + 1) (by unfold upV; rw [if_neg h]) (by omega) (by omega)

set_option maxRecDepth 100000 in
set_option maxHeartbeats 1600000 in
theorem back_walk (a b n : Int) (ha : 0 ≤ a) (hb : 0 ≤ b) (h1 : a < 18446744073709551616) (h2 : b < 18446744073709551616) (n1 : -9223372036854775808 ≤ n) (n2 : n ≤ 9223372036854775807) (w : World) (ht : Table w) :
    Calls Tryd.prog 5 #[.int .u64 a, .int .u64 b, .int .i64 n] w fun e w' => e = .returned (.bool true) ∧ ∃ k, w' = w.drewN k := by
  have HA := Lib.hid alive_any
  go_enter Tryd.func5, Tryd.ntmps5
  go_wp2_with fail
  refine (add_ok a b ha hb h1 h2 _).mono ?_; rintro e w' ⟨rfl, rfl⟩
  go_upto_if 26 with fail
  go_cut [6, 7, 8] (fun _ _ _ wx => w = wx)
  case first =>
    by_cases c : a + b < 18446744073709551616
    · have e3 : addV a b = a + b := by unfold addV; rw [if_pos c]
      have e4 : addE a b = 0 := by unfold addE; rw [if_pos c]
      have hs := sub_ok (a + b) a (by omega) ha c h1
      rw [show subV (a + b) a = b by unfold subV; rw [if_pos (by omega)]; omega, show subE (a + b) a = 0 by unfold subE; rw [if_pos (by omega)]] at hs
      have Hs := Lib.hid hs
      clear hs
      rw [e3, e4]
      clear e3 e4
      go_wp2_with fail
      refine (Hs.out _).mono ?_; rintro e w' ⟨rfl, rfl⟩
      go_wp2_with fail
      go_meet
      case rel => exact rfl
    · have e4 : addE a b = 10 := by unfold addE; rw [if_neg c]
      rw [e4]
      clear e4
      go_wp2_with fail
      go_meet
      case rel => exact rfl
  case rest =>
    subst hcut
    go_wp2_with fail
    have hs := sub_ok a b ha hb h1 h2
    have hE : (subE a b == 0) = decide (b ≤ a) := by
      unfold subE
      by_cases c : b ≤ a
      · rw [if_pos c, decide_eq_true c]; rfl
      · rw [if_neg c, decide_eq_false c]; rfl
    have hD : b ≤ a → subV a b = a - b := fun c => by unfold subV; rw [if_pos c]
    generalize subE a b = E at *
    generalize subV a b = D at *
    have Hs := Lib.hid hs
    have HD := Lib.hid hD
    clear hs hD
    refine (Hs.out _).mono ?_; rintro e w' ⟨rfl, rfl⟩
    go_upto_if 63 with fail
    go_cut [6, 11, 12] (fun _ _ _ wx => w = wx)
    case first =>
      by_cases c : b ≤ a
      · have hs := add_ok (a - b) b (by omega) hb (by omega) h2
        rw [show addV (a - b) b = a by unfold addV; rw [if_pos (by omega)]; omega, show addE (a - b) b = 0 by unfold addE; rw [if_pos (by omega)]] at hs
        rw [HD.out c]
        have H2 := Lib.hid hs
        clear hs
        go_wp2_with fail
        refine (H2.out _).mono ?_; rintro e w' ⟨rfl, rfl⟩
        go_wp2_with fail
        go_meet
        case rel => exact rfl
      · go_wp2_with fail
        go_meet
        case rel => exact rfl
    case rest =>
      subst hcut
      clear Hs HD hE
      go_wp2_with fail
      have hm := mul_ok a b ha hb h1 h2
      have hE : (mulE a b == 0) = decide (a * b < 18446744073709551616) := by
        unfold mulE
        by_cases c : a * b < 18446744073709551616
        · rw [if_pos c, decide_eq_true c]; rfl
        · rw [if_neg c, decide_eq_false c]; rfl
      have hP : a * b < 18446744073709551616 → 0 < b → IntKind.u64.wrap ((mulV a b).tdiv b) = a ∧ (mulV a b).tmod b = 0 := fun c hp => by
        have h0 := Int.mul_nonneg ha hb
        unfold mulV
        rw [if_pos c, Int.tdiv_eq_ediv_of_nonneg h0, Int.tmod_eq_emod_of_nonneg h0, (mul_back a b hp).1, (mul_back a b hp).2, IntKind.wrap_u64]
        omega
      generalize mulE a b = E at *
      generalize mulV a b = P at *
      have Hm := Lib.hid hm
      have HP := Lib.hid hP
      clear hm hP
      have HP2 : (a * b < 18446744073709551616 ∧ 0 < b ∧ IntKind.u64.wrap (P.tdiv b) = a ∧ P.tmod b = 0) ∨ (a * b < 18446744073709551616 ∧ ¬ 0 < b) ∨ ¬ a * b < 18446744073709551616 := by
        by_cases c : a * b < 18446744073709551616
        · by_cases hp : 0 < b
          · exact .inl ⟨c, hp, HP.out c hp⟩
          · exact .inr (.inl ⟨c, hp⟩)
        · exact .inr (.inr c)
      clear HP
      have hu := up_any n n1 n2
      have hd := down_any n n1 n2
      have gr := granules n
      generalize upV n = U at *
      generalize downV n = L at *
      have Hu := Lib.hid hu
      have Hd := Lib.hid hd
      have Gr := Lib.hid gr
      clear hu hd gr
      have out : n < 0 ∨ (¬ n < 0 ∧ 1099511627776 < n) ∨ (¬ n < 0 ∧ ¬ 1099511627776 < n) := by omega
      rcases HP2 with ⟨c, hp, t1, t2⟩ | ⟨c, hp⟩ | c
      · rw [decide_eq_true c] at hE
        clear c
        rcases out with h | ⟨h, h'⟩ | ⟨h, h'⟩
        · refine (Hm.out _).mono ?_; rintro e w' ⟨rfl, rfl⟩
          go_wp2_with fail
          refine (HA.out _ ht).mono ?_; rintro e w' ⟨rfl, k, rfl⟩
          go_wp2_with fail
          go_ret
          exact ⟨rfl, _, rfl⟩
        · refine (Hm.out _).mono ?_; rintro e w' ⟨rfl, rfl⟩
          go_wp2_with fail
          refine (HA.out _ ht).mono ?_; rintro e w' ⟨rfl, k, rfl⟩
          go_wp2_with fail
          go_ret
          exact ⟨rfl, _, rfl⟩
        · obtain ⟨g1, g2, g3, g4, g5, g6, g7, g8⟩ := Gr.out (by omega)
          refine (Hm.out _).mono ?_; rintro e w' ⟨rfl, rfl⟩
          go_wp2_with fail
          refine (Hu.out _).mono ?_; rintro e w' ⟨rfl, rfl⟩
          go_wp2_with fail
          refine (Hd.out _).mono ?_; rintro e w' ⟨rfl, rfl⟩
          go_wp2_with fail
          refine (HA.out _ ht).mono ?_; rintro e w' ⟨rfl, k, rfl⟩
          go_wp2_with fail
          go_ret
          exact ⟨rfl, _, rfl⟩
      · rw [decide_eq_true c] at hE
        clear c
        rcases out with h | ⟨h, h'⟩ | ⟨h, h'⟩
        · refine (Hm.out _).mono ?_; rintro e w' ⟨rfl, rfl⟩
          go_wp2_with fail
          refine (HA.out _ ht).mono ?_; rintro e w' ⟨rfl, k, rfl⟩
          go_wp2_with fail
          go_ret
          exact ⟨rfl, _, rfl⟩
        · refine (Hm.out _).mono ?_; rintro e w' ⟨rfl, rfl⟩
          go_wp2_with fail
          refine (HA.out _ ht).mono ?_; rintro e w' ⟨rfl, k, rfl⟩
          go_wp2_with fail
          go_ret
          exact ⟨rfl, _, rfl⟩
        · obtain ⟨g1, g2, g3, g4, g5, g6, g7, g8⟩ := Gr.out (by omega)
          refine (Hm.out _).mono ?_; rintro e w' ⟨rfl, rfl⟩
          go_wp2_with fail
          refine (Hu.out _).mono ?_; rintro e w' ⟨rfl, rfl⟩
          go_wp2_with fail
          refine (Hd.out _).mono ?_; rintro e w' ⟨rfl, rfl⟩
          go_wp2_with fail
          refine (HA.out _ ht).mono ?_; rintro e w' ⟨rfl, k, rfl⟩
          go_wp2_with fail
          go_ret
          exact ⟨rfl, _, rfl⟩
      · rw [decide_eq_false c] at hE
        clear c
        rcases out with h | ⟨h, h'⟩ | ⟨h, h'⟩
        · refine (Hm.out _).mono ?_; rintro e w' ⟨rfl, rfl⟩
          go_wp2_with fail
          refine (HA.out _ ht).mono ?_; rintro e w' ⟨rfl, k, rfl⟩
          go_wp2_with fail
          go_ret
          exact ⟨rfl, _, rfl⟩
        · refine (Hm.out _).mono ?_; rintro e w' ⟨rfl, rfl⟩
          go_wp2_with fail
          refine (HA.out _ ht).mono ?_; rintro e w' ⟨rfl, k, rfl⟩
          go_wp2_with fail
          go_ret
          exact ⟨rfl, _, rfl⟩
        · obtain ⟨g1, g2, g3, g4, g5, g6, g7, g8⟩ := Gr.out (by omega)
          refine (Hm.out _).mono ?_; rintro e w' ⟨rfl, rfl⟩
          go_wp2_with fail
          refine (Hu.out _).mono ?_; rintro e w' ⟨rfl, rfl⟩
          go_wp2_with fail
          refine (Hd.out _).mono ?_; rintro e w' ⟨rfl, rfl⟩
          go_wp2_with fail
          refine (HA.out _ ht).mono ?_; rintro e w' ⟨rfl, k, rfl⟩
          go_wp2_with fail
          go_ret
          exact ⟨rfl, _, rfl⟩
end Go.Proofs.YtmpbidilonapjaaDoor.Wd
