/-
  The walk of the law KindMasks.
-/
import Derived.Test.YtjlofickdlcoeaaKdTells
import Derived.Test.YtjlofickdlcoeaaKdRise
namespace Go.Proofs.Ytjlofickdlcoeaa.Kd
open Go.RowKit Go.Proofs.Ytjlofickdlcoeaa.Ar Go.Proofs.Ytjlofickdlcoeaa.Ir
set_option linter.unusedVariables false

set_option maxRecDepth 100000 in
set_option maxHeartbeats 4000000 in
theorem masks_no (k : Nat) (wd : Int) (mk : Nat) (n : Int) (hk : k < 256) (hm : mk < 18446744073709551616) (h : ¬ err k wd mk n = 0) (w : World) :
    Calls Try.prog 6 #[typV k wd mk, .int .i64 n] w fun e w' => e = .returned (.bool true) ∧ Kept [] w w' := by
  have H1 := Lib.hid (fun x => refs_ok k wd mk n hk hm x)
  have H2 := Lib.hid (fun x => slots_ok k wd mk n hk hm x)
  have HV := Lib.hid (fun x => alive_ok x)
  have hka : ∀ (x : World) (o : Obj), Kept [] x (x.alloc o) := fun x o => (Kept.refl [] x).alloc o
  have hH : Has (w.alloc (.cells #[.int .u8 (k : Int), .int .i64 wd, .int .u64 (mk : Int)] 24)) w.heap.size 24 [.int .u8 (k : Int), .int .i64 wd, .int .u64 (mk : Int)] := Has.new w _ _
  have he : (err k wd mk n != 0) = true := by rw [bne_iff_ne]; exact h
  unfold typV RefsPost refsR at *
  rw [if_neg h] at H1
  clear h
  generalize slotsR k wd mk n = sl at *
  generalize err k wd mk n = er at *
  go_enter Try.func6, Try.ntmps6
  go_wp2_with fail
  refine (H1.out _).mono ?_
  rintro e W1 ⟨v, rfl, hO, hk1⟩
  have K1 := Lib.hid ((hka w _).trans hk1)
  have B1 := Lib.hid (hH.keep0 hk1)
  obtain ⟨A, c, rfl, hb⟩ := back_own (Kept.refl [] W1) hO
  clear hk1 hH hO hb
  generalize w.heap.size = B at *
  obtain ⟨x0, x1, x2⟩ := cells3 B1.out
  simp only [List.length_nil]
  go_wp2_with fail
  refine (H2.out _).mono ?_
  rintro e W2 ⟨rfl, hk2⟩
  have K2 := Lib.hid (K1.out.trans hk2)
  clear hk2 K1 B1 x0 x1 x2
  go_wp2_with fail
  refine (HV.out _).mono ?_
  rintro e W7 ⟨rfl, hk7⟩
  have K7 := Lib.hid (K2.out.trans hk7)
  clear hk7
  go_wp2_with fail
  go_ret
  exact ⟨rfl, K7.out⟩
set_option maxRecDepth 100000 in
set_option maxHeartbeats 16000000 in
theorem masks_yes (k : Nat) (wd : Int) (mk : Nat) (n : Int) (hk : k < 256) (hm : mk < 18446744073709551616) (h : err k wd mk n = 0) (w : World) :
    Calls Try.prog 6 #[typV k wd mk, .int .i64 n] w fun e w' => e = .returned (.bool true) ∧ Kept [] w w' := by
  have H1 := Lib.hid (fun x => refs_ok k wd mk n hk hm x)
  have H2 := Lib.hid (fun x => slots_ok k wd mk n hk hm x)
  have HV := Lib.hid (fun x => alive_ok x)
  have hka : ∀ (x : World) (o : Obj), Kept [] x (x.alloc o) := fun x o => (Kept.refl [] x).alloc o
  have hH : Has (w.alloc (.cells #[.int .u8 (k : Int), .int .i64 wd, .int .u64 (mk : Int)] 24)) w.heap.size 24 [.int .u8 (k : Int), .int .i64 wd, .int .u64 (mk : Int)] := Has.new w _ _
  obtain ⟨sb0, sb1⟩ := slots_bound h
  obtain ⟨sl, hsl⟩ := Int.eq_ofNat_of_zero_le sb0
  have hw := want_ok h hsl
  have hlr : refsR k wd mk n = refsTo k wd mk sl := by unfold refsR; rw [if_pos h, hsl, Int.toNat_natCast]
  have hsr : slotsR k wd mk n = (sl : Int) := by unfold slotsR; rw [if_pos h, hsl]
  have hlen1 := refsTo_length k wd mk sl
  have HG := Lib.hid (refs_get k wd mk sl)
  have HL := Lib.hid (refs_lt k wd mk sl)
  obtain ⟨hy, n0, n1, n2⟩ := err_zero h
  obtain ⟨_, w0, w1, hk4, w3⟩ := may_kind hy
  have hprod : k = 3 → 0 ≤ (pc mk 64 : Int) * n ∧ (pc mk 64 : Int) * n ≤ 64 * 4096 := fun _ => mul_bound (Int.natCast_nonneg _) (by have := pc_le mk 64; omega) n0 n1
  unfold RefsPost at H1
  rw [hlr, h] at H1
  rw [hsr, h] at H2
  rw [hsl] at sb1
  have hP := pc_le mk 64
  unfold typV at *
  clear h hsl hlr hsr sb0 hy n2 w0 w1 w3
  obtain ⟨L, hL⟩ : ∃ L, refsTo k wd mk sl = L := ⟨_, rfl⟩
  rw [hL] at H1 hw hlen1 HG HL
  have hsl1 : sl ≤ 65536 := by omega
  have Hlen1 := Lib.hid hlen1
  have Hw := Lib.hid hw
  have Hprod := Lib.hid hprod
  clear hL hlen1 hw hprod sb1
  go_enter Try.func6, Try.ntmps6
  go_wp2_with fail
  refine (H1.out _).mono ?_
  rintro e W1 ⟨v, rfl, hO, hk1⟩
  have K1 := Lib.hid ((hka w _).trans hk1)
  have B1 := Lib.hid (hH.keep0 hk1)
  have O1 := Lib.hid hO
  clear hk1 hH hO H1
  generalize w.heap.size = B at *
  obtain ⟨x0, x1, x2⟩ := cells3 B1.out
  go_wp2_with fail
  refine (H2.out _).mono ?_
  rintro e W2 ⟨rfl, hk2⟩
  have K2 := Lib.hid (K1.out.trans hk2)
  have B2 := Lib.hid (B1.out.keep0 hk2)
  obtain ⟨A, c, rfl, hb⟩ := back_own (Kept.refl [] W2) (O1.out.keep0 hk2)
  have HS := Lib.hid hb.2.1
  clear hk2 K1 B1 O1 x0 x1 x2 H2 hb
  obtain ⟨N, hN⟩ : ∃ N, N = L.length := ⟨_, rfl⟩
  rw [← hN] at Hw ⊢
  have HN := Lib.hid hN
  have hNb : N ≤ 65536 := by have := Hlen1.out; omega
  clear hN
  obtain ⟨x0, x1, x2⟩ := cells3 B2.out
  go_wp2_with fail
  go_loopw [9, 10] (fun s t wr => ∃ i : Nat, s = .int .i64 ((pc mk i : Nat) : Int) ∧ t = .int .i64 (i : Int) ∧ i ≤ 64 ∧ W2 = wr) (fun _ t _ => 64 - (intOf t).toNat)
  case atStart => exact ⟨0, rfl, rfl, Nat.zero_le _, rfl⟩
  case round =>
    obtain ⟨i, rfl, rfl, hi, rfl⟩ := hrel
    have hpi := pc_le mk i
    by_cases hlt : i < 64
    · obtain ⟨b, hb⟩ : ∃ b, mk / 2 ^ i % 2 = b := ⟨_, rfl⟩
      have hb2 : b < 2 := by rw [← hb]; exact Nat.mod_lt _ (by decide)
      have hv : ((mk : Int) / 2 ^ i).tmod 2 = (b : Int) := by
        rw [bit_int, Int.tmod_eq_emod_of_nonneg (Int.natCast_nonneg _)]
        omega
      have HP : Hid (pc mk (i + 1) = pc mk i + b) := Lib.hid (by rw [← hb]; rfl)
      clear hb
      generalize hpe : pc mk i = P at *
      go_wp2_with fail
      go_roundw
      case rel => exact ⟨i + 1, congrArg (Value.int .i64) (by rw [HP.out]; omega), by go_num, by omega, trivial⟩
      case measure => simp [intOf] <;> omega
    · obtain rfl : i = 64 := by omega
      have HW := Hw.out
      have HPr := Hprod.out
      clear Hw Hprod hpi hi hlt
      unfold wantV at HW
      generalize pc mk 64 = P at *
      rcases hk4 with rfl | rfl | rfl | rfl
      · have hw : ((N : Int) == (P : Int)) = true := by rw [beq_iff_eq]; exact HW
        clear HW HPr
        go_wp2_with fail
        go_loopw [12] (fun t wr => ∃ i : Nat, t = .int .i64 (i : Int) ∧ i ≤ N ∧ ∃ d, wr = W2.drewN d) (fun t _ => 65536 - (intOf t).toNat)
        case atStart => exact ⟨0, rfl, Nat.zero_le _, 0, rfl⟩
        case round =>
          obtain ⟨i, rfl, hi, d, rfl⟩ := hrel
          by_cases hlt : i < N
          · have hiL : i < L.length := by rw [← HN.out]; exact hlt
            have hne : L ≠ [] := fun e => by rw [e] at hiL; exact absurd hiL (Nat.not_lt_zero _)
            obtain ⟨g, f, rfl, hc⟩ := HS.out.later hne
            have c1 := hc W2 (Kept.refl [] W2) i hiL
            obtain ⟨y0, y1⟩ := HG.out i hiL
            by_cases h0 : 0 < i
            · obtain ⟨j, rfl⟩ : ∃ j, i = j + 1 := ⟨i - 1, by omega⟩
              have c2 := hc W2 (Kept.refl [] W2) j (by omega)
              have y2 := HL.out j (j + 1) (by omega) hiL
              generalize L.getD (j + 1) 0 = v1 at *
              generalize L.getD j 0 = v2 at *
              have h1 : decide (v1 < 0) = false := decide_eq_false (by omega)
              have h2 : decide ((sl : Int) ≤ v1) = false := decide_eq_false (by omega)
              have h3 : decide (v1 ≤ v2) = false := decide_eq_false (by omega)
              have h4 : decide ((0 : Int) < (j : Int) + 1) = true := decide_eq_true (by omega)
              clear y0 y1 y2 hne hc hiL
              go_wp2_with fail
              go_quiet (fail)
              go_wp2_with fail
              go_roundw
              case rel => exact ⟨j + 1 + 1, by go_num, by omega, d + nq, by first | rfl | rw [World.drewN_drewN]⟩
              case measure => simp [intOf] <;> omega
            · obtain rfl : i = 0 := by omega
              rw [Nat.add_zero] at c1
              generalize L.getD 0 0 = v1 at *
              have h1 : decide (v1 < 0) = false := decide_eq_false (by omega)
              have h2 : decide ((sl : Int) ≤ v1) = false := decide_eq_false (by omega)
              clear y0 y1 hne hc hiL
              go_wp2_with fail
              go_quiet (fail)
              go_wp2_with fail
              go_roundw
              case rel => exact ⟨1, by go_num, by omega, d + nq, by first | rfl | rw [World.drewN_drewN]⟩
              case measure => simp [intOf] <;> omega
          · obtain rfl : i = N := by omega
            clear HG HL HS
            go_wp2_with fail
            refine (HV.out _).mono ?_
            rintro e W7 ⟨rfl, hk7⟩
            have K7 := Lib.hid ((K2.out.drewN d).trans hk7)
            clear hk7
            go_wp2_with fail
            go_ret
            exact ⟨rfl, K7.out⟩
      · have hw : ((N : Int) == (sl : Int)) = true := by rw [beq_iff_eq]; exact HW
        clear HW HPr
        go_wp2_with fail
        go_loopw [12] (fun t wr => ∃ i : Nat, t = .int .i64 (i : Int) ∧ i ≤ N ∧ ∃ d, wr = W2.drewN d) (fun t _ => 65536 - (intOf t).toNat)
        case atStart => exact ⟨0, rfl, Nat.zero_le _, 0, rfl⟩
        case round =>
          obtain ⟨i, rfl, hi, d, rfl⟩ := hrel
          by_cases hlt : i < N
          · have hiL : i < L.length := by rw [← HN.out]; exact hlt
            have hne : L ≠ [] := fun e => by rw [e] at hiL; exact absurd hiL (Nat.not_lt_zero _)
            obtain ⟨g, f, rfl, hc⟩ := HS.out.later hne
            have c1 := hc W2 (Kept.refl [] W2) i hiL
            obtain ⟨y0, y1⟩ := HG.out i hiL
            by_cases h0 : 0 < i
            · obtain ⟨j, rfl⟩ : ∃ j, i = j + 1 := ⟨i - 1, by omega⟩
              have c2 := hc W2 (Kept.refl [] W2) j (by omega)
              have y2 := HL.out j (j + 1) (by omega) hiL
              generalize L.getD (j + 1) 0 = v1 at *
              generalize L.getD j 0 = v2 at *
              have h1 : decide (v1 < 0) = false := decide_eq_false (by omega)
              have h2 : decide ((sl : Int) ≤ v1) = false := decide_eq_false (by omega)
              have h3 : decide (v1 ≤ v2) = false := decide_eq_false (by omega)
              have h4 : decide ((0 : Int) < (j : Int) + 1) = true := decide_eq_true (by omega)
              clear y0 y1 y2 hne hc hiL
              go_wp2_with fail
              go_quiet (fail)
              go_wp2_with fail
              go_roundw
              case rel => exact ⟨j + 1 + 1, by go_num, by omega, d + nq, by first | rfl | rw [World.drewN_drewN]⟩
              case measure => simp [intOf] <;> omega
            · obtain rfl : i = 0 := by omega
              rw [Nat.add_zero] at c1
              generalize L.getD 0 0 = v1 at *
              have h1 : decide (v1 < 0) = false := decide_eq_false (by omega)
              have h2 : decide ((sl : Int) ≤ v1) = false := decide_eq_false (by omega)
              clear y0 y1 hne hc hiL
              go_wp2_with fail
              go_quiet (fail)
              go_wp2_with fail
              go_roundw
              case rel => exact ⟨1, by go_num, by omega, d + nq, by first | rfl | rw [World.drewN_drewN]⟩
              case measure => simp [intOf] <;> omega
          · obtain rfl : i = N := by omega
            clear HG HL HS
            go_wp2_with fail
            refine (HV.out _).mono ?_
            rintro e W7 ⟨rfl, hk7⟩
            have K7 := Lib.hid ((K2.out.drewN d).trans hk7)
            clear hk7
            go_wp2_with fail
            go_ret
            exact ⟨rfl, K7.out⟩
      · have hw : ((N : Int) == (P : Int) * n) = true := by rw [beq_iff_eq]; exact HW
        obtain ⟨m0, m1⟩ := HPr rfl
        have m2 : -9223372036854775808 ≤ (P : Int) * n := by omega
        have m3 : (P : Int) * n ≤ 9223372036854775807 := by omega
        clear HW HPr
        go_wp2_with fail
        go_loopw [12] (fun t wr => ∃ i : Nat, t = .int .i64 (i : Int) ∧ i ≤ N ∧ ∃ d, wr = W2.drewN d) (fun t _ => 65536 - (intOf t).toNat)
        case atStart => exact ⟨0, rfl, Nat.zero_le _, 0, rfl⟩
        case round =>
          obtain ⟨i, rfl, hi, d, rfl⟩ := hrel
          by_cases hlt : i < N
          · have hiL : i < L.length := by rw [← HN.out]; exact hlt
            have hne : L ≠ [] := fun e => by rw [e] at hiL; exact absurd hiL (Nat.not_lt_zero _)
            obtain ⟨g, f, rfl, hc⟩ := HS.out.later hne
            have c1 := hc W2 (Kept.refl [] W2) i hiL
            obtain ⟨y0, y1⟩ := HG.out i hiL
            by_cases h0 : 0 < i
            · obtain ⟨j, rfl⟩ : ∃ j, i = j + 1 := ⟨i - 1, by omega⟩
              have c2 := hc W2 (Kept.refl [] W2) j (by omega)
              have y2 := HL.out j (j + 1) (by omega) hiL
              generalize L.getD (j + 1) 0 = v1 at *
              generalize L.getD j 0 = v2 at *
              have h1 : decide (v1 < 0) = false := decide_eq_false (by omega)
              have h2 : decide ((sl : Int) ≤ v1) = false := decide_eq_false (by omega)
              have h3 : decide (v1 ≤ v2) = false := decide_eq_false (by omega)
              have h4 : decide ((0 : Int) < (j : Int) + 1) = true := decide_eq_true (by omega)
              clear y0 y1 y2 hne hc hiL
              go_wp2_with fail
              go_quiet (fail)
              go_wp2_with fail
              go_roundw
              case rel => exact ⟨j + 1 + 1, by go_num, by omega, d + nq, by first | rfl | rw [World.drewN_drewN]⟩
              case measure => simp [intOf] <;> omega
            · obtain rfl : i = 0 := by omega
              rw [Nat.add_zero] at c1
              generalize L.getD 0 0 = v1 at *
              have h1 : decide (v1 < 0) = false := decide_eq_false (by omega)
              have h2 : decide ((sl : Int) ≤ v1) = false := decide_eq_false (by omega)
              clear y0 y1 hne hc hiL
              go_wp2_with fail
              go_quiet (fail)
              go_wp2_with fail
              go_roundw
              case rel => exact ⟨1, by go_num, by omega, d + nq, by first | rfl | rw [World.drewN_drewN]⟩
              case measure => simp [intOf] <;> omega
          · obtain rfl : i = N := by omega
            clear HG HL HS
            go_wp2_with fail
            refine (HV.out _).mono ?_
            rintro e W7 ⟨rfl, hk7⟩
            have K7 := Lib.hid ((K2.out.drewN d).trans hk7)
            clear hk7
            go_wp2_with fail
            go_ret
            exact ⟨rfl, K7.out⟩
      · have hw : ((N : Int) == 0) = true := by rw [beq_iff_eq]; exact HW
        clear HW HPr
        go_wp2_with fail
        go_loopw [12] (fun t wr => ∃ i : Nat, t = .int .i64 (i : Int) ∧ i ≤ N ∧ ∃ d, wr = W2.drewN d) (fun t _ => 65536 - (intOf t).toNat)
        case atStart => exact ⟨0, rfl, Nat.zero_le _, 0, rfl⟩
        case round =>
          obtain ⟨i, rfl, hi, d, rfl⟩ := hrel
          by_cases hlt : i < N
          · have hiL : i < L.length := by rw [← HN.out]; exact hlt
            have hne : L ≠ [] := fun e => by rw [e] at hiL; exact absurd hiL (Nat.not_lt_zero _)
            obtain ⟨g, f, rfl, hc⟩ := HS.out.later hne
            have c1 := hc W2 (Kept.refl [] W2) i hiL
            obtain ⟨y0, y1⟩ := HG.out i hiL
            by_cases h0 : 0 < i
            · obtain ⟨j, rfl⟩ : ∃ j, i = j + 1 := ⟨i - 1, by omega⟩
              have c2 := hc W2 (Kept.refl [] W2) j (by omega)
              have y2 := HL.out j (j + 1) (by omega) hiL
              generalize L.getD (j + 1) 0 = v1 at *
              generalize L.getD j 0 = v2 at *
              have h1 : decide (v1 < 0) = false := decide_eq_false (by omega)
              have h2 : decide ((sl : Int) ≤ v1) = false := decide_eq_false (by omega)
              have h3 : decide (v1 ≤ v2) = false := decide_eq_false (by omega)
              have h4 : decide ((0 : Int) < (j : Int) + 1) = true := decide_eq_true (by omega)
              clear y0 y1 y2 hne hc hiL
              go_wp2_with fail
              go_quiet (fail)
              go_wp2_with fail
              go_roundw
              case rel => exact ⟨j + 1 + 1, by go_num, by omega, d + nq, by first | rfl | rw [World.drewN_drewN]⟩
              case measure => simp [intOf] <;> omega
            · obtain rfl : i = 0 := by omega
              rw [Nat.add_zero] at c1
              generalize L.getD 0 0 = v1 at *
              have h1 : decide (v1 < 0) = false := decide_eq_false (by omega)
              have h2 : decide ((sl : Int) ≤ v1) = false := decide_eq_false (by omega)
              clear y0 y1 hne hc hiL
              go_wp2_with fail
              go_quiet (fail)
              go_wp2_with fail
              go_roundw
              case rel => exact ⟨1, by go_num, by omega, d + nq, by first | rfl | rw [World.drewN_drewN]⟩
              case measure => simp [intOf] <;> omega
          · obtain rfl : i = N := by omega
            clear HG HL HS
            go_wp2_with fail
            refine (HV.out _).mono ?_
            rintro e W7 ⟨rfl, hk7⟩
            have K7 := Lib.hid ((K2.out.drewN d).trans hk7)
            clear hk7
            go_wp2_with fail
            go_ret
            exact ⟨rfl, K7.out⟩
theorem masks_walk (k : Nat) (wd : Int) (mk : Nat) (n : Int) (hk : k < 256) (hm : mk < 18446744073709551616) (w : World) :
    Calls Try.prog 6 #[typV k wd mk, .int .i64 n] w fun e w' => e = .returned (.bool true) ∧ Kept [] w w' := by
  by_cases h : err k wd mk n = 0
  · exact masks_yes k wd mk n hk hm h w
  · exact masks_no k wd mk n hk hm h w
end Go.Proofs.Ytjlofickdlcoeaa.Kd
