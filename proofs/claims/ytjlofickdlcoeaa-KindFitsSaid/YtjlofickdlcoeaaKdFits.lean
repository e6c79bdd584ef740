/-
  The walk of the law KindFits.
-/
import Derived.Test.YtjlofickdlcoeaaKdTells
import Derived.Test.YtjlofickdlcoeaaKdRise
namespace Go.Proofs.Ytjlofickdlcoeaa.Kd
open Go.RowKit Go.Proofs.Ytjlofickdlcoeaa.Ar Go.Proofs.Ytjlofickdlcoeaa.Ir
set_option linter.unusedVariables false

set_option maxRecDepth 100000 in
set_option maxHeartbeats 4000000 in
theorem fits_no (k : Nat) (wd : Int) (mk : Nat) (n m : Int) (hk : k < 256) (hm : mk < 18446744073709551616) (h : ¬ err k wd mk n = 0) (w : World) :
    Calls Try.prog 5 #[typV k wd mk, .int .i64 n, .int .i64 m] w fun e w' => e = .returned (.bool true) ∧ Kept [] w w' := by
  have H1 := Lib.hid (fun x => slots_ok k wd mk n hk hm x)
  have H2 := Lib.hid (fun x => size_ok k wd mk n hk hm x)
  have HV := Lib.hid (fun x => alive_ok x)
  have hka : ∀ (x : World) (o : Obj), Kept [] x (x.alloc o) := fun x o => (Kept.refl [] x).alloc o
  have hH : Has (w.alloc (.cells #[.int .u8 (k : Int), .int .i64 wd, .int .u64 (mk : Int)] 24)) w.heap.size 24 [.int .u8 (k : Int), .int .i64 wd, .int .u64 (mk : Int)] := Has.new w _ _
  have he : (err k wd mk n != 0) = true := by rw [bne_iff_ne]; exact h
  unfold typV at *
  clear h
  generalize slotsR k wd mk n = sl at *
  generalize sizeR k wd mk n = sz at *
  generalize err k wd mk n = er at *
  go_enter Try.func5, Try.ntmps5
  go_wp2_with fail
  refine (H1.out _).mono ?_
  rintro e W1 ⟨rfl, hk1⟩
  have K1 := Lib.hid ((hka w _).trans hk1)
  have B1 := Lib.hid (hH.keep0 hk1)
  clear hk1 hH
  generalize w.heap.size = B at *
  obtain ⟨x0, x1, x2⟩ := cells3 B1.out
  go_wp2_with fail
  refine (H2.out _).mono ?_
  rintro e W2 ⟨rfl, hk2⟩
  have K2 := Lib.hid (K1.out.trans hk2)
  clear hk2 K1 B1 x0 x1 x2
  go_wp2_with fail
  refine (HV.out _).mono ?_
  rintro e W7 ⟨rfl, hk7⟩
  have K7 := Lib.hid (K2.out.trans hk7)
  clear hk7
  go_wp2_with fail
  go_ret
  exact ⟨rfl, K7.out⟩
set_option maxRecDepth 100000 in
set_option maxHeartbeats 16000000 in
theorem fits_yes (k : Nat) (wd : Int) (mk : Nat) (n m : Int) (hk : k < 256) (hm : mk < 18446744073709551616) (h : err k wd mk n = 0) (w : World) :
    Calls Try.prog 5 #[typV k wd mk, .int .i64 n, .int .i64 m] w fun e w' => e = .returned (.bool true) ∧ Kept [] w w' := by
  have H1 := Lib.hid (fun x => slots_ok k wd mk n hk hm x)
  have H2 := Lib.hid (fun x => size_ok k wd mk n hk hm x)
  have H3 := Lib.hid (fun x => refs_ok k wd mk n hk hm x)
  have H4 := Lib.hid (fun x => slots_ok k wd mk m hk hm x)
  have H5 := Lib.hid (fun x => size_ok k wd mk m hk hm x)
  have H6 := Lib.hid (fun x => refs_ok k wd mk m hk hm x)
  have HR := Lib.hid (fun (i : Nat) x => ref_ok k wd mk n (i : Int) hk hm x)
  have HV := Lib.hid (fun x => alive_ok x)
  have hka : ∀ (x : World) (o : Obj), Kept [] x (x.alloc o) := fun x o => (Kept.refl [] x).alloc o
  have hH : Has (w.alloc (.cells #[.int .u8 (k : Int), .int .i64 wd, .int .u64 (mk : Int)] 24)) w.heap.size 24 [.int .u8 (k : Int), .int .i64 wd, .int .u64 (mk : Int)] := Has.new w _ _
  obtain ⟨sb0, sb1⟩ := slots_bound h
  obtain ⟨sl, hsl⟩ := Int.eq_ofNat_of_zero_le sb0
  have hcmp : err k wd mk m = 0 → n ≤ m → (sl : Int) ≤ slotsR k wd mk m ∧ sizeR k wd mk n ≤ sizeR k wd mk m ∧ (refsTo k wd mk sl).length ≤ (refsR k wd mk m).length := fun h2 hle => by
    have := slots_mono h h2 hle
    have hb2 := slots_bound h2
    unfold slotsR sizeR refsR
    rw [if_pos h, if_pos h2, if_pos h2, if_pos h2]
    refine ⟨by omega, by omega, refs_mono k wd mk (by omega)⟩
  have hlen2 : (refsR k wd mk m).length ≤ 65536 := by
    unfold refsR
    by_cases h2 : err k wd mk m = 0
    · rw [if_pos h2]
      have := refsTo_length k wd mk (slots k wd m).toNat
      have := slots_bound h2
      omega
    · rw [if_neg h2]; exact Nat.zero_le _
  have hsz : ∃ gz : Nat, sizeR k wd mk n = (gz : Int) ∧ sl + 1 ≤ 2 * gz ∧ 2 * gz ≤ sl + 2 := ⟨(sl + 2) / 2, by unfold sizeR; rw [if_pos h, hsl]; omega, by omega, by omega⟩
  obtain ⟨gz, hgz, hg1, hg2⟩ := hsz
  have hR2 : Hid (∀ (i : Nat), i < sl → ∀ x, Calls Try.prog 14 #[typV k wd mk, .int .i64 n, .int .i64 (i : Int)] x fun e w' => e = .returned (.tuple #[.bool (isRef k wd mk i), .int .i64 0]) ∧ Kept [] x w') := Lib.hid fun i hi x => by
    have := HR.out i x
    unfold refB refE at this
    rw [if_pos h, if_pos h, if_neg (by omega), if_neg (by omega), Int.toNat_natCast] at this
    exact this
  have HHere := Lib.hid (fun (i : Nat) (hi : i < sl) (hb : isRef k wd mk i = true) => refs_here (wd := wd) hi hb)
  have HNot := Lib.hid (fun (i : Nat) (hi : i < sl) (hb : isRef k wd mk i = false) => refs_not (wd := wd) hi hb)
  have hlen1 := refsTo_length k wd mk sl
  have hlr : refsR k wd mk n = refsTo k wd mk sl := by unfold refsR; rw [if_pos h, hsl, Int.toNat_natCast]
  have hsr : slotsR k wd mk n = (sl : Int) := by unfold slotsR; rw [if_pos h, hsl]
  have HC := Lib.hid hcmp
  clear HR hcmp
  unfold RefsPost at *
  rw [hsr, h] at H1
  rw [hgz, h] at H2
  rw [hlr, h] at H3
  rw [hgz] at HC
  unfold typV at *
  rw [hsl] at sb1
  clear h hsl hgz hlr hsr sb0
  generalize slotsR k wd mk m = s2 at *
  generalize sizeR k wd mk m = z2 at *
  generalize err k wd mk m = er2 at *
  generalize refsR k wd mk m = L2 at *
  have hsl1 : sl ≤ 65536 := by omega
  have HM := Lib.hid (fun (i : Nat) (hi : i ≤ sl) => refs_mono k wd mk hi)
  obtain ⟨L, hL⟩ : ∃ L, refsTo k wd mk sl = L := ⟨_, rfl⟩
  rw [hL] at H3 HC HHere HNot hlen1 HM
  have Hlen1 := Lib.hid hlen1
  have Hlen2 := Lib.hid hlen2
  clear hL sb1 hlen1 hlen2
  go_enter Try.func5, Try.ntmps5
  go_wp2_with fail
  refine (H1.out _).mono ?_
  rintro e W1 ⟨rfl, hk1⟩
  have K1 := Lib.hid ((hka w _).trans hk1)
  have B1 := Lib.hid (hH.keep0 hk1)
  clear hk1 hH H1
  generalize w.heap.size = B at *
  obtain ⟨x0, x1, x2⟩ := cells3 B1.out
  go_wp2_with fail
  refine (H2.out _).mono ?_
  rintro e W2 ⟨rfl, hk2⟩
  have K2 := Lib.hid (K1.out.trans hk2)
  have B2 := Lib.hid (B1.out.keep0 hk2)
  clear hk2 K1 B1 x0 x1 x2 H2
  obtain ⟨x0, x1, x2⟩ := cells3 B2.out
  go_wp2_with fail
  refine (H3.out _).mono ?_
  rintro e W3 ⟨v, rfl, hO, hk3⟩
  have K3 := Lib.hid (K2.out.trans hk3)
  have B3 := Lib.hid (B2.out.keep0 hk3)
  obtain ⟨A, c, rfl, hb⟩ := back_own (Kept.refl [] W3) hO
  have HS := Lib.hid hb.2.1
  clear hk3 K2 B2 x0 x1 x2 H3 hb hO
  obtain ⟨N, hN⟩ : ∃ N, N = L.length := ⟨_, rfl⟩
  rw [← hN]
  have HN := Lib.hid hN
  have hNb : N ≤ 65536 := by have := Hlen1.out; omega
  clear hN
  go_wp2_with fail
  have Hk3 := Lib.hid (Kept.refl [] W3)
  go_loopw [13, 14] (fun s t wr => ∃ i q : Nat, s = .int .i64 (q : Int) ∧ t = .int .i64 (i : Int) ∧ i ≤ sl ∧ Hid (q = (refsTo k wd mk i).length) ∧ Hid (Kept [] W3 wr)) (fun _ t _ => 65536 - (intOf t).toNat)
  case atStart => exact ⟨0, 0, rfl, rfl, Nat.zero_le _, Lib.hid rfl, Hk3⟩
  case round =>
    obtain ⟨i, q, rfl, rfl, hi, hq, hr⟩ := hrel
    obtain ⟨x0, x1, x2⟩ := cells3 (B3.out.keep0 hr.out)
    have hqb : q ≤ N := by have := hq.out; have := HM.out i hi; have := HN.out; omega
    by_cases hlt : i < sl
    · by_cases hlt3 : i < 300
      · have HRi := Lib.hid (hR2.out i hlt)
        cases hb : isRef k wd mk i with
        | true =>
          rw [hb] at HRi
          obtain ⟨p1, p2, p3⟩ := HHere.out i hlt hb
          rw [← hq.out] at p1 p2 p3
          have hne : L ≠ [] := fun e => by rw [e] at p1; exact absurd p1 (Nat.not_lt_zero _)
          obtain ⟨g, f, rfl, hc⟩ := HS.out.later hne
          have HCc := Lib.hid (fun x hx => hc x hx q p1)
          rw [p2] at HCc
          have hqN : (q : Int) < (N : Int) := by have := HN.out; omega
          have HQ := Lib.hid p3.symm
          clear p1 p2 p3 hne hc hb
          go_wp2_with fail
          refine (HRi.out _).mono ?_
          rintro e W4 ⟨rfl, hk4⟩
          have K4 := Lib.hid (hr.out.trans hk4)
          have c1 := HCc.out _ K4.out
          clear hk4 hr HRi x0 x1 x2
          go_wp2_with fail
          go_roundw
          case rel => exact ⟨i + 1, q + 1, by go_num, by go_num, by omega, HQ, K4⟩
          case measure => simp [intOf] <;> omega
        | false =>
          rw [hb] at HRi
          obtain ⟨p1, p2⟩ := HNot.out i hlt hb
          rw [← hq.out] at p1 p2
          have HQ := Lib.hid p1.symm
          clear p1 hb
          by_cases hqN : q < N
          · have hqL : q < L.length := by rw [← HN.out]; exact hqN
            have hne : L ≠ [] := fun e => by rw [e] at hqL; exact absurd hqL (Nat.not_lt_zero _)
            obtain ⟨g, f, rfl, hc⟩ := HS.out.later hne
            have HCc := Lib.hid (fun x hx => hc x hx q hqL)
            have p3 := p2 hqL
            generalize L.getD q 0 = y at *
            have hy : (y == (i : Int)) = false := by rw [beq_eq_false_iff_ne]; exact p3
            clear p2 p3 hne hc hqL
            go_wp2_with fail
            refine (HRi.out _).mono ?_
            rintro e W4 ⟨rfl, hk4⟩
            have K4 := Lib.hid (hr.out.trans hk4)
            have c1 := HCc.out _ K4.out
            clear hk4 hr HRi x0 x1 x2
            go_wp2_with fail
            go_roundw
            case rel => exact ⟨i + 1, q, by go_num, by go_num, by omega, HQ, K4⟩
            case measure => simp [intOf] <;> omega
          · clear p2
            go_wp2_with fail
            refine (HRi.out _).mono ?_
            rintro e W4 ⟨rfl, hk4⟩
            have K4 := Lib.hid (hr.out.trans hk4)
            clear hk4 hr HRi x0 x1 x2
            go_wp2_with fail
            go_roundw
            case rel => exact ⟨i + 1, q, by go_num, by go_num, by omega, HQ, K4⟩
            case measure => simp [intOf] <;> omega
      · clear hq HHere HNot hR2 HM
        · skip
          go_wp2_with fail
          refine (H4.out _).mono ?_
          rintro e W4 ⟨rfl, hk4⟩
          have K4 := Lib.hid (hr.out.trans hk4)
          have B4 := Lib.hid (B3.out.keep0 K4.out)
          clear hk4 hr x0 x1 x2
          obtain ⟨x0, x1, x2⟩ := cells3 B4.out
          go_wp2_with fail
          refine (H5.out _).mono ?_
          rintro e W5 ⟨rfl, hk5⟩
          have K5 := Lib.hid (K4.out.trans hk5)
          have B5 := Lib.hid (B4.out.keep0 hk5)
          clear hk5 K4 B4 x0 x1 x2
          obtain ⟨x0, x1, x2⟩ := cells3 B5.out
          go_wp2_with fail
          refine (H6.out _).mono ?_
          rintro e W6 ⟨v2, rfl, hO2, hk6⟩
          have K6 := Lib.hid (K3.out.trans (K5.out.trans hk6))
          obtain ⟨A2, c2, rfl, hb2⟩ := back_own (Kept.refl [] W6) hO2
          clear hk6 K5 B5 x0 x1 x2 hO2 hb2
          by_cases h2 : er2 = 0
          · subst h2
            by_cases hle : n ≤ m
            · obtain ⟨q1, q2, q3⟩ := HC.out rfl hle
              have q4 : (N : Int) ≤ (L2.length : Int) := by have := HN.out; omega
              clear q3
              go_wp2_with fail
              refine (HV.out _).mono ?_
              rintro e W7 ⟨rfl, hk7⟩
              have K7 := Lib.hid (K6.out.trans hk7)
              clear hk7
              go_wp2_with fail
              go_ret
              exact ⟨rfl, K7.out⟩
            · have hlt : m < n := by omega
              go_wp2_with fail
              refine (HV.out _).mono ?_
              rintro e W7 ⟨rfl, hk7⟩
              have K7 := Lib.hid (K6.out.trans hk7)
              clear hk7
              go_wp2_with fail
              go_ret
              exact ⟨rfl, K7.out⟩
          · have he2 : (er2 != 0) = true := by rw [bne_iff_ne]; exact h2
            clear h2
            go_wp2_with fail
            refine (HV.out _).mono ?_
            rintro e W7 ⟨rfl, hk7⟩
            have K7 := Lib.hid (K6.out.trans hk7)
            clear hk7
            go_wp2_with fail
            go_ret
            exact ⟨rfl, K7.out⟩
    · clear hq HHere HNot hR2 HM
      · skip
        go_wp2_with fail
        refine (H4.out _).mono ?_
        rintro e W4 ⟨rfl, hk4⟩
        have K4 := Lib.hid (hr.out.trans hk4)
        have B4 := Lib.hid (B3.out.keep0 K4.out)
        clear hk4 hr x0 x1 x2
        obtain ⟨x0, x1, x2⟩ := cells3 B4.out
        go_wp2_with fail
        refine (H5.out _).mono ?_
        rintro e W5 ⟨rfl, hk5⟩
        have K5 := Lib.hid (K4.out.trans hk5)
        have B5 := Lib.hid (B4.out.keep0 hk5)
        clear hk5 K4 B4 x0 x1 x2
        obtain ⟨x0, x1, x2⟩ := cells3 B5.out
        go_wp2_with fail
        refine (H6.out _).mono ?_
        rintro e W6 ⟨v2, rfl, hO2, hk6⟩
        have K6 := Lib.hid (K3.out.trans (K5.out.trans hk6))
        obtain ⟨A2, c2, rfl, hb2⟩ := back_own (Kept.refl [] W6) hO2
        clear hk6 K5 B5 x0 x1 x2 hO2 hb2
        by_cases h2 : er2 = 0
        · subst h2
          by_cases hle : n ≤ m
          · obtain ⟨q1, q2, q3⟩ := HC.out rfl hle
            have q4 : (N : Int) ≤ (L2.length : Int) := by have := HN.out; omega
            clear q3
            go_wp2_with fail
            refine (HV.out _).mono ?_
            rintro e W7 ⟨rfl, hk7⟩
            have K7 := Lib.hid (K6.out.trans hk7)
            clear hk7
            go_wp2_with fail
            go_ret
            exact ⟨rfl, K7.out⟩
          · have hlt : m < n := by omega
            go_wp2_with fail
            refine (HV.out _).mono ?_
            rintro e W7 ⟨rfl, hk7⟩
            have K7 := Lib.hid (K6.out.trans hk7)
            clear hk7
            go_wp2_with fail
            go_ret
            exact ⟨rfl, K7.out⟩
        · have he2 : (er2 != 0) = true := by rw [bne_iff_ne]; exact h2
          clear h2
          go_wp2_with fail
          refine (HV.out _).mono ?_
          rintro e W7 ⟨rfl, hk7⟩
          have K7 := Lib.hid (K6.out.trans hk7)
          clear hk7
          go_wp2_with fail
          go_ret
          exact ⟨rfl, K7.out⟩
theorem fits_walk (k : Nat) (wd : Int) (mk : Nat) (n m : Int) (hk : k < 256) (hm : mk < 18446744073709551616) (w : World) :
    Calls Try.prog 5 #[typV k wd mk, .int .i64 n, .int .i64 m] w fun e w' => e = .returned (.bool true) ∧ Kept [] w w' := by
  by_cases h : err k wd mk n = 0
  · exact fits_yes k wd mk n m hk hm h w
  · exact fits_no k wd mk n m hk hm h w
end Go.Proofs.Ytjlofickdlcoeaa.Kd
