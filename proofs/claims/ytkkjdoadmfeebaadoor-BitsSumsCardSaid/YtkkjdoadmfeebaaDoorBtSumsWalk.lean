/-
  The walk of the law BitsSums.
-/
import Derived.Test.YtkkjdoadmfeebaaDoorBtRound
namespace Go.Proofs.YtkkjdoadmfeebaaDoor.Bt
open Go.RowKit Go.Proofs.YtkkjdoadmfeebaaDoor.Ar Go.Proofs.YtkkjdoadmfeebaaDoor.Wd
set_option linter.unusedVariables false

set_option maxRecDepth 100000 in
set_option maxHeartbeats 800000 in
theorem sums_small (n a m c : Int) (A : Option Addr) (k cap : Nat) (w : World) (hT : Table w) (hm : 60 < k ∨ n < 0 ∨ 3000 < n) (hl : k ≤ maxLen) :
    Calls Tryd.prog 5 #[.int .i64 n, .slice A k cap, .int .i64 a, .int .i64 m, .int .i64 c] w fun e w' => e = .returned (.bool true) ∧ Kept [] w w' := by
  unfold maxLen at hl
  have HA := Lib.hid (alive_ok w hT)
  clear hT
  by_cases h1 : 60 < k
  · clear hm
    go_enter Tryd.func5, Tryd.ntmps5
    go_wp2_with fail
    refine HA.out.mono ?_; rintro e w' ⟨rfl, hk⟩
    have HK := Lib.hid hk
    clear hk
    go_wp2_with fail
    go_ret
    exact ⟨rfl, HK.out⟩
  · by_cases h2 : n < 0
    · clear hm
      go_enter Tryd.func5, Tryd.ntmps5
      go_wp2_with fail
      refine HA.out.mono ?_; rintro e w' ⟨rfl, hk⟩
      have HK := Lib.hid hk
      clear hk
      go_wp2_with fail
      go_ret
      exact ⟨rfl, HK.out⟩
    · have h3 : 3000 < n := by omega
      clear hm
      go_enter Tryd.func5, Tryd.ntmps5
      go_wp2_with fail
      refine HA.out.mono ?_; rintro e w' ⟨rfl, hk⟩
      have HK := Lib.hid hk
      clear hk
      go_wp2_with fail
      go_ret
      exact ⟨rfl, HK.out⟩

set_option maxRecDepth 100000 in
set_option maxHeartbeats 3200000 in
theorem sums_good (n : Nat) (a m c : Int) (a1 : -9223372036854775808 ≤ a) (a2 : a ≤ 9223372036854775807) (m1 : -9223372036854775808 ≤ m) (m2 : m ≤ 9223372036854775807) (c1 : -9223372036854775808 ≤ c) (c2 : c ≤ 9223372036854775807)
    (A : Option Addr) (L : List Stp) (cap : Nat) (w : World) (hT : Table w) (hL : L.length ≤ 60) (hn : n ≤ 3000) (hst : Steps w A L) (hoks : ∀ s ∈ L, s.ok) :
    Calls Tryd.prog 5 #[.int .i64 n, .slice A L.length cap, .int .i64 a, .int .i64 m, .int .i64 c] w fun e w' => e = .returned (.bool true) ∧ Kept [] w w' := by
  have HA := Lib.hid (fun x (hk : Kept [] w x) => alive_ok x (tableKeep hT hk))
  have Hnew := Lib.hid (newBv_ok n (by omega) w)
  have HS := Lib.hid hst
  have HO := Lib.hid hoks
  have HN := Lib.hid (fun x y hk => fresh_next n (by omega) x y hk)
  clear hst hoks hT
  go_enter Tryd.func5, Tryd.ntmps5
  go_wp2_with fail
  refine Hnew.out.mono ?_; rintro e x0 ⟨rfl, hv, hk⟩
  have HG0 : Hid (Stands w x0 (w.heap.size + 1) w.heap.size n (List.replicate n false)) := good_new hv hk
  clear hv hk Hnew
  generalize List.replicate n false = bs0 at HG0
  generalize w.heap.size + 1 = p at *
  generalize w.heap.size = q at *
  go_wp2_with fail
  go_loopw [13] (fun t wr => ∃ (j : Nat) (bs : List Bool), j ≤ L.length ∧ t = .int .i64 j ∧ Hid (Stands w wr p q n bs)) (fun t _ => L.length - (intOf t).toNat)
  case atStart => exact ⟨0, _, Nat.zero_le _, rfl, HG0⟩
  case round =>
    clear HG0
    obtain ⟨j, bs, hj, rfl, hG⟩ := hrel
    by_cases hlt : j < L.length
    · have hne : L ≠ [] := fun h0 => by rw [h0] at hlt; simp at hlt
      obtain ⟨g0, f0, rfl, hcs⟩ := HS.out.later hne
      have HC := Lib.hid hcs
      obtain ⟨s, hsj⟩ : ∃ s, L[j]? = some s := ⟨_, List.getElem?_eq_getElem hlt⟩
      have hok := Lib.hid (HO.out s (List.mem_of_getElem? hsj))
      obtain ⟨x, rfl⟩ : ∃ x, x = wr := ⟨_, rfl⟩
      have hcl := HC.out x hG.out.2.2.2.2 j s hsj
      have d0 : x.cell? ⟨g0, f0 + j * 3, none⟩ = some (.int .i64 s.d) := hcl 0 _ rfl
      have d1 : x.cell? ⟨g0, f0 + j * 3 + 1, none⟩ = some (.int .i64 s.a) := hcl 1 _ rfl
      have d2 : x.cell? ⟨g0, f0 + j * 3 + 2, none⟩ = some (.int .i64 s.n) := hcl 2 _ rfl
      have cn : ∀ y, Kept [] x y → Calls Tryd.prog 11 #[.int .i64 n] y fun e z => ∃ s0, e = .returned (.pointer (some ⟨s0 + 1, 0, none⟩)) ∧ x.heap.size ≤ s0 ∧ Rf z (s0 + 1) s0 (List.replicate n false) ∧ Kept [] x z ∧ z.cell? ⟨g0, f0 + j * 3, none⟩ = some (.int .i64 s.d) ∧ z.cell? ⟨g0, f0 + j * 3 + 1, none⟩ = some (.int .i64 s.a) ∧ z.cell? ⟨g0, f0 + j * 3 + 2, none⟩ = some (.int .i64 s.n) := fun y hy => (HN.out x y hy).mono fun e z ⟨s0, he, h0, hR, hz⟩ =>
        have hc := HC.out z (hG.out.2.2.2.2.trans hz) j s hsj
        ⟨s0, he, h0, hR, hz, hc 0 _ rfl, hc 1 _ rfl, hc 2 _ rfl⟩
      have CN := Lib.hid cn
      clear cn
      have CD := Lib.hid (fun s0 z u h0 hR hz hu => does_next hG.out s hok.out s0 z u h0 hR hz hu)
      generalize stepB bs s = R at *
      generalize List.replicate n false = Z at *
      clear hcl HC hcs hne hG
      go_wp2_with fail
      go_region_with (first | (go_at_call 11; refine (CN.out _ ?_).mono ?_; (first | exact Kept.refl _ _ | exact (Kept.refl _ _).drewN _); rintro e y ⟨s0, rfl, h0, hR, hz, k0, k1, k2⟩) | (go_at_call 15; refine (CD.out _ _ _ h0 hR hz ?_).mono ?_; (first | exact Kept.refl _ _ | exact (Kept.refl _ _).drewN _); rintro e z ⟨rfl, hG2⟩))
      all_goals
        have HG2 := Lib.hid hG2
        clear hG2 hR hz CN CD k0 k1 k2 d0 d1 d2
        go_wp2_with fail
        go_roundw
        case rel => exact ⟨j + 1, R, by omega, by go_num, HG2⟩
        case measure => simp [intOf]; omega
    · obtain rfl : j = L.length := by omega
      clear hlt hj HS HO HN
      have hlen := hG.out.2.1
      cases hin : within bs.length a m with
      | false =>
        have Hc := count_ok bs p q wr hG.out.1 a m a1 a2 m1 m2
        rw [cntI_out hin, hin] at Hc
        have HC := Lib.hid Hc
        clear Hc hin
        unfold errOf at HC
        simp only [Bool.false_eq_true, if_false] at HC
        go_wp2_with fail
        refine HC.out.mono ?_; rintro e x1 ⟨rfl, hk⟩
        have HK := Lib.hid (hG.out.2.2.2.2.trans hk)
        clear hk HC
        go_wp2_with fail
        refine (HA.out _ HK.out).mono ?_; rintro e x2 ⟨rfl, hk⟩
        have HK2 := Lib.hid (HK.out.trans hk)
        clear hk HK
        go_wp2_with fail
        go_ret
        exact ⟨rfl, HK2.out⟩
      | true =>
        have e0 : errOf true = 0 := rfl
        obtain ⟨w1, w2, w3⟩ := (within_iff _ _ _).1 hin
        have Hc := count_ok bs p q wr hG.out.1 a m a1 a2 m1 m2
        rw [hin, e0] at Hc
        have HC := Lib.hid Hc
        clear Hc
        by_cases hcm : 0 ≤ c ∧ c ≤ m
        · obtain ⟨g1, g2⟩ := hcm
          obtain ⟨i1, i2⟩ := within_parts hin g1 g2
          obtain ⟨u1, u2⟩ := cntI_le hin
          obtain ⟨u3, u4⟩ := cntI_le i1
          obtain ⟨u5, u6⟩ := cntI_le i2
          have s1 := cntI_parts hin g1 g2
          have C1 := Lib.hid (fun x (hk : Kept [] wr x) => count_ok bs p q x (hG.out.1.keep0 hk) a c a1 a2 c1 c2)
          have C2 := Lib.hid (fun x (hk : Kept [] wr x) => count_ok bs p q x (hG.out.1.keep0 hk) (a + c) (m - c) (by omega) (by omega) (by omega) (by omega))
          have C3 := Lib.hid (fun x (hk : Kept [] wr x) => (setRun_ok bs p q x (hG.out.1.keep0 hk) a c a1 a2 c1 c2).mono fun e y ⟨he, hv, hy⟩ => And.intro he ((hG.out.stay hk).put hv (layB_length _ _ _ _) hy))
          rw [i1, e0] at C1 C3
          rw [i2, e0] at C2
          have hin2 : within (layB bs a c true).length a m = true := by rw [layB_length]; exact hin
          have s2 := cntI_set hin g1 g2
          have C4 := Lib.hid (fun x (hG : Stands w x p q n (layB bs a c true)) => count_ok _ p q x hG.1 a m a1 a2 m1 m2)
          have C5 := Lib.hid (fun x (hG : Stands w x p q n (layB bs a c true)) => (clearRun_ok _ p q x hG.1 a m a1 a2 m1 m2).mono fun e y ⟨he, hv, hy⟩ => And.intro he (hG.put hv (layB_length _ _ _ _) hy))
          rw [hin2, e0] at C4 C5
          have hin3 : within (layB (layB bs a c true) a m false).length a m = true := by rw [layB_length]; exact hin2
          have s3 := cntI_clear hin2
          have C6 := Lib.hid (fun x (hG : Stands w x p q n (layB (layB bs a c true) a m false)) => count_ok _ p q x hG.1 a m a1 a2 m1 m2)
          rw [hin3, e0, s3] at C6
          rw [s2] at C4
          clear hin hin2 hin3 i1 i2 s2 s3
          generalize layB (layB bs a c true) a m false = bs2 at *
          generalize layB bs a c true = bs1 at *
          generalize cntI bs a m = X at *
          generalize cntI bs a c = Y at *
          generalize cntI bs (a + c) (m - c) = V at *
          subst s1
          generalize hac : a + c = ac at *
          generalize hmc : m - c = mc at *
          have n1 : IntKind.i64.wrap (a + c) = ac := by rw [IntKind.wrap_i64]; omega
          have n2 : IntKind.i64.wrap (m - c) = mc := by rw [IntKind.wrap_i64]; omega
          go_wp2_with fail
          refine HC.out.mono ?_; rintro e x1 ⟨rfl, hk⟩
          have K1 := hk
          clear hk HC
          go_wp2_with fail
          refine (C1.out _ K1).mono ?_; rintro e x2 ⟨rfl, hk⟩
          have K2 := K1.trans hk
          clear hk K1
          go_wp2_with fail
          refine (C2.out _ K2).mono ?_; rintro e x3 ⟨rfl, hk⟩
          have K3 := K2.trans hk
          clear hk K2
          go_wp2_with fail
          refine (C3.out _ K3).mono ?_; rintro e x4 ⟨rfl, G4⟩
          clear K3
          go_wp2_with fail
          refine (C4.out _ G4).mono ?_; rintro e x5 ⟨rfl, hk⟩
          have G5 := G4.stay hk
          clear hk
          go_wp2_with fail
          refine (C5.out _ G5).mono ?_; rintro e x6 ⟨rfl, G6⟩
          go_wp2_with fail
          refine (C6.out _ G6).mono ?_; rintro e x7 ⟨rfl, hk⟩
          have HK := Lib.hid (G6.2.2.2.2.trans hk)
          clear hk
          go_wp2_with fail
          refine (HA.out _ HK.out).mono ?_; rintro e x8 ⟨rfl, hk⟩
          have HK2 := Lib.hid (HK.out.trans hk)
          clear hk HK
          go_wp2_with fail
          go_ret
          exact ⟨rfl, HK2.out⟩
        · clear hin
          rcases (by omega : c < 0 ∨ m < c) with h3 | h3
          all_goals
            clear hcm
            go_wp2_with fail
            refine HC.out.mono ?_; rintro e x1 ⟨rfl, hk⟩
            have HK := Lib.hid (hG.out.2.2.2.2.trans hk)
            clear hk HC
            go_wp2_with fail
            refine (HA.out _ HK.out).mono ?_; rintro e x2 ⟨rfl, hk⟩
            have HK2 := Lib.hid (HK.out.trans hk)
            clear hk HK
            go_wp2_with fail
            go_ret
            exact ⟨rfl, HK2.out⟩
theorem sums_walk (n : Int) (A : Option Addr) (L : List Stp) (cap : Nat) (a m c : Int) (a1 : -9223372036854775808 ≤ a) (a2 : a ≤ 9223372036854775807) (m1 : -9223372036854775808 ≤ m) (m2 : m ≤ 9223372036854775807) (c1 : -9223372036854775808 ≤ c) (c2 : c ≤ 9223372036854775807)
    (w : World) (hT : Table w) (hL : L.length ≤ maxLen) (hst : Steps w A L) (hoks : ∀ s ∈ L, s.ok) :
    Calls Tryd.prog 5 #[.int .i64 n, .slice A L.length cap, .int .i64 a, .int .i64 m, .int .i64 c] w fun e w' => e = .returned (.bool true) ∧ Kept [] w w' := by
  by_cases hm : 60 < L.length ∨ n < 0 ∨ 3000 < n
  · exact sums_small n a m c A L.length cap w hT hm hL
  · obtain ⟨n, rfl⟩ := Int.eq_ofNat_of_zero_le (show 0 ≤ n by omega)
    exact sums_good n a m c a1 a2 m1 m2 c1 c2 A L cap w hT (by omega) (by omega) hst hoks
end Go.Proofs.YtkkjdoadmfeebaaDoor.Bt
