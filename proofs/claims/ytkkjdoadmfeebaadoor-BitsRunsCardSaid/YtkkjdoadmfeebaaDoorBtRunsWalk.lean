/-
  The walk of the law BitsRuns.
-/
import Derived.Test.YtkkjdoadmfeebaaDoorBtRunsLaw
namespace Go.Proofs.YtkkjdoadmfeebaaDoor.Bt
open Go.RowKit Go.Proofs.YtkkjdoadmfeebaaDoor.Ar Go.Proofs.YtkkjdoadmfeebaaDoor.Wd
set_option linter.unusedVariables false

set_option maxRecDepth 100000 in
set_option maxHeartbeats 800000 in
theorem runsLaw_small (n : Int) (A : Option Addr) (k cap : Nat) (w : World) (hT : Table w) (hm : 60 < k ∨ n < 0 ∨ 3000 < n) (hl : k ≤ maxLen) :
    Calls Tryd.prog 4 #[.int .i64 n, .slice A k cap] w fun e w' => e = .returned (.bool true) ∧ Kept [] w w' := by
  unfold maxLen at hl
  have HA := Lib.hid (alive_ok w hT)
  clear hT
  by_cases h1 : 60 < k
  · clear hm
    go_enter Tryd.func4, Tryd.ntmps4
    go_wp2_with fail
    refine HA.out.mono ?_; rintro e w' ⟨rfl, hk⟩
    have HK := Lib.hid hk
    clear hk
    go_wp2_with fail
    go_ret
    exact ⟨rfl, HK.out⟩
  · by_cases h2 : n < 0
    · clear hm
      go_enter Tryd.func4, Tryd.ntmps4
      go_wp2_with fail
      refine HA.out.mono ?_; rintro e w' ⟨rfl, hk⟩
      have HK := Lib.hid hk
      clear hk
      go_wp2_with fail
      go_ret
      exact ⟨rfl, HK.out⟩
    · have h3 : 3000 < n := by omega
      clear hm
      go_enter Tryd.func4, Tryd.ntmps4
      go_wp2_with fail
      refine HA.out.mono ?_; rintro e w' ⟨rfl, hk⟩
      have HK := Lib.hid hk
      clear hk
      go_wp2_with fail
      go_ret
      exact ⟨rfl, HK.out⟩

set_option maxRecDepth 100000 in
set_option maxHeartbeats 8000000 in
theorem runsLaw_good (n : Nat) (A : Option Addr) (L : List Stp) (cap : Nat) (w : World) (hT : Table w) (hL : L.length ≤ 60) (hn : n ≤ 3000) (hst : Steps w A L) (hoks : ∀ s ∈ L, s.ok) :
    Calls Tryd.prog 4 #[.int .i64 n, .slice A L.length cap] w fun e w' => e = .returned (.bool true) ∧ Kept [] w w' := by
  have HA := Lib.hid (fun x (hk : Kept [] w x) => alive_ok x (tableKeep hT hk))
  have Hnew := Lib.hid (newBv_ok n (by omega) w)
  have HS := Lib.hid hst
  have HO := Lib.hid hoks
  have HT := Lib.hid hT
  have HN := Lib.hid (fun x y hk => fresh_next n (by omega) x y hk)
  clear hst hoks hT
  go_enter Tryd.func4, Tryd.ntmps4
  go_wp2_with fail
  refine Hnew.out.mono ?_; rintro e x0 ⟨rfl, hv, hk⟩
  have HG0 : Hid (Stands w x0 (w.heap.size + 1) w.heap.size n (List.replicate n false)) := good_new hv hk
  clear hv hk Hnew
  generalize List.replicate n false = bs0 at HG0
  generalize w.heap.size + 1 = p at *
  generalize w.heap.size = q at *
  go_wp2_with fail
  go_loopw [7] (fun t wr => ∃ (j : Nat) (bs : List Bool), j ≤ L.length ∧ t = .int .i64 j ∧ Hid (Stands w wr p q n bs)) (fun t _ => L.length - (intOf t).toNat)
  case atStart => exact ⟨0, _, Nat.zero_le _, rfl, HG0⟩
  case round =>
    clear HG0
    obtain ⟨j, bs, hj, rfl, hG⟩ := hrel
    by_cases hlt : j < L.length
    · have hne : L ≠ [] := fun h0 => by rw [h0] at hlt; simp at hlt
      obtain ⟨g0, f0, rfl, hcs⟩ := HS.out.later hne
      have HC := Lib.hid hcs
      obtain ⟨s, hsj⟩ : ∃ s, L[j]? = some s := ⟨_, List.getElem?_eq_getElem hlt⟩
      have hok := Lib.hid (HO.out s (List.mem_of_getElem? hsj))
      obtain ⟨x, rfl⟩ : ∃ x, x = wr := ⟨_, rfl⟩
      have hcl := HC.out x hG.out.2.2.2.2 j s hsj
      have d0 : x.cell? ⟨g0, f0 + j * 3, none⟩ = some (.int .i64 s.d) := hcl 0 _ rfl
      have d1 : x.cell? ⟨g0, f0 + j * 3 + 1, none⟩ = some (.int .i64 s.a) := hcl 1 _ rfl
      have d2 : x.cell? ⟨g0, f0 + j * 3 + 2, none⟩ = some (.int .i64 s.n) := hcl 2 _ rfl
      have cn : ∀ y, Kept [] x y → Calls Tryd.prog 11 #[.int .i64 n] y fun e z => ∃ s0, e = .returned (.pointer (some ⟨s0 + 1, 0, none⟩)) ∧ x.heap.size ≤ s0 ∧ Rf z (s0 + 1) s0 (List.replicate n false) ∧ Kept [] x z ∧ z.cell? ⟨g0, f0 + j * 3, none⟩ = some (.int .i64 s.d) ∧ z.cell? ⟨g0, f0 + j * 3 + 1, none⟩ = some (.int .i64 s.a) ∧ z.cell? ⟨g0, f0 + j * 3 + 2, none⟩ = some (.int .i64 s.n) := fun y hy => (HN.out x y hy).mono fun e z ⟨s0, he, h0, hR, hz⟩ =>
        have hc := HC.out z (hG.out.2.2.2.2.trans hz) j s hsj
        ⟨s0, he, h0, hR, hz, hc 0 _ rfl, hc 1 _ rfl, hc 2 _ rfl⟩
      have CN := Lib.hid cn
      clear cn
      have CD := Lib.hid (fun s0 z u h0 hR hz hu => does_next hG.out s hok.out s0 z u h0 hR hz hu)
      generalize stepB bs s = R at *
      generalize List.replicate n false = Z at *
      clear hcl HC hcs hne hG
      go_wp2_with fail
      go_region_with (first | (go_at_call 11; refine (CN.out _ ?_).mono ?_; (first | exact Kept.refl _ _ | exact (Kept.refl _ _).drewN _); rintro e y ⟨s0, rfl, h0, hR, hz, k0, k1, k2⟩) | (go_at_call 15; refine (CD.out _ _ _ h0 hR hz ?_).mono ?_; (first | exact Kept.refl _ _ | exact (Kept.refl _ _).drewN _); rintro e z ⟨rfl, hG2⟩))
      all_goals
        have HG2 := Lib.hid hG2
        clear hG2 hR hz CN CD k0 k1 k2 d0 d1 d2
        go_wp2_with fail
        go_roundw
        case rel => exact ⟨j + 1, R, by omega, by go_num, HG2⟩
        case measure => simp [intOf]; omega
    · obtain rfl : j = L.length := by omega
      clear hlt hj HS HO HN
      obtain ⟨y0, rfl⟩ : ∃ y0, y0 = wr := ⟨_, rfl⟩
      have hlen := hG.out.2.1
      have HR := Lib.hid (runs_ok bs p q y0 hG.out.1 (tableKeep HT.out hG.out.2.2.2.2))
      have hrl := runs_len bs
      have hch := chain_runs bs
      rw [hlen] at hrl
      have HB := Lib.hid (fun x (hk : Kept [] y0 x) (k : Nat) (hk2 : k ≤ 65536) => has_ok bs p q x (hG.out.1.keep0 hk) (k : Int) (by omega) (by omega))
      have HX := Lib.hid (fun x (hk : Kept [] y0 x) (k : Nat) (hk2 : k ≤ 65536) => next_ok bs p q x (hG.out.1.keep0 hk) (tableKeep HT.out (hG.out.2.2.2.2.trans hk)) (k : Int) (by omega) (by omega))
      have HC := Lib.hid (fun x (hk : Kept [] y0 x) (k : Nat) (hk2 : k ≤ 65536) => nextClear_ok bs p q x (hG.out.1.keep0 hk) (tableKeep HT.out (hG.out.2.2.2.2.trans hk)) (k : Int) (by omega) (by omega))
      have HP := Lib.hid (fun x (hk : Kept [] y0 x) (k : Nat) (hk2 : k ≤ 65536) => prev_ok bs p q x (hG.out.1.keep0 hk) (k : Int) (by omega) (by omega))
      have HM := Lib.hid (fun x (hk : Kept [] y0 x) => count_ok bs p q x (hG.out.1.keep0 hk) 0 (n : Int) (by omega) (by omega) (by omega) (by omega))
      have HW := Lib.hid hG.out.2.2.2.2
      clear hG
      go_wp2_with fail
      refine HR.out.mono ?_; rintro e y1 ⟨v, rfl, hown, _, hk⟩
      have hform : ∃ A c, v = .slice A (runsV bs).length c ∧ (runsV bs ≠ [] → ∃ g, A = some ⟨g, 0, none⟩) := by
        rcases hown.form with ⟨h1, h2⟩ | ⟨g, cap, h1, _⟩
        · exact ⟨none, 0, by rw [h2]; exact h1, fun h => absurd h2 h⟩
        · exact ⟨_, cap, h1, fun _ => ⟨g, rfl⟩⟩
      obtain ⟨B, rcap, rfl, hB⟩ := hform
      have HK1 := Lib.hid hk
      have Hown := Lib.hid hown
      have HB0 := Lib.hid hB
      have Hch := Lib.hid hch
      clear HR hk hown hB hch
      generalize hrs : runsV bs = rs at *
      have Hrs := Lib.hid hrs
      clear hrs
      go_wp2_with fail
      go_loopw [9, 10, 11] (fun e a i wr => ∃ (j E : Nat), e = .int .i64 (endI E) ∧ a = .int .i64 (cnt (bit bs) E : Nat) ∧ i = .int .i64 j ∧ j ≤ rs.length ∧ E ≤ n ∧ Hid (Chain bs E (rs.drop j)) ∧ Hid (E = 0 ∨ bit bs E = false) ∧ Hid (Kept [] y0 wr) ∧ Hid (OwnR wr (.slice B rs.length rcap) rs)) (fun _ _ i _ => rs.length - (intOf i).toNat)
      case atStart => exact ⟨0, 0, rfl, rfl, rfl, Nat.zero_le _, Nat.zero_le _, Hch, Lib.hid (.inl rfl), HK1, Hown⟩
      case round =>
        clear Hch HK1 Hown
        obtain ⟨j, E, rfl, rfl, rfl, hj, hE, hC, hE0, hK, hO⟩ := hrel
        have hmx := endI_max E
        have hlow := endI_low E
        by_cases hlt : j < rs.length
        · obtain ⟨g, rfl⟩ := HB0.out (fun h0 => by rw [h0] at hlt; simp at hlt)
          obtain ⟨r, hr⟩ : ∃ r, r = rs.getD j (0, 0) := ⟨_, rfl⟩
          obtain ⟨r1, r2, r3, r4, r5, r6, r7⟩ := chain_step hC.out hlt r hr
          have hcell := (runCells_get rs j hlt).imp (hO.out.cell _ _) (hO.out.cell _ _)
          rw [← hr, Nat.mul_comm] at hcell
          obtain ⟨k0, k1⟩ := hcell
          have hend := endI_lt r1 hE0.out (r5 r.1 (Nat.le_refl _) (by omega))
          obtain ⟨s, t⟩ := r
          simp only at r1 r2 r3 r4 r5 r6 r7 k0 k1 hend
          have hb64 : bs.length ≤ 65536 := by omega
          have hcnt := cnt_run r1 r4 r5
          have hcle := cnt_le (bit bs) E
          have hx1 : nextO bs (E : Int) true = some s := nextO_hit r1 (by omega) (r5 s (Nat.le_refl _) (by omega)) r4
          have hp1 : prevO bs ((s + t : Nat) : Int) = some (s + t - 1) := prevO_hit (by omega) r3 (r5 _ (by omega) (by omega)) r6
          have hhas : ∀ k, E ≤ k → k < s + t → bit bs k = decide (s ≤ k) := fun k h1 h2 => by
            by_cases h3 : s ≤ k
            · rw [decide_eq_true h3]; exact r5 k h3 h2
            · rw [decide_eq_false h3]; exact r4 k h1 (by omega)
          have hcl : nextO bs (s : Int) false = if s + t < n then some (s + t) else none := by
            split
            · exact nextO_hit (by omega) (by omega) r6 r5
            · exact nextO_miss fun j j1 j2 => r5 j j1 (by omega)
          rw [hlen] at r3
          generalize hF : s + t = F at *
          have hF1 : 1 ≤ F := by omega
          have hFI : (s : Int) + (t : Int) = (F : Int) := by omega
          have hsum : IntKind.i64.wrap ((s : Int) + (t : Int)) = (F : Int) := by rw [IntKind.wrap_i64]; omega
          have cx : ∀ x, Kept [] y0 x → Calls Tryd.prog 20 #[.pointer (some ⟨p, 0, none⟩), .int .i64 E] x fun e z => e = .returned (.tuple #[.int .i64 s, .bool true]) ∧ Kept [] x z := fun x hk => by
            have := HX.out x hk E (by omega)
            rw [hx1] at this
            exact this
          have cp : ∀ x, Kept [] y0 x → Calls Tryd.prog 22 #[.pointer (some ⟨p, 0, none⟩), .int .i64 F] x fun e z => e = .returned (.tuple #[.int .i64 ((F - 1 : Nat) : Int), .bool true]) ∧ Kept [] x z := fun x hk => by
            have := HP.out x hk F (by omega)
            rw [hp1] at this
            exact this
          have cb : ∀ x, Kept [] y0 x → ∀ k : Nat, E ≤ k → k < F → Calls Tryd.prog 19 #[.pointer (some ⟨p, 0, none⟩), .int .i64 k] x fun e z => e = .returned (.bool (decide (s ≤ k))) ∧ Kept [] x z := fun x hk k h1 h2 => by
            have := HB.out x hk k (by omega)
            rw [hasV_nat, hhas k h1 h2] at this
            exact this
          have CX := Lib.hid cx
          have CP := Lib.hid cp
          have CB := Lib.hid cb
          have R7 := Lib.hid r7
          have R6 := Lib.hid r6
          have Hcl := Lib.hid hcl
          clear hx1 hp1 hhas cx cp cb r7 r6 r4 r5 hcl hr hC hE0 HB0
          have hnx : endI F = F := endI_pos hF1
          have hcs : IntKind.i64.wrap (((cnt (bit bs) E : Nat) : Int) + (t : Int)) = ((cnt (bit bs) F : Nat) : Int) := by rw [IntKind.wrap_i64]; omega
          generalize hev : endI E = ev at *
          clear hev
          generalize hc1 : cnt (bit bs) F = c1 at *
          have Hc1 := Lib.hid hc1
          clear hc1
          generalize hc0 : cnt (bit bs) E = c0 at *
          clear hc0
          go_wp2_with fail
          have hua : Kept [] wr (wr.alloc (.cells #[.int .i64 s, .int .i64 t] 43)) := (Kept.refl [] wr).alloc _
          have HKu := Lib.hid (hK.out.trans hua)
          have HOu := Lib.hid (hO.out.keep0 hua)
          have HHb := Lib.hid (Has.new wr 43 [.int .i64 s, .int .i64 t])
          have Hcells : Hid (∀ z, Kept [] (wr.alloc (.cells #[.int .i64 s, .int .i64 t] 43)) z → z.cell? ⟨wr.heap.size, 0, none⟩ = some (.int .i64 s) ∧ z.cell? ⟨wr.heap.size, 1, none⟩ = some (.int .i64 t)) := fun z hz => ⟨(HHb.out.keep0 hz).cell 0, (HHb.out.keep0 hz).cell 1⟩
          clear hua hK hO HHb k0 k1
          generalize wr.alloc (.cells #[.int .i64 s, .int .i64 t] 43) = u at *
          generalize wr.heap.size = b at *
          generalize decide (n < s) = zb at *
          go_loopw [13] (fun k wq => ∃ K : Nat, k = .int .i64 K ∧ E ≤ K ∧ K ≤ F ∧ Hid (Kept [] u wq)) (fun k _ => F - (intOf k).toNat)
          case atStart => exact ⟨E, rfl, Nat.le_refl _, by omega, Lib.hid (Kept.refl _ _)⟩
          case round =>
            obtain ⟨K, rfl, b1, b2, hKq⟩ := hrel
            obtain ⟨m0, m1⟩ := Hcells.out _ hKq.out
            by_cases hKF : K < F
            · have ck : ∀ x, Kept [] u x → Calls Tryd.prog 19 #[.pointer (some ⟨p, 0, none⟩), .int .i64 K] x fun e z => e = .returned (.bool (decide (s ≤ K))) ∧ z.cell? ⟨b, 0, none⟩ = some (.int .i64 s) ∧ z.cell? ⟨b, 1, none⟩ = some (.int .i64 t) ∧ Kept [] u z := fun x hk => (CB.out x (HKu.out.trans hk) K b1 hKF).mono fun e z ⟨he, hz⟩ => ⟨he, (Hcells.out z (hk.trans hz)).1, (Hcells.out z (hk.trans hz)).2, hk.trans hz⟩
              by_cases hsK : s ≤ K
              · rw [decide_eq_true hsK] at ck
                have CK := Lib.hid ck
                clear ck
                go_wp2_with fail
                go_region_held3 (fun y => y.cell? ⟨b, 0, none⟩ = some (.int .i64 s) ∧ y.cell? ⟨b, 1, none⟩ = some (.int .i64 t)) (go_keep)
                  (first | (go_at_call 19; refine (CK.out _ ?_).mono ?_; (first | exact hKq.out | exact hKq.out.drewN _); rintro e z ⟨rfl, z0, z1, hz⟩))
                all_goals
                  have HZ := Lib.hid hz
                  clear hz CK hKq
                  go_wp2_with fail
                  go_roundw
                  case rel => exact ⟨K + 1, by go_num, by omega, by omega, HZ⟩
                  case measure => simp [intOf]; omega
              · rw [decide_eq_false hsK] at ck
                have CK := Lib.hid ck
                clear ck
                go_wp2_with fail
                go_region_held3 (fun y => y.cell? ⟨b, 0, none⟩ = some (.int .i64 s) ∧ y.cell? ⟨b, 1, none⟩ = some (.int .i64 t)) (go_keep)
                  (first | (go_at_call 19; refine (CK.out _ ?_).mono ?_; (first | exact hKq.out | exact hKq.out.drewN _); rintro e z ⟨rfl, z0, z1, hz⟩))
                all_goals
                  have HZ := Lib.hid hz
                  clear hz CK hKq
                  go_wp2_with fail
                  go_roundw
                  case rel => exact ⟨K + 1, by go_num, by omega, by omega, HZ⟩
                  case measure => simp [intOf]; omega
            · obtain rfl : K = F := by omega
              clear b1 b2 hKF CB
              by_cases hFn : K < n
              · have cc : ∀ x, Kept [] y0 x → Calls Tryd.prog 21 #[.pointer (some ⟨p, 0, none⟩), .int .i64 s] x fun e z => e = .returned (.tuple #[.int .i64 K, .bool true]) ∧ Kept [] x z := fun x hk => by
                  have := HC.out x hk s (by omega)
                  rw [Hcl.out, if_pos hFn] at this
                  exact this
                have CC := Lib.hid cc
                clear cc
                go_wp2_with fail
                refine (CX.out _ (HKu.out.trans hKq.out)).mono ?_; rintro e z1 ⟨rfl, hz⟩
                have K1 := Lib.hid (hKq.out.trans hz)
                obtain ⟨m2, m3⟩ := Hcells.out _ K1.out
                clear hz CX
                go_wp2_with fail
                refine (CC.out _ (HKu.out.trans K1.out)).mono ?_; rintro e z2 ⟨rfl, hz⟩
                have K2 := Lib.hid (K1.out.trans hz)
                obtain ⟨m4, m5⟩ := Hcells.out _ K2.out
                clear hz CC
                go_wp2_with fail
                refine (CP.out _ (HKu.out.trans K2.out)).mono ?_; rintro e z3 ⟨rfl, hz⟩
                have K3 := Lib.hid (K2.out.trans hz)
                obtain ⟨m6, m7⟩ := Hcells.out _ K3.out
                clear hz CP
                go_wp2_with fail
                have hm1 : ((K - 1 : Nat) : Int) = (K : Int) - 1 := by omega
                go_roundw
                case rel => exact ⟨j + 1, K, by rw [hnx], by rw [Hc1.out]; try (congr 1; omega), by go_num, by omega, by omega, R7, Lib.hid (.inr R6.out), Lib.hid (HKu.out.trans K3.out), Lib.hid (HOu.out.keep0 K3.out)⟩
                case measure => simp [intOf]; omega
              · have cc : ∀ x, Kept [] y0 x → Calls Tryd.prog 21 #[.pointer (some ⟨p, 0, none⟩), .int .i64 s] x fun e z => e = .returned (.tuple #[.int .i64 0, .bool false]) ∧ Kept [] x z := fun x hk => by
                  have := HC.out x hk s (by omega)
                  rw [Hcl.out, if_neg hFn] at this
                  exact this
                have CC := Lib.hid cc
                clear cc
                go_wp2_with fail
                refine (CX.out _ (HKu.out.trans hKq.out)).mono ?_; rintro e z1 ⟨rfl, hz⟩
                have K1 := Lib.hid (hKq.out.trans hz)
                obtain ⟨m2, m3⟩ := Hcells.out _ K1.out
                clear hz CX
                go_wp2_with fail
                refine (CC.out _ (HKu.out.trans K1.out)).mono ?_; rintro e z2 ⟨rfl, hz⟩
                have K2 := Lib.hid (K1.out.trans hz)
                obtain ⟨m4, m5⟩ := Hcells.out _ K2.out
                clear hz CC
                go_wp2_with fail
                refine (CP.out _ (HKu.out.trans K2.out)).mono ?_; rintro e z3 ⟨rfl, hz⟩
                have K3 := Lib.hid (K2.out.trans hz)
                obtain ⟨m6, m7⟩ := Hcells.out _ K3.out
                clear hz CP
                go_wp2_with fail
                have hm1 : ((K - 1 : Nat) : Int) = (K : Int) - 1 := by omega
                go_roundw
                case rel => exact ⟨j + 1, K, by rw [hnx], by rw [Hc1.out]; try (congr 1; omega), by go_num, by omega, by omega, R7, Lib.hid (.inr R6.out), Lib.hid (HKu.out.trans K3.out), Lib.hid (HOu.out.keep0 K3.out)⟩
                case measure => simp [intOf]; omega
        · obtain rfl : j = rs.length := by omega
          have hz : ∀ k, E ≤ k → k < bs.length → bit bs k = false := by
            have := hC.out
            rw [List.drop_length] at this
            exact this
          have hx0 : nextO bs (E : Int) true = none := nextO_miss hz
          have hct := cnt_rest (by omega) hz
          have hin : within bs.length 0 (n : Int) = true := (within_iff _ _ _).2 ⟨by omega, by omega, by omega⟩
          have cb : ∀ x, Kept [] y0 x → ∀ k : Nat, E ≤ k → k < n → Calls Tryd.prog 19 #[.pointer (some ⟨p, 0, none⟩), .int .i64 k] x fun e z => e = .returned (.bool false) ∧ Kept [] x z := fun x hk k h1 h2 => by
            have := HB.out x hk k (by omega)
            rw [hasV_nat, hz k h1 (by omega)] at this
            exact this
          have cx : ∀ x, Kept [] y0 x → Calls Tryd.prog 20 #[.pointer (some ⟨p, 0, none⟩), .int .i64 E] x fun e z => e = .returned (.tuple #[.int .i64 0, .bool false]) ∧ Kept [] x z := fun x hk => by
            have := HX.out x hk E (by omega)
            rw [hx0] at this
            exact this
          rw [hlen] at hct
          have cm : ∀ x, Kept [] y0 x → Calls Tryd.prog 23 #[.pointer (some ⟨p, 0, none⟩), .int .i64 0, .int .i64 n] x fun e z => e = .returned (.tuple #[.int .i64 ((cnt (bit bs) E : Nat) : Int), .int .i64 0]) ∧ Kept [] x z := fun x hk => by
            have := HM.out x hk
            rw [hct, hin] at this
            exact this
          have CB := Lib.hid cb
          have CX := Lib.hid cx
          have CM := Lib.hid cm
          have hcle := cnt_le (bit bs) E
          clear hz hx0 hct hin cb cx cm hC hE0 hO HB0 HB HX HC HP HM
          generalize endI E = ev at *
          generalize cnt (bit bs) E = c0 at *
          go_wp2_with fail
          go_loopw [20] (fun k wq => ∃ K : Nat, k = .int .i64 K ∧ E ≤ K ∧ K ≤ n ∧ Hid (Kept [] y0 wq)) (fun k _ => n - (intOf k).toNat)
          case atStart => exact ⟨E, rfl, Nat.le_refl _, hE, hK⟩
          case round =>
            clear hK
            obtain ⟨K, rfl, b1, b2, hKq⟩ := hrel
            by_cases hKn : K < n
            · have hb := CB.out _ hKq.out K b1 hKn
              have HB1 := Lib.hid hb
              clear hb
              go_wp2_with fail
              refine HB1.out.mono ?_; rintro e z ⟨rfl, hz⟩
              have HZ := Lib.hid (hKq.out.trans hz)
              clear hz HB1 hKq
              go_wp2_with fail
              go_roundw
              case rel => exact ⟨K + 1, by go_num, by omega, by omega, HZ⟩
              case measure => simp [intOf]; omega
            · obtain rfl : K = n := by omega
              clear CB b1 b2 hKn
              go_wp2_with fail
              refine (CX.out _ hKq.out).mono ?_; rintro e z1 ⟨rfl, hz⟩
              have K1 := Lib.hid (hKq.out.trans hz)
              clear hz CX hKq
              go_wp2_with fail
              refine (CM.out _ K1.out).mono ?_; rintro e z2 ⟨rfl, hz⟩
              have K2 := Lib.hid (HW.out.trans (K1.out.trans hz))
              clear hz CM K1
              go_wp2_with fail
              refine (HA.out _ K2.out).mono ?_; rintro e z3 ⟨rfl, hz⟩
              have K3 := Lib.hid (K2.out.trans hz)
              clear hz K2
              go_wp2_with fail
              go_ret
              exact ⟨rfl, K3.out⟩
theorem runsLaw_walk (n : Int) (A : Option Addr) (L : List Stp) (cap : Nat) (w : World) (hT : Table w) (hL : L.length ≤ maxLen) (hst : Steps w A L) (hoks : ∀ s ∈ L, s.ok) :
    Calls Tryd.prog 4 #[.int .i64 n, .slice A L.length cap] w fun e w' => e = .returned (.bool true) ∧ Kept [] w w' := by
  by_cases hm : 60 < L.length ∨ n < 0 ∨ 3000 < n
  · exact runsLaw_small n A L.length cap w hT hm hL
  · obtain ⟨n, rfl⟩ := Int.eq_ofNat_of_zero_le (show 0 ≤ n by omega)
    exact runsLaw_good n A L cap w hT (by omega) (by omega) hst hoks
end Go.Proofs.YtkkjdoadmfeebaaDoor.Bt
