/-
  The walk of the law ArenaMoves.
-/
import Derived.Test.YtaginjpdpjehoaaArFacts
import Derived.Deep.DeepCutAuto
namespace Go.Proofs.Ytaginjpdpjehoaa.Ar
open Go.RowKit

theorem moveB_last (l : List Int) (dst fr n : Int) (h : 0 ≤ fr ∧ 0 ≤ dst ∧ 0 ≤ n ∧ n ≤ (l.length : Int) - fr) : decide (n ≤ (l.length : Int) - dst) = moveB l dst fr n := by
  rw [Bool.eq_iff_iff, decide_eq_true_iff, moveB_iff]
  omega
/-- The words that were read back are those that came in: of a cut of them that has an element, or none. -/
theorem same_back {w y : World} {g f g6 : Nat} (l : List Int) (r k : Nat) (hr : r + k ≤ l.length) (hl : l.length ≤ 400) (hs : Seen w (some ⟨g, f, none⟩) l) (hk : Kept [] w y) (h6 : Row y g6 ((l.drop r).take k)) :
    (∀ c, Calls Try.prog 20 #[.slice (some ⟨g6, 0, none⟩) k k, .slice (some ⟨g, f + r, none⟩) k c] y fun e y' => e = .returned (.bool true) ∧ ∃ m, y' = y.drewN m) ∧
    (∀ c, k = 0 → Calls Try.prog 20 #[.slice (some ⟨g6, 0, none⟩) k k, .slice (some ⟨g, f, none⟩) k c] y fun e y' => e = .returned (.bool true) ∧ ∃ m, y' = y.drewN m) := by
  have hlen : ((l.drop r).take k).length = k := by rw [List.length_take, List.length_drop]; omega
  have hs' := seen_sub (hs.keep0 hk) r k
  constructor
  · intro c
    have h := same_any (some ⟨g6, 0, none⟩) (some ⟨g, f + r, none⟩) _ _ k c y h6.seen hs' (by omega) (by omega)
    rw [sameB_self, hlen] at h
    exact h
  · intro c hk0
    have hne : Seen y (some ⟨g, f, none⟩) ((l.drop r).take k) := fun hne => absurd (List.eq_nil_of_length_eq_zero (by omega)) hne
    have h := same_any (some ⟨g6, 0, none⟩) (some ⟨g, f, none⟩) _ _ k c y h6.seen hne (by omega) (by omega)
    rw [sameB_self, hlen] at h
    exact h
theorem moveW_not {l : List Int} {dst fr n : Int} (h : moveB l dst fr n = false) : moveW l dst fr n = l := by unfold moveW; rw [h]; rfl
theorem moveN_not {l : List Int} {c dst fr n : Int} (h : moveB l dst fr n = false) : moveN l c dst fr n = c := by unfold moveN; rw [h]; rfl

set_option maxRecDepth 100000 in
set_option maxHeartbeats 800000 in
theorem moves_small (A : Option Addr) (l : List Int) (cap : Nat) (dst fr n : Int) (w : World) (hm : mayB l.length = false ∨ 400 < l.length) (hl : l.length ≤ maxLen) :
    Calls Try.prog 4 #[.slice A l.length cap, .int .i64 dst, .int .i64 fr, .int .i64 n] w fun e w' => e = .returned (.bool true) ∧ Kept [] w w' := by
  unfold maxLen at hl
  have HA := Lib.hid alive_any
  generalize hL : l.length = L at *
  clear hL
  by_cases h1 : L < 16
  · clear hm
    go_enter Try.func4, Try.ntmps4
    go_wp2_with fail
    refine (HA.out _).mono ?_; rintro e w' ⟨rfl, hk⟩
    have HK := Lib.hid hk
    clear hk
    go_wp2_with fail
    go_ret
    exact ⟨rfl, HK.out⟩
  · by_cases h2 : 400 < L
    · clear hm
      go_enter Try.func4, Try.ntmps4
      go_wp2_with fail
      refine (HA.out _).mono ?_; rintro e w' ⟨rfl, hk⟩
      have HK := Lib.hid hk
      clear hk
      go_wp2_with fail
      go_ret
      exact ⟨rfl, HK.out⟩
    · have h3 : ((L : Int) % 2 != 0) = true := by
        rcases hm with hm | hm
        · rw [bne_iff_ne]
          intro h0
          rw [(mayB_iff _).2 ⟨by omega, by omega, by rw [Int.tmod_eq_emod_of_nonneg (by omega)]; exact h0⟩] at hm
          cases hm
        · omega
      clear hm
      go_enter Try.func4, Try.ntmps4
      go_wp2_with fail
      refine (HA.out _).mono ?_; rintro e w' ⟨rfl, hk⟩
      have HK := Lib.hid hk
      clear hk
      go_wp2_with fail
      go_ret
      exact ⟨rfl, HK.out⟩

set_option maxRecDepth 100000 in
set_option maxHeartbeats 3200000 in
theorem moves_walk (A : Option Addr) (l : List Int) (cap : Nat) (dst fr n : Int) (w : World) (hs : Seen w A l) (hc : l.length ≤ cap) (hcm : cap ≤ maxLen)
    (t1 : -9223372036854775808 ≤ dst) (t2 : dst ≤ 9223372036854775807) (f1 : -9223372036854775808 ≤ fr) (f2 : fr ≤ 9223372036854775807) (n1 : -9223372036854775808 ≤ n) (n2 : n ≤ 9223372036854775807) :
    Calls Try.prog 4 #[.slice A l.length cap, .int .i64 dst, .int .i64 fr, .int .i64 n] w fun e w' => e = .returned (.bool true) ∧ Kept [] w w' := by
  by_cases hm : mayB l.length = false ∨ 400 < l.length
  · exact moves_small A l cap dst fr n w hm (by omega)
  · have hm1 : mayB (l.length : Int) = true := by
      cases h : mayB (l.length : Int)
      · exact absurd (.inl h) hm
      · rfl
    have hm2 : l.length ≤ 400 := by
      rcases Nat.lt_or_ge 400 l.length with h | h
      · exact absurd (.inr h) hm
      · exact h
    obtain ⟨b1, b2, b3⟩ := (mayB_iff _).1 hm1
    have hd : ((l.length : Int) % 2 != 0) = false := by
      rw [Int.tmod_eq_emod_of_nonneg (by omega)] at b3
      rw [b3]
      rfl
    unfold maxLen at hcm
    have HA := Lib.hid alive_any
    have HN := Lib.hid (new_ok l.length hm1 w)
    have hne : l ≠ [] := fun h0 => by rw [h0] at b1; simp at b1
    obtain ⟨g, f, rfl, hcell⟩ := hs.later hne
    have HC := Lib.hid hcell
    have HS := Lib.hid hs
    have HL := Lib.hid (Eq.refl l.length)
    have hl0 : Hid (∀ x : Nat, x = l.length → 0 < x) := fun x hx => by subst hx; omega
    clear hm hm1 b3 hcell hne hs
    go_enter Try.func4, Try.ntmps4
    go_wp2_with fail
    refine HN.out.mono ?_; rintro e x0 ⟨p, q, rfl, hp, hq, hA, hK⟩
    have HM : Hid (Mine w x0 p q (laid l 0) ((0 : Nat) : Int)) := Mine.ofNew rfl hp hq hA hK
    clear hp hq hA hK HN
    go_wp2_with fail
    go_loopw [11] (fun t wr => ∃ j : Nat, j ≤ l.length ∧ t = .int .i64 j ∧ Hid (Mine w wr p q (laid l j) j)) (fun t _ => l.length - (intOf t).toNat)
    case atStart => exact ⟨0, Nat.zero_le _, rfl, HM⟩
    case round =>
      obtain ⟨j, hj, rfl, hM⟩ := hrel
      by_cases hlt : j < l.length
      · have hcj := HC.out wr hM.out.2.2.2 j hlt
        have Hone := Lib.hid (lay_one hM.out hlt (by omega))
        generalize l.getD j 0 = v at *
        clear HM hM
        go_wp2_with fail
        refine Hone.out.mono ?_; rintro e x1 ⟨rfl, hM1⟩
        have HM1 := Lib.hid hM1
        clear hM1 hcj Hone
        go_wp2_with fail
        go_roundw
        case rel => exact ⟨j + 1, by omega, by go_num, HM1⟩
        case measure => simp [intOf]; omega
      · obtain rfl : j = l.length := by omega
        have HM2 : Hid (Mine w wr p q l l.length) := by have h := hM.out; rw [laid_all] at h; exact h
        clear HM hM hlt hj
        have Hmv := Lib.hid (move_any HM2.out.2.2.1 dst fr n t1 t2 f1 f2 n1 n2)
        go_wp2_with fail
        refine Hmv.out.mono ?_; rintro e x2 ⟨rfl, hA2, hK2⟩
        have HM3 := Lib.hid (HM2.out.next hA2 hK2)
        clear hA2 hK2 Hmv HM2
        have Hw := Lib.hid (all_words HM3.out (moveW_length l dst fr n))
        go_wp2_with fail
        refine Hw.out.mono ?_; rintro e x3 ⟨g3, rfl, hM4, hR4, _⟩
        have HM4 := Lib.hid hM4
        have HR4 := Lib.hid hR4
        clear hM4 hR4 Hw HM3
        go_upto_region 15 with fail
        go_cut [15] (fun v wx => Hid (v = .bool (moveB l dst fr n)) ∧ x3 = wx)
        case first =>
          go_wp2_with fail
          all_goals
            go_meet
            case rel =>
              first
                | exact ⟨congrArg Value.bool (moveB_last l dst fr n (by omega)), rfl⟩
                | exact ⟨congrArg Value.bool (moveB_not l dst fr n (by omega)).symm, rfl⟩
        case rest =>
          obtain ⟨hv, rfl⟩ := hcut
          have hv' := hv.out
          subst hv'
          clear hv
          cases hB : moveB l dst fr n
          · have HM5 : Hid (Mine w x3 p q l l.length) := by have h := HM4.out; rw [moveW_not hB, moveN_not hB] at h; exact h
            have HR5 : Hid (Row x3 g3 l) := by have h := HR4.out; rw [moveW_not hB] at h; exact h
            have Hsame := Lib.hid (same_any (some ⟨g3, 0, none⟩) (some ⟨g, f, none⟩) l l l.length cap x3 (Row.seen HR5.out) (HS.out.keep0 HM5.out.2.2.2) (by omega) (by omega))
            rw [show errOf false = 2 from rfl]
            clear HM4 HR4 HR5 hB
            go_wp2_with fail
            refine Hsame.out.mono ?_; rintro e x4 ⟨rfl, m, rfl⟩
            have HM6 := Lib.hid (HM5.out.stay ((Kept.refl [] x3).drewN m))
            rw [sameB_self]
            clear Hsame HM5
            go_wp2_with fail
            refine (writes_any HM6.out.2.2.1).mono ?_; rintro e x5 ⟨rfl, rfl⟩
            go_wp2_with fail
            refine (HA.out _).mono ?_; rintro e x6 ⟨rfl, hk⟩
            have HK := Lib.hid (HM6.out.2.2.2.trans hk)
            clear hk HM6
            go_wp2_with fail
            go_ret
            exact ⟨rfl, HK.out⟩
          · obtain ⟨z1, z2, z3, z4, z5⟩ := (moveB_iff _ _ _ _).1 hB
            obtain ⟨d, rfl⟩ := Int.eq_ofNat_of_zero_le z2
            obtain ⟨r, rfl⟩ := Int.eq_ofNat_of_zero_le z1
            obtain ⟨k, rfl⟩ := Int.eq_ofNat_of_zero_le z3
            have y1 : r + k ≤ l.length := by omega
            have y2 : d + k ≤ l.length := by omega
            have eW : moveW l (d : Int) (r : Int) (k : Int) = putW l d ((l.drop r).take k) := by unfold moveW cutW; rw [hB]; rfl
            have eN : moveN l (l.length : Int) (d : Int) (r : Int) (k : Int) = (l.length : Int) + (k : Int) := by unfold moveN; rw [hB]; exact addU_small _ _ (by omega) (by omega)
            have HM5 : Hid (Mine w x3 p q (putW l d ((l.drop r).take k)) ((l.length : Int) + (k : Int))) := by have h := HM4.out; rw [eW, eN] at h; exact h
            have HR5 : Hid (Row x3 g3 (putW l d ((l.drop r).take k))) := by have h := HR4.out; rw [eW] at h; exact h
            have hlen : (putW l d ((l.drop r).take k)).length = l.length := putW_length _ _ _ (by rw [List.length_take, List.length_drop]; omega)
            have hget := Lib.hid (fun i => moved_get l d r k i y1 y2)
            have hap := Lib.hid (moved_apart l d r k y1 y2)
            rw [show errOf true = 0 from rfl]
            have HB := Lib.hid hB
            clear HM4 HR4 eW eN hB z1 z2 z3
            generalize putW l d ((l.drop r).take k) = R at *
            have HLen := Lib.hid hlen
            clear hlen
            go_wp2_with fail
            go_loop [16] (fun t => ∃ i : Nat, i ≤ l.length ∧ t = .int .i64 i) (fun t => l.length - (intOf t).toNat)
            case atStart => exact ⟨0, Nat.zero_le _, rfl⟩
            case round =>
              obtain ⟨i, hi, rfl⟩ := hrel
              by_cases hlt : i < l.length
              · have c1 := HC.out x3 HM5.out.2.2.2 i hlt
                have c2 := Has.cell HR5.out i
                rw [ints_get R i (by have := HLen.out; omega), hget.out i] at c2
                by_cases hin : d ≤ i ∧ i < d + k
                · have c3 := HC.out x3 HM5.out.2.2.2 (r + i - d) (by omega)
                  rw [if_pos hin] at c2
                  generalize l.getD (r + i - d) 0 = u at *
                  generalize l.getD i 0 = v at *
                  have q1 : 0 ≤ (r : Int) + (i : Int) - (d : Int) := by omega
                  have q2 : (r : Int) + (i : Int) - (d : Int) < (l.length : Int) := by omega
                  obtain ⟨hin1, hin2⟩ := hin
                  go_wp2_with fail
                  go_round
                  case rel => exact ⟨i + 1, by omega, by go_num⟩
                  case measure => simp [intOf]; omega
                · rw [if_neg hin] at c2
                  generalize l.getD i 0 = v at *
                  by_cases hin1 : d ≤ i
                  · have hin2 : d + k ≤ i := by omega
                    clear hin
                    go_wp2_with fail
                    go_round
                    case rel => exact ⟨i + 1, by omega, by go_num⟩
                    case measure => simp [intOf]; omega
                  · clear hin
                    go_wp2_with fail
                    go_round
                    case rel => exact ⟨i + 1, by omega, by go_num⟩
                    case measure => simp [intOf]; omega
              · obtain rfl : i = l.length := by omega
                clear HC hget hlt hi
                go_wp2_with fail
                refine (writes_any HM5.out.2.2.1).mono ?_; rintro e x5 ⟨rfl, rfl⟩
                go_wp2_with fail
                refine (some_words HM5.out r k (by rw [HLen.out]; exact y1)).mono ?_; rintro e x6 ⟨g6, rfl, hM6, hR6, hg6⟩
                have HM6 := Lib.hid hM6
                have HR6 := Lib.hid hR6
                have HG6 : Hid (g6 ≠ p ∧ g6 ≠ q) := ⟨by have := HM5.out.2.2.1.head.lt; omega, by have := HM5.out.2.2.1.row.lt; omega⟩
                clear hM6 hR6 hg6 HM5 HR5
                by_cases hov : d < r + k ∧ r < d + k
                · obtain ⟨hov1, hov2⟩ := hov
                  go_wp2_with fail
                  refine (HA.out _).mono ?_; rintro e x7 ⟨rfl, hk⟩
                  have HK := Lib.hid (HM6.out.2.2.2.trans hk)
                  clear hk HM6
                  go_wp2_with fail
                  go_ret
                  exact ⟨rfl, HK.out⟩
                · have HR7 : Hid (Row x6 g6 ((l.drop r).take k)) := by have h := HR6.out; rw [hap.out (by omega)] at h; exact h
                  have Hmv := Lib.hid (move_any HM6.out.2.2.1 r d k (by omega) (by omega) (by omega) (by omega) (by omega) (by omega))
                  have hB2 : moveB R (r : Int) (d : Int) (k : Int) = true := (moveB_iff _ _ _ _).2 (by have := HLen.out; omega)
                  rw [hB2, show errOf true = 0 from rfl] at Hmv
                  have hNext : ∀ y, Arena y p q (moveW R (r : Int) (d : Int) (k : Int)) (moveN R ((l.length : Int) + (k : Int)) (r : Int) (d : Int) (k : Int)) → Kept [p, q] x6 y → Kept [] w y ∧ Row y g6 ((l.drop r).take k) := by
                    intro y hA hK
                    refine ⟨(HM6.out.next hA hK).2.2.2, Has.kept HR7.out hK ?_⟩
                    have := HG6.out
                    simp
                    omega
                  have HNext := Lib.hid hNext
                  have HSame := Lib.hid (fun y => same_back (w := w) (y := y) (g6 := g6) l r k y1 hm2 HS.out)
                  clear HR6 hap hB2 hNext
                  rcases Nat.lt_or_ge r cap with hcap | hcap
                  · have Hcap := Lib.hid hcap
                    by_cases hov1 : d < r + k
                    all_goals
                      go_wp2_with fail
                      refine Hmv.out.mono ?_; rintro e x7 ⟨rfl, hA, hK⟩
                      have HF := Lib.hid (HNext.out x7 hA hK)
                      clear hA hK Hmv HM6
                      go_wp2_with fail
                      refine ((HSame.out x7 HF.out.1 HF.out.2).1 (cap - r)).mono ?_
                      rintro e x8 ⟨rfl, m, rfl⟩
                      have HK8 := Lib.hid (HF.out.1.drewN m)
                      clear HF HSame
                      go_wp2_with fail
                      refine (HA.out _).mono ?_; rintro e x9 ⟨rfl, hk⟩
                      have HK := Lib.hid (HK8.out.trans hk)
                      clear hk HK8
                      go_wp2_with fail
                      go_ret
                      exact ⟨rfl, HK.out⟩
                  · have hk0 : k ≤ 0 := by omega
                    obtain rfl : cap = r := by omega
                    by_cases hov1 : d < cap + k
                    all_goals
                      go_wp2_with fail
                      refine Hmv.out.mono ?_; rintro e x7 ⟨rfl, hA, hK⟩
                      have HF := Lib.hid (HNext.out x7 hA hK)
                      clear hA hK Hmv HM6
                      go_wp2_with fail
                      refine ((HSame.out x7 HF.out.1 HF.out.2).2 0 (by omega)).mono ?_
                      rintro e x8 ⟨rfl, m, rfl⟩
                      have HK8 := Lib.hid (HF.out.1.drewN m)
                      clear HF HSame
                      go_wp2_with fail
                      refine (HA.out _).mono ?_; rintro e x9 ⟨rfl, hk⟩
                      have HK := Lib.hid (HK8.out.trans hk)
                      clear hk HK8
                      go_wp2_with fail
                      go_ret
                      exact ⟨rfl, HK.out⟩
end Go.Proofs.Ytaginjpdpjehoaa.Ar
