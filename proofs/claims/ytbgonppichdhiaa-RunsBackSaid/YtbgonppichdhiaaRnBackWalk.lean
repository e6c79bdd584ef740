/-
  The walk of the law RunsBack.
-/
import Derived.Test.YtbgonppichdhiaaRnApartWalk
namespace Go.Proofs.Ytbgonppichdhiaa.Rn
open Go.RowKit Go.Proofs.Ytbgonppichdhiaa.Ar Go.Proofs.Ytbgonppichdhiaa.Bt Go.Proofs.Ytbgonppichdhiaa.Lk Go.Sort
set_option linter.unusedVariables false
attribute [local go_sem ↓] Go.wp_at_zero Go.wp_at_succ

theorem addE_back {rs : List R} (h : Fine 0 rs) {a n : Int} (he : addE rs a n = 0) : cutE (addW rs a n) a n = 0 ∧ cutW (addW rs a n) a n = rs := by
  unfold addE at he
  unfold cutE cutW addW
  cases hv : valid a n with
  | false => rw [hv] at he; cases he
  | true =>
    rw [hv] at he
    obtain ⟨v1, v2, v3⟩ := (valid_iff a n).1 hv
    cases hq : freeB rs a.toNat n.toNat with
    | false => rw [hq] at he; cases he
    | true =>
      obtain ⟨b1, b2⟩ := add_back h (a := a.toNat) (n := n.toNat) (by omega) (by omega) hq
      simp only [Bool.true_and, cond_true, b1, b2, and_self]
theorem cutE_back {rs : List R} (h : Fine 0 rs) {a n : Int} (he : cutE rs a n = 0) : addE (cutW rs a n) a n = 0 ∧ addW (cutW rs a n) a n = rs := by
  unfold cutE at he
  unfold addE addW cutW
  cases hv : valid a n with
  | false => rw [hv] at he; cases he
  | true =>
    rw [hv] at he
    obtain ⟨v1, v2, v3⟩ := (valid_iff a n).1 hv
    cases hq : allB rs a.toNat n.toNat with
    | false => rw [hq] at he; cases he
    | true =>
      obtain ⟨b1, b2⟩ := cut_back h (a := a.toNat) (n := n.toNat) (by omega) (by omega) hq
      simp only [Bool.true_and, cond_true, b1, b2, and_self]
theorem first_cut {rs : List R} (h : Fine 0 rs) {n fr x : Int} (hx : firstO rs n fr = some x) : cutE rs x n = 0 := by
  obtain ⟨h1, h2, h3, h4, h5⟩ := firstO_some h hx
  unfold cutE
  rw [(valid_iff x n).2 (by omega), h5]
  rfl
theorem fine_few {rs : List R} (h : Fine 0 rs) : rs.length ≤ 65536 := by
  have hge : ∀ (l : List R) (lo : Nat), Fine lo l → l.length ≤ total l := by
    intro l
    induction l with
    | nil => intro _ _; exact Nat.le_refl _
    | cons r l ih =>
      intro lo hf
      have := ih _ hf.2.2.2
      have := hf.2.1
      rw [total_cons, List.length_cons]
      omega
  exact Nat.le_trans (hge rs 0 h) (total_le h)
/-- Where the law stands between its tests. -/
def Back (w y : World) (p bx : Nat) (rs : List R) (v : Value) (a m : Int) : Prop := Sx w y p rs ∧ OwnR y v rs ∧ Has y bx 29 [.int .i64 a, .int .i64 m]
theorem Back.stay {w y z : World} {p bx : Nat} {rs : List R} {v : Value} {a m : Int} (h : Back w y p bx rs v a m) (k : Kept [] y z) : Back w z p bx rs v a m := ⟨h.1.stay k, h.2.1.keep0 k, h.2.2.keep0 k⟩
theorem Back.others {w y z : World} {p bx : Nat} {rs rs' : List R} {v : Value} {a m : Int} (h : Back w y p bx rs v a m) (ho : Others y z) (hs : Sx w z p rs') : Sx w z p rs' ∧ OwnR z v rs ∧ Has z bx 29 [.int .i64 a, .int .i64 m] := ⟨hs, ho.ownR h.2.1, ho.has h.2.2 (by decide) (by decide)⟩
theorem back_does {w x : World} {p bx : Nat} {rs : List R} {cs : List Value} (h : Sx w x p rs) (hb : Has x bx 29 cs) (st : Stp) (hs : st.ok) (r rp rq : Nat) (z u : World) (hr : RefAt z r rp rq []) (hz : x.heap.size ≤ rq) (k : Kept [] x z) (hu : Kept [] z u) :
    Calls Try.prog 13 #[.pointer (some ⟨p, 0, none⟩), .pointer (some ⟨r, 0, none⟩), .agg #[.int .i64 st.d, .int .i64 st.a, .int .i64 st.n]] u fun e y => ∃ b, e = .returned (.bool b) ∧ Sx w y p (stepS rs st) ∧ Has y bx 29 cs :=
  (does_ok (h.stay (k.trans hu)) (hr.keep0 hu) trivial (Nat.le_trans h.world.more hz) st hs).mono fun e y ⟨he, hd, _, hs⟩ => ⟨_, he, hd, hs _ _ _ (hb.keep0 (k.trans hu)) (by decide) (by decide) (by decide)⟩

set_option maxRecDepth 100000 in
set_option maxHeartbeats 800000 in
theorem back_long (A : Option Addr) (k cap : Nat) (a m n fr : Int) (w : World) (hm : 60 < k) (hl : k ≤ maxLen) :
    Calls Try.prog 5 #[.slice A k cap, .agg #[.int .i64 a, .int .i64 m], .int .i64 n, .int .i64 fr] w fun e w' => e = .returned (.bool true) ∧ Kept [] w w' := by
  unfold maxLen at hl
  have hka : ∀ o, Kept [] w (w.alloc o) := fun o => (Kept.refl [] w).alloc o
  have HA := Lib.hid (fun x => alive_ok x)
  go_enter Try.func5, Try.ntmps5
  go_wp2_with fail
  refine (HA.out _).mono ?_; rintro e w' ⟨rfl, hk⟩
  have HK := Lib.hid ((hka (.cells #[.int .i64 a, .int .i64 m] 29)).trans hk)
  clear hk
  go_wp2_with fail
  go_ret
  exact ⟨rfl, HK.out⟩

set_option maxRecDepth 100000 in
set_option maxHeartbeats 16000000 in
theorem back_walk (A : Option Addr) (L : List Stp) (cap : Nat) (a m n fr : Int) (w : World) (hL : L.length ≤ 60) (hst : Steps w A L) (hoks : ∀ s ∈ L, s.ok)
    (a1 : -9223372036854775808 ≤ a) (a2 : a ≤ 9223372036854775807) (m1 : -9223372036854775808 ≤ m) (m2 : m ≤ 9223372036854775807) (n1 : -9223372036854775808 ≤ n) (n2 : n ≤ 9223372036854775807) (f1 : -9223372036854775808 ≤ fr) (f2 : fr ≤ 9223372036854775807) :
    Calls Try.prog 5 #[.slice A L.length cap, .agg #[.int .i64 a, .int .i64 m], .int .i64 n, .int .i64 fr] w fun e w' => e = .returned (.bool true) ∧ Kept [] w w' := by
  have HA := Lib.hid (fun x => alive_ok x)
  have HS := Lib.hid hst
  have HO := Lib.hid hoks
  clear hst hoks
  go_enter Try.func5, Try.ntmps5
  go_wp2_with fail
  have hkb : Kept [] w (w.alloc (.cells #[.int .i64 a, .int .i64 m] 29)) := (Kept.refl [] w).alloc _
  have hB : Has (w.alloc (.cells #[.int .i64 a, .int .i64 m] 29)) w.heap.size 29 [.int .i64 a, .int .i64 m] := Has.new w _ [.int .i64 a, .int .i64 m]
  have hbl : w.heap.size < (w.alloc (.cells #[.int .i64 a, .int .i64 m] 29)).heap.size := by simp
  generalize w.alloc (.cells #[.int .i64 a, .int .i64 m] 29) = W0 at *
  generalize hbx : w.heap.size = bx at *
  clear hbx hbl
  have HN : Hid (Calls Try.prog 8 #[] W0 fun e w' => e = .returned (.pointer (some ⟨W0.heap.size, 0, none⟩)) ∧ Sx w w' W0.heap.size [] ∧ Kept [] W0 w') := Lib.hid ((new_ok W0).mono fun e w' ⟨he, hr, hk⟩ => ⟨he, ⟨⟨[], hr, rfl, fun b hb => by rcases List.mem_cons.1 hb with rfl | hb; exact hkb.more; cases hb⟩, trivial, hkb.trans hk⟩, hk⟩)
  have HB := Lib.hid hB
  clear hkb hB
  refine HN.out.mono ?_
  rintro e x0 ⟨rfl, h0, hkn⟩
  generalize W0.heap.size = p at *
  have H0 : Hid (Sx w x0 p [] ∧ Has x0 bx 29 [.int .i64 a, .int .i64 m]) := Lib.hid ⟨h0, HB.out.keep0 hkn⟩
  clear h0 HN HB hkn
  go_wp2_with fail
  go_loopw [10] (fun t wr => ∃ (j : Nat) (rs : List R), j ≤ L.length ∧ t = .int .i64 (j : Int) ∧ Hid (Sx w wr p rs ∧ Has wr bx 29 [.int .i64 a, .int .i64 m])) (fun t _ => L.length - (intOf t).toNat)
  case atStart => exact ⟨0, [], Nat.zero_le _, rfl, H0⟩
  case round =>
    clear H0
    obtain ⟨j, rs, hj, rfl, hG⟩ := hrel
    by_cases hlt : j < L.length
    · have hne : L ≠ [] := fun h0 => by rw [h0] at hlt; simp at hlt
      obtain ⟨g0, f0, rfl, hcs⟩ := HS.out.later hne
      obtain ⟨st, hsj⟩ : ∃ st, L[j]? = some st := ⟨_, List.getElem?_eq_getElem hlt⟩
      have hok := Lib.hid (HO.out st (List.mem_of_getElem? hsj))
      have hcl := fun x hk => hcs x hk j st hsj
      have HC : Hid (∀ x, Kept [] w x → x.cell? ⟨g0, f0 + j * 3, none⟩ = some (.int .i64 st.d) ∧ x.cell? ⟨g0, f0 + j * 3 + 1, none⟩ = some (.int .i64 st.a) ∧ x.cell? ⟨g0, f0 + j * 3 + 2, none⟩ = some (.int .i64 st.n)) := Lib.hid fun x hk => ⟨hcl x hk 0 _ rfl, hcl x hk 1 _ rfl, hcl x hk 2 _ rfl⟩
      clear hcl hcs hsj hne
      obtain ⟨x, rfl⟩ : ∃ x, x = wr := ⟨_, rfl⟩
      obtain ⟨d0, d1, d2⟩ := HC.out x hG.out.1.world
      have cn : ∀ y, Kept [] x y → Calls Try.prog 9 #[] y fun e z => ∃ r rp rq, e = .returned (.pointer (some ⟨r, 0, none⟩)) ∧ x.heap.size ≤ rq ∧ RefAt z r rp rq [] ∧ Kept [] x z ∧ z.cell? ⟨g0, f0 + j * 3, none⟩ = some (.int .i64 st.d) ∧ z.cell? ⟨g0, f0 + j * 3 + 1, none⟩ = some (.int .i64 st.a) ∧ z.cell? ⟨g0, f0 + j * 3 + 2, none⟩ = some (.int .i64 st.n) := fun y hy => (refNewR_ok y).mono fun e z ⟨r, rp, rq, he, hR, hz, hk⟩ =>
        have hc := HC.out z (hG.out.1.world.trans (hy.trans hk))
        ⟨r, rp, rq, he, Nat.le_trans hy.more hz.2.2, hR, hy.trans hk, hc.1, hc.2.1, hc.2.2⟩
      have CN := Lib.hid cn
      have CD : Hid (∀ r rp rq z u, x.heap.size ≤ rq → RefAt z r rp rq [] → Kept [] x z → Kept [] z u → Calls Try.prog 13 #[.pointer (some ⟨p, 0, none⟩), .pointer (some ⟨r, 0, none⟩), .agg #[.int .i64 st.d, .int .i64 st.a, .int .i64 st.n]] u fun e y => ∃ b, e = .returned (.bool b) ∧ Sx w y p (stepS rs st) ∧ Has y bx 29 [.int .i64 a, .int .i64 m]) := Lib.hid fun r rp rq z u hz hR k hu => back_does hG.out.1 hG.out.2 st hok.out r rp rq z u hR hz k hu
      clear cn
      generalize stepS rs st = R1 at *
      clear HC hG
      go_wp2_with fail
      go_region_with (first | (go_at_call 9; refine (CN.out _ ?_).mono ?_; (first | exact Kept.refl _ _ | exact (Kept.refl _ _).drewN _); rintro e y ⟨r, rp, rq, rfl, h0, hR, hz, k0, k1, k2⟩) | (go_at_call 13; refine (CD.out _ _ _ _ _ h0 hR hz ?_).mono ?_; (first | exact Kept.refl _ _ | exact (Kept.refl _ _).drewN _); rintro e z ⟨b, rfl, hG2⟩))
      all_goals
        have HG2 := Lib.hid hG2
        clear hG2 hR hz CN CD k0 k1 k2 d0 d1 d2
        go_wp2_with fail
        go_roundw
        case rel => exact ⟨j + 1, R1, by omega, by go_num, HG2⟩
        case measure => simp [intOf]; omega
    · obtain rfl : j = L.length := by omega
      clear hlt hj HS HO
      have HL := Lib.hid (Sx.list hG.out.1)
      have hfew := fine_few hG.out.1.fine
      have HF := Lib.hid hG.out.1.fine
      go_wp2_with fail
      refine HL.out.mono ?_
      rintro e y1 ⟨v, rfl, hO, _, hk⟩
      have HG : Hid (Back w y1 p bx rs v a m) := Lib.hid ⟨hG.out.1.stay hk, hO, hG.out.2.keep0 hk⟩
      clear hO hk HL hG
      go_upto_region 11 with fail
      go_cut [52] (fun vv wx => Hid (Back w wx p bx rs v a m) ∧ vv = .bool false)
      case first =>
        have HAC := Lib.hid (Sx.add HG.out.1 a m a1 a2 m1 m2)
        unfold runV at HAC
        have r0 := HG.out.2.2.cell 0
        have r1 := HG.out.2.2.cell 1
        simp at r0 r1
        by_cases hE : addE rs a m = 0
        · obtain ⟨e1, e2⟩ := addE_back HF.out hE
          have HCA := Lib.hid (fun y (hy : Sx w y p (addW rs a m)) => Sx.cut hy a m a1 a2 m1 m2)
          rw [e1, e2] at HCA
          rw [hE] at HAC
          unfold runV at HCA
          clear hE e1 e2
          generalize addW rs a m = rs2 at *
          go_wp2_with fail
          refine HAC.out.mono ?_
          rintro e y2 ⟨rfl, h2, ho⟩
          have HB2 := Lib.hid (HG.out.others ho h2)
          have r0 := HB2.out.2.2.cell 0
          have r1 := HB2.out.2.2.cell 1
          simp at r0 r1
          clear h2 ho HAC HG
          go_wp2_with fail
          refine (HCA.out _ HB2.out.1).mono ?_
          rintro e y3 ⟨rfl, h3, ho⟩
          have HB3 : Hid (Back w y3 p bx rs v a m) := Lib.hid ⟨h3, ho.ownR HB2.out.2.1, ho.has HB2.out.2.2 (by decide) (by decide)⟩
          clear h3 ho HCA HB2 r0 r1
          go_wp2_with fail
          refine (Sx.list HB3.out.1).mono ?_
          rintro e z1 ⟨v2, rfl, hO2, _, hk⟩
          have HZ1 := Lib.hid (HB3.out.stay hk)
          have HO2 := Lib.hid hO2
          clear hk hO2
          have hs := sameRuns_ok z1 v2 v rs rs HO2.out HZ1.out.2.1 hfew hfew
          rw [decide_eq_true rfl] at hs
          have HSm := Lib.hid hs
          clear hs
          go_wp2_with fail
          refine HSm.out.mono ?_
          rintro e z2 ⟨rfl, kk, rfl⟩
          have HZ2 := Lib.hid (HZ1.out.stay ((Kept.refl [] z1).drewN kk))
          clear HSm HO2
          generalize z1.drewN kk = z2 at *
          go_wp2_with fail
          go_meet
          case rel => exact ⟨HZ2, rfl⟩
        · have hb' : (addE rs a m == 0) = false := beq_eq_false_iff_ne.2 hE
          have hno := addW_no hE
          rw [hno] at HAC
          clear hno hE
          generalize addE rs a m = E at *
          go_wp2_with fail
          refine HAC.out.mono ?_
          rintro e y2 ⟨rfl, h2, ho⟩
          have HB3 : Hid (Back w y2 p bx rs v a m) := Lib.hid (HG.out.others ho h2)
          clear h2 ho HAC HG r0 r1
          go_wp2_with fail
          refine (Sx.list HB3.out.1).mono ?_
          rintro e z1 ⟨v2, rfl, hO2, _, hk⟩
          have HZ1 := Lib.hid (HB3.out.stay hk)
          have HO2 := Lib.hid hO2
          clear hk hO2
          have hs := sameRuns_ok z1 v2 v rs rs HO2.out HZ1.out.2.1 hfew hfew
          rw [decide_eq_true rfl] at hs
          have HSm := Lib.hid hs
          clear hs
          go_wp2_with fail
          refine HSm.out.mono ?_
          rintro e z2 ⟨rfl, kk, rfl⟩
          have HZ2 := Lib.hid (HZ1.out.stay ((Kept.refl [] z1).drewN kk))
          clear HSm HO2
          generalize z1.drewN kk = z2 at *
          go_wp2_with fail
          go_meet
          case rel => exact ⟨HZ2, rfl⟩
      case rest =>
        obtain ⟨hS, rfl⟩ := hcut
        clear HG
        have HG := hS
        clear hS
        go_upto_region 13 with fail
        go_cut [69] (fun vv wx => Hid (Back w wx p bx rs v a m) ∧ vv = .bool false)
        case first =>
          have HAC := Lib.hid (Sx.cut HG.out.1 a m a1 a2 m1 m2)
          unfold runV at HAC
          have r0 := HG.out.2.2.cell 0
          have r1 := HG.out.2.2.cell 1
          simp at r0 r1
          by_cases hE : cutE rs a m = 0
          · obtain ⟨e1, e2⟩ := cutE_back HF.out hE
            have HCA := Lib.hid (fun y (hy : Sx w y p (cutW rs a m)) => Sx.add hy a m a1 a2 m1 m2)
            rw [e1, e2] at HCA
            rw [hE] at HAC
            unfold runV at HCA
            clear hE e1 e2
            generalize cutW rs a m = rs2 at *
            go_wp2_with fail
            refine HAC.out.mono ?_
            rintro e y2 ⟨rfl, h2, ho⟩
            have HB2 := Lib.hid (HG.out.others ho h2)
            have r0 := HB2.out.2.2.cell 0
            have r1 := HB2.out.2.2.cell 1
            simp at r0 r1
            clear h2 ho HAC HG
            go_wp2_with fail
            refine (HCA.out _ HB2.out.1).mono ?_
            rintro e y3 ⟨rfl, h3, ho⟩
            have HB3 : Hid (Back w y3 p bx rs v a m) := Lib.hid ⟨h3, ho.ownR HB2.out.2.1, ho.has HB2.out.2.2 (by decide) (by decide)⟩
            clear h3 ho HCA HB2 r0 r1
            go_wp2_with fail
            refine (Sx.list HB3.out.1).mono ?_
            rintro e z1 ⟨v2, rfl, hO2, _, hk⟩
            have HZ1 := Lib.hid (HB3.out.stay hk)
            have HO2 := Lib.hid hO2
            clear hk hO2
            have hs := sameRuns_ok z1 v2 v rs rs HO2.out HZ1.out.2.1 hfew hfew
            rw [decide_eq_true rfl] at hs
            have HSm := Lib.hid hs
            clear hs
            go_wp2_with fail
            refine HSm.out.mono ?_
            rintro e z2 ⟨rfl, kk, rfl⟩
            have HZ2 := Lib.hid (HZ1.out.stay ((Kept.refl [] z1).drewN kk))
            clear HSm HO2
            generalize z1.drewN kk = z2 at *
            go_wp2_with fail
            go_meet
            case rel => exact ⟨HZ2, rfl⟩
          · have hb' : (cutE rs a m == 0) = false := beq_eq_false_iff_ne.2 hE
            have hno := cutW_no hE
            rw [hno] at HAC
            clear hno hE
            generalize cutE rs a m = E at *
            go_wp2_with fail
            refine HAC.out.mono ?_
            rintro e y2 ⟨rfl, h2, ho⟩
            have HB3 : Hid (Back w y2 p bx rs v a m) := Lib.hid (HG.out.others ho h2)
            clear h2 ho HAC HG r0 r1
            go_wp2_with fail
            refine (Sx.list HB3.out.1).mono ?_
            rintro e z1 ⟨v2, rfl, hO2, _, hk⟩
            have HZ1 := Lib.hid (HB3.out.stay hk)
            have HO2 := Lib.hid hO2
            clear hk hO2
            have hs := sameRuns_ok z1 v2 v rs rs HO2.out HZ1.out.2.1 hfew hfew
            rw [decide_eq_true rfl] at hs
            have HSm := Lib.hid hs
            clear hs
            go_wp2_with fail
            refine HSm.out.mono ?_
            rintro e z2 ⟨rfl, kk, rfl⟩
            have HZ2 := Lib.hid (HZ1.out.stay ((Kept.refl [] z1).drewN kk))
            clear HSm HO2
            generalize z1.drewN kk = z2 at *
            go_wp2_with fail
            go_meet
            case rel => exact ⟨HZ2, rfl⟩
        case rest =>
          obtain ⟨hS, rfl⟩ := hcut
          clear HG
          have HG := hS
          clear hS
          have HFi := Lib.hid (Sx.first HG.out.1 n fr n1 n2 f1 f2)
          cases hx : firstO rs n fr with
          | none =>
            rw [hx] at HFi
            have HFi' : Hid (Calls Try.prog 16 #[.pointer (some ⟨p, 0, none⟩), .int .i64 n, .int .i64 fr] wc fun e w' => e = .returned (.tuple #[.agg #[.int .i64 0, .int .i64 0], .bool false]) ∧ Kept [] wc w') := HFi
            clear hx HFi
            go_wp2_with fail
            refine HFi'.out.mono ?_
            rintro e y2 ⟨rfl, hk⟩
            have HW := Lib.hid ((HG.out.1.world.trans hk).alloc (.cells #[.int .i64 0, .int .i64 0] 29))
            clear hk HFi' HG
            go_wp2_with fail
            refine (HA.out _).mono ?_
            rintro e y3 ⟨rfl, hk⟩
            have HW2 := Lib.hid (HW.out.trans hk)
            clear hk
            go_wp2_with fail
            go_ret
            exact ⟨rfl, HW2.out⟩
          | some X =>
            rw [hx] at HFi
            have HFi' : Hid (Calls Try.prog 16 #[.pointer (some ⟨p, 0, none⟩), .int .i64 n, .int .i64 fr] wc fun e w' => e = .returned (.tuple #[.agg #[.int .i64 X, .int .i64 n], .bool true]) ∧ Kept [] wc w') := HFi
            obtain ⟨x1, x2, x3, x4, _⟩ := firstO_some HF.out hx
            have hcE := first_cut HF.out hx
            obtain ⟨e1, e2⟩ := cutE_back HF.out hcE
            have HCu := Lib.hid (fun y (hy : Sx w y p rs) => Sx.cut hy X n (by omega) (by omega) n1 n2)
            rw [hcE] at HCu
            have HAd := Lib.hid (fun y (hy : Sx w y p (cutW rs X n)) => Sx.add hy X n (by omega) (by omega) n1 n2)
            rw [e1, e2] at HAd
            unfold runV at HCu HAd
            generalize cutW rs X n = rs2 at *
            clear hx HFi hcE e1 e2
            go_wp2_with fail
            refine HFi'.out.mono ?_
            rintro e y2 ⟨rfl, hk⟩
            have HB2 := Lib.hid (HG.out.stay hk)
            clear hk HFi' HG
            have hkx : Kept [] y2 (y2.alloc (.cells #[.int .i64 X, .int .i64 n] 29)) := (Kept.refl [] y2).alloc _
            have hxb : Has (y2.alloc (.cells #[.int .i64 X, .int .i64 n] 29)) y2.heap.size 29 [.int .i64 X, .int .i64 n] := Has.new y2 _ [.int .i64 X, .int .i64 n]
            go_wp2_with fail
            generalize y2.alloc (.cells #[.int .i64 X, .int .i64 n] 29) = y3 at *
            generalize y2.heap.size = bz at *
            have HB3 := Lib.hid (HB2.out.stay hkx)
            have HXb := Lib.hid hxb
            clear hkx hxb HB2
            refine (HCu.out _ HB3.out.1).mono ?_
            rintro e y4 ⟨rfl, h4, ho⟩
            have hxb := ho.has HXb.out (by decide) (by decide)
            have HX4 := Lib.hid hxb
            have x0 := hxb.cell 0
            have x1' := hxb.cell 1
            simp at x0 x1'
            have HB4 : Hid (Sx w y4 p rs2 ∧ OwnR y4 v rs) := Lib.hid ⟨h4, ho.ownR HB3.out.2.1⟩
            clear h4 ho hxb HB3 HXb HCu
            go_wp2_with fail
            refine (HAd.out _ HB4.out.1).mono ?_
            rintro e y5 ⟨rfl, h5, ho⟩
            have HB5 : Hid (Sx w y5 p rs ∧ OwnR y5 v rs) := Lib.hid ⟨h5, ho.ownR HB4.out.2⟩
            clear h5 ho HB4 HAd HX4 x0 x1'
            go_wp2_with fail
            refine (Sx.list HB5.out.1).mono ?_
            rintro e z1 ⟨v2, rfl, hO2, _, hk⟩
            have HZ1 : Hid (Sx w z1 p rs ∧ OwnR z1 v rs) := Lib.hid ⟨HB5.out.1.stay hk, HB5.out.2.keep0 hk⟩
            have HO2 := Lib.hid hO2
            clear hk hO2 HB5
            have hs := sameRuns_ok z1 v2 v rs rs HO2.out HZ1.out.2 hfew hfew
            rw [decide_eq_true rfl] at hs
            have HSm := Lib.hid hs
            clear hs
            go_wp2_with fail
            refine HSm.out.mono ?_
            rintro e z2 ⟨rfl, kk, rfl⟩
            have HW := Lib.hid (HZ1.out.1.world.drewN kk)
            clear HSm HO2 HZ1
            generalize z1.drewN kk = z2 at *
            go_wp2_with fail
            refine (HA.out _).mono ?_
            rintro e y6 ⟨rfl, hk⟩
            have HW2 := Lib.hid (HW.out.trans hk)
            clear hk
            go_wp2_with fail
            go_ret
            exact ⟨rfl, HW2.out⟩
theorem back_any (A : Option Addr) (L : List Stp) (cap : Nat) (r : Rin) (n fr : Int) (w : World) (hc : L.length ≤ cap) (hm : cap ≤ maxLen) (hst : Steps w A L) (hoks : ∀ s ∈ L, s.ok) (hr : r.ok)
    (n1 : -9223372036854775808 ≤ n) (n2 : n ≤ 9223372036854775807) (f1 : -9223372036854775808 ≤ fr) (f2 : fr ≤ 9223372036854775807) :
    Calls Try.prog 5 #[.slice A L.length cap, .agg #[.int .i64 r.a, .int .i64 r.n], .int .i64 n, .int .i64 fr] w fun e w' => e = .returned (.bool true) ∧ Kept [] w w' := by
  obtain ⟨⟨a1, a2⟩, ⟨m1, m2⟩⟩ := hr
  by_cases h : L.length ≤ 60
  · exact back_walk A L cap r.a r.n n fr w h hst hoks a1 a2 m1 m2 n1 n2 f1 f2
  · exact back_long A L.length cap r.a r.n n fr w (by omega) (by omega)
end Go.Proofs.Ytbgonppichdhiaa.Rn
