/-
  TablePlays, walked.
-/
import Derived.Test.YtkplagnmdjaajaaTbPlaysLaw
namespace Go.Proofs.Ytkplagnmdjaajaa.Tb
open Go.RowKit Go.Proofs.Ytkplagnmdjaajaa.Ar Go.Maps
set_option linter.unusedVariables false

theorem Made.before {w w1 w' : World} {p : Nat} {A : Option Addr} {c : Nat} {l : List Ty} (h : Made w1 w' p A c l) (k : Kept [] w w1) : Made w w' p A c l :=
  ⟨h.1, Nat.le_trans k.more h.2.1, fun g hg => Nat.le_trans k.more (h.2.2.1 g hg), k.trans h.2.2.2⟩
set_option maxRecDepth 100000 in
set_option maxHeartbeats 16000000 in
theorem plays_main {w : World} {A M : Option Addr} {c d : Nat} {l more : List Ty} {id n : Int} (hS : Seen w A l) (hn0 : A = none → c = 0) (hok : ∀ x ∈ l, x.ok) (hM : Seen w M more) (hokm : ∀ x ∈ more, x.ok)
    (hi0 : -9223372036854775808 ≤ id) (hi1 : id ≤ 9223372036854775807) (hl : ¬ (l.length : Int) > 100) (hm : ¬ (more.length : Int) > 100) :
    Calls Try.prog 3 #[.slice A l.length c, .slice M more.length d, .int .i64 id, .int .i64 n] w fun e w' => e = .returned (.bool true) ∧ Kept [] w w' := by
  have HAl := Lib.hid alive_ok
  have HS := Lib.hid hS
  have HOK := Lib.hid hok
  have HM := Lib.hid hM
  have HOKM := Lib.hid hokm
  have H0 := Lib.hid hn0
  have HAn := Lib.hid (fun y => add_nil y ⟨4, 0, 0⟩)
  have HGn := Lib.hid (fun y => get_nil y 1)
  unfold Ty.val at HAn
  unfold Ty.val Ty.zero at HGn
  clear hS hok hM hokm hn0
  go_enter Try.func3, Try.ntmps3
  go_wp2_with fail
  refine (HAn.out _).mono ?_
  rintro e w1 ⟨rfl, hk1⟩
  have HK1 := Lib.hid hk1
  clear hk1
  go_wp2_with fail
  refine (HGn.out _).mono ?_
  rintro e w2 ⟨rfl, hk2⟩
  have HK2 := Lib.hid ((HK1.out.trans hk2).alloc (.cells #[.int .u8 0, .int .i64 0, .int .u64 0] 30))
  clear hk2 HK1
  go_wp2_with fail
  refine (size_nil _ 1 1).mono ?_
  rintro e w3 ⟨rfl, hk3⟩
  have HK3 := Lib.hid (HK2.out.trans hk3)
  clear hk3 HK2
  go_wp2_with fail
  refine (len_nil _).mono ?_
  rintro e w4 ⟨rfl, hk4⟩
  have HK4 := Lib.hid (HK3.out.trans hk4)
  clear hk4 HK3
  go_wp2_with fail
  refine (all_nil _).mono ?_
  rintro e w5 ⟨rfl, hk5⟩
  have HK5 := Lib.hid (HK4.out.trans hk5)
  clear hk5 HK4
  go_wp2_with fail
  refine (put_nil _).mono ?_
  rintro e w6 ⟨rfl, hk6⟩
  have HK6 := Lib.hid (HK5.out.trans hk6)
  clear hk6 HK5
  go_wp2_with fail
  refine (copy_nil _).mono ?_
  rintro e w7 ⟨rfl, hk7⟩
  have HK7 := Lib.hid (HK6.out.trans hk7)
  clear hk7 HK6 HAn HGn
  go_wp2_with (at_builtin; (refine append_types rfl (.const (.slice none 0 0)) (.tmp 92) rfl (.slice none 0 0) [] rfl (Own.nil _) A c l rfl H0.out (HS.out.keep0 HK7.out) (by simp only [List.length_nil]; omega) ?_))
  intro s8 w8 hO8 hG8 hB8 hn8
  have hK8 := own_grown (Kept.refl [] w7) (.inl rfl) hG8
  obtain ⟨A8, c8, rfl, hbk⟩ := back_own (HK7.out.trans hK8) (show Own w8 s8 l from hO8)
  have HNw := Lib.hid (new_ok c8 hbk.2.1 HOK.out (by omega))
  have HK8 := Lib.hid hbk.2.2
  clear hO8 hG8 hB8 hn8 hK8 hbk HK7
  go_wp2_with fail
  refine HNw.out.mono ?_
  rintro e w9 (⟨h0, p, A9, c9, rfl, hm9⟩ | ⟨h0, rfl, hk9⟩)
  · obtain ⟨e1, e2, e3⟩ := newF_made h0 HOK.out
    rw [e1] at hm9
    have HM9 := Lib.hid (Made.before hm9 HK8.out)
    have HDN := Lib.hid (dnew_ok (w := w9) c (HS.out.keep0 HM9.out.2.2.2) HOK.out (by omega))
    rw [e1] at HDN
    clear hm9 h0 e1 e2 e3 HNw HK8
    go_wp2_with fail
    refine HDN.out.mono ?_
    rintro e w10 ⟨A5, c5, rfl, hb, hfr⟩
    have HT := Lib.hid (two_new HM9.out hb hfr)
    clear hb hfr HDN HM9
    go_wp2_with fail
    go_loopw [16, 18, 20] (fun tb rw t wr => ∃ (i p : Nat) (K : List Ty) (A' A5 : Option Addr) (c' c5 : Nat), tb = .pointer (some ⟨p, 0, none⟩) ∧ rw = .slice A5 K.length c5 ∧ t = .int .i64 (i : Int) ∧ i ≤ more.length ∧ Hid (Two w wr p A' c' A5 c5 K K)) (fun _ _ t _ => more.length - (intOf t).toNat)
    case atStart => exact ⟨0, p, l, A9, A5, c9, c5, rfl, rfl, rfl, Nat.zero_le _, HT⟩
    case round =>
      clear HT
      obtain ⟨i, p, K, A', A5, c', c5, rfl, rfl, rfl, hi, hT⟩ := hrel
      have hK64 := hT.out.1.1.len
      by_cases hlt : i < more.length
      · obtain ⟨g, f, rfl, hg, hcells⟩ := HM.out.at i hlt _ rfl
        have Hc := Lib.hid hcells
        have hxok := getD_ok HOKM.out hlt
        generalize more.getD i Ty.zero = x at *
        have HX := Lib.hid hxok
        clear hcells hg hxok
        cases h5 : ((i : Int) % 5 == 4) with
        | false =>
          have HT1 := Lib.hid hT.out
          clear hT
          have HAd := Lib.hid (add_ok HT1.out.1.1 x HX.out)
          unfold Ty.val at HAd
          obtain ⟨q0, q1, q2⟩ := Hc.out wr HT1.out.2.1.2.2
          go_wp2_with fail
          refine HAd.out.mono ?_
          rintro e wa hap
          obtain ⟨A2, c2, rfl, h2⟩ := HT1.out.added hap
          have HT2 := Lib.hid h2
          have HDA := Lib.hid (dadd_ok h2.2.1.1 h2.2.1.2.1 x HX.out (by omega))
          unfold Ty.val at HDA
          obtain ⟨r0, r1, r2⟩ := Hc.out wa h2.2.1.2.2
          clear q0 q1 q2 hap h2 HAd HT1
          go_wp2_with fail
          refine HDA.out.mono ?_
          rintro e wb hdp
          obtain ⟨A6, c6, rfl, h3⟩ := HT2.out.doc hdp
          have HT3 := Lib.hid h3
          clear r0 r1 r2 hdp h3 HDA HT2
          generalize addN K x = an at *
          generalize addE K x = er at *
          generalize addL K x = K2 at *
          go_wp2_with fail
          go_roundw
          case rel => exact ⟨i + 1, p, K2, A2, A6, c2, c6, rfl, rfl, by go_num, by omega, HT3⟩
          case measure => simp [intOf] <;> omega
        | true =>
          have HCp := Lib.hid (copy_ok hT.out.1.1)
          go_wp2_with fail
          refine HCp.out.mono ?_
          rintro e w2 ⟨p2, A7, c7, rfl, hT2, hp2, hA2, hk2⟩
          have HAo := Lib.hid (add_ok (hT.out.1.1.keep0 hk2) ⟨2, 0, 0⟩ ⟨by decide, by decide⟩)
          unfold Ty.val at HAo
          have HCc := Lib.hid (fun e w3 (ha : AddPost w2 p A' K ⟨2, 0, 0⟩ e w3) => hT.out.copied hT2 hp2 hA2 hk2 ha)
          clear hT hT2 hp2 hA2 hk2 HCp
          go_wp2_with fail
          refine HAo.out.mono ?_
          rintro e w3 hap
          have HT1 := Lib.hid (HCc.out _ _ hap)
          obtain ⟨_, _, rfl, _⟩ := hap
          clear HAo HCc
          generalize addN K ⟨2, 0, 0⟩ = n0
          generalize addE K ⟨2, 0, 0⟩ = n1
          have HAd := Lib.hid (add_ok HT1.out.1.1 x HX.out)
          unfold Ty.val at HAd
          obtain ⟨q0, q1, q2⟩ := Hc.out w3 HT1.out.2.1.2.2
          go_wp2_with fail
          refine HAd.out.mono ?_
          rintro e wa hap
          obtain ⟨A2, c2, rfl, h2⟩ := HT1.out.added hap
          have HT2 := Lib.hid h2
          have HDA := Lib.hid (dadd_ok h2.2.1.1 h2.2.1.2.1 x HX.out (by omega))
          unfold Ty.val at HDA
          obtain ⟨r0, r1, r2⟩ := Hc.out wa h2.2.1.2.2
          clear q0 q1 q2 hap h2 HAd HT1
          go_wp2_with fail
          refine HDA.out.mono ?_
          rintro e wb hdp
          obtain ⟨A6, c6, rfl, h3⟩ := HT2.out.doc hdp
          have HT3 := Lib.hid h3
          clear r0 r1 r2 hdp h3 HDA HT2
          generalize addN K x = an at *
          generalize addE K x = er at *
          generalize addL K x = K2 at *
          go_wp2_with fail
          go_roundw
          case rel => exact ⟨i + 1, p2, K2, A2, A6, c2, c6, rfl, rfl, by go_num, by omega, HT3⟩
          case measure => simp [intOf] <;> omega
      · have HK := Lib.hid hT.out.1.2.2.2
        have HG := Lib.hid (get_ok hT.out.1.1 id hi0 hi1)
        have HDG := Lib.hid (fun y (k : Kept [] wr y) => dget_ok (c := c5) (hT.out.2.1.2.1.keep0 k) (by omega) id hi0 hi1)
        have HSz := Lib.hid (fun y (k : Kept [] wr y) => size_ok (hT.out.1.1.keep0 k) id n hi0 hi1)
        have HDS := Lib.hid (fun y (k : Kept [] wr y) => dsize_ok (c := c5) (hT.out.2.1.2.1.keep0 k) hT.out.1.1.all (by omega) id n hi0 hi1)
        have HLe := Lib.hid (fun y (k : Kept [] wr y) => len_ok (hT.out.1.1.keep0 k))
        have HLA := Lib.hid (fun y (k : Kept [] wr y) => all_ok (hT.out.1.1.keep0 k))
        have HSn := Lib.hid hT.out.2.1.2.1
        clear hT
        generalize getT K id = x at *
        generalize errT (hasT K id) = e1 at *
        generalize sizeT K id n = z1 at *
        generalize sizeE K id n = e2 at *
        unfold Ty.val at HG HDG
        go_wp2_with fail
        refine HG.out.mono ?_
        rintro e w2 ⟨rfl, hk2⟩
        have HK2 := Lib.hid (hk2.alloc (.cells #[.int .u8 (x.k : Int), .int .i64 x.wd, .int .u64 (x.ms : Int)] 30))
        have HB2 := Lib.hid (Has.new w2 30 [.int .u8 (x.k : Int), .int .i64 x.wd, .int .u64 (x.ms : Int)])
        clear hk2 HG
        go_wp2_with fail
        refine (HDG.out _ HK2.out).mono ?_
        rintro e w3 ⟨rfl, hk3⟩
        have HK3 := Lib.hid ((HK2.out.trans hk3).alloc (.cells #[.int .u8 (x.k : Int), .int .i64 x.wd, .int .u64 (x.ms : Int)] 30))
        have HB3 := Lib.hid (And.intro ((HB2.out.keep0 hk3).alloc (.cells #[.int .u8 (x.k : Int), .int .i64 x.wd, .int .u64 (x.ms : Int)] 30)) (Has.new w3 30 [.int .u8 (x.k : Int), .int .i64 x.wd, .int .u64 (x.ms : Int)]))
        clear hk3 HDG HK2 HB2
        generalize w2.heap.size = B2 at *
        go_wp2_with fail
        refine (HSz.out _ HK3.out).mono ?_
        rintro e w4 ⟨rfl, hk4⟩
        have HK4 := Lib.hid (HK3.out.trans hk4)
        have HB4 := Lib.hid (And.intro (HB3.out.1.keep0 hk4) (HB3.out.2.keep0 hk4))
        clear hk4 HSz HK3 HB3
        generalize w3.heap.size = B3 at *
        go_wp2_with fail
        refine (HDS.out _ HK4.out).mono ?_
        rintro e w5 ⟨rfl, hk5⟩
        have HK5 := Lib.hid (HK4.out.trans hk5)
        obtain ⟨a0, a1, a2⟩ := cells3 (HB4.out.1.keep0 hk5)
        obtain ⟨b0, b1, b2⟩ := cells3 (HB4.out.2.keep0 hk5)
        clear hk5 HDS HK4 HB4
        go_wp2_with fail
        refine (HLe.out _ HK5.out).mono ?_
        rintro e w6 ⟨rfl, hk6⟩
        have HK6 := Lib.hid (HK5.out.trans hk6)
        clear hk6 HLe HK5 a0 a1 a2 b0 b1 b2
        go_wp2_with fail
        refine (HLA.out _ HK6.out).mono ?_
        rintro e w7 ⟨A4, c4, rfl, hO4, hF4, hn4, hk4⟩
        have HSm := Lib.hid (same_ok (c := c4) (d := c5) hO4.seen (HSn.out.keep0 (HK6.out.trans hk4)) (by omega) (by omega))
        rw [decide_eq_true (rfl : K = K)] at HSm
        have HK7 := Lib.hid (HK6.out.trans hk4)
        clear hO4 hF4 hn4 hk4 HLA HK6
        go_wp2_with fail
        refine HSm.out.mono ?_
        rintro e w8 ⟨rfl, hk⟩
        have HK8 := Lib.hid (HK7.out.trans hk)
        clear hk HSm HK7
        go_wp2_with fail
        refine (HAl.out _).mono ?_
        rintro e w9 ⟨rfl, hk9⟩
        have HK9 := Lib.hid (HK.out.trans (HK8.out.trans hk9))
        clear hk9 HK8
        go_wp2_with fail
        go_ret
        exact ⟨rfl, HK9.out⟩
  · have HK9 := Lib.hid (HK8.out.trans hk9)
    have HDN := Lib.hid (dnew_ok (w := w9) c (HS.out.keep0 HK9.out) HOK.out (by omega))
    have hbn : ((newF [] l).2 != 0) = true := by rw [bne_iff_ne]; exact h0
    clear h0 hk9 HNw HK8
    generalize hR : newF [] l = R at *
    obtain ⟨K, er⟩ := R
    simp only at hbn
    clear hR
    simp only
    go_wp2_with fail
    refine HDN.out.mono ?_
    rintro e w10 ⟨A5, c5, rfl, hb, hfr⟩
    have HK10 := Lib.hid (HK9.out.trans hb.2.2)
    clear hb hfr HDN HK9
    simp only
    go_wp2_with fail
    refine (HAl.out _).mono ?_
    rintro e w11 ⟨rfl, hk11⟩
    have HK11 := Lib.hid (HK10.out.trans hk11)
    clear hk11 HK10
    go_wp2_with fail
    go_ret
    exact ⟨rfl, HK11.out⟩
set_option maxRecDepth 100000 in
set_option maxHeartbeats 1000000 in
theorem plays_walk {w : World} {A M : Option Addr} {c d : Nat} {l more : List Ty} {id n : Int} (hS : Seen w A l) (hn0 : A = none → c = 0) (hok : ∀ x ∈ l, x.ok) (hM : Seen w M more) (hokm : ∀ x ∈ more, x.ok)
    (hi0 : -9223372036854775808 ≤ id) (hi1 : id ≤ 9223372036854775807) :
    Calls Try.prog 3 #[.slice A l.length c, .slice M more.length d, .int .i64 id, .int .i64 n] w fun e w' => e = .returned (.bool true) ∧ Kept [] w w' := by
  by_cases hl : (l.length : Int) > 100
  · have HAl := Lib.hid alive_ok
    clear hS hok hM hokm hn0
    go_enter Try.func3, Try.ntmps3
    go_wp2_with fail
    refine (HAl.out _).mono ?_
    rintro e w1 ⟨rfl, hk⟩
    have HK := Lib.hid hk
    clear hk
    go_wp2_with fail
    go_ret
    exact ⟨rfl, HK.out⟩
  · by_cases hm : (more.length : Int) > 100
    · have HAl := Lib.hid alive_ok
      clear hS hok hM hokm hn0
      go_enter Try.func3, Try.ntmps3
      go_wp2_with fail
      refine (HAl.out _).mono ?_
      rintro e w1 ⟨rfl, hk⟩
      have HK := Lib.hid hk
      clear hk
      go_wp2_with fail
      go_ret
      exact ⟨rfl, HK.out⟩
    · exact plays_main hS hn0 hok hM hokm hi0 hi1 hl hm
end Go.Proofs.Ytkplagnmdjaajaa.Tb
