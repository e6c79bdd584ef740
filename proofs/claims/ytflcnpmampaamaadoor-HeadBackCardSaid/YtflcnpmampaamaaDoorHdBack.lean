/-
  The law HeadBack, walked.
-/
import Derived.Test.YtflcnpmampaamaaDoorHdAlive
import Derived.Test.YtflcnpmampaamaaDoorHdEq
namespace Go.Proofs.YtflcnpmampaamaaDoor.Hd
open Go.RowKit Go.Proofs.YtflcnpmampaamaaDoor.Ar
set_option linter.unusedVariables false

theorem eqB_refl' (a b c d : Int) : eqB a b c d a b c d = true := by unfold eqB; simp
set_option maxRecDepth 100000 in
set_option maxHeartbeats 2000000 in
theorem back_no_y {w : World} (h : Fields w) (x : Hd) (ok : x.ok) (o : Hd) (oko : o.ok) (u : Int) (hu0 : 0 ≤ u) (hu1 : u ≤ 18446744073709551615) (c : ¬ x.can) (hd : isHead u = true) :
    Calls Tryd.prog 5 #[x.val, o.val, .int .u64 u] w fun e w' => e = .returned (.bool true) ∧ Kept [] w w' := by
  have hb : Has ((w.alloc (.cells #[.int .u8 x.tg, .int .i64 x.ty, .int .i64 x.ln, .int .i64 x.sz] 23)).alloc (.cells #[.int .u8 o.tg, .int .i64 o.ty, .int .i64 o.ln, .int .i64 o.sz] 23)) w.heap.size 23 [.int .u8 x.tg, .int .i64 x.ty, .int .i64 x.ln, .int .i64 x.sz] := (Hd.new w x).alloc _
  have hc : Has ((w.alloc (.cells #[.int .u8 x.tg, .int .i64 x.ty, .int .i64 x.ln, .int .i64 x.sz] 23)).alloc (.cells #[.int .u8 o.tg, .int .i64 o.ty, .int .i64 o.ln, .int .i64 o.sz] 23)) (w.heap.size + 1) 23 [.int .u8 o.tg, .int .i64 o.ty, .int .i64 o.ln, .int .i64 o.sz] := by
    simpa using Hd.new (w.alloc (.cells #[.int .u8 x.tg, .int .i64 x.ty, .int .i64 x.ln, .int .i64 x.sz] 23)) o
  have k0 : Kept [] w ((w.alloc (.cells #[.int .u8 x.tg, .int .i64 x.ty, .int .i64 x.ln, .int .i64 x.sz] 23)).alloc (.cells #[.int .u8 o.tg, .int .i64 o.ty, .int .i64 o.ln, .int .i64 o.sz] 23)) := ((Kept.refl [] w).alloc _).alloc _
  have H1 := Lib.hid (fun y (k : Kept [] w y) => encode_ok (h.keep0 k) x ok)
  have H2 := Lib.hid (fun y (k : Kept [] w y) => encode_ok (h.keep0 k) o oko)
  have H4 := Lib.hid (fun y (k : Kept [] w y) => decode_ok (h.keep0 k) u hu0 hu1)
  have H5 := Lib.hid (fun y (k : Kept [] w y) => encode_ok (h.keep0 k) (decH u) (by rw [(dec_yes hd).1]; exact head_ok hu0 hu1))
  have H6 := Lib.hid (fun y (k : Kept [] w y) => alive_ok (h.keep0 k))
  have HX : Hid (∀ y : World, Has (y.alloc (.cells #[.int .u8 x.tg, .int .i64 x.ty, .int .i64 x.ln, .int .i64 x.sz] 23)) y.heap.size 23 [.int .u8 x.tg, .int .i64 x.ty, .int .i64 x.ln, .int .i64 x.sz]) := Lib.hid fun y => Hd.new y _
  have HN : Hid (∀ y : World, Has (y.alloc (.cells #[.int .u8 (decH u).tg, .int .i64 (decH u).ty, .int .i64 (decH u).ln, .int .i64 (decH u).sz] 23)) y.heap.size 23 [.int .u8 (decH u).tg, .int .i64 (decH u).ty, .int .i64 (decH u).ln, .int .i64 (decH u).sz]) := Lib.hid fun y => Hd.new y _
  have hne := run_other
  have hse := run_same
  have hng := no_guard
  have hq := eqB_refl'
  clear h
  rw [errH_no c] at H1
  obtain ⟨hd1, hd2⟩ := isHead_iff.1 hd
  rw [(dec_yes hd).1] at H4 H5 HN
  rw [(dec_yes hd).2] at H4
  rw [errH_yes hd1, encW_yes hd1, hd2] at H5
  clear c ok oko hd hd1 hd2
  unfold Hd.val at *
  generalize headI u = D at *
  generalize D.tg = Dg at *
  generalize D.ty = Dt at *
  generalize D.ln = Dn at *
  generalize D.sz = Ds at *
  generalize encW x = wx at *
  generalize encW o = wo at *
  generalize errH o = eo at *
  generalize x.tg = g at *
  generalize x.ty = t at *
  generalize x.ln = n at *
  generalize x.sz = s at *
  generalize o.tg = og at *
  generalize o.ty = ot at *
  generalize o.ln = on at *
  generalize o.sz = os at *
  have HB := Lib.hid hb
  have HC := Lib.hid hc
  have K0 := Lib.hid k0
  clear hb hc k0
  go_enter Tryd.func5, Tryd.ntmps5
  go_wp2_with fail
  refine (H1.out _ K0.out).mono ?_
  rintro e x1 ⟨rfl, k1⟩
  have K1 := Lib.hid (K0.out.trans k1)
  have HB1 := Lib.hid (HB.out.keep0 k1)
  have HC1 := Lib.hid (HC.out.keep0 k1)
  clear k1 H1 K0 HB HC
  obtain ⟨c0, c1, c2, c3⟩ := cells4 HC1.out
  go_wp2_with fail
  refine (H2.out _ K1.out).mono ?_
  rintro e x2 ⟨rfl, k2⟩
  have K2 := Lib.hid (K1.out.trans k2)
  have HB2 := Lib.hid (HB1.out.keep0 k2)
  have HC2 := Lib.hid (HC1.out.keep0 k2)
  clear k2 H2 K1 HB1 HC1 c0 c1 c2 c3
  go_wp2_with fail
  clear HB2 HC2 HX
  refine (H4.out _ K2.out).mono ?_
  rintro e x4 ⟨rfl, k4⟩
  have K4 := Lib.hid (K2.out.trans k4)
  have HN4 := Lib.hid (HN.out x4)
  clear k4 H4 HN
  obtain ⟨c0, c1, c2, c3⟩ := cells4 HN4.out
  go_wp2_with fail
  refine (H5.out _ (K4.out.alloc _)).mono ?_
  rintro e x5 ⟨rfl, k5⟩
  have K5 := Lib.hid ((K4.out.alloc _).trans k5)
  clear k5 H5 K4 HN4 c0 c1 c2 c3
  go_wp2_with fail
  refine (H6.out _ K5.out).mono ?_
  rintro e x6 ⟨rfl, k6⟩
  have K6 := Lib.hid (K5.out.trans k6)
  clear k6 H6 K5
  go_wp2_with fail
  go_ret
  exact ⟨rfl, K6.out⟩
set_option maxRecDepth 100000 in
set_option maxHeartbeats 2000000 in
theorem back_one_y {w : World} (h : Fields w) (x : Hd) (ok : x.ok) (o : Hd) (oko : o.ok) (u : Int) (hu0 : 0 ≤ u) (hu1 : u ≤ 18446744073709551615) (c : x.can) (d : ¬ o.can) (hd : isHead u = true) :
    Calls Tryd.prog 5 #[x.val, o.val, .int .u64 u] w fun e w' => e = .returned (.bool true) ∧ Kept [] w w' := by
  have hb : Has ((w.alloc (.cells #[.int .u8 x.tg, .int .i64 x.ty, .int .i64 x.ln, .int .i64 x.sz] 23)).alloc (.cells #[.int .u8 o.tg, .int .i64 o.ty, .int .i64 o.ln, .int .i64 o.sz] 23)) w.heap.size 23 [.int .u8 x.tg, .int .i64 x.ty, .int .i64 x.ln, .int .i64 x.sz] := (Hd.new w x).alloc _
  have hc : Has ((w.alloc (.cells #[.int .u8 x.tg, .int .i64 x.ty, .int .i64 x.ln, .int .i64 x.sz] 23)).alloc (.cells #[.int .u8 o.tg, .int .i64 o.ty, .int .i64 o.ln, .int .i64 o.sz] 23)) (w.heap.size + 1) 23 [.int .u8 o.tg, .int .i64 o.ty, .int .i64 o.ln, .int .i64 o.sz] := by
    simpa using Hd.new (w.alloc (.cells #[.int .u8 x.tg, .int .i64 x.ty, .int .i64 x.ln, .int .i64 x.sz] 23)) o
  have k0 : Kept [] w ((w.alloc (.cells #[.int .u8 x.tg, .int .i64 x.ty, .int .i64 x.ln, .int .i64 x.sz] 23)).alloc (.cells #[.int .u8 o.tg, .int .i64 o.ty, .int .i64 o.ln, .int .i64 o.sz] 23)) := ((Kept.refl [] w).alloc _).alloc _
  have H1 := Lib.hid (fun y (k : Kept [] w y) => encode_ok (h.keep0 k) x ok)
  have H2 := Lib.hid (fun y (k : Kept [] w y) => encode_ok (h.keep0 k) o oko)
  have H3 := Lib.hid (fun y (k : Kept [] w y) => decode_ok (h.keep0 k) (wordI x) (word_range c).1 (word_range c).2)
  have H4 := Lib.hid (fun y (k : Kept [] w y) => decode_ok (h.keep0 k) u hu0 hu1)
  have H5 := Lib.hid (fun y (k : Kept [] w y) => encode_ok (h.keep0 k) (decH u) (by rw [(dec_yes hd).1]; exact head_ok hu0 hu1))
  have H6 := Lib.hid (fun y (k : Kept [] w y) => alive_ok (h.keep0 k))
  have HX : Hid (∀ y : World, Has (y.alloc (.cells #[.int .u8 x.tg, .int .i64 x.ty, .int .i64 x.ln, .int .i64 x.sz] 23)) y.heap.size 23 [.int .u8 x.tg, .int .i64 x.ty, .int .i64 x.ln, .int .i64 x.sz]) := Lib.hid fun y => Hd.new y _
  have HN : Hid (∀ y : World, Has (y.alloc (.cells #[.int .u8 (decH u).tg, .int .i64 (decH u).ty, .int .i64 (decH u).ln, .int .i64 (decH u).sz] 23)) y.heap.size 23 [.int .u8 (decH u).tg, .int .i64 (decH u).ty, .int .i64 (decH u).ln, .int .i64 (decH u).sz]) := Lib.hid fun y => Hd.new y _
  have hne := run_other
  have hse := run_same
  have hng := no_guard
  have hq := eqB_refl'
  clear h
  rw [errH_yes c, encW_yes c] at H1
  rw [errH_no d] at H2
  rw [(dec_yes (isHead_word c)).1, (dec_yes (isHead_word c)).2, head_word c] at H3
  obtain ⟨hd1, hd2⟩ := isHead_iff.1 hd
  rw [(dec_yes hd).1] at H4 H5 HN
  rw [(dec_yes hd).2] at H4
  rw [errH_yes hd1, encW_yes hd1, hd2] at H5
  clear c ok oko d hd hd1 hd2
  unfold Hd.val at *
  generalize headI u = D at *
  generalize D.tg = Dg at *
  generalize D.ty = Dt at *
  generalize D.ln = Dn at *
  generalize D.sz = Ds at *
  generalize wordI x = wx at *
  generalize encW o = wo at *
  generalize x.tg = g at *
  generalize x.ty = t at *
  generalize x.ln = n at *
  generalize x.sz = s at *
  generalize o.tg = og at *
  generalize o.ty = ot at *
  generalize o.ln = on at *
  generalize o.sz = os at *
  have HB := Lib.hid hb
  have HC := Lib.hid hc
  have K0 := Lib.hid k0
  clear hb hc k0
  go_enter Tryd.func5, Tryd.ntmps5
  go_wp2_with fail
  refine (H1.out _ K0.out).mono ?_
  rintro e x1 ⟨rfl, k1⟩
  have K1 := Lib.hid (K0.out.trans k1)
  have HB1 := Lib.hid (HB.out.keep0 k1)
  have HC1 := Lib.hid (HC.out.keep0 k1)
  clear k1 H1 K0 HB HC
  obtain ⟨c0, c1, c2, c3⟩ := cells4 HC1.out
  go_wp2_with fail
  refine (H2.out _ K1.out).mono ?_
  rintro e x2 ⟨rfl, k2⟩
  have K2 := Lib.hid (K1.out.trans k2)
  have HB2 := Lib.hid (HB1.out.keep0 k2)
  have HC2 := Lib.hid (HC1.out.keep0 k2)
  clear k2 H2 K1 HB1 HC1 c0 c1 c2 c3
  go_wp2_with fail
  refine (H3.out _ K2.out).mono ?_
  rintro e x3 ⟨rfl, k3⟩
  have K3 := Lib.hid (K2.out.trans k3)
  have HB3 := Lib.hid ((HB2.out.keep0 k3).alloc (.cells #[.int .u8 g, .int .i64 t, .int .i64 n, .int .i64 s] 23))
  have HC3 := Lib.hid ((HC2.out.keep0 k3).alloc (.cells #[.int .u8 g, .int .i64 t, .int .i64 n, .int .i64 s] 23))
  have HN3 := Lib.hid (HX.out x3)
  clear k3 H3 K2 HB2 HC2 HX
  obtain ⟨a0, a1, a2, a3⟩ := cells4 HB3.out
  obtain ⟨b0, b1, b2, b3⟩ := cells4 HC3.out
  obtain ⟨d0, d1, d2, d3⟩ := cells4 HN3.out
  go_wp2_with fail
  clear HB3 HC3 HN3 a0 a1 a2 a3 b0 b1 b2 b3 d0 d1 d2 d3
  refine (H4.out _ (K3.out.alloc _)).mono ?_
  rintro e x4 ⟨rfl, k4⟩
  have K4 := Lib.hid ((K3.out.alloc _).trans k4)
  have HN4 := Lib.hid (HN.out x4)
  clear k4 H4 HN
  obtain ⟨c0, c1, c2, c3⟩ := cells4 HN4.out
  go_wp2_with fail
  refine (H5.out _ (K4.out.alloc _)).mono ?_
  rintro e x5 ⟨rfl, k5⟩
  have K5 := Lib.hid ((K4.out.alloc _).trans k5)
  clear k5 H5 K4 HN4 c0 c1 c2 c3
  go_wp2_with fail
  refine (H6.out _ K5.out).mono ?_
  rintro e x6 ⟨rfl, k6⟩
  have K6 := Lib.hid (K5.out.trans k6)
  clear k6 H6 K5
  go_wp2_with fail
  go_ret
  exact ⟨rfl, K6.out⟩
set_option maxRecDepth 100000 in
set_option maxHeartbeats 2000000 in
theorem back_same_y {w : World} (h : Fields w) (x : Hd) (ok : x.ok) (u : Int) (hu0 : 0 ≤ u) (hu1 : u ≤ 18446744073709551615) (c : x.can) (hd : isHead u = true) :
    Calls Tryd.prog 5 #[x.val, x.val, .int .u64 u] w fun e w' => e = .returned (.bool true) ∧ Kept [] w w' := by
  have hb : Has ((w.alloc (.cells #[.int .u8 x.tg, .int .i64 x.ty, .int .i64 x.ln, .int .i64 x.sz] 23)).alloc (.cells #[.int .u8 x.tg, .int .i64 x.ty, .int .i64 x.ln, .int .i64 x.sz] 23)) w.heap.size 23 [.int .u8 x.tg, .int .i64 x.ty, .int .i64 x.ln, .int .i64 x.sz] := (Hd.new w x).alloc _
  have hc : Has ((w.alloc (.cells #[.int .u8 x.tg, .int .i64 x.ty, .int .i64 x.ln, .int .i64 x.sz] 23)).alloc (.cells #[.int .u8 x.tg, .int .i64 x.ty, .int .i64 x.ln, .int .i64 x.sz] 23)) (w.heap.size + 1) 23 [.int .u8 x.tg, .int .i64 x.ty, .int .i64 x.ln, .int .i64 x.sz] := by
    simpa using Hd.new (w.alloc (.cells #[.int .u8 x.tg, .int .i64 x.ty, .int .i64 x.ln, .int .i64 x.sz] 23)) x
  have k0 : Kept [] w ((w.alloc (.cells #[.int .u8 x.tg, .int .i64 x.ty, .int .i64 x.ln, .int .i64 x.sz] 23)).alloc (.cells #[.int .u8 x.tg, .int .i64 x.ty, .int .i64 x.ln, .int .i64 x.sz] 23)) := ((Kept.refl [] w).alloc _).alloc _
  have H1 := Lib.hid (fun y (k : Kept [] w y) => encode_ok (h.keep0 k) x ok)
  have H2 := Lib.hid (fun y (k : Kept [] w y) => encode_ok (h.keep0 k) x ok)
  have H3 := Lib.hid (fun y (k : Kept [] w y) => decode_ok (h.keep0 k) (wordI x) (word_range c).1 (word_range c).2)
  have H4 := Lib.hid (fun y (k : Kept [] w y) => decode_ok (h.keep0 k) u hu0 hu1)
  have H5 := Lib.hid (fun y (k : Kept [] w y) => encode_ok (h.keep0 k) (decH u) (by rw [(dec_yes hd).1]; exact head_ok hu0 hu1))
  have H6 := Lib.hid (fun y (k : Kept [] w y) => alive_ok (h.keep0 k))
  have HX : Hid (∀ y : World, Has (y.alloc (.cells #[.int .u8 x.tg, .int .i64 x.ty, .int .i64 x.ln, .int .i64 x.sz] 23)) y.heap.size 23 [.int .u8 x.tg, .int .i64 x.ty, .int .i64 x.ln, .int .i64 x.sz]) := Lib.hid fun y => Hd.new y _
  have HN : Hid (∀ y : World, Has (y.alloc (.cells #[.int .u8 (decH u).tg, .int .i64 (decH u).ty, .int .i64 (decH u).ln, .int .i64 (decH u).sz] 23)) y.heap.size 23 [.int .u8 (decH u).tg, .int .i64 (decH u).ty, .int .i64 (decH u).ln, .int .i64 (decH u).sz]) := Lib.hid fun y => Hd.new y _
  have hne := run_other
  have hse := run_same
  have hng := no_guard
  have hq := eqB_refl'
  clear h
  rw [errH_yes c, encW_yes c] at H1
  rw [errH_yes c, encW_yes c] at H2
  rw [(dec_yes (isHead_word c)).1, (dec_yes (isHead_word c)).2, head_word c] at H3
  obtain ⟨hd1, hd2⟩ := isHead_iff.1 hd
  rw [(dec_yes hd).1] at H4 H5 HN
  rw [(dec_yes hd).2] at H4
  rw [errH_yes hd1, encW_yes hd1, hd2] at H5
  clear c ok hd hd1 hd2
  unfold Hd.val at *
  generalize headI u = D at *
  generalize D.tg = Dg at *
  generalize D.ty = Dt at *
  generalize D.ln = Dn at *
  generalize D.sz = Ds at *
  generalize wordI x = wx at *
  generalize x.tg = g at *
  generalize x.ty = t at *
  generalize x.ln = n at *
  generalize x.sz = s at *
  have HB := Lib.hid hb
  have HC := Lib.hid hc
  have K0 := Lib.hid k0
  clear hb hc k0
  go_enter Tryd.func5, Tryd.ntmps5
  go_wp2_with fail
  refine (H1.out _ K0.out).mono ?_
  rintro e x1 ⟨rfl, k1⟩
  have K1 := Lib.hid (K0.out.trans k1)
  have HB1 := Lib.hid (HB.out.keep0 k1)
  have HC1 := Lib.hid (HC.out.keep0 k1)
  clear k1 H1 K0 HB HC
  obtain ⟨c0, c1, c2, c3⟩ := cells4 HC1.out
  go_wp2_with fail
  refine (H2.out _ K1.out).mono ?_
  rintro e x2 ⟨rfl, k2⟩
  have K2 := Lib.hid (K1.out.trans k2)
  have HB2 := Lib.hid (HB1.out.keep0 k2)
  have HC2 := Lib.hid (HC1.out.keep0 k2)
  clear k2 H2 K1 HB1 HC1 c0 c1 c2 c3
  go_wp2_with fail
  refine (H3.out _ K2.out).mono ?_
  rintro e x3 ⟨rfl, k3⟩
  have K3 := Lib.hid (K2.out.trans k3)
  have HB3 := Lib.hid ((HB2.out.keep0 k3).alloc (.cells #[.int .u8 g, .int .i64 t, .int .i64 n, .int .i64 s] 23))
  have HC3 := Lib.hid ((HC2.out.keep0 k3).alloc (.cells #[.int .u8 g, .int .i64 t, .int .i64 n, .int .i64 s] 23))
  have HN3 := Lib.hid (HX.out x3)
  clear k3 H3 K2 HB2 HC2 HX
  obtain ⟨a0, a1, a2, a3⟩ := cells4 HB3.out
  obtain ⟨b0, b1, b2, b3⟩ := cells4 HC3.out
  obtain ⟨d0, d1, d2, d3⟩ := cells4 HN3.out
  go_wp2_with fail
  clear HB3 HC3 HN3 a0 a1 a2 a3 b0 b1 b2 b3 d0 d1 d2 d3
  refine (H4.out _ (K3.out.alloc _)).mono ?_
  rintro e x4 ⟨rfl, k4⟩
  have K4 := Lib.hid ((K3.out.alloc _).trans k4)
  have HN4 := Lib.hid (HN.out x4)
  clear k4 H4 HN
  obtain ⟨c0, c1, c2, c3⟩ := cells4 HN4.out
  go_wp2_with fail
  refine (H5.out _ (K4.out.alloc _)).mono ?_
  rintro e x5 ⟨rfl, k5⟩
  have K5 := Lib.hid ((K4.out.alloc _).trans k5)
  clear k5 H5 K4 HN4 c0 c1 c2 c3
  go_wp2_with fail
  refine (H6.out _ K5.out).mono ?_
  rintro e x6 ⟨rfl, k6⟩
  have K6 := Lib.hid (K5.out.trans k6)
  clear k6 H6 K5
  go_wp2_with fail
  go_ret
  exact ⟨rfl, K6.out⟩
set_option maxRecDepth 100000 in
set_option maxHeartbeats 2000000 in
theorem back_two_y {w : World} (h : Fields w) (x : Hd) (ok : x.ok) (o : Hd) (oko : o.ok) (u : Int) (hu0 : 0 ≤ u) (hu1 : u ≤ 18446744073709551615) (c : x.can) (d : o.can) (hxo : x ≠ o) (hd : isHead u = true) :
    Calls Tryd.prog 5 #[x.val, o.val, .int .u64 u] w fun e w' => e = .returned (.bool true) ∧ Kept [] w w' := by
  have hb : Has ((w.alloc (.cells #[.int .u8 x.tg, .int .i64 x.ty, .int .i64 x.ln, .int .i64 x.sz] 23)).alloc (.cells #[.int .u8 o.tg, .int .i64 o.ty, .int .i64 o.ln, .int .i64 o.sz] 23)) w.heap.size 23 [.int .u8 x.tg, .int .i64 x.ty, .int .i64 x.ln, .int .i64 x.sz] := (Hd.new w x).alloc _
  have hc : Has ((w.alloc (.cells #[.int .u8 x.tg, .int .i64 x.ty, .int .i64 x.ln, .int .i64 x.sz] 23)).alloc (.cells #[.int .u8 o.tg, .int .i64 o.ty, .int .i64 o.ln, .int .i64 o.sz] 23)) (w.heap.size + 1) 23 [.int .u8 o.tg, .int .i64 o.ty, .int .i64 o.ln, .int .i64 o.sz] := by
    simpa using Hd.new (w.alloc (.cells #[.int .u8 x.tg, .int .i64 x.ty, .int .i64 x.ln, .int .i64 x.sz] 23)) o
  have k0 : Kept [] w ((w.alloc (.cells #[.int .u8 x.tg, .int .i64 x.ty, .int .i64 x.ln, .int .i64 x.sz] 23)).alloc (.cells #[.int .u8 o.tg, .int .i64 o.ty, .int .i64 o.ln, .int .i64 o.sz] 23)) := ((Kept.refl [] w).alloc _).alloc _
  have H1 := Lib.hid (fun y (k : Kept [] w y) => encode_ok (h.keep0 k) x ok)
  have H2 := Lib.hid (fun y (k : Kept [] w y) => encode_ok (h.keep0 k) o oko)
  have H3 := Lib.hid (fun y (k : Kept [] w y) => decode_ok (h.keep0 k) (wordI x) (word_range c).1 (word_range c).2)
  have H4 := Lib.hid (fun y (k : Kept [] w y) => decode_ok (h.keep0 k) u hu0 hu1)
  have H5 := Lib.hid (fun y (k : Kept [] w y) => encode_ok (h.keep0 k) (decH u) (by rw [(dec_yes hd).1]; exact head_ok hu0 hu1))
  have H6 := Lib.hid (fun y (k : Kept [] w y) => alive_ok (h.keep0 k))
  have HX : Hid (∀ y : World, Has (y.alloc (.cells #[.int .u8 x.tg, .int .i64 x.ty, .int .i64 x.ln, .int .i64 x.sz] 23)) y.heap.size 23 [.int .u8 x.tg, .int .i64 x.ty, .int .i64 x.ln, .int .i64 x.sz]) := Lib.hid fun y => Hd.new y _
  have HN : Hid (∀ y : World, Has (y.alloc (.cells #[.int .u8 (decH u).tg, .int .i64 (decH u).ty, .int .i64 (decH u).ln, .int .i64 (decH u).sz] 23)) y.heap.size 23 [.int .u8 (decH u).tg, .int .i64 (decH u).ty, .int .i64 (decH u).ln, .int .i64 (decH u).sz]) := Lib.hid fun y => Hd.new y _
  have hne := run_other
  have hse := run_same
  have hng := no_guard
  have hq := eqB_refl'
  clear h
  rw [errH_yes c, encW_yes c] at H1
  rw [errH_yes d, encW_yes d] at H2
  rw [(dec_yes (isHead_word c)).1, (dec_yes (isHead_word c)).2, head_word c] at H3
  obtain ⟨hd1, hd2⟩ := isHead_iff.1 hd
  rw [(dec_yes hd).1] at H4 H5 HN
  rw [(dec_yes hd).2] at H4
  rw [errH_yes hd1, encW_yes hd1, hd2] at H5
  have hw : wordI x ≠ wordI o := fun e => hxo ((word_inj c d).1 e)
  have hqn : eqB x.tg x.ty x.ln x.sz o.tg o.ty o.ln o.sz = false := by rw [eqB_dec]; exact decide_eq_false hxo
  clear c ok oko d hxo hd hd1 hd2
  unfold Hd.val at *
  generalize headI u = D at *
  generalize D.tg = Dg at *
  generalize D.ty = Dt at *
  generalize D.ln = Dn at *
  generalize D.sz = Ds at *
  generalize wordI x = wx at *
  generalize wordI o = wo at *
  generalize x.tg = g at *
  generalize x.ty = t at *
  generalize x.ln = n at *
  generalize x.sz = s at *
  generalize o.tg = og at *
  generalize o.ty = ot at *
  generalize o.ln = on at *
  generalize o.sz = os at *
  have HB := Lib.hid hb
  have HC := Lib.hid hc
  have K0 := Lib.hid k0
  clear hb hc k0
  go_enter Tryd.func5, Tryd.ntmps5
  go_wp2_with fail
  refine (H1.out _ K0.out).mono ?_
  rintro e x1 ⟨rfl, k1⟩
  have K1 := Lib.hid (K0.out.trans k1)
  have HB1 := Lib.hid (HB.out.keep0 k1)
  have HC1 := Lib.hid (HC.out.keep0 k1)
  clear k1 H1 K0 HB HC
  obtain ⟨c0, c1, c2, c3⟩ := cells4 HC1.out
  go_wp2_with fail
  refine (H2.out _ K1.out).mono ?_
  rintro e x2 ⟨rfl, k2⟩
  have K2 := Lib.hid (K1.out.trans k2)
  have HB2 := Lib.hid (HB1.out.keep0 k2)
  have HC2 := Lib.hid (HC1.out.keep0 k2)
  clear k2 H2 K1 HB1 HC1 c0 c1 c2 c3
  go_wp2_with fail
  refine (H3.out _ K2.out).mono ?_
  rintro e x3 ⟨rfl, k3⟩
  have K3 := Lib.hid (K2.out.trans k3)
  have HB3 := Lib.hid ((HB2.out.keep0 k3).alloc (.cells #[.int .u8 g, .int .i64 t, .int .i64 n, .int .i64 s] 23))
  have HC3 := Lib.hid ((HC2.out.keep0 k3).alloc (.cells #[.int .u8 g, .int .i64 t, .int .i64 n, .int .i64 s] 23))
  have HN3 := Lib.hid (HX.out x3)
  clear k3 H3 K2 HB2 HC2 HX
  obtain ⟨a0, a1, a2, a3⟩ := cells4 HB3.out
  obtain ⟨b0, b1, b2, b3⟩ := cells4 HC3.out
  obtain ⟨d0, d1, d2, d3⟩ := cells4 HN3.out
  go_wp2_with fail
  clear HB3 HC3 HN3 a0 a1 a2 a3 b0 b1 b2 b3 d0 d1 d2 d3
  refine (H4.out _ (K3.out.alloc _)).mono ?_
  rintro e x4 ⟨rfl, k4⟩
  have K4 := Lib.hid ((K3.out.alloc _).trans k4)
  have HN4 := Lib.hid (HN.out x4)
  clear k4 H4 HN
  obtain ⟨c0, c1, c2, c3⟩ := cells4 HN4.out
  go_wp2_with fail
  refine (H5.out _ (K4.out.alloc _)).mono ?_
  rintro e x5 ⟨rfl, k5⟩
  have K5 := Lib.hid ((K4.out.alloc _).trans k5)
  clear k5 H5 K4 HN4 c0 c1 c2 c3
  go_wp2_with fail
  refine (H6.out _ K5.out).mono ?_
  rintro e x6 ⟨rfl, k6⟩
  have K6 := Lib.hid (K5.out.trans k6)
  clear k6 H6 K5
  go_wp2_with fail
  go_ret
  exact ⟨rfl, K6.out⟩
set_option maxRecDepth 100000 in
set_option maxHeartbeats 2000000 in
theorem back_no_n {w : World} (h : Fields w) (x : Hd) (ok : x.ok) (o : Hd) (oko : o.ok) (u : Int) (hu0 : 0 ≤ u) (hu1 : u ≤ 18446744073709551615) (c : ¬ x.can) (hd : isHead u = false) :
    Calls Tryd.prog 5 #[x.val, o.val, .int .u64 u] w fun e w' => e = .returned (.bool true) ∧ Kept [] w w' := by
  have hb : Has ((w.alloc (.cells #[.int .u8 x.tg, .int .i64 x.ty, .int .i64 x.ln, .int .i64 x.sz] 23)).alloc (.cells #[.int .u8 o.tg, .int .i64 o.ty, .int .i64 o.ln, .int .i64 o.sz] 23)) w.heap.size 23 [.int .u8 x.tg, .int .i64 x.ty, .int .i64 x.ln, .int .i64 x.sz] := (Hd.new w x).alloc _
  have hc : Has ((w.alloc (.cells #[.int .u8 x.tg, .int .i64 x.ty, .int .i64 x.ln, .int .i64 x.sz] 23)).alloc (.cells #[.int .u8 o.tg, .int .i64 o.ty, .int .i64 o.ln, .int .i64 o.sz] 23)) (w.heap.size + 1) 23 [.int .u8 o.tg, .int .i64 o.ty, .int .i64 o.ln, .int .i64 o.sz] := by
    simpa using Hd.new (w.alloc (.cells #[.int .u8 x.tg, .int .i64 x.ty, .int .i64 x.ln, .int .i64 x.sz] 23)) o
  have k0 : Kept [] w ((w.alloc (.cells #[.int .u8 x.tg, .int .i64 x.ty, .int .i64 x.ln, .int .i64 x.sz] 23)).alloc (.cells #[.int .u8 o.tg, .int .i64 o.ty, .int .i64 o.ln, .int .i64 o.sz] 23)) := ((Kept.refl [] w).alloc _).alloc _
  have H1 := Lib.hid (fun y (k : Kept [] w y) => encode_ok (h.keep0 k) x ok)
  have H2 := Lib.hid (fun y (k : Kept [] w y) => encode_ok (h.keep0 k) o oko)
  have H4 := Lib.hid (fun y (k : Kept [] w y) => decode_ok (h.keep0 k) u hu0 hu1)
  have H6 := Lib.hid (fun y (k : Kept [] w y) => alive_ok (h.keep0 k))
  have HX : Hid (∀ y : World, Has (y.alloc (.cells #[.int .u8 x.tg, .int .i64 x.ty, .int .i64 x.ln, .int .i64 x.sz] 23)) y.heap.size 23 [.int .u8 x.tg, .int .i64 x.ty, .int .i64 x.ln, .int .i64 x.sz]) := Lib.hid fun y => Hd.new y _
  have HN : Hid (∀ y : World, Has (y.alloc (.cells #[.int .u8 (decH u).tg, .int .i64 (decH u).ty, .int .i64 (decH u).ln, .int .i64 (decH u).sz] 23)) y.heap.size 23 [.int .u8 (decH u).tg, .int .i64 (decH u).ty, .int .i64 (decH u).ln, .int .i64 (decH u).sz]) := Lib.hid fun y => Hd.new y _
  have hne := run_other
  have hse := run_same
  have hng := no_guard
  have hq := eqB_refl'
  clear h
  rw [errH_no c] at H1
  rw [(dec_no hd).1] at H4 HN
  rw [(dec_no hd).2] at H4
  clear c ok oko hd
  unfold Hd.val at *
  unfold Hd.zero at *
  simp only at H4 HN
  generalize encW x = wx at *
  generalize encW o = wo at *
  generalize errH o = eo at *
  generalize x.tg = g at *
  generalize x.ty = t at *
  generalize x.ln = n at *
  generalize x.sz = s at *
  generalize o.tg = og at *
  generalize o.ty = ot at *
  generalize o.ln = on at *
  generalize o.sz = os at *
  have HB := Lib.hid hb
  have HC := Lib.hid hc
  have K0 := Lib.hid k0
  clear hb hc k0
  go_enter Tryd.func5, Tryd.ntmps5
  go_wp2_with fail
  refine (H1.out _ K0.out).mono ?_
  rintro e x1 ⟨rfl, k1⟩
  have K1 := Lib.hid (K0.out.trans k1)
  have HB1 := Lib.hid (HB.out.keep0 k1)
  have HC1 := Lib.hid (HC.out.keep0 k1)
  clear k1 H1 K0 HB HC
  obtain ⟨c0, c1, c2, c3⟩ := cells4 HC1.out
  go_wp2_with fail
  refine (H2.out _ K1.out).mono ?_
  rintro e x2 ⟨rfl, k2⟩
  have K2 := Lib.hid (K1.out.trans k2)
  have HB2 := Lib.hid (HB1.out.keep0 k2)
  have HC2 := Lib.hid (HC1.out.keep0 k2)
  clear k2 H2 K1 HB1 HC1 c0 c1 c2 c3
  go_wp2_with fail
  clear HB2 HC2 HX
  refine (H4.out _ K2.out).mono ?_
  rintro e x4 ⟨rfl, k4⟩
  have K4 := Lib.hid (K2.out.trans k4)
  have HN4 := Lib.hid (HN.out x4)
  clear k4 H4 HN
  obtain ⟨c0, c1, c2, c3⟩ := cells4 HN4.out
  go_wp2_with fail
  refine (H6.out _ (K4.out.alloc _)).mono ?_
  rintro e x6 ⟨rfl, k6⟩
  have K6 := Lib.hid ((K4.out.alloc _).trans k6)
  clear k6 H6 K4 HN4 c0 c1 c2 c3
  go_wp2_with fail
  go_ret
  exact ⟨rfl, K6.out⟩
set_option maxRecDepth 100000 in
set_option maxHeartbeats 2000000 in
theorem back_one_n {w : World} (h : Fields w) (x : Hd) (ok : x.ok) (o : Hd) (oko : o.ok) (u : Int) (hu0 : 0 ≤ u) (hu1 : u ≤ 18446744073709551615) (c : x.can) (d : ¬ o.can) (hd : isHead u = false) :
    Calls Tryd.prog 5 #[x.val, o.val, .int .u64 u] w fun e w' => e = .returned (.bool true) ∧ Kept [] w w' := by
  have hb : Has ((w.alloc (.cells #[.int .u8 x.tg, .int .i64 x.ty, .int .i64 x.ln, .int .i64 x.sz] 23)).alloc (.cells #[.int .u8 o.tg, .int .i64 o.ty, .int .i64 o.ln, .int .i64 o.sz] 23)) w.heap.size 23 [.int .u8 x.tg, .int .i64 x.ty, .int .i64 x.ln, .int .i64 x.sz] := (Hd.new w x).alloc _
  have hc : Has ((w.alloc (.cells #[.int .u8 x.tg, .int .i64 x.ty, .int .i64 x.ln, .int .i64 x.sz] 23)).alloc (.cells #[.int .u8 o.tg, .int .i64 o.ty, .int .i64 o.ln, .int .i64 o.sz] 23)) (w.heap.size + 1) 23 [.int .u8 o.tg, .int .i64 o.ty, .int .i64 o.ln, .int .i64 o.sz] := by
    simpa using Hd.new (w.alloc (.cells #[.int .u8 x.tg, .int .i64 x.ty, .int .i64 x.ln, .int .i64 x.sz] 23)) o
  have k0 : Kept [] w ((w.alloc (.cells #[.int .u8 x.tg, .int .i64 x.ty, .int .i64 x.ln, .int .i64 x.sz] 23)).alloc (.cells #[.int .u8 o.tg, .int .i64 o.ty, .int .i64 o.ln, .int .i64 o.sz] 23)) := ((Kept.refl [] w).alloc _).alloc _
  have H1 := Lib.hid (fun y (k : Kept [] w y) => encode_ok (h.keep0 k) x ok)
  have H2 := Lib.hid (fun y (k : Kept [] w y) => encode_ok (h.keep0 k) o oko)
  have H3 := Lib.hid (fun y (k : Kept [] w y) => decode_ok (h.keep0 k) (wordI x) (word_range c).1 (word_range c).2)
  have H4 := Lib.hid (fun y (k : Kept [] w y) => decode_ok (h.keep0 k) u hu0 hu1)
  have H6 := Lib.hid (fun y (k : Kept [] w y) => alive_ok (h.keep0 k))
  have HX : Hid (∀ y : World, Has (y.alloc (.cells #[.int .u8 x.tg, .int .i64 x.ty, .int .i64 x.ln, .int .i64 x.sz] 23)) y.heap.size 23 [.int .u8 x.tg, .int .i64 x.ty, .int .i64 x.ln, .int .i64 x.sz]) := Lib.hid fun y => Hd.new y _
  have HN : Hid (∀ y : World, Has (y.alloc (.cells #[.int .u8 (decH u).tg, .int .i64 (decH u).ty, .int .i64 (decH u).ln, .int .i64 (decH u).sz] 23)) y.heap.size 23 [.int .u8 (decH u).tg, .int .i64 (decH u).ty, .int .i64 (decH u).ln, .int .i64 (decH u).sz]) := Lib.hid fun y => Hd.new y _
  have hne := run_other
  have hse := run_same
  have hng := no_guard
  have hq := eqB_refl'
  clear h
  rw [errH_yes c, encW_yes c] at H1
  rw [errH_no d] at H2
  rw [(dec_yes (isHead_word c)).1, (dec_yes (isHead_word c)).2, head_word c] at H3
  rw [(dec_no hd).1] at H4 HN
  rw [(dec_no hd).2] at H4
  clear c ok oko d hd
  unfold Hd.val at *
  unfold Hd.zero at *
  simp only at H4 HN
  generalize wordI x = wx at *
  generalize encW o = wo at *
  generalize x.tg = g at *
  generalize x.ty = t at *
  generalize x.ln = n at *
  generalize x.sz = s at *
  generalize o.tg = og at *
  generalize o.ty = ot at *
  generalize o.ln = on at *
  generalize o.sz = os at *
  have HB := Lib.hid hb
  have HC := Lib.hid hc
  have K0 := Lib.hid k0
  clear hb hc k0
  go_enter Tryd.func5, Tryd.ntmps5
  go_wp2_with fail
  refine (H1.out _ K0.out).mono ?_
  rintro e x1 ⟨rfl, k1⟩
  have K1 := Lib.hid (K0.out.trans k1)
  have HB1 := Lib.hid (HB.out.keep0 k1)
  have HC1 := Lib.hid (HC.out.keep0 k1)
  clear k1 H1 K0 HB HC
  obtain ⟨c0, c1, c2, c3⟩ := cells4 HC1.out
  go_wp2_with fail
  refine (H2.out _ K1.out).mono ?_
  rintro e x2 ⟨rfl, k2⟩
  have K2 := Lib.hid (K1.out.trans k2)
  have HB2 := Lib.hid (HB1.out.keep0 k2)
  have HC2 := Lib.hid (HC1.out.keep0 k2)
  clear k2 H2 K1 HB1 HC1 c0 c1 c2 c3
  go_wp2_with fail
  refine (H3.out _ K2.out).mono ?_
  rintro e x3 ⟨rfl, k3⟩
  have K3 := Lib.hid (K2.out.trans k3)
  have HB3 := Lib.hid ((HB2.out.keep0 k3).alloc (.cells #[.int .u8 g, .int .i64 t, .int .i64 n, .int .i64 s] 23))
  have HC3 := Lib.hid ((HC2.out.keep0 k3).alloc (.cells #[.int .u8 g, .int .i64 t, .int .i64 n, .int .i64 s] 23))
  have HN3 := Lib.hid (HX.out x3)
  clear k3 H3 K2 HB2 HC2 HX
  obtain ⟨a0, a1, a2, a3⟩ := cells4 HB3.out
  obtain ⟨b0, b1, b2, b3⟩ := cells4 HC3.out
  obtain ⟨d0, d1, d2, d3⟩ := cells4 HN3.out
  go_wp2_with fail
  clear HB3 HC3 HN3 a0 a1 a2 a3 b0 b1 b2 b3 d0 d1 d2 d3
  refine (H4.out _ (K3.out.alloc _)).mono ?_
  rintro e x4 ⟨rfl, k4⟩
  have K4 := Lib.hid ((K3.out.alloc _).trans k4)
  have HN4 := Lib.hid (HN.out x4)
  clear k4 H4 HN
  obtain ⟨c0, c1, c2, c3⟩ := cells4 HN4.out
  go_wp2_with fail
  refine (H6.out _ (K4.out.alloc _)).mono ?_
  rintro e x6 ⟨rfl, k6⟩
  have K6 := Lib.hid ((K4.out.alloc _).trans k6)
  clear k6 H6 K4 HN4 c0 c1 c2 c3
  go_wp2_with fail
  go_ret
  exact ⟨rfl, K6.out⟩
set_option maxRecDepth 100000 in
set_option maxHeartbeats 2000000 in
theorem back_same_n {w : World} (h : Fields w) (x : Hd) (ok : x.ok) (u : Int) (hu0 : 0 ≤ u) (hu1 : u ≤ 18446744073709551615) (c : x.can) (hd : isHead u = false) :
    Calls Tryd.prog 5 #[x.val, x.val, .int .u64 u] w fun e w' => e = .returned (.bool true) ∧ Kept [] w w' := by
  have hb : Has ((w.alloc (.cells #[.int .u8 x.tg, .int .i64 x.ty, .int .i64 x.ln, .int .i64 x.sz] 23)).alloc (.cells #[.int .u8 x.tg, .int .i64 x.ty, .int .i64 x.ln, .int .i64 x.sz] 23)) w.heap.size 23 [.int .u8 x.tg, .int .i64 x.ty, .int .i64 x.ln, .int .i64 x.sz] := (Hd.new w x).alloc _
  have hc : Has ((w.alloc (.cells #[.int .u8 x.tg, .int .i64 x.ty, .int .i64 x.ln, .int .i64 x.sz] 23)).alloc (.cells #[.int .u8 x.tg, .int .i64 x.ty, .int .i64 x.ln, .int .i64 x.sz] 23)) (w.heap.size + 1) 23 [.int .u8 x.tg, .int .i64 x.ty, .int .i64 x.ln, .int .i64 x.sz] := by
    simpa using Hd.new (w.alloc (.cells #[.int .u8 x.tg, .int .i64 x.ty, .int .i64 x.ln, .int .i64 x.sz] 23)) x
  have k0 : Kept [] w ((w.alloc (.cells #[.int .u8 x.tg, .int .i64 x.ty, .int .i64 x.ln, .int .i64 x.sz] 23)).alloc (.cells #[.int .u8 x.tg, .int .i64 x.ty, .int .i64 x.ln, .int .i64 x.sz] 23)) := ((Kept.refl [] w).alloc _).alloc _
  have H1 := Lib.hid (fun y (k : Kept [] w y) => encode_ok (h.keep0 k) x ok)
  have H2 := Lib.hid (fun y (k : Kept [] w y) => encode_ok (h.keep0 k) x ok)
  have H3 := Lib.hid (fun y (k : Kept [] w y) => decode_ok (h.keep0 k) (wordI x) (word_range c).1 (word_range c).2)
  have H4 := Lib.hid (fun y (k : Kept [] w y) => decode_ok (h.keep0 k) u hu0 hu1)
  have H6 := Lib.hid (fun y (k : Kept [] w y) => alive_ok (h.keep0 k))
  have HX : Hid (∀ y : World, Has (y.alloc (.cells #[.int .u8 x.tg, .int .i64 x.ty, .int .i64 x.ln, .int .i64 x.sz] 23)) y.heap.size 23 [.int .u8 x.tg, .int .i64 x.ty, .int .i64 x.ln, .int .i64 x.sz]) := Lib.hid fun y => Hd.new y _
  have HN : Hid (∀ y : World, Has (y.alloc (.cells #[.int .u8 (decH u).tg, .int .i64 (decH u).ty, .int .i64 (decH u).ln, .int .i64 (decH u).sz] 23)) y.heap.size 23 [.int .u8 (decH u).tg, .int .i64 (decH u).ty, .int .i64 (decH u).ln, .int .i64 (decH u).sz]) := Lib.hid fun y => Hd.new y _
  have hne := run_other
  have hse := run_same
  have hng := no_guard
  have hq := eqB_refl'
  clear h
  rw [errH_yes c, encW_yes c] at H1
  rw [errH_yes c, encW_yes c] at H2
  rw [(dec_yes (isHead_word c)).1, (dec_yes (isHead_word c)).2, head_word c] at H3
  rw [(dec_no hd).1] at H4 HN
  rw [(dec_no hd).2] at H4
  clear c ok hd
  unfold Hd.val at *
  unfold Hd.zero at *
  simp only at H4 HN
  generalize wordI x = wx at *
  generalize x.tg = g at *
  generalize x.ty = t at *
  generalize x.ln = n at *
  generalize x.sz = s at *
  have HB := Lib.hid hb
  have HC := Lib.hid hc
  have K0 := Lib.hid k0
  clear hb hc k0
  go_enter Tryd.func5, Tryd.ntmps5
  go_wp2_with fail
  refine (H1.out _ K0.out).mono ?_
  rintro e x1 ⟨rfl, k1⟩
  have K1 := Lib.hid (K0.out.trans k1)
  have HB1 := Lib.hid (HB.out.keep0 k1)
  have HC1 := Lib.hid (HC.out.keep0 k1)
  clear k1 H1 K0 HB HC
  obtain ⟨c0, c1, c2, c3⟩ := cells4 HC1.out
  go_wp2_with fail
  refine (H2.out _ K1.out).mono ?_
  rintro e x2 ⟨rfl, k2⟩
  have K2 := Lib.hid (K1.out.trans k2)
  have HB2 := Lib.hid (HB1.out.keep0 k2)
  have HC2 := Lib.hid (HC1.out.keep0 k2)
  clear k2 H2 K1 HB1 HC1 c0 c1 c2 c3
  go_wp2_with fail
  refine (H3.out _ K2.out).mono ?_
  rintro e x3 ⟨rfl, k3⟩
  have K3 := Lib.hid (K2.out.trans k3)
  have HB3 := Lib.hid ((HB2.out.keep0 k3).alloc (.cells #[.int .u8 g, .int .i64 t, .int .i64 n, .int .i64 s] 23))
  have HC3 := Lib.hid ((HC2.out.keep0 k3).alloc (.cells #[.int .u8 g, .int .i64 t, .int .i64 n, .int .i64 s] 23))
  have HN3 := Lib.hid (HX.out x3)
  clear k3 H3 K2 HB2 HC2 HX
  obtain ⟨a0, a1, a2, a3⟩ := cells4 HB3.out
  obtain ⟨b0, b1, b2, b3⟩ := cells4 HC3.out
  obtain ⟨d0, d1, d2, d3⟩ := cells4 HN3.out
  go_wp2_with fail
  clear HB3 HC3 HN3 a0 a1 a2 a3 b0 b1 b2 b3 d0 d1 d2 d3
  refine (H4.out _ (K3.out.alloc _)).mono ?_
  rintro e x4 ⟨rfl, k4⟩
  have K4 := Lib.hid ((K3.out.alloc _).trans k4)
  have HN4 := Lib.hid (HN.out x4)
  clear k4 H4 HN
  obtain ⟨c0, c1, c2, c3⟩ := cells4 HN4.out
  go_wp2_with fail
  refine (H6.out _ (K4.out.alloc _)).mono ?_
  rintro e x6 ⟨rfl, k6⟩
  have K6 := Lib.hid ((K4.out.alloc _).trans k6)
  clear k6 H6 K4 HN4 c0 c1 c2 c3
  go_wp2_with fail
  go_ret
  exact ⟨rfl, K6.out⟩
set_option maxRecDepth 100000 in
set_option maxHeartbeats 2000000 in
theorem back_two_n {w : World} (h : Fields w) (x : Hd) (ok : x.ok) (o : Hd) (oko : o.ok) (u : Int) (hu0 : 0 ≤ u) (hu1 : u ≤ 18446744073709551615) (c : x.can) (d : o.can) (hxo : x ≠ o) (hd : isHead u = false) :
    Calls Tryd.prog 5 #[x.val, o.val, .int .u64 u] w fun e w' => e = .returned (.bool true) ∧ Kept [] w w' := by
  have hb : Has ((w.alloc (.cells #[.int .u8 x.tg, .int .i64 x.ty, .int .i64 x.ln, .int .i64 x.sz] 23)).alloc (.cells #[.int .u8 o.tg, .int .i64 o.ty, .int .i64 o.ln, .int .i64 o.sz] 23)) w.heap.size 23 [.int .u8 x.tg, .int .i64 x.ty, .int .i64 x.ln, .int .i64 x.sz] := (Hd.new w x).alloc _
  have hc : Has ((w.alloc (.cells #[.int .u8 x.tg, .int .i64 x.ty, .int .i64 x.ln, .int .i64 x.sz] 23)).alloc (.cells #[.int .u8 o.tg, .int .i64 o.ty, .int .i64 o.ln, .int .i64 o.sz] 23)) (w.heap.size + 1) 23 [.int .u8 o.tg, .int .i64 o.ty, .int .i64 o.ln, .int .i64 o.sz] := by
    simpa using Hd.new (w.alloc (.cells #[.int .u8 x.tg, .int .i64 x.ty, .int .i64 x.ln, .int .i64 x.sz] 23)) o
  have k0 : Kept [] w ((w.alloc (.cells #[.int .u8 x.tg, .int .i64 x.ty, .int .i64 x.ln, .int .i64 x.sz] 23)).alloc (.cells #[.int .u8 o.tg, .int .i64 o.ty, .int .i64 o.ln, .int .i64 o.sz] 23)) := ((Kept.refl [] w).alloc _).alloc _
  have H1 := Lib.hid (fun y (k : Kept [] w y) => encode_ok (h.keep0 k) x ok)
  have H2 := Lib.hid (fun y (k : Kept [] w y) => encode_ok (h.keep0 k) o oko)
  have H3 := Lib.hid (fun y (k : Kept [] w y) => decode_ok (h.keep0 k) (wordI x) (word_range c).1 (word_range c).2)
  have H4 := Lib.hid (fun y (k : Kept [] w y) => decode_ok (h.keep0 k) u hu0 hu1)
  have H6 := Lib.hid (fun y (k : Kept [] w y) => alive_ok (h.keep0 k))
  have HX : Hid (∀ y : World, Has (y.alloc (.cells #[.int .u8 x.tg, .int .i64 x.ty, .int .i64 x.ln, .int .i64 x.sz] 23)) y.heap.size 23 [.int .u8 x.tg, .int .i64 x.ty, .int .i64 x.ln, .int .i64 x.sz]) := Lib.hid fun y => Hd.new y _
  have HN : Hid (∀ y : World, Has (y.alloc (.cells #[.int .u8 (decH u).tg, .int .i64 (decH u).ty, .int .i64 (decH u).ln, .int .i64 (decH u).sz] 23)) y.heap.size 23 [.int .u8 (decH u).tg, .int .i64 (decH u).ty, .int .i64 (decH u).ln, .int .i64 (decH u).sz]) := Lib.hid fun y => Hd.new y _
  have hne := run_other
  have hse := run_same
  have hng := no_guard
  have hq := eqB_refl'
  clear h
  rw [errH_yes c, encW_yes c] at H1
  rw [errH_yes d, encW_yes d] at H2
  rw [(dec_yes (isHead_word c)).1, (dec_yes (isHead_word c)).2, head_word c] at H3
  rw [(dec_no hd).1] at H4 HN
  rw [(dec_no hd).2] at H4
  have hw : wordI x ≠ wordI o := fun e => hxo ((word_inj c d).1 e)
  have hqn : eqB x.tg x.ty x.ln x.sz o.tg o.ty o.ln o.sz = false := by rw [eqB_dec]; exact decide_eq_false hxo
  clear c ok oko d hxo hd
  unfold Hd.val at *
  unfold Hd.zero at *
  simp only at H4 HN
  generalize wordI x = wx at *
  generalize wordI o = wo at *
  generalize x.tg = g at *
  generalize x.ty = t at *
  generalize x.ln = n at *
  generalize x.sz = s at *
  generalize o.tg = og at *
  generalize o.ty = ot at *
  generalize o.ln = on at *
  generalize o.sz = os at *
  have HB := Lib.hid hb
  have HC := Lib.hid hc
  have K0 := Lib.hid k0
  clear hb hc k0
  go_enter Tryd.func5, Tryd.ntmps5
  go_wp2_with fail
  refine (H1.out _ K0.out).mono ?_
  rintro e x1 ⟨rfl, k1⟩
  have K1 := Lib.hid (K0.out.trans k1)
  have HB1 := Lib.hid (HB.out.keep0 k1)
  have HC1 := Lib.hid (HC.out.keep0 k1)
  clear k1 H1 K0 HB HC
  obtain ⟨c0, c1, c2, c3⟩ := cells4 HC1.out
  go_wp2_with fail
  refine (H2.out _ K1.out).mono ?_
  rintro e x2 ⟨rfl, k2⟩
  have K2 := Lib.hid (K1.out.trans k2)
  have HB2 := Lib.hid (HB1.out.keep0 k2)
  have HC2 := Lib.hid (HC1.out.keep0 k2)
  clear k2 H2 K1 HB1 HC1 c0 c1 c2 c3
  go_wp2_with fail
  refine (H3.out _ K2.out).mono ?_
  rintro e x3 ⟨rfl, k3⟩
  have K3 := Lib.hid (K2.out.trans k3)
  have HB3 := Lib.hid ((HB2.out.keep0 k3).alloc (.cells #[.int .u8 g, .int .i64 t, .int .i64 n, .int .i64 s] 23))
  have HC3 := Lib.hid ((HC2.out.keep0 k3).alloc (.cells #[.int .u8 g, .int .i64 t, .int .i64 n, .int .i64 s] 23))
  have HN3 := Lib.hid (HX.out x3)
  clear k3 H3 K2 HB2 HC2 HX
  obtain ⟨a0, a1, a2, a3⟩ := cells4 HB3.out
  obtain ⟨b0, b1, b2, b3⟩ := cells4 HC3.out
  obtain ⟨d0, d1, d2, d3⟩ := cells4 HN3.out
  go_wp2_with fail
  clear HB3 HC3 HN3 a0 a1 a2 a3 b0 b1 b2 b3 d0 d1 d2 d3
  refine (H4.out _ (K3.out.alloc _)).mono ?_
  rintro e x4 ⟨rfl, k4⟩
  have K4 := Lib.hid ((K3.out.alloc _).trans k4)
  have HN4 := Lib.hid (HN.out x4)
  clear k4 H4 HN
  obtain ⟨c0, c1, c2, c3⟩ := cells4 HN4.out
  go_wp2_with fail
  refine (H6.out _ (K4.out.alloc _)).mono ?_
  rintro e x6 ⟨rfl, k6⟩
  have K6 := Lib.hid ((K4.out.alloc _).trans k6)
  clear k6 H6 K4 HN4 c0 c1 c2 c3
  go_wp2_with fail
  go_ret
  exact ⟨rfl, K6.out⟩
theorem back_walk {w : World} (h : Fields w) (x : Hd) (ok : x.ok) (o : Hd) (oko : o.ok) (u : Int) (hu0 : 0 ≤ u) (hu1 : u ≤ 18446744073709551615) :
    Calls Tryd.prog 5 #[x.val, o.val, .int .u64 u] w fun e w' => e = .returned (.bool true) ∧ Kept [] w w' := by
  cases hd : isHead u with
  | true =>
    by_cases c : x.can
    · by_cases d : o.can
      · by_cases hxo : x = o
        · subst hxo
          exact back_same_y h x ok u hu0 hu1 c hd
        · exact back_two_y h x ok o oko u hu0 hu1 c d hxo hd
      · exact back_one_y h x ok o oko u hu0 hu1 c d hd
    · exact back_no_y h x ok o oko u hu0 hu1 c hd
  | false =>
    by_cases c : x.can
    · by_cases d : o.can
      · by_cases hxo : x = o
        · subst hxo
          exact back_same_n h x ok u hu0 hu1 c hd
        · exact back_two_n h x ok o oko u hu0 hu1 c d hxo hd
      · exact back_one_n h x ok o oko u hu0 hu1 c d hd
    · exact back_no_n h x ok o oko u hu0 hu1 c hd
end Go.Proofs.YtflcnpmampaamaaDoor.Hd
