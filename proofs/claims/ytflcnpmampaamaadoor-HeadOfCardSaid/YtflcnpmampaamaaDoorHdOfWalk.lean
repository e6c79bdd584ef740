/-
  The law HeadOf, walked.
-/
import Derived.Test.YtflcnpmampaamaaDoorHdOfLaw
import Derived.Deep.RegionHeld3
namespace Go.Proofs.YtflcnpmampaamaaDoor.Hd
open Go.RowKit Go.Proofs.YtflcnpmampaamaaDoor.Ar
set_option linter.unusedVariables false
open Go.Proofs.YtflcnpmampaamaaDoor.Tb (Ty Tab Seen Made NewPost RowPost newF newF_len addE sizeT sizeE)

theorem eqB_refl2 (a b c d : Int) : eqB a b c d a b c d = true := by unfold eqB; simp
/-- The cells that the last test reads. -/
def Cs (z : World) (B p q : Nat) (g t n s a0 a1 a2 a3 : Int) : Prop :=
  z.cell? ⟨B, 0, none⟩ = some (.int .u8 g) ∧ z.cell? ⟨B, 1, none⟩ = some (.int .i64 t) ∧ z.cell? ⟨B, 2, none⟩ = some (.int .i64 n) ∧ z.cell? ⟨B, 3, none⟩ = some (.int .i64 s) ∧
  z.cell? ⟨p, 0, none⟩ = some (.int .u8 a0) ∧ z.cell? ⟨p, 1, none⟩ = some (.int .i64 a1) ∧ z.cell? ⟨p, 2, none⟩ = some (.int .i64 a2) ∧ z.cell? ⟨p, 3, none⟩ = some (.int .i64 a3) ∧
  z.cell? ⟨q, 0, none⟩ = some (.int .u8 a0) ∧ z.cell? ⟨q, 1, none⟩ = some (.int .i64 a1) ∧ z.cell? ⟨q, 2, none⟩ = some (.int .i64 a2) ∧ z.cell? ⟨q, 3, none⟩ = some (.int .i64 a3)
theorem cs_of {y : World} {B p q : Nat} {g t n s a0 a1 a2 a3 : Int} (hB : Has y B 23 [.int .u8 g, .int .i64 t, .int .i64 n, .int .i64 s]) (hp : Has y p 23 [.int .u8 a0, .int .i64 a1, .int .i64 a2, .int .i64 a3]) (hq : Has y q 23 [.int .u8 a0, .int .i64 a1, .int .i64 a2, .int .i64 a3]) :
    ∀ z, Kept [] y z → Cs z B p q g t n s a0 a1 a2 a3 := fun z k =>
  ⟨(hB.keep0 k).cell 0, (hB.keep0 k).cell 1, (hB.keep0 k).cell 2, (hB.keep0 k).cell 3, (hp.keep0 k).cell 0, (hp.keep0 k).cell 1, (hp.keep0 k).cell 2, (hp.keep0 k).cell 3, (hq.keep0 k).cell 0, (hq.keep0 k).cell 1, (hq.keep0 k).cell 2, (hq.keep0 k).cell 3⟩
set_option maxRecDepth 100000 in
set_option maxHeartbeats 8000000 in
theorem of_main {w : World} (h : Fields w) {A : Option Addr} {c : Nat} {l : List Ty} (hS : Seen w A l) (hokl : ∀ x ∈ l, x.ok) (hl : ¬ (l.length : Int) > 100) (i n : Int) (i0 : -9223372036854775808 ≤ i) (i1 : i ≤ 9223372036854775807) (x : Hd) (ok : x.ok) (g z : Int) (g0 : 0 ≤ g) (g1 : g ≤ 255) (z0 : -9223372036854775808 ≤ z) (z1 : z ≤ 9223372036854775807) :
    Calls Tryd.prog 4 #[.slice A l.length c, .int .i64 i, .int .i64 n, x.val, .int .u8 g, .int .i64 z] w fun e w' => e = .returned (.bool true) ∧ Kept [] w w' := by
  have hb := Hd.new w x
  have k0 : Kept [] w (w.alloc (.cells #[.int .u8 x.tg, .int .i64 x.ty, .int .i64 x.ln, .int .i64 x.sz] 23)) := (Kept.refl [] w).alloc _
  have HF := Lib.hid h
  have HS := Lib.hid hS
  have HOK := Lib.hid hokl
  have HXOK := Lib.hid ok
  have H1 := Lib.hid (fun y (k : Kept [] w y) => gap_ok (h.keep0 k) g z g0 g1 z0 z1)
  have H2 := Lib.hid (fun y => dgap_ok (w := y) g z g0 g1 z0 z1)
  have H3 := Lib.hid (fun y => of_nil (w := y) i n)
  have H4 := Lib.hid (fun y => dfits_nil (w := y) x ok)
  have H5 := Lib.hid (fun y (k : Kept [] w y) => fits_nil (h.keep0 k) x ok)
  have H6 := Lib.hid (fun y (k : Kept [] w y) => alive_ok (h.keep0 k))
  have HNw := Lib.hid (fun y (k : Kept [] w y) => Tb.new_ok c (hS.keep0 k) hokl (by omega))
  have HDw := Lib.hid (fun y (k : Kept [] w y) => Tb.dnew_ok c (hS.keep0 k) hokl (by omega))
  have hlen : l.length ≤ 100000 := by omega
  have HXO := Lib.hid (fun y => Hd.new y (gapH g z))
  have hse := run_same
  have hne := run_other
  have hng := no_guard
  have hq := eqB_refl2
  have HD : Hid (∀ y (A' : Option Addr) (c' : Nat), Seen y A' l → (∀ x ∈ l, x.ok ∧ x.fit) → Calls Tryd.prog 16 #[.slice A' l.length c', x.val] y fun e w' => e = .returned (.int .i64 (fitL l x)) ∧ Kept [] y w') := Lib.hid fun y A' c' hs hk => dfits_row hs hk hlen x ok
  have HT : Hid (∀ y p A' c', Kept [] w y → Tab y p A' c' l → Calls Tryd.prog 17 #[.pointer (some ⟨p, 0, none⟩), x.val] y fun e w' => e = .returned (.int .i64 (fitL l x)) ∧ Kept [] y w') := Lib.hid fun y p A' c' k hT => fits_tab (h.keep0 k) hT x ok
  have HOn : Hid (∀ y : World, Has (y.alloc (.cells #[.int .u8 (ofL l i n).tg, .int .i64 (ofL l i n).ty, .int .i64 (ofL l i n).ln, .int .i64 (ofL l i n).sz] 23)) y.heap.size 23 [.int .u8 (ofL l i n).tg, .int .i64 (ofL l i n).ty, .int .i64 (ofL l i n).ln, .int .i64 (ofL l i n).sz]) := Lib.hid fun y => Hd.new y _
  have HOt : Hid (∀ y p A' c', Tab y p A' c' l → Calls Tryd.prog 15 #[.pointer (some ⟨p, 0, none⟩), .int .i64 i, .int .i64 n] y fun e w' => e = .returned (.tuple #[(ofL l i n).val, .int .i64 (sizeE l i n)]) ∧ Kept [] y w') := Lib.hid fun y p A' c' hT => of_tab hT i n i0 i1
  have HOd : Hid (∀ y (A' : Option Addr) (c' : Nat), Seen y A' l → (∀ x ∈ l, x.ok ∧ x.fit) → Calls Tryd.prog 20 #[.slice A' l.length c', .int .i64 i, .int .i64 n] y fun e w' => e = .returned (.tuple #[(ofL l i n).val, .int .i64 (sizeE l i n)]) ∧ Kept [] y w') := Lib.hid fun y A' c' hs hk => dof_row hs hk hlen i n i0 i1
  clear h hS hokl ok
  unfold Hd.val at *
  unfold Hd.zero at H3
  simp only at H3
  generalize gapH g z = G at *
  generalize G.tg = G0 at *
  generalize G.ty = G1 at *
  generalize G.ln = G2 at *
  generalize G.sz = G3 at *
  generalize errH (Hd.mk g 0 0 z) = ge at *
  generalize fitE Hd.zero 1 x = fz at *
  generalize fitL l x = fl at *
  generalize ofL l i n = O at *
  generalize sizeE l i n = oe at *
  generalize O.tg = O0 at *
  generalize O.ty = O1 at *
  generalize O.ln = O2 at *
  generalize O.sz = O3 at *
  generalize x.tg = xg at *
  generalize x.ty = xt at *
  generalize x.ln = xn at *
  generalize x.sz = xs at *
  have HB := Lib.hid hb
  have K0 := Lib.hid k0
  clear hb k0
  go_enter Tryd.func4, Tryd.ntmps4
  go_wp2_with fail
  refine (H1.out _ K0.out).mono ?_
  rintro e x1 ⟨rfl, k1⟩
  have K1 := Lib.hid (K0.out.trans k1)
  have HB1 := Lib.hid (HB.out.keep0 k1)
  have N1 := Lib.hid (HXO.out x1)
  clear k1 H1 K0 HB
  go_wp2_with fail
  refine (H2.out _).mono ?_
  rintro e x2 ⟨rfl, k2⟩
  have K2 := Lib.hid (((K1.out.alloc _).trans k2).alloc (.cells #[.int .u8 G0, .int .i64 G1, .int .i64 G2, .int .i64 G3] 23))
  have HB2 := Lib.hid (((HB1.out.alloc _).keep0 k2).alloc (.cells #[.int .u8 G0, .int .i64 G1, .int .i64 G2, .int .i64 G3] 23))
  have N2 := Lib.hid ((N1.out.keep0 k2).alloc (.cells #[.int .u8 G0, .int .i64 G1, .int .i64 G2, .int .i64 G3] 23))
  have M2 := Lib.hid (HXO.out x2)
  clear k2 H2 K1 HB1 N1 HXO
  obtain ⟨c0, c1, c2, c3⟩ := cells4 N2.out
  obtain ⟨d0, d1, d2, d3⟩ := cells4 M2.out
  go_wp2_with fail
  refine (H3.out _).mono ?_
  rintro e x3 ⟨rfl, k3⟩
  have K3 := Lib.hid ((K2.out.trans k3).alloc (.cells #[.int .u8 0, .int .i64 0, .int .i64 0, .int .i64 0] 23))
  have HB3 := Lib.hid ((HB2.out.keep0 k3).alloc (.cells #[.int .u8 0, .int .i64 0, .int .i64 0, .int .i64 0] 23))
  clear k3 H3 K2 HB2 N2 M2 c0 c1 c2 c3 d0 d1 d2 d3
  obtain ⟨c0, c1, c2, c3⟩ := cells4 HB3.out
  go_wp2_with fail
  refine (H4.out _).mono ?_
  rintro e x4 ⟨rfl, k4⟩
  have K4 := Lib.hid (K3.out.trans k4)
  have HB4 := Lib.hid (HB3.out.keep0 k4)
  clear k4 H4 K3 HB3 c0 c1 c2 c3
  obtain ⟨c0, c1, c2, c3⟩ := cells4 HB4.out
  go_wp2_with fail
  refine (H5.out _ K4.out).mono ?_
  rintro e x5 ⟨rfl, k5⟩
  have K5 := Lib.hid (K4.out.trans k5)
  have HB5 := Lib.hid (HB4.out.keep0 k5)
  clear k5 H5 K4 HB4 c0 c1 c2 c3
  go_wp2_with fail
  refine (HNw.out _ K5.out).mono ?_
  rintro e x6 (⟨h0, p, A1, cc1, rfl, hm⟩ | ⟨h0, rfl, k6⟩)
  · have e1 := newF_len [] h0
    rw [List.nil_append] at e1
    have e2 := newF_fit [] h0
    have hm2 : Made x5 x6 p A1 cc1 l := by rw [e1] at hm; exact hm
    have HAll : Hid (∀ x ∈ l, x.ok ∧ x.fit) := Lib.hid fun x hx => ⟨HOK.out x hx, e2 x hx⟩
    have HM := Lib.hid hm2
    have K6 := Lib.hid (K5.out.trans hm2.2.2.2)
    have HB6 := Lib.hid (HB5.out.keep0 hm2.2.2.2)
    rw [e1] at HDw
    clear h0 hm hm2 e1 e2 HNw HB5 K5
    go_wp2_with fail
    refine (HDw.out _ K6.out).mono ?_
    rintro e x7 ⟨A2, cc2, rfl, hbk, _⟩
    have K7 := Lib.hid (K6.out.trans hbk.2.2)
    have HS7 := Lib.hid hbk.2.1
    have HB7 := Lib.hid (HB6.out.keep0 hbk.2.2)
    have HT7 := Lib.hid (HM.out.1.keep0 hbk.2.2)
    clear hbk HDw HM K6 HB6 HS
    simp only at *
    go_wp2_with fail
    refine (HOt.out _ _ _ _ HT7.out).mono ?_
    rintro e x8 ⟨rfl, k8⟩
    have K8 := Lib.hid ((K7.out.trans k8).alloc (.cells #[.int .u8 O0, .int .i64 O1, .int .i64 O2, .int .i64 O3] 23))
    have HS8 := Lib.hid ((HS7.out.keep0 k8).keep0 ((Kept.refl [] x8).alloc (.cells #[.int .u8 O0, .int .i64 O1, .int .i64 O2, .int .i64 O3] 23)))
    have HB8 := Lib.hid ((HB7.out.keep0 k8).alloc (.cells #[.int .u8 O0, .int .i64 O1, .int .i64 O2, .int .i64 O3] 23))
    have HT8 := Lib.hid ((HT7.out.keep0 k8).keep0 ((Kept.refl [] x8).alloc (.cells #[.int .u8 O0, .int .i64 O1, .int .i64 O2, .int .i64 O3] 23)))
    have N8 := Lib.hid (HOn.out x8)
    clear k8 HOt K7 HB7 HT7 HS7
    go_wp2_with fail
    generalize x8.alloc (.cells #[.int .u8 O0, .int .i64 O1, .int .i64 O2, .int .i64 O3] 23) = y8 at *
    generalize x8.heap.size = b24 at *
    refine (HOd.out _ _ _ HS8.out HAll.out).mono ?_
    rintro e x9 ⟨rfl, k9⟩
    have k9' := k9.alloc (.cells #[.int .u8 O0, .int .i64 O1, .int .i64 O2, .int .i64 O3] 23)
    have K9 := Lib.hid (K8.out.trans k9')
    have HS9 := Lib.hid (HS8.out.keep0 k9')
    have HB9 := Lib.hid (HB8.out.keep0 k9')
    have HT9 := Lib.hid (HT8.out.keep0 k9')
    have N9 := Lib.hid (N8.out.keep0 k9')
    have M9 := Lib.hid (HOn.out x9)
    clear k9 k9' HOd K8 HB8 HT8 HS8 N8 HOn
    go_wp2_with fail
    generalize x9.alloc (.cells #[.int .u8 O0, .int .i64 O1, .int .i64 O2, .int .i64 O3] 23) = y9 at *
    generalize x9.heap.size = b26 at *
    have cells : Hid (∀ z, Kept [] y9 z → Cs z w.heap.size b24 b26 xg xt xn xs O0 O1 O2 O3) := Lib.hid (cs_of HB9.out N9.out M9.out)
    have C1 : Hid (∀ y, Kept [] y9 y → Calls Tryd.prog 17 #[.pointer (some ⟨p, 0, none⟩), .agg #[.int .u8 xg, .int .i64 xt, .int .i64 xn, .int .i64 xs]] y fun e z => e = .returned (.int .i64 fl) ∧ Kept [] y9 z ∧ Cs z w.heap.size b24 b26 xg xt xn xs O0 O1 O2 O3) :=
      Lib.hid fun y hy => (HT.out y p A1 cc1 (K9.out.trans hy) (HT9.out.keep0 hy)).mono fun e z ⟨he, hk⟩ => ⟨he, hy.trans hk, cells.out z (hy.trans hk)⟩
    have C2 : Hid (∀ x y, Kept [] y9 x → Kept [] x y → Calls Tryd.prog 16 #[.slice A2 l.length cc2, .agg #[.int .u8 xg, .int .i64 xt, .int .i64 xn, .int .i64 xs]] y fun e z => e = .returned (.int .i64 fl) ∧ Kept [] y9 z ∧ Cs z w.heap.size b24 b26 xg xt xn xs O0 O1 O2 O3) :=
      Lib.hid fun x y hx hy => (HD.out y A2 cc2 (HS9.out.keep0 (hx.trans hy)) HAll.out).mono fun e z ⟨he, hk⟩ => ⟨he, (hx.trans hy).trans hk, cells.out z ((hx.trans hy).trans hk)⟩
    have C3 : Hid (∀ x y, Kept [] y9 x → Kept [] x y → Calls Tryd.prog 12 #[] y fun e z => e = .returned (.bool true) ∧ Kept [] y9 z ∧ Cs z w.heap.size b24 b26 xg xt xn xs O0 O1 O2 O3) :=
      Lib.hid fun x y hx hy => (H6.out y (K9.out.trans (hx.trans hy))).mono fun e z ⟨he, hk⟩ => ⟨he, (hx.trans hy).trans hk, cells.out z ((hx.trans hy).trans hk)⟩
    obtain ⟨q0, q1, q2, q3, q4, q5, q6, q7, q8, q9, q10, q11⟩ := cells.out y9 (Kept.refl _ _)
    clear cells HB9 HT9 N9 M9 HS9 HAll HD HT H6
    generalize w.heap.size = B9 at *
    go_region_held3 (fun y => y.cell? ⟨B9, 0, none⟩ = some (.int .u8 xg) ∧ y.cell? ⟨B9, 1, none⟩ = some (.int .i64 xt) ∧ y.cell? ⟨B9, 2, none⟩ = some (.int .i64 xn) ∧ y.cell? ⟨B9, 3, none⟩ = some (.int .i64 xs) ∧ y.cell? ⟨b24, 0, none⟩ = some (.int .u8 O0) ∧ y.cell? ⟨b24, 1, none⟩ = some (.int .i64 O1) ∧ y.cell? ⟨b24, 2, none⟩ = some (.int .i64 O2) ∧ y.cell? ⟨b24, 3, none⟩ = some (.int .i64 O3) ∧ y.cell? ⟨b26, 0, none⟩ = some (.int .u8 O0) ∧ y.cell? ⟨b26, 1, none⟩ = some (.int .i64 O1) ∧ y.cell? ⟨b26, 2, none⟩ = some (.int .i64 O2) ∧ y.cell? ⟨b26, 3, none⟩ = some (.int .i64 O3)) (go_keep)
      (first
        | (go_at_call 17; refine (C1.out _ ?_).mono ?_; (first | exact Kept.refl _ _ | exact (Kept.refl _ _).drewN _); rintro e z1 ⟨rfl, hz1, r0, r1, r2, r3, r4, r5, r6, r7, r8, r9, r10, r11⟩)
        | (go_at_call 16; refine (C2.out _ _ hz1 ?_).mono ?_; (first | exact Kept.refl _ _ | exact (Kept.refl _ _).drewN _); rintro e z2 ⟨rfl, hz2, s0, s1, s2, s3, s4, s5, s6, s7, s8, s9, s10, s11⟩)
        | (go_at_call 12; refine (C3.out _ _ hz2 ?_).mono ?_; (first | exact Kept.refl _ _ | exact (Kept.refl _ _).drewN _); rintro e z3 ⟨rfl, hz3, t0, t1, t2, t3, t4, t5, t6, t7, t8, t9, t10, t11⟩))
    all_goals
      have HK := Lib.hid (K9.out.trans hz3)
      clear hz3 hz2 hz1
      go_wp2_with fail
      go_ret
      exact ⟨rfl, HK.out⟩
  · have hbn : ((newF [] l).2 != 0) = true := by rw [bne_iff_ne]; exact h0
    have K6 := Lib.hid (K5.out.trans k6)
    generalize newF [] l = NF at *
    obtain ⟨r1, er⟩ := NF
    simp only at *
    clear h0 k6 HNw K5 HB5 HOn HOt HOd HT HD
    go_wp2_with fail
    refine (HDw.out _ K6.out).mono ?_
    rintro e x7 ⟨A2, cc2, rfl, hbk, _⟩
    have K7 := Lib.hid (K6.out.trans hbk.2.2)
    clear hbk HDw K6 HS
    simp only at *
    go_wp2_with fail
    refine (H6.out _ K7.out).mono ?_
    rintro e x8 ⟨rfl, k8⟩
    have K8 := Lib.hid (K7.out.trans k8)
    clear k8 H6 K7
    go_wp2_with fail
    go_ret
    exact ⟨rfl, K8.out⟩
set_option maxRecDepth 100000 in
set_option maxHeartbeats 2000000 in
theorem of_long {w : World} (h : Fields w) {A : Option Addr} {c m : Nat} (hl : (m : Int) > 100) (hc : m ≤ maxLen) (i n : Int) (x : Hd) (g z : Int) :
    Calls Tryd.prog 4 #[.slice A m c, .int .i64 i, .int .i64 n, x.val, .int .u8 g, .int .i64 z] w fun e w' => e = .returned (.bool true) ∧ Kept [] w w' := by
  have k0 : Kept [] w (w.alloc (.cells #[.int .u8 x.tg, .int .i64 x.ty, .int .i64 x.ln, .int .i64 x.sz] 23)) := (Kept.refl [] w).alloc _
  have H6 := Lib.hid (fun y (k : Kept [] w y) => alive_ok (h.keep0 k))
  have hm : m ≤ 9223372036854775807 := by unfold maxLen at hc; omega
  clear h hc
  unfold Hd.val
  have K0 := Lib.hid k0
  clear k0
  go_enter Tryd.func4, Tryd.ntmps4
  go_wp2_with fail
  refine (H6.out _ K0.out).mono ?_
  rintro e x8 ⟨rfl, k8⟩
  have K8 := Lib.hid (K0.out.trans k8)
  clear k8 H6 K0
  go_wp2_with fail
  go_ret
  exact ⟨rfl, K8.out⟩
theorem of_walk {w : World} (h : Fields w) {A : Option Addr} {c : Nat} {l : List Ty} (hlc : l.length ≤ c) (hcm : c ≤ maxLen) (hS : Seen w A l) (hokl : ∀ x ∈ l, x.ok) (i n : Int) (i0 : -9223372036854775808 ≤ i) (i1 : i ≤ 9223372036854775807) (x : Hd) (ok : x.ok) (g z : Int) (g0 : 0 ≤ g) (g1 : g ≤ 255) (z0 : -9223372036854775808 ≤ z) (z1 : z ≤ 9223372036854775807) :
    Calls Tryd.prog 4 #[.slice A l.length c, .int .i64 i, .int .i64 n, x.val, .int .u8 g, .int .i64 z] w fun e w' => e = .returned (.bool true) ∧ Kept [] w w' := by
  by_cases hl : (l.length : Int) > 100
  · exact of_long h hl (Nat.le_trans hlc hcm) i n x g z
  · exact of_main h hS hokl hl i n i0 i1 x ok g z g0 g1 z0 z1
end Go.Proofs.YtflcnpmampaamaaDoor.Hd
