/-
  The law HeadFits, walked.
-/
import Derived.Test.YtflcnpmampaamaaDoorHdFitLaw
namespace Go.Proofs.YtflcnpmampaamaaDoor.Hd
open Go.RowKit Go.Proofs.YtflcnpmampaamaaDoor.Ar
set_option linter.unusedVariables false
open Go.Proofs.YtflcnpmampaamaaDoor.Tb (Ty Tab Seen Made NewPost RowPost newF newF_len addE sizeT sizeE hasT getT)

theorem eqB_refl3 (a b c d : Int) : eqB a b c d a b c d = true := by unfold eqB; simp
set_option maxRecDepth 100000 in
set_option maxHeartbeats 2000000 in
theorem fit_long {w : World} (h : Fields w) {A : Option Addr} {c m : Nat} (hl : (m : Int) > 100) (hc : m ≤ maxLen) (i n by_ : Int) :
    Calls Tryd.prog 6 #[.slice A m c, .int .i64 i, .int .i64 n, .int .i64 by_] w fun e w' => e = .returned (.bool true) ∧ Kept [] w w' := by
  have H6 := Lib.hid (alive_ok h)
  have hm : m ≤ 9223372036854775807 := by unfold maxLen at hc; omega
  clear h hc
  go_enter Tryd.func6, Tryd.ntmps6
  go_wp2_with fail
  refine H6.out.mono ?_
  rintro e x8 ⟨rfl, k8⟩
  have K8 := Lib.hid k8
  clear k8 H6
  go_wp2_with fail
  go_ret
  exact ⟨rfl, K8.out⟩
set_option maxRecDepth 100000 in
set_option maxHeartbeats 8000000 in
theorem fit_main {w : World} (h : Fields w) {A : Option Addr} {c : Nat} {l : List Ty} (hS : Seen w A l) (hokl : ∀ x ∈ l, x.ok) (hl : ¬ (l.length : Int) > 100) (i n v : Int) (i0 : -9223372036854775808 ≤ i) (i1 : i ≤ 9223372036854775807) :
    Calls Tryd.prog 6 #[.slice A l.length c, .int .i64 i, .int .i64 n, .int .i64 v] w fun e w' => e = .returned (.bool true) ∧ Kept [] w w' := by
  have HF := Lib.hid h
  have H6 := Lib.hid (fun y (k : Kept [] w y) => alive_ok (h.keep0 k))
  have HNw := Lib.hid (Tb.new_ok c hS hokl (by omega))
  have hlen : l.length ≤ 100000 := by omega
  have hse := run_same
  have hne := run_other
  have hng := no_guard
  have hq := eqB_refl3
  clear h hS hokl
  go_enter Tryd.func6, Tryd.ntmps6
  go_wp2_with fail
  refine HNw.out.mono ?_
  rintro e x1 (⟨h0, p, A1, cc1, rfl, hm⟩ | ⟨h0, rfl, k6⟩)
  · have e1 := newF_len [] h0
    rw [List.nil_append] at e1
    have hm2 : Made w x1 p A1 cc1 l := by rw [e1] at hm; exact hm
    have hl64 := hm2.1.len
    have K1 := Lib.hid hm2.2.2.2
    have HT1 := Lib.hid hm2.1
    have HO := Lib.hid (of_tab hm2.1 i n i0 i1)
    clear h0 hm e1 HNw hm2
    by_cases he : sizeE l i n = 0
    · obtain ⟨sz, ho, s1, s2, i2, i3, n1, n2⟩ := of_facts he hl64
      rw [ho, he] at HO
      obtain ⟨k, hk, k1, k2⟩ : ∃ k, v % 256 = k ∧ 0 ≤ k ∧ k ≤ 255 := ⟨_, rfl, by omega, by omega⟩
      have hand : bits .and .i64 v 255 = k := by rw [and255]; exact hk
      have f1 := fit_of ho he (can_obj (by omega) (by omega) (by omega) (by omega) (by omega) (by omega))
      have f2 := fit_more (k := 1 + k) ho (by omega) (can_obj (by omega) (by omega) (by omega) (by omega) (by omega) (by omega))
      have f3 := fit_none (l := l) (j := (l.length : Int) + (1 + k)) (n := n) (sz := sz) (by omega) (can_obj (by omega) (by omega) (by omega) (by omega) (by omega) (by omega))
      have f4 : ∀ o oe, fitE o oe ⟨2, 0, 0, 1 + k⟩ = 0 := fun o oe => fit_gap o oe (1 + k) (can_gap (by omega) (by omega))
      have okH : (Hd.mk 1 i n sz).ok := by constructor <;> simp <;> omega
      have okO : (Hd.mk 1 i n (sz + (1 + k))).ok := by constructor <;> simp <;> omega
      have okP : (Hd.mk 1 ((l.length : Int) + (1 + k)) n sz).ok := by constructor <;> simp <;> omega
      have okQ : (Hd.mk 2 0 0 (1 + k)).ok := by constructor <;> simp <;> omega
      have HC : Hid (∀ y, Kept [] x1 y → Calls Tryd.prog 11 #[.agg #[.int .u8 1, .int .i64 i, .int .i64 n, .int .i64 sz]] y fun e w' => e = .returned (.int .i64 0) ∧ Kept [] y w') := Lib.hid fun y ky => by
        have := check_ok (HF.out.keep0 (K1.out.trans ky)) ⟨1, i, n, sz⟩ okH
        rw [errH_yes (can_obj (by omega) (by omega) (by omega) (by omega) (by omega) (by omega))] at this
        exact this
      have F1 : Hid (∀ y, Kept [] x1 y → Calls Tryd.prog 17 #[.pointer (some ⟨p, 0, none⟩), .agg #[.int .u8 1, .int .i64 i, .int .i64 n, .int .i64 sz]] y fun e w' => e = .returned (.int .i64 0) ∧ Kept [] y w') := Lib.hid fun y ky => by
        have := fits_tab (HF.out.keep0 (K1.out.trans ky)) (HT1.out.keep0 ky) ⟨1, i, n, sz⟩ okH
        rw [f1] at this
        exact this
      have F2 : Hid (∀ y, Kept [] x1 y → Calls Tryd.prog 17 #[.pointer (some ⟨p, 0, none⟩), .agg #[.int .u8 1, .int .i64 i, .int .i64 n, .int .i64 (sz + (1 + k))]] y fun e w' => e = .returned (.int .i64 8) ∧ Kept [] y w') := Lib.hid fun y ky => by
        have := fits_tab (HF.out.keep0 (K1.out.trans ky)) (HT1.out.keep0 ky) ⟨1, i, n, sz + (1 + k)⟩ okO
        rw [f2] at this
        exact this
      have F3 : Hid (∀ y, Kept [] x1 y → Calls Tryd.prog 17 #[.pointer (some ⟨p, 0, none⟩), .agg #[.int .u8 1, .int .i64 ((l.length : Int) + (1 + k)), .int .i64 n, .int .i64 sz]] y fun e w' => e = .returned (.int .i64 8) ∧ Kept [] y w') := Lib.hid fun y ky => by
        have := fits_tab (HF.out.keep0 (K1.out.trans ky)) (HT1.out.keep0 ky) ⟨1, (l.length : Int) + (1 + k), n, sz⟩ okP
        rw [f3] at this
        exact this
      have F4 : Hid (∀ y, Kept [] x1 y → Calls Tryd.prog 17 #[.pointer (some ⟨p, 0, none⟩), .agg #[.int .u8 2, .int .i64 0, .int .i64 0, .int .i64 (1 + k)]] y fun e w' => e = .returned (.int .i64 0) ∧ Kept [] y w') := Lib.hid fun y ky => by
        have := fits_tab (HF.out.keep0 (K1.out.trans ky)) (HT1.out.keep0 ky) ⟨2, 0, 0, 1 + k⟩ okQ
        unfold fitL at this
        rw [f4] at this
        exact this
      have F5 : Hid (∀ y, Kept [] x1 y → Calls Tryd.prog 17 #[.pointer none, .agg #[.int .u8 2, .int .i64 0, .int .i64 0, .int .i64 (1 + k)]] y fun e w' => e = .returned (.int .i64 0) ∧ Kept [] y w') := Lib.hid fun y ky => by
        have := fits_nil (HF.out.keep0 (K1.out.trans ky)) ⟨2, 0, 0, 1 + k⟩ okQ
        rw [f4] at this
        exact this
      have HG : Hid (∀ y, Kept [] x1 y → Calls Tryd.prog 13 #[.int .u8 2, .int .i64 (1 + k)] y fun e w' => e = .returned (.tuple #[.agg #[.int .u8 2, .int .i64 0, .int .i64 0, .int .i64 (1 + k)], .int .i64 0]) ∧ Kept [] y w') := Lib.hid fun y ky => by
        have hc : (Hd.mk 2 0 0 (1 + k)).can := can_gap (by omega) (by omega)
        have := gap_ok (HF.out.keep0 (K1.out.trans ky)) 2 (1 + k) (by decide) (by decide) (by omega) (by omega)
        rw [gap_yes hc, errH_yes hc] at this
        exact this
      have HLn : Hid (∀ y, Kept [] x1 y → Calls Tryd.prog 21 #[.pointer (some ⟨p, 0, none⟩)] y fun e w' => e = .returned (.int .i64 l.length) ∧ Kept [] y w') := Lib.hid fun y ky => Tb.len_ok (HT1.out.keep0 ky)
      have HAl : Hid (∀ y, Kept [] x1 y → Calls Tryd.prog 12 #[] y fun e w' => e = .returned (.bool true) ∧ Kept [] y w') := Lib.hid fun y ky => H6.out y (K1.out.trans ky)
      have HN : Hid (∀ y : World, Has (y.alloc (.cells #[.int .u8 1, .int .i64 i, .int .i64 n, .int .i64 sz] 23)) y.heap.size 23 [.int .u8 1, .int .i64 i, .int .i64 n, .int .i64 sz]) := Lib.hid fun y => Has.new y _ _
      have HQ : Hid (∀ y : World, Has (y.alloc (.cells #[.int .u8 2, .int .i64 0, .int .i64 0, .int .i64 (1 + k)] 23)) y.heap.size 23 [.int .u8 2, .int .i64 0, .int .i64 0, .int .i64 (1 + k)]) := Lib.hid fun y => Has.new y _ _
      clear f1 f2 f3 f4 okH okO okP okQ ho he hk H6 HF HT1
      unfold Hd.val at HO
      simp only at HO
      go_wp2_with fail
      refine HO.out.mono ?_
      rintro e x2 ⟨rfl, k2'⟩
      have Ka := Lib.hid (k2'.alloc (.cells #[.int .u8 1, .int .i64 i, .int .i64 n, .int .i64 sz] 23))
      have Na := Lib.hid (HN.out x2)
      clear k2' HO
      obtain ⟨c0, c1, c2, c3⟩ := cells4 Na.out
      go_wp2_with fail
      generalize x2.alloc (.cells #[.int .u8 1, .int .i64 i, .int .i64 n, .int .i64 sz] 23) = y2 at *
      generalize x2.heap.size = b11 at *
      refine (HC.out _ Ka.out).mono ?_
      rintro e x3 ⟨rfl, k3⟩
      have Kb := Lib.hid (Ka.out.trans k3)
      have Nb := Lib.hid (Na.out.keep0 k3)
      clear k3 HC Ka Na c0 c1 c2 c3
      obtain ⟨c0, c1, c2, c3⟩ := cells4 Nb.out
      go_wp2_with fail
      refine (F1.out _ Kb.out).mono ?_
      rintro e x4 ⟨rfl, k4⟩
      have Kc := Lib.hid (Kb.out.trans k4)
      have Nc := Lib.hid (Nb.out.keep0 k4)
      clear k4 F1 Kb Nb c0 c1 c2 c3
      obtain ⟨c0, c1, c2, c3⟩ := cells4 Nc.out
      have hlt := Nc.out.lt
      have d0 := fun o => (Nc.out.alloc o).cell 3
      have m4 := HN.out x4
      obtain ⟨e0, e1, e2, e3⟩ := cells4 m4
      obtain ⟨g0, g1, g2, g3⟩ := free4 m4
      have M4 := Lib.hid m4
      clear m4
      simp only [List.getElem?_cons_succ, List.getElem?_cons_zero] at d0
      go_wp2_with fail
      clear d0 e0 e1 e2 e3 g0 g1 g2 g3 M4 c0 c1 c2 c3 hlt HN Nc
      have ge4 : x1.heap.size ≤ x4.heap.size := Kc.out.more
      have Np : Has ((x4.alloc (.cells #[.int .u8 1, .int .i64 i, .int .i64 n, .int .i64 (sz + (1 + k))] 23)).alloc (.cells #[.int .u8 1, .int .i64 i, .int .i64 n, .int .i64 sz] 23)) (x4.heap.size + 1) 23 [.int .u8 1, .int .i64 i, .int .i64 n, .int .i64 sz] := by
        simpa using Has.new (x4.alloc (.cells #[.int .u8 1, .int .i64 i, .int .i64 n, .int .i64 (sz + (1 + k))] 23)) 23 [.int .u8 1, .int .i64 i, .int .i64 n, .int .i64 sz]
      have No : Has ((x4.alloc (.cells #[.int .u8 1, .int .i64 i, .int .i64 n, .int .i64 (sz + (1 + k))] 23)).alloc (.cells #[.int .u8 1, .int .i64 i, .int .i64 n, .int .i64 sz] 23)) x4.heap.size 23 [.int .u8 1, .int .i64 i, .int .i64 n, .int .i64 (sz + (1 + k))] := (Has.new x4 23 [.int .u8 1, .int .i64 i, .int .i64 n, .int .i64 (sz + (1 + k))]).alloc _
      have Kd := (Kc.out.alloc (.cells #[.int .u8 1, .int .i64 i, .int .i64 n, .int .i64 (sz + (1 + k))] 23)).alloc (.cells #[.int .u8 1, .int .i64 i, .int .i64 n, .int .i64 sz] 23)
      have hb : x4.heap.size ≠ x4.heap.size + 1 := by omega
      have hge : x1.heap.size ≤ x4.heap.size + 1 := by omega
      clear Kc ge4
      generalize (x4.alloc (.cells #[.int .u8 1, .int .i64 i, .int .i64 n, .int .i64 (sz + (1 + k))] 23)).alloc (.cells #[.int .u8 1, .int .i64 i, .int .i64 n, .int .i64 sz] 23) = y5 at *
      generalize x4.heap.size + 1 = b15 at *
      generalize x4.heap.size = b14 at *
      have HNp := Lib.hid Np
      have HNo := Lib.hid No
      have HKd := Lib.hid Kd
      have Hbn := Lib.hid hb
      have Hge := Lib.hid hge
      clear Np No Kd hb hge
      refine (HLn.out _ HKd.out).mono ?_
      rintro e x5 ⟨rfl, k5⟩
      have np := HNp.out.keep0 k5
      obtain ⟨c0, c1, c2, c3⟩ := cells4 np
      obtain ⟨g0, g1, g2, g3⟩ := free4 np
      have HNp5 := Lib.hid np
      have HNo5 := Lib.hid (HNo.out.keep0 k5)
      have HK5 := Lib.hid (HKd.out.trans k5)
      clear np k5 HNp HNo HKd HLn
      go_wp2_with fail
      have np := HNp5.out.put 1 (.int .i64 ((l.length : Int) + (1 + k)))
      have no := HNo5.out.beside ⟨b15, 1, none⟩ Hbn.out (.int .i64 ((l.length : Int) + (1 + k)))
      have kk := HK5.out.setCell ⟨b15, 1, none⟩ (.int .i64 ((l.length : Int) + (1 + k))) (.inr Hge.out)
      simp only [List.set_cons_succ, List.set_cons_zero] at np
      generalize x5.setCell ⟨b15, 1, none⟩ (.int .i64 ((l.length : Int) + (1 + k))) = y6 at *
      have HNp6 := Lib.hid np
      have HNo6 := Lib.hid no
      have HK6 := Lib.hid kk
      clear np no kk HNp5 HNo5 HK5 c0 c1 c2 c3 g0 g1 g2 g3
      refine (HG.out _ HK6.out).mono ?_
      rintro e x6 ⟨rfl, k6⟩
      have HK7 := Lib.hid ((HK6.out.trans k6).alloc (.cells #[.int .u8 2, .int .i64 0, .int .i64 0, .int .i64 (1 + k)] 23))
      have HNp7 := Lib.hid ((HNp6.out.keep0 k6).alloc (.cells #[.int .u8 2, .int .i64 0, .int .i64 0, .int .i64 (1 + k)] 23))
      have HNo7 := Lib.hid ((HNo6.out.keep0 k6).alloc (.cells #[.int .u8 2, .int .i64 0, .int .i64 0, .int .i64 (1 + k)] 23))
      have HNq7 := Lib.hid (HQ.out x6)
      clear k6 HG HK6 HNp6 HNo6 HQ
      obtain ⟨c0, c1, c2, c3⟩ := cells4 HNo7.out
      go_wp2_with fail
      generalize x6.alloc (.cells #[.int .u8 2, .int .i64 0, .int .i64 0, .int .i64 (1 + k)] 23) = y7 at *
      generalize x6.heap.size = b16 at *
      refine (F2.out _ HK7.out).mono ?_
      rintro e x7 ⟨rfl, k7⟩
      have HK8 := Lib.hid (HK7.out.trans k7)
      have HNp8 := Lib.hid (HNp7.out.keep0 k7)
      have HNq8 := Lib.hid (HNq7.out.keep0 k7)
      clear k7 F2 HK7 HNp7 HNq7 HNo7 c0 c1 c2 c3
      obtain ⟨c0, c1, c2, c3⟩ := cells4 HNp8.out
      go_wp2_with fail
      refine (F3.out _ HK8.out).mono ?_
      rintro e x8 ⟨rfl, k8⟩
      have HK9 := Lib.hid (HK8.out.trans k8)
      have HNq9 := Lib.hid (HNq8.out.keep0 k8)
      clear k8 F3 HK8 HNp8 HNq8 c0 c1 c2 c3
      obtain ⟨c0, c1, c2, c3⟩ := cells4 HNq9.out
      go_wp2_with fail
      refine (F4.out _ HK9.out).mono ?_
      rintro e x9 ⟨rfl, k9⟩
      have HK10 := Lib.hid (HK9.out.trans k9)
      have HNq10 := Lib.hid (HNq9.out.keep0 k9)
      clear k9 F4 HK9 HNq9 c0 c1 c2 c3
      obtain ⟨c0, c1, c2, c3⟩ := cells4 HNq10.out
      go_wp2_with fail
      refine (F5.out _ HK10.out).mono ?_
      rintro e x10 ⟨rfl, k10⟩
      have HK11 := Lib.hid (HK10.out.trans k10)
      clear k10 F5 HK10 HNq10 c0 c1 c2 c3
      go_wp2_with fail
      refine (HAl.out _ HK11.out).mono ?_
      rintro e x11 ⟨rfl, k11⟩
      have HK12 := Lib.hid (K1.out.trans (HK11.out.trans k11))
      clear k11 HAl HK11
      go_wp2_with fail
      go_ret
      exact ⟨rfl, HK12.out⟩
    · have HN : Hid (∀ y : World, Has (y.alloc (.cells #[.int .u8 0, .int .i64 0, .int .i64 0, .int .i64 0] 23)) y.heap.size 23 [.int .u8 0, .int .i64 0, .int .i64 0, .int .i64 0]) := Lib.hid fun y => Hd.new y Hd.zero
      have ho : ofL l i n = Hd.zero := if_neg he
      rw [ho] at HO
      clear ho
      unfold Hd.val Hd.zero at HO
      simp only at HO
      have hbn : (sizeE l i n != 0) = true := by rw [bne_iff_ne]; exact he
      generalize sizeE l i n = oe at *
      go_wp2_with fail
      refine HO.out.mono ?_
      rintro e x2 ⟨rfl, k2⟩
      have K2 := Lib.hid ((K1.out.trans k2).alloc (.cells #[.int .u8 0, .int .i64 0, .int .i64 0, .int .i64 0] 23))
      have N2 := Lib.hid (HN.out x2)
      clear k2 HO K1 HN HT1
      obtain ⟨c0, c1, c2, c3⟩ := cells4 N2.out
      go_wp2_with fail
      refine (H6.out _ K2.out).mono ?_
      rintro e x3 ⟨rfl, k3⟩
      have K3 := Lib.hid (K2.out.trans k3)
      clear k3 H6 K2 N2 c0 c1 c2 c3
      go_wp2_with fail
      go_ret
      exact ⟨rfl, K3.out⟩
  · have hbn : ((newF [] l).2 != 0) = true := by rw [bne_iff_ne]; exact h0
    have K6 := Lib.hid k6
    generalize newF [] l = NF at *
    obtain ⟨r1, er⟩ := NF
    simp only at *
    clear h0 k6 HNw
    go_wp2_with fail
    refine (H6.out _ K6.out).mono ?_
    rintro e x8 ⟨rfl, k8⟩
    have K8 := Lib.hid (K6.out.trans k8)
    clear k8 H6 K6
    go_wp2_with fail
    go_ret
    exact ⟨rfl, K8.out⟩
theorem fit_walk {w : World} (h : Fields w) {A : Option Addr} {c : Nat} {l : List Ty} (hlc : l.length ≤ c) (hcm : c ≤ maxLen) (hS : Seen w A l) (hokl : ∀ x ∈ l, x.ok) (i n v : Int) (i0 : -9223372036854775808 ≤ i) (i1 : i ≤ 9223372036854775807) :
    Calls Tryd.prog 6 #[.slice A l.length c, .int .i64 i, .int .i64 n, .int .i64 v] w fun e w' => e = .returned (.bool true) ∧ Kept [] w w' := by
  by_cases hl : (l.length : Int) > 100
  · exact fit_long h hl (Nat.le_trans hlc hcm) i n v
  · exact fit_main h hS hokl hl i n v i0 i1
end Go.Proofs.YtflcnpmampaamaaDoor.Hd
