/-
  The law ShapeTells, walked.
-/
import Derived.Test.YtpnjblledbihcaaDoorShAlive
import Derived.Test.YtpnjblledbihcaaDoorShLaid
import Derived.Test.YtpnjblledbihcaaDoorShDocOf
import Derived.Test.YtpnjblledbihcaaDoorShDocTargets
import Derived.Test.YtpnjblledbihcaaDoorShMeth
import Derived.Test.YtpnjblledbihcaaDoorGKd
import Derived.Deep.RegionHeld3
import Derived.Deep.DeepCutAuto
namespace Go.Proofs.YtpnjblledbihcaaDoor.Sh
open Go.RowKit Go.Proofs.YtpnjblledbihcaaDoor.Ar
open Go.Proofs.YtpnjblledbihcaaDoor.Hd (Hd Fields newF_fit cells4 free4 eqB run_other no_guard put4 put4_has put4_kept)
open Go.Proofs.YtpnjblledbihcaaDoor.Tb (Ty Tab Made NewPost newF newF_len cells3 free3 put3 put3_has put3_kept)
set_option linter.unusedVariables false

theorem eqB_self (a b c d : Int) : eqB a b c d a b c d = true := by unfold eqB; simp
theorem slotsOf_pairs (ws : List Int) (g : Int) (t : Ty) (sl : Nat) : slotsOf (pairs ws g t sl) = Kd.refsTo t.k t.wd t.ms sl := by
  unfold slotsOf pairs
  rw [List.map_map]
  have : ((fun x : Int × Int => x.1) ∘ fun r => (r, ws.getD (2 * g + 1 + r).toNat 0)) = id := rfl
  rw [this, List.map_id]
theorem vrefs_nil (w : World) : Calls Tryd.prog 18 #[.pointer none] w fun e w' => ∃ A c, e = .returned (.slice A 0 c) ∧ Kept [] w w' := by
  refine (vrefs_ok w none [] (.inl ⟨rfl, rfl⟩) (by decide)).mono ?_
  rintro e x ⟨v, rfl, hO, _, k⟩
  obtain ⟨A, c, rfl, _⟩ := Ir.back_own (Kept.refl [] x) hO
  exact ⟨A, c, rfl, k⟩
theorem vtargets_nil (w : World) : Calls Tryd.prog 19 #[.pointer none] w fun e w' => ∃ A c, e = .returned (.slice A 0 c) ∧ Kept [] w w' := by
  refine (vtargets_ok w none [] (.inl ⟨rfl, rfl⟩) (by decide)).mono ?_
  rintro e x ⟨v, rfl, hO, _, k⟩
  obtain ⟨A, c, rfl, _⟩ := back_own (Kept.refl [] x) hO
  exact ⟨A, c, rfl, k⟩
set_option maxRecDepth 100000 in
set_option maxHeartbeats 1000000 in
theorem tells_long {w : World} (hF : Fields w) {A B : Option Addr} {c d m k : Nat} (h : (m : Int) > 300 ∨ (k : Int) > 70) (hm : m ≤ maxLen) (hk : k ≤ maxLen) (g s : Int) :
    Calls Tryd.prog 4 #[.slice A m c, .slice B k d, .int .i64 g, .int .i64 s] w fun e w' => e = .returned (.bool true) ∧ Kept [] w w' := by
  have HAl := Lib.hid (fun y (k : Kept [] w y) => alive_ok (hF.keep0 k))
  have K0 := Lib.hid (Kept.refl [] w)
  have hm' : m ≤ 9223372036854775807 := by unfold maxLen at hm; omega
  have hk' : k ≤ 9223372036854775807 := by unfold maxLen at hk; omega
  clear hF hm hk
  by_cases h1 : (m : Int) > 300
  · clear h
    go_enter Tryd.func4, Tryd.ntmps4
    go_wp2_with fail
    refine (HAl.out _ K0.out).mono ?_
    rintro e xz ⟨rfl, kz⟩
    have Kz := Lib.hid (K0.out.trans kz)
    clear kz HAl
    go_wp2_with fail
    go_ret
    exact ⟨rfl, Kz.out⟩
  · have h2 : (k : Int) > 70 := by omega
    clear h
    go_enter Tryd.func4, Tryd.ntmps4
    go_wp2_with fail
    refine (HAl.out _ K0.out).mono ?_
    rintro e xz ⟨rfl, kz⟩
    have Kz := Lib.hid (K0.out.trans kz)
    clear kz HAl
    go_wp2_with fail
    go_ret
    exact ⟨rfl, Kz.out⟩

def Cs7 (y : World) (b23 b26 : Nat) (xg xt xn xs k wd ms : Int) : Prop :=
  y.cell? ⟨b23, 0, none⟩ = some (.int .u8 xg) ∧ y.cell? ⟨b23, 1, none⟩ = some (.int .i64 xt) ∧ y.cell? ⟨b23, 2, none⟩ = some (.int .i64 xn) ∧ y.cell? ⟨b23, 3, none⟩ = some (.int .i64 xs) ∧
  y.cell? ⟨b26, 0, none⟩ = some (.int .u8 k) ∧ y.cell? ⟨b26, 1, none⟩ = some (.int .i64 wd) ∧ y.cell? ⟨b26, 2, none⟩ = some (.int .u64 ms)
theorem cs7_of {Y : World} {b23 b26 : Nat} {xg xt xn xs k wd ms : Int} (h : Has Y b23 37 [.int .u8 xg, .int .i64 xt, .int .i64 xn, .int .i64 xs]) (t : Has Y b26 55 [.int .u8 k, .int .i64 wd, .int .u64 ms]) (z : World) (kz : Kept [] Y z) : Cs7 z b23 b26 xg xt xn xs k wd ms := by
  obtain ⟨a0, a1, a2, a3⟩ := cells4 (h.keep0 kz)
  obtain ⟨b0, b1, b2⟩ := cells3 (t.keep0 kz)
  exact ⟨a0, a1, a2, a3, b0, b1, b2⟩
set_option maxRecDepth 100000 in
set_option maxHeartbeats 16000000 in
theorem tells_main {w : World} (hF : Fields w) {A B : Option Addr} {c d : Nat} {ws : List Int} {l : List Ty} (hS : Seen w A ws) (hl : ¬ (ws.length : Int) > 300) (hw : Wm ws) (hL : Tb.Seen w B l) (hok : ∀ x ∈ l, x.ok) (hll : ¬ (l.length : Int) > 70) (g s : Int)
    (g0 : -9223372036854775808 ≤ g) (g1 : g ≤ 9223372036854775807) (s0 : -9223372036854775808 ≤ s) (s1 : s ≤ 9223372036854775807) :
    Calls Tryd.prog 4 #[.slice A ws.length c, .slice B l.length d, .int .i64 g, .int .i64 s] w fun e w' => e = .returned (.bool true) ∧ Kept [] w w' := by
  have HFd := Lib.hid hF
  have HAl := Lib.hid (fun y (k : Kept [] w y) => alive_ok (hF.keep0 k))
  have HSe := Lib.hid hS
  have HLd := Lib.hid (fun y (k : Kept [] w y) => laid_any (c := c) (hS.keep0 k))
  have HNw := Lib.hid (fun y (k : Kept [] w y) => Tb.new_ok d (hL.keep0 k) hok (by omega))
  have HDh := Lib.hid (fun y (k : Kept [] w y) => dhead_any (c := c) (hS.keep0 k) (by omega) hw.wds g)
  have HDo := Lib.hid (fun y (k : Kept [] w y) (hfit : ∀ x ∈ l, x.ok ∧ x.fit) => dof_any (c := c) (d := d) (hS.keep0 k) (by omega) hw.wds (hL.keep0 k) hfit (by omega) g)
  have Hw := Lib.hid hw
  have Hok := Lib.hid hok
  have hse := run_other
  have hng := no_guard
  have hq := eqB_self
  have HZ : Hid (∀ y : World, Has (y.alloc (.cells #[.int .u8 0, .int .i64 0, .int .i64 0, .int .i64 0] 37)) y.heap.size 37 [.int .u8 0, .int .i64 0, .int .i64 0, .int .i64 0]) := Lib.hid fun y => Hd.Hd.new y Hd.Hd.zero
  clear hF hS hw hL hok
  go_enter Tryd.func4, Tryd.ntmps4
  go_wp2_with fail
  refine (vload_nil s).mono ?_
  rintro e x1 ⟨rfl, rfl⟩
  go_wp2_with fail
  refine (ref_nil s).mono ?_
  rintro e x1 ⟨rfl, rfl⟩
  have hhn := fun y : World => head_nil (w := y) g
  unfold Hd.val Hd.zero at hhn
  simp only at hhn
  go_wp2_with fail
  refine (hhn _).mono ?_
  rintro e x1 ⟨rfl, k1⟩
  have K1 := Lib.hid (k1.alloc (.cells #[.int .u8 0, .int .i64 0, .int .i64 0, .int .i64 0] 37))
  clear k1 hhn
  go_wp2_with fail
  refine (of_nil (.pointer none) g).mono ?_
  rintro e x2 ⟨rfl, k2⟩
  have K2 := Lib.hid (K1.out.trans k2)
  clear k2 K1
  go_wp2_with fail
  refine (vstore_nil s 1).mono ?_
  rintro e x3 ⟨rfl, rfl⟩
  go_wp2_with fail
  refine (slots_nil).mono ?_
  rintro e x3 ⟨rfl, rfl⟩
  go_wp2_with fail
  refine (vrefs_nil _).mono ?_
  rintro e x3 ⟨A3, c3, rfl, k3⟩
  have K3 := Lib.hid (K2.out.trans k3)
  clear k3 K2
  go_wp2_with fail
  refine (vtargets_nil _).mono ?_
  rintro e x4 ⟨A4, c4, rfl, k4⟩
  have K4 := Lib.hid (K3.out.trans k4)
  clear k4 K3
  go_wp2_with fail
  refine (at_nil).mono ?_
  rintro e x5 ⟨rfl, rfl⟩
  have hvn := fun y : World => vhead_nil (w := y)
  unfold Hd.val Hd.zero at hvn
  simp only at hvn
  go_wp2_with fail
  refine (hvn _).mono ?_
  rintro e x5 ⟨rfl, k5⟩
  have K5 := Lib.hid (K4.out.trans k5)
  clear k5 K4 hvn
  go_wp2_with fail
  refine (HLd.out _ K5.out).mono ?_
  rintro e x6 ⟨hk6, ⟨_, rfl⟩ | ⟨_, p, q, m1, rfl, hp, hq', ha⟩⟩
  · have K6 := Lib.hid (K5.out.trans hk6)
    clear hk6 HLd K5
    go_wp2_with fail
    refine (HNw.out _ K6.out).mono ?_
    rintro e x7 (⟨_, tp, A1, c1, rfl, hm⟩ | ⟨_, rfl, k7⟩)
    · have K7 := Lib.hid (K6.out.trans hm.2.2.2)
      clear hm HNw
      go_wp2_with fail
      refine (HAl.out _ K7.out).mono ?_
      rintro e xz ⟨rfl, kz⟩
      have Kz := Lib.hid (K7.out.trans kz)
      clear kz HAl
      go_wp2_with fail
      go_ret
      exact ⟨rfl, Kz.out⟩
    · have K7 := Lib.hid (K6.out.trans k7)
      clear k7 HNw
      generalize (newF [] l).2 = ne at *
      go_wp2_with fail
      refine (HAl.out _ K7.out).mono ?_
      rintro e xz ⟨rfl, kz⟩
      have Kz := Lib.hid (K7.out.trans kz)
      clear kz HAl
      go_wp2_with fail
      go_ret
      exact ⟨rfl, Kz.out⟩
  · have K6 := Lib.hid (K5.out.trans hk6)
    have HA6 := Lib.hid (And.intro ha (And.intro (Nat.le_trans K5.out.more hp) (Nat.le_trans K5.out.more hq')))
    clear hk6 ha hp hq' HLd K5
    go_wp2_with fail
    refine (HNw.out _ K6.out).mono ?_
    rintro e x7 (⟨h0, tp, A1, c1, rfl, hm⟩ | ⟨h0, rfl, k7⟩)
    · have e1 := newF_len [] h0
      rw [List.nil_append] at e1
      have hfit := newF_fit [] h0
      have hm2 : Made x6 x7 tp A1 c1 l := by rw [e1] at hm; exact hm
      have HB := Lib.hid (both_of K6.out HA6.out.1 HA6.out.2.1 HA6.out.2.2 hm2 Hw.out)
      have hdo := fun y (k : Kept [] w y) => HDo.out y k (fun x hx => ⟨Hok.out x hx, hfit x hx⟩)
      have HDo2 := Lib.hid hdo
      clear h0 e1 hfit hm hm2 hdo HDo HNw HA6 K6 Hok
      have hhd := head_any (HFd.out.keep0 HB.out.kept) HB.out.ar.choose_spec HB.out.wm.wds g g0 g1
      have HHd := Lib.hid hhd
      clear hhd
      have HDh2 : Hid (∀ y, Kept [] w y → Calls Tryd.prog 24 #[.slice A ws.length c, .int .i64 g] y fun e w' => e = .returned (.tuple #[(hdH ws g).val, .int .i64 (hdE ws g)]) ∧ Kept [] y w') := HDh
      have HN : Hid (∀ y : World, Has (y.alloc (.cells #[.int .u8 (hdH ws g).tg, .int .i64 (hdH ws g).ty, .int .i64 (hdH ws g).ln, .int .i64 (hdH ws g).sz] 37)) y.heap.size 37 [.int .u8 (hdH ws g).tg, .int .i64 (hdH ws g).ty, .int .i64 (hdH ws g).ln, .int .i64 (hdH ws g).sz]) := Lib.hid fun y => Hd.Hd.new y _
      have HTz : Hid (∀ y : World, Has (y.alloc (.cells #[.int .u8 0, .int .i64 0, .int .u64 0] 55)) y.heap.size 55 [.int .u8 0, .int .i64 0, .int .u64 0]) := Lib.hid fun y => Has.new y _ _
      have HV : Hid (∀ y, Kept [] x7 y → Calls Tryd.prog 15 #[.pointer (some ⟨p, 0, none⟩), .pointer (some ⟨tp, 0, none⟩), .int .i64 g] y fun e z => Kept [] y z ∧ ((ofE ws l g ≠ 0 ∧ e = .returned (.tuple #[.pointer none, .int .i64 (ofE ws l g)]) ∧ Both w z p q tp A1 c1 l ws) ∨
        (ofE ws l g = 0 ∧ ∃ v, e = .returned (.tuple #[.pointer (some ⟨v, 0, none⟩), .int .i64 0]) ∧ Vw w z v p q tp A1 c1 l ws g (hdH ws g) (ofT ws l g) (ofS ws l g)))) := Lib.hid fun y k => both_view HFd.out (HB.out.keep0 k) g g0 g1
      have hee : (hdE ws g != hdE ws g) = false := by simp
      clear HDh
      unfold Hd.val at HHd HDh2
      generalize hx : hdH ws g = x at *
      generalize hE : hdE ws g = he at *
      have Hx := Lib.hid hx
      have HE := Lib.hid hE
      clear hx hE
      generalize hxg : x.tg = xg at *
      generalize hxt : x.ty = xt at *
      generalize hxn : x.ln = xn at *
      generalize hxs : x.sz = xs at *
      have Hxg := Lib.hid hxg
      have Hxt := Lib.hid hxt
      have Hxn := Lib.hid hxn
      have Hxs := Lib.hid hxs
      clear hxg hxt hxn hxs
      go_wp2_with fail
      refine HHd.out.mono ?_
      rintro e x8 ⟨rfl, k8⟩
      have K8 := Lib.hid (k8.alloc (.cells #[.int .u8 xg, .int .i64 xt, .int .i64 xn, .int .i64 xs] 37))
      have n8 := HN.out x8
      have N8 := Lib.hid n8
      clear k8 n8 HHd
      go_wp2_with fail
      generalize x8.alloc (.cells #[.int .u8 xg, .int .i64 xt, .int .i64 xn, .int .i64 xs] 37) = y8 at *
      generalize x8.heap.size = b21 at *
      refine (HDh2.out _ (HB.out.kept.trans K8.out)).mono ?_
      rintro e x9 ⟨rfl, k9⟩
      have K9 := Lib.hid (K8.out.trans (k9.alloc (.cells #[.int .u8 xg, .int .i64 xt, .int .i64 xn, .int .i64 xs] 37)))
      have n9 := (N8.out.keep0 k9).alloc (.cells #[.int .u8 xg, .int .i64 xt, .int .i64 xn, .int .i64 xs] 37)
      have m9 := HN.out x9
      have hge9 : Hid (x7.heap.size ≤ x9.heap.size) := Lib.hid (K8.out.trans k9).more
      obtain ⟨c0, c1', c2, c3'⟩ := cells4 n9
      obtain ⟨d0, d1, d2, d3⟩ := cells4 m9
      have M9 := Lib.hid m9
      clear k9 n9 m9 HDh2 K8 N8 HN
      go_wp2_with fail
      generalize x9.alloc (.cells #[.int .u8 xg, .int .i64 xt, .int .i64 xn, .int .i64 xs] 37) = y9 at *
      generalize x9.heap.size = b23 at *
      clear c0 c1' c2 c3' d0 d1 d2 d3
      refine (HV.out _ K9.out).mono ?_
      rintro e x10 ⟨k10, ⟨her, rfl, hb10⟩ | ⟨her, v, rfl, hvw⟩⟩
      · have hdo := HDo2.out x10 hb10.kept
        have hz : docH ws l g = Hd.Hd.zero ∧ docT ws l g = Tb.Ty.zero := ⟨if_neg her, if_neg her⟩
        rw [hz.1, hz.2] at hdo
        unfold Hd.val Hd.zero Tb.Ty.val Tb.Ty.zero at hdo
        simp only at hdo
        have HDo3 := Lib.hid hdo
        have HB10 := Lib.hid hb10.kept
        have M10 := Lib.hid (M9.out.keep0 k10)
        have hern : (ofE ws l g != 0) = true := by rw [bne_iff_ne]; exact her
        have here : (ofE ws l g != ofE ws l g) = false := by simp
        clear hdo hz hb10 k10 HV HDo2 M9 her
        generalize ofE ws l g = er at *
        go_wp2_with fail
        refine HDo3.out.mono ?_
        rintro e x11 ⟨rfl, k11⟩
        have m11 := (M10.out.keep0 k11).alloc (.cells #[.int .u8 0, .int .i64 0, .int .u64 0] 55)
        have t11 := HTz.out x11
        obtain ⟨d0, d1, d2, d3⟩ := cells4 m11
        obtain ⟨f0, f1, f2, f3⟩ := free4 m11
        obtain ⟨i0, i1, i2⟩ := cells3 t11
        obtain ⟨j0, j1, j2⟩ := free3 t11
        have hbb : b23 ≠ x11.heap.size := by
          have := (M10.out.keep0 k11).lt
          omega
        have K11 := Lib.hid (HB10.out.trans (k11.alloc (.cells #[.int .u8 0, .int .i64 0, .int .u64 0] 55)))
        have hge : Hid (w.heap.size ≤ b23) := Lib.hid (Nat.le_trans HB.out.kept.more hge9.out)
        have hk11 := k11.more
        clear k11 t11 HDo3 m11
        have KK := Lib.hid (put3_kept (b := x11.heap.size) (put4_kept (b := b23) K11.out (.inr hge.out) (.int .u8 0) (.int .i64 0) (.int .i64 0) (.int .i64 0)) (.inr (Nat.le_trans hge.out (Nat.le_of_lt (Nat.lt_of_lt_of_le M10.out.lt hk11)))) (.int .u8 0) (.int .i64 0) (.int .u64 0))
        go_wp2_with fail
        refine (HAl.out _ KK.out).mono ?_
        rintro e xz ⟨rfl, kz⟩
        have Kz := Lib.hid (KK.out.trans kz)
        clear kz HAl
        go_wp2_with fail
        go_ret
        exact ⟨rfl, Kz.out⟩
      · have hdo := HDo2.out x10 hvw.both.kept
        have hz : docH ws l g = x ∧ docT ws l g = ofT ws l g := ⟨by unfold docH; rw [if_pos her, Hx.out], if_pos her⟩
        obtain ⟨gn, sl, hFc⟩ := facts_of hvw.both.tab her
        rw [hz.1, hz.2, her] at hdo
        have hk := hFc.k
        have hm := hFc.ms
        have herr := hFc.err
        have hslo := hFc.slots
        have hos := hFc.slEq
        have hroom := hFc.room
        obtain rfl := hFc.gEq
        have hsl16 := (Kd.slots_bound herr).2
        rw [hslo] at hsl16
        rw [Hx.out] at herr hslo
        rw [hos] at hvw
        have hS3 : Kd.slotsR (ofT ws l (gn : Int)).k (ofT ws l (gn : Int)).wd (ofT ws l (gn : Int)).ms x.ln = (sl : Int) := by unfold Kd.slotsR; rw [if_pos herr, hslo]
        have hR3 : Kd.refsR (ofT ws l (gn : Int)).k (ofT ws l (gn : Int)).wd (ofT ws l (gn : Int)).ms x.ln = Kd.refsTo (ofT ws l (gn : Int)).k (ofT ws l (gn : Int)).wd (ofT ws l (gn : Int)).ms sl := by unfold Kd.refsR; rw [if_pos herr, hslo, Int.toNat_natCast]
        have hrfe : Kd.refE (ofT ws l (gn : Int)).k (ofT ws l (gn : Int)).wd (ofT ws l (gn : Int)).ms x.ln s = slotE (sl : Int) s := by
          unfold Kd.refE slotE
          rw [if_pos herr, hslo]
          by_cases hc : 0 ≤ s ∧ s < (sl : Int)
          · rw [if_pos hc, if_neg (by omega)]
          · rw [if_neg hc, if_pos (by omega)]
        clear hFc hz her HDo2 HV
        generalize ofT ws l (gn : Int) = tt at *
        rw [Hxn.out] at herr hslo hS3 hR3 hrfe
        have hvg : ∀ y : World, View y v p (gn : Int) x tt (sl : Int) → View y v p (gn : Int) ⟨xg, xt, xn, xs⟩ tt (sl : Int) := fun y H => ⟨by
          have := H.row
          rw [Hxg.out, Hxt.out, Hxn.out, Hxs.out] at this
          exact this⟩
        have hvw' : Vw w x10 v p q tp A1 c1 l ws (gn : Int) ⟨xg, xt, xn, xs⟩ tt (sl : Int) := ⟨hvw.both, hvg _ hvw.view, hvw.nv⟩
        clear hvw hvg
        unfold Hd.val Tb.Ty.val at hdo
        rw [Hxg.out, Hxt.out, Hxn.out, Hxs.out] at hdo
        have HDo3 := Lib.hid hdo
        have HVw10 := Lib.hid hvw'
        have M10 := Lib.hid (M9.out.keep0 k10)
        have Hfa := Lib.hid (And.intro hk (And.intro hm (And.intro herr (And.intro hslo hroom))))
        have HS3 := Lib.hid hS3
        have HR3 := Lib.hid hR3
        have Hrfe := Lib.hid hrfe
        have Hsl16 := Lib.hid hsl16
        clear hdo hvw' k10 M9 hsl16 Hx HE Hxg Hxt Hxn Hxs hk hm herr hslo hroom hS3 hR3 hrfe hos
        clear x
        have HTn : Hid (∀ (y : World) b (cs : List Value), Has y b 55 cs → b < y.heap.size) := Lib.hid fun y b cs h => h.lt
        go_wp2_with fail
        refine HDo3.out.mono ?_
        rintro e x11 ⟨rfl, k11⟩
        have m11 := (M10.out.keep0 k11).alloc (.cells #[.int .u8 0, .int .i64 0, .int .u64 0] 55)
        have t11 := HTz.out x11
        obtain ⟨d0, d1, d2, d3⟩ := cells4 m11
        obtain ⟨f0, f1, f2, f3⟩ := free4 m11
        obtain ⟨i0, i1, i2⟩ := cells3 t11
        obtain ⟨j0, j1, j2⟩ := free3 t11
        have hbb : b23 ≠ x11.heap.size := by
          have := (M10.out.keep0 k11).lt
          omega
        have hge : Hid (w.heap.size ≤ b23) := Lib.hid (Nat.le_trans HB.out.kept.more hge9.out)
        have v11 := (HVw10.out.keep0 k11).keep0 ((Kept.refl [] x11).alloc (.cells #[.int .u8 0, .int .i64 0, .int .u64 0] 55))
        have kp4 := put4_kept (b := b23) (S := [b23]) (Kept.refl [b23] (x11.alloc (.cells #[.int .u8 0, .int .i64 0, .int .u64 0] 55))) (.inl (by simp)) (.int .u8 xg) (.int .i64 xt) (.int .i64 xn) (.int .i64 xs)
        have v12 := v11.beside m11 hge.out kp4
        have m12 := put4_has m11 (.int .u8 xg) (.int .i64 xt) (.int .i64 xn) (.int .i64 xs)
        have t12 : Has (put4 b23 (.int .u8 xg) (.int .i64 xt) (.int .i64 xn) (.int .i64 xs) (x11.alloc (.cells #[.int .u8 0, .int .i64 0, .int .u64 0] 55))) x11.heap.size 55 [.int .u8 0, .int .i64 0, .int .u64 0] := (((t11.beside _ (Ne.symm hbb) _).beside _ (Ne.symm hbb) _).beside _ (Ne.symm hbb) _).beside _ (Ne.symm hbb) _
        have hkp := HVw10.out.both.kept.trans k11
        have kp3 : Kept [] x11 (put3 x11.heap.size (.int .u8 (tt.k : Int)) (.int .i64 tt.wd) (.int .u64 (tt.ms : Int)) (x11.alloc (.cells #[.int .u8 0, .int .i64 0, .int .u64 0] 55))) := put3_kept ((Kept.refl [] x11).alloc _) (.inr (Nat.le_refl _)) _ _ _
        have v13 : Vw w (put3 x11.heap.size (.int .u8 (tt.k : Int)) (.int .i64 tt.wd) (.int .u64 (tt.ms : Int)) (put4 b23 (.int .u8 xg) (.int .i64 xt) (.int .i64 xn) (.int .i64 xs) (x11.alloc (.cells #[.int .u8 0, .int .i64 0, .int .u64 0] 55)))) v p q tp A1 c1 l ws (gn : Int) ⟨xg, xt, xn, xs⟩ tt (sl : Int) := by
          refine v12.besideT t12 (Nat.le_trans hkp.more (Nat.le_refl _)) ?_ ?_
          · exact put3_kept (Kept.refl _ _) (.inl (by simp)) _ _ _
          · intro g hg e
            subst e
            have := own_lt (HVw10.out.both.tab.keep0 k11).own _ hg
            omega
        have m13 : Has (put3 x11.heap.size (.int .u8 (tt.k : Int)) (.int .i64 tt.wd) (.int .u64 (tt.ms : Int)) (put4 b23 (.int .u8 xg) (.int .i64 xt) (.int .i64 xn) (.int .i64 xs) (x11.alloc (.cells #[.int .u8 0, .int .i64 0, .int .u64 0] 55)))) b23 37 [.int .u8 xg, .int .i64 xt, .int .i64 xn, .int .i64 xs] := ((m12.beside _ hbb _).beside _ hbb _).beside _ hbb _
        have t13 := put3_has t12 (.int .u8 (tt.k : Int)) (.int .i64 tt.wd) (.int .u64 (tt.ms : Int))
        have HV13 := Lib.hid v13
        have HM13 := Lib.hid m13
        have HT13 := Lib.hid t13
        clear k11 t11 HDo3 m11 v11 kp4 v12 m12 t12 hkp kp3 v13 m13 t13
        go_wp2_with fail
        clear d0 d1 d2 d3 f0 f1 f2 f3 i0 i1 i2 j0 j1 j2 hbb hge
        unfold put3 put4 at HV13 HM13 HT13
        generalize (((((((x11.alloc (.cells #[.int .u8 0, .int .i64 0, .int .u64 0] 55)).setCell ⟨b23, 0, none⟩ (.int .u8 xg)).setCell ⟨b23, 1, none⟩ (.int .i64 xt)).setCell ⟨b23, 2, none⟩ (.int .i64 xn)).setCell ⟨b23, 3, none⟩ (.int .i64 xs)).setCell ⟨x11.heap.size, 0, none⟩ (.int .u8 (tt.k : Int))).setCell ⟨x11.heap.size, 1, none⟩ (.int .i64 tt.wd)).setCell ⟨x11.heap.size, 2, none⟩ (.int .u64 (tt.ms : Int)) = y13 at *
        generalize x11.heap.size = b26 at *
        obtain ⟨hk, hm, herr, hslo, hroom⟩ := Hfa.out
        have hds := fun y => Kd.slotsDoc_ok tt.k tt.wd tt.ms xn hm y
        simp only [HS3.out, herr] at hds
        unfold Kd.typV at hds
        have hdr := fun y => Kd.refsDoc_ok tt.k tt.wd tt.ms xn hm y
        unfold Kd.RefsPost Kd.typV at hdr
        simp only [HR3.out, herr] at hdr
        have HDs := Lib.hid hds
        have HDr := Lib.hid hdr
        have hpl := pairs_length ws (gn : Int) tt sl
        have HPl : Hid ((pairs ws (gn : Int) tt sl).length ≤ 65536) := Lib.hid (by have := Hsl16.out; omega)
        have hrl := Kd.refsTo_length tt.k tt.wd tt.ms sl
        have HRl : Hid ((Kd.refsTo tt.k tt.wd tt.ms sl).length ≤ 65536) := Lib.hid (by have := Hsl16.out; omega)
        have htl := wordsOf_length (pairs ws (gn : Int) tt sl)
        have HTl : Hid ((wordsOf (pairs ws (gn : Int) tt sl)).length ≤ 65536) := Lib.hid (by have := HPl.out; omega)
        have hsp := slotsOf_pairs ws (gn : Int) tt sl
        have HVr : Hid (∀ y, Kept [] y13 y → Calls Tryd.prog 18 #[.pointer (some ⟨v, 0, none⟩)] y fun e z => ∃ A c, e = .returned (.slice A (Kd.refsTo tt.k tt.wd tt.ms sl).length c) ∧ Ir.Seen z A (Kd.refsTo tt.k tt.wd tt.ms sl) ∧ Kept [] y z) := Lib.hid fun y k => by
          have h := vrefs_ok y _ _ (src_of (HV13.out.keep0 k) rfl hk hm herr hslo hroom) HPl.out
          rw [hsp] at h
          refine h.mono ?_
          rintro e z ⟨v, rfl, hO, _, k⟩
          obtain ⟨A, c, rfl, hb⟩ := Ir.back_own k hO
          exact ⟨A, c, rfl, hb.2.1, k⟩
        have HVt : Hid (∀ y, Kept [] y13 y → Calls Tryd.prog 19 #[.pointer (some ⟨v, 0, none⟩)] y fun e z => ∃ A c, e = .returned (.slice A (wordsOf (pairs ws (gn : Int) tt sl)).length c) ∧ Seen z A (wordsOf (pairs ws (gn : Int) tt sl)) ∧ Kept [] y z) := Lib.hid fun y k => by
          refine (vtargets_ok y _ _ (src_of (HV13.out.keep0 k) rfl hk hm herr hslo hroom) HPl.out).mono ?_
          rintro e z ⟨v, rfl, hO, _, k⟩
          obtain ⟨A, c, rfl, hb⟩ := back_own k hO
          exact ⟨A, c, rfl, hb.2.1, k⟩
        have HDt : Hid (∀ y, Kept [] y13 y → Calls Tryd.prog 30 #[.slice A ws.length c, .agg #[.int .u8 (tt.k : Int), .int .i64 tt.wd, .int .u64 (tt.ms : Int)], .agg #[.int .u8 xg, .int .i64 xt, .int .i64 xn, .int .i64 xs], .int .i64 (gn : Int)] y fun e z => ∃ A c, e = .returned (.slice A (wordsOf (pairs ws (gn : Int) tt sl)).length c) ∧ Seen z A (wordsOf (pairs ws (gn : Int) tt sl)) ∧ Kept [] y z) := Lib.hid fun y k => by
          refine (dtargets_any (c := c) (HSe.out.keep0 (HV13.out.both.kept.trans k)) tt ⟨xg, xt, xn, xs⟩ gn sl hm herr hslo hroom (by omega)).mono ?_
          rintro e z ⟨v, rfl, hO, k⟩
          obtain ⟨A, c, rfl, hb⟩ := back_own k hO
          exact ⟨A, c, rfl, hb.2.1, k⟩
        have HVf : Hid (∀ y, Kept [] y13 y → Calls Tryd.prog 13 #[.pointer (some ⟨v, 0, none⟩), .int .i64 s] y fun e z => e = .returned (.tuple #[.bool (Kd.refB tt.k tt.wd tt.ms xn s), .int .i64 (slotE (sl : Int) s)]) ∧ Kept [] y z) := Lib.hid fun y k => by
          have := vref_ok (HV13.out.keep0 k).view s hk hm
          simp only at this
          rw [Hrfe.out] at this
          exact this
        have HDf : Hid (∀ y, Calls Tryd.prog 31 #[.agg #[.int .u8 (tt.k : Int), .int .i64 tt.wd, .int .u64 (tt.ms : Int)], .int .i64 xn, .int .i64 s] y fun e z => e = .returned (.tuple #[.bool (Kd.refB tt.k tt.wd tt.ms xn s), .int .i64 (slotE (sl : Int) s)]) ∧ Kept [] y z) := Lib.hid fun y => by
          have := Kd.refDoc_ok tt.k tt.wd tt.ms xn s hm y
          rw [Hrfe.out] at this
          exact this
        have HVl : Hid (∀ y, Kept [] y13 y → Calls Tryd.prog 12 #[.pointer (some ⟨v, 0, none⟩), .int .i64 s] y fun e z => e = .returned (.tuple #[.int .u64 (vloadV ws (gn : Int) (sl : Int) s), .int .i64 (slotE (sl : Int) s)]) ∧ y = z) := Lib.hid fun y k => by
          obtain ⟨m, ha⟩ := (HV13.out.keep0 k).both.ar
          exact vload_ok (HV13.out.keep0 k).view ha s (by omega) (by omega) (by omega)
        have hroom' : Hid (2 * gn + 1 + sl ≤ ws.length) := Lib.hid hroom
        clear hds hdr hk hm herr hslo hroom hpl hrl htl hsp Hfa HS3 HR3 Hrfe
        generalize Kd.refsTo tt.k tt.wd tt.ms sl = R at *
        generalize wordsOf (pairs ws (gn : Int) tt sl) = T at *
        refine (HDs.out _).mono ?_
        rintro e x14 ⟨rfl, k14⟩
        have K14 := Lib.hid k14
        obtain ⟨d0, d1, d2, d3⟩ := cells4 (HM13.out.keep0 k14)
        obtain ⟨i0, i1, i2⟩ := cells3 (HT13.out.keep0 k14)
        clear k14 HDs
        go_wp2_with fail
        refine (HDr.out _).mono ?_
        rintro e x15 ⟨v15, rfl, hO15, k15⟩
        obtain ⟨B2, cb2, rfl, hbk⟩ := Ir.back_own k15 hO15
        have HS15 := Lib.hid hbk.2.1
        have K15 := Lib.hid (K14.out.trans k15)
        clear d0 d1 d2 d3 i0 i1 i2 hO15 hbk k15 HDr K14
        have cells : Hid (∀ z, Kept [] x15 z → Cs7 z b23 b26 xg xt xn xs (tt.k : Int) tt.wd (tt.ms : Int)) := Lib.hid (cs7_of (HM13.out.keep0 K15.out) (HT13.out.keep0 K15.out))
        have hvh := fun y (k : Kept [] y13 y) => vhead_ok (HV13.out.keep0 k).view
        unfold Hd.val at hvh
        simp only at hvh
        have C1 : Hid (∀ y, Kept [] x15 y → Calls Tryd.prog 20 #[.pointer (some ⟨v, 0, none⟩)] y fun e z => e = .returned (.int .i64 (gn : Int)) ∧ Kept [] x15 z ∧ Cs7 z b23 b26 xg xt xn xs (tt.k : Int) tt.wd (tt.ms : Int)) :=
          Lib.hid fun y hy => (at_ok (HV13.out.keep0 (K15.out.trans hy)).view).mono fun e z ⟨he, hk⟩ => ⟨he, by rw [← hk]; exact hy, by rw [← hk]; exact cells.out y hy⟩
        have C2 : Hid (∀ x y, Kept [] x15 x → Kept [] x y → Calls Tryd.prog 21 #[.pointer (some ⟨v, 0, none⟩)] y fun e z => e = .returned (.agg #[.int .u8 xg, .int .i64 xt, .int .i64 xn, .int .i64 xs]) ∧ Kept [] x15 z ∧ Cs7 z b23 b26 xg xt xn xs (tt.k : Int) tt.wd (tt.ms : Int)) :=
          Lib.hid fun x y hx hy => (hvh y (K15.out.trans (hx.trans hy))).mono fun e z ⟨he, hk⟩ => ⟨he, (hx.trans hy).trans hk, cells.out z ((hx.trans hy).trans hk)⟩
        have C3 : Hid (∀ x y, Kept [] x15 x → Kept [] x y → Calls Tryd.prog 17 #[.pointer (some ⟨v, 0, none⟩)] y fun e z => e = .returned (.int .i64 (sl : Int)) ∧ Kept [] x15 z ∧ Cs7 z b23 b26 xg xt xn xs (tt.k : Int) tt.wd (tt.ms : Int)) :=
          Lib.hid fun x y hx hy => (slots_ok (HV13.out.keep0 (K15.out.trans (hx.trans hy))).view).mono fun e z ⟨he, hk⟩ => ⟨he, by rw [← hk]; exact hx.trans hy, by rw [← hk]; exact cells.out y (hx.trans hy)⟩
        have C4 : Hid (∀ x y, Kept [] x15 x → Kept [] x y → Calls Tryd.prog 18 #[.pointer (some ⟨v, 0, none⟩)] y fun e z => ∃ A c, e = .returned (.slice A R.length c) ∧ Ir.Seen z A R ∧ Kept [] x15 z ∧ Cs7 z b23 b26 xg xt xn xs (tt.k : Int) tt.wd (tt.ms : Int)) :=
          Lib.hid fun x y hx hy => (HVr.out y (K15.out.trans (hx.trans hy))).mono fun e z ⟨A, c, he, hs, hk⟩ => ⟨A, c, he, hs, (hx.trans hy).trans hk, cells.out z ((hx.trans hy).trans hk)⟩
        have C5 : Hid (∀ A c x y, Ir.Seen x A R → Kept [] x15 x → Kept [] x y → Calls Tryd.prog 28 #[.slice A R.length c, .slice B2 R.length cb2] y fun e z => e = .returned (.bool true) ∧ Kept [] x15 z ∧ Cs7 z b23 b26 xg xt xn xs (tt.k : Int) tt.wd (tt.ms : Int)) :=
          Lib.hid fun A c x y hs hx hy => by
            have h := Kd.same_any A B2 R R c cb2 y (hs.keep0 hy) (HS15.out.keep0 (hx.trans hy)) (by have := HRl.out; omega) (by have := HRl.out; omega)
            rw [decide_eq_true rfl] at h
            exact h.mono fun e z ⟨he, k, hz⟩ => by
              have hk : Kept [] x15 z := by rw [hz]; exact (hx.trans hy).drewN k
              exact ⟨he, hk, cells.out z hk⟩
        have C6 : Hid (∀ x y, Kept [] x15 x → Kept [] x y → Calls Tryd.prog 19 #[.pointer (some ⟨v, 0, none⟩)] y fun e z => ∃ A c, e = .returned (.slice A T.length c) ∧ Seen z A T ∧ Kept [] x15 z ∧ Cs7 z b23 b26 xg xt xn xs (tt.k : Int) tt.wd (tt.ms : Int)) :=
          Lib.hid fun x y hx hy => (HVt.out y (K15.out.trans (hx.trans hy))).mono fun e z ⟨A, c, he, hs, hk⟩ => ⟨A, c, he, hs, (hx.trans hy).trans hk, cells.out z ((hx.trans hy).trans hk)⟩
        have C7 : Hid (∀ A0 x y, Seen x A0 T → Kept [] x15 x → Kept [] x y → Calls Tryd.prog 30 #[.slice A ws.length c, .agg #[.int .u8 (tt.k : Int), .int .i64 tt.wd, .int .u64 (tt.ms : Int)], .agg #[.int .u8 xg, .int .i64 xt, .int .i64 xn, .int .i64 xs], .int .i64 (gn : Int)] y fun e z => ∃ A c, e = .returned (.slice A T.length c) ∧ Seen z A T ∧ Seen z A0 T ∧ Kept [] x15 z ∧ Cs7 z b23 b26 xg xt xn xs (tt.k : Int) tt.wd (tt.ms : Int)) :=
          Lib.hid fun A0 x y h0 hx hy => (HDt.out y (K15.out.trans (hx.trans hy))).mono fun e z ⟨A, c, he, hs, hk⟩ => ⟨A, c, he, hs, h0.keep0 (hy.trans hk), (hx.trans hy).trans hk, cells.out z ((hx.trans hy).trans hk)⟩
        have C8 : Hid (∀ A0 c0 A2 c2 x y, Seen x A0 T → Seen x A2 T → Kept [] x15 x → Kept [] x y → Calls Tryd.prog 29 #[.slice A0 T.length c0, .slice A2 T.length c2] y fun e z => e = .returned (.bool true) ∧ Kept [] x15 z ∧ Cs7 z b23 b26 xg xt xn xs (tt.k : Int) tt.wd (tt.ms : Int)) :=
          Lib.hid fun A0 c0 A2 c2 x y h0 h2 hx hy => by
            have h := sameW_any A0 A2 T T c0 c2 y (h0.keep0 hy) (h2.keep0 hy) (by have := HTl.out; omega) (by have := HTl.out; omega)
            rw [sameB_self] at h
            exact h.mono fun e z ⟨he, k, hz⟩ => by
              have hk : Kept [] x15 z := by rw [hz]; exact (hx.trans hy).drewN k
              exact ⟨he, hk, cells.out z hk⟩
        obtain ⟨q0, q1, q2, q3, q4, q5, q6⟩ := cells.out x15 (Kept.refl _ _)
        have gg : ((gn : Int) != (gn : Int)) = false := by simp
        have gs : ((sl : Int) != (sl : Int)) = false := by simp
        have hM15 := Lib.hid (HM13.out.keep0 K15.out)
        have hT15 := Lib.hid (HT13.out.keep0 K15.out)
        clear hvh cells HVr HVt HDt HS15
        go_upto_region 26 with fail
        go_cut [223] (fun vv wx => Hid (vv = .bool false ∧ Kept [] x15 wx))
        case first =>
          go_region_held3 (fun y => y.cell? ⟨b23, 0, none⟩ = some (.int .u8 xg) ∧ y.cell? ⟨b23, 1, none⟩ = some (.int .i64 xt) ∧ y.cell? ⟨b23, 2, none⟩ = some (.int .i64 xn) ∧ y.cell? ⟨b23, 3, none⟩ = some (.int .i64 xs) ∧ y.cell? ⟨b26, 0, none⟩ = some (.int .u8 (tt.k : Int)) ∧ y.cell? ⟨b26, 1, none⟩ = some (.int .i64 tt.wd) ∧ y.cell? ⟨b26, 2, none⟩ = some (.int .u64 (tt.ms : Int))) (go_keep)
            (first
              | (go_at_call 20; refine (C1.out _ ?_).mono ?_; (first | exact Kept.refl _ _ | exact (Kept.refl _ _).drewN _); rintro e z1 ⟨rfl, hz1, r10, r11, r12, r13, r14, r15, r16⟩)
              | (go_at_call 21; refine (C2.out _ _ hz1 ?_).mono ?_; (first | exact Kept.refl _ _ | exact (Kept.refl _ _).drewN _); rintro e z2 ⟨rfl, hz2, r20, r21, r22, r23, r24, r25, r26⟩)
              | (go_at_call 17; refine (C3.out _ _ hz2 ?_).mono ?_; (first | exact Kept.refl _ _ | exact (Kept.refl _ _).drewN _); rintro e z3 ⟨rfl, hz3, r30, r31, r32, r33, r34, r35, r36⟩)
              | (go_at_call 18; refine (C4.out _ _ hz3 ?_).mono ?_; (first | exact Kept.refl _ _ | exact (Kept.refl _ _).drewN _); rintro e z4 ⟨A4', c4', rfl, ss4, hz4, r40, r41, r42, r43, r44, r45, r46⟩)
              | (go_at_call 28; refine (C5.out _ _ _ _ ss4 hz4 ?_).mono ?_; (first | exact Kept.refl _ _ | exact (Kept.refl _ _).drewN _); rintro e z5 ⟨rfl, hz5, r50, r51, r52, r53, r54, r55, r56⟩)
              | (go_at_call 19; refine (C6.out _ _ hz5 ?_).mono ?_; (first | exact Kept.refl _ _ | exact (Kept.refl _ _).drewN _); rintro e z6 ⟨A6', c6', rfl, ss6, hz6, r60, r61, r62, r63, r64, r65, r66⟩)
              | (go_at_call 30; refine (C7.out _ _ _ ss6 hz6 ?_).mono ?_; (first | exact Kept.refl _ _ | exact (Kept.refl _ _).drewN _); rintro e z7 ⟨A7', c7', rfl, ss7, ss76, hz7, r70, r71, r72, r73, r74, r75, r76⟩)
              | (go_at_call 29; refine (C8.out _ _ _ _ _ _ ss76 ss7 hz7 ?_).mono ?_; (first | exact Kept.refl _ _ | exact (Kept.refl _ _).drewN _); rintro e z8 ⟨rfl, hz8, r80, r81, r82, r83, r84, r85, r86⟩))
          all_goals go_wp2_with fail
          all_goals go_meet
          all_goals exact Lib.hid ⟨rfl, hz8⟩
        case rest =>
          obtain ⟨hv223, hz8⟩ := hcut.out
          subst hv223
          clear hcut
          have K16 := Lib.hid (K15.out.trans hz8)
          have hz := Lib.hid hz8
          clear C1 C2 C3 C4 C5 C6 C7 C8 hz8 q0 q1 q2 q3 q4 q5 q6
          by_cases hc : 0 ≤ s ∧ s < (sl : Int)
          · have hE : slotE (sl : Int) s = 0 := if_pos hc
            obtain ⟨sn, rfl⟩ := Int.eq_ofNat_of_zero_le hc.1
            have hv : vloadV ws (gn : Int) (sl : Int) (sn : Int) = ws.getD (2 * gn + 1 + sn) 0 := by
              unfold vloadV
              rw [if_pos hc]
              congr 1 <;> omega
            have hidx : 2 * gn + 1 + sn < ws.length := by have := hroom'.out; omega
            obtain ⟨ba, fa, rfl, hcell⟩ := HSe.out.later (by rintro rfl; simp at hidx)
            have HC := Lib.hid hcell
            rw [hE] at HVf HDf HVl
            rw [hv] at HVl
            clear hE hv hc hcell
            generalize Kd.refB tt.k tt.wd tt.ms xn (sn : Int) = rb at *
            have hrb : (rb != rb) = false := by simp
            go_wp2_with fail
            refine (HVf.out _ K16.out).mono ?_
            rintro e x16 ⟨rfl, k16⟩
            have K17 := Lib.hid (K16.out.trans k16)
            obtain ⟨d0, d1, d2, d3⟩ := cells4 (hM15.out.keep0 (hz.out.trans k16))
            obtain ⟨i0, i1, i2⟩ := cells3 (hT15.out.keep0 (hz.out.trans k16))
            clear k16 K16 HVf
            go_wp2_with fail
            refine (HDf.out _).mono ?_
            rintro e x17 ⟨rfl, k17⟩
            have K18 := Lib.hid (K17.out.trans k17)
            clear k17 K17 HDf d0 d1 d2 d3 i0 i1 i2
            have ca := HC.out _ (HV13.out.both.kept.trans K18.out) (2 * gn + 1 + sn) hidx
            have HWd := Lib.hid (words_any (HV13.out.keep0 K18.out).both.ar.choose_spec)
            generalize ws.getD (2 * gn + 1 + sn) 0 = u at *
            go_wp2_with fail
            refine (HVl.out _ K18.out).mono ?_
            rintro e x18 ⟨rfl, rfl⟩
            go_wp2_with fail
            refine HWd.out.mono ?_
            rintro e x19 ⟨A19, rfl, hs19, k19⟩
            have hsm := sameW_any A19 _ ws ws ws.length c x19 hs19 (HSe.out.keep0 (HV13.out.both.kept.trans (K18.out.trans k19))) (by omega) (by omega)
            rw [sameB_self] at hsm
            have HSm := Lib.hid hsm
            have K19 := Lib.hid (HV13.out.both.kept.trans (K18.out.trans k19))
            clear hsm hs19 k19 HWd
            go_wp2_with fail
            refine HSm.out.mono ?_
            rintro e x20 ⟨rfl, k, rfl⟩
            have K20 := Lib.hid (K19.out.trans ((Kept.refl [] x19).drewN k))
            clear HSm
            generalize x19.drewN k = x20 at *
            go_wp2_with fail
            refine (HAl.out _ K20.out).mono ?_
            rintro e xz ⟨rfl, kz⟩
            have Kz := Lib.hid (K20.out.trans kz)
            clear kz HAl
            go_wp2_with fail
            go_ret
            exact ⟨rfl, Kz.out⟩
          · have hE : slotE (sl : Int) s = 2 := if_neg hc
            rw [hE] at HVf HDf HVl
            clear hE hc
            generalize Kd.refB tt.k tt.wd tt.ms xn s = rb at *
            generalize vloadV ws (gn : Int) (sl : Int) s = u at *
            have hrb : (rb != rb) = false := by simp
            go_wp2_with fail
            refine (HVf.out _ K16.out).mono ?_
            rintro e x16 ⟨rfl, k16⟩
            have K17 := Lib.hid (K16.out.trans k16)
            obtain ⟨d0, d1, d2, d3⟩ := cells4 (hM15.out.keep0 (hz.out.trans k16))
            obtain ⟨i0, i1, i2⟩ := cells3 (hT15.out.keep0 (hz.out.trans k16))
            clear k16 K16 HVf
            go_wp2_with fail
            refine (HDf.out _).mono ?_
            rintro e x17 ⟨rfl, k17⟩
            have K18 := Lib.hid (K17.out.trans k17)
            clear k17 K17 HDf d0 d1 d2 d3 i0 i1 i2
            have HWd := Lib.hid (words_any (HV13.out.keep0 K18.out).both.ar.choose_spec)
            go_wp2_with fail
            refine (HVl.out _ K18.out).mono ?_
            rintro e x18 ⟨rfl, rfl⟩
            go_wp2_with fail
            refine HWd.out.mono ?_
            rintro e x19 ⟨A19, rfl, hs19, k19⟩
            have hsm := sameW_any A19 _ ws ws ws.length c x19 hs19 (HSe.out.keep0 (HV13.out.both.kept.trans (K18.out.trans k19))) (by omega) (by omega)
            rw [sameB_self] at hsm
            have HSm := Lib.hid hsm
            have K19 := Lib.hid (HV13.out.both.kept.trans (K18.out.trans k19))
            clear hsm hs19 k19 HWd
            go_wp2_with fail
            refine HSm.out.mono ?_
            rintro e x20 ⟨rfl, k, rfl⟩
            have K20 := Lib.hid (K19.out.trans ((Kept.refl [] x19).drewN k))
            clear HSm
            generalize x19.drewN k = x20 at *
            go_wp2_with fail
            refine (HAl.out _ K20.out).mono ?_
            rintro e xz ⟨rfl, kz⟩
            have Kz := Lib.hid (K20.out.trans kz)
            clear kz HAl
            go_wp2_with fail
            go_ret
            exact ⟨rfl, Kz.out⟩
    · have hbn : ((newF [] l).2 != 0) = true := by rw [bne_iff_ne]; exact h0
      have K7 := Lib.hid (K6.out.trans k7)
      clear k7 HNw h0
      generalize (newF [] l).2 = ne at *
      go_wp2_with fail
      refine (HAl.out _ K7.out).mono ?_
      rintro e xz ⟨rfl, kz⟩
      have Kz := Lib.hid (K7.out.trans kz)
      clear kz HAl
      go_wp2_with fail
      go_ret
      exact ⟨rfl, Kz.out⟩
theorem tells_walk {w : World} (hF : Fields w) {A B : Option Addr} {c d : Nat} {ws : List Int} {l : List Ty} (hlc : ws.length ≤ c) (hcm : c ≤ maxLen) (hS : Seen w A ws) (hw : Wm ws) (hld : l.length ≤ d) (hdm : d ≤ maxLen) (hL : Tb.Seen w B l) (hok : ∀ x ∈ l, x.ok) (g s : Int)
    (g0 : -9223372036854775808 ≤ g) (g1 : g ≤ 9223372036854775807) (s0 : -9223372036854775808 ≤ s) (s1 : s ≤ 9223372036854775807) :
    Calls Tryd.prog 4 #[.slice A ws.length c, .slice B l.length d, .int .i64 g, .int .i64 s] w fun e w' => e = .returned (.bool true) ∧ Kept [] w w' := by
  by_cases h : (ws.length : Int) > 300 ∨ (l.length : Int) > 70
  · exact tells_long hF h (Nat.le_trans hlc hcm) (Nat.le_trans hld hdm) g s
  · exact tells_main hF hS (fun hh => h (.inl hh)) hw hL hok (fun hh => h (.inr hh)) g s g0 g1 s0 s1
end Go.Proofs.YtpnjblledbihcaaDoor.Sh
