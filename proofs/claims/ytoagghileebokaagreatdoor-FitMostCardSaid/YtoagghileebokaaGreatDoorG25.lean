/-
  Several texts in one: SpPut, SpPutNo, SpPutYes, SpStep.
-/
import Derived.Test.YtoagghileebokaaGreatDoorG24
import Derived.Test.YtoagghileebokaaGreatDoorG21
import Derived.Lib.QuietBelow
import Derived.Deep.RegionWith
import Derived.StillTail
import Derived.StillTailTactics
import Derived.Deep.RegionHeld3
import Derived.Test.YtoagghileebokaaGreatDoorG32
/-
  The contract of Put.
-/
namespace Go.Proofs.YtoagghileebokaaGreatDoor.Sp
open Go.RowKit Go.Proofs.YtoagghileebokaaGreatDoor.Ar Go.Proofs.YtoagghileebokaaGreatDoor.Sh Go.Sort
open Go.Proofs.YtoagghileebokaaGreatDoor.Hd (Hd Fields cells4 free4 ofL of_tab of_facts)
open Go.Proofs.YtoagghileebokaaGreatDoor.Tb (Ty Tab blk sizeE)
open Go.Proofs.YtoagghileebokaaGreatDoor.Bt (Bv atI prevO nextO)
open Go.Proofs.YtoagghileebokaaGreatDoor.Wd (Table)
set_option linter.unusedVariables false
section
variable {w : World} {s : Ids} {l : List Ty} {ws : List Int} {bs : List Bool}
set_option maxRecDepth 100000 in
theorem put_err (hG : Glob0 w s) (h : Spc w s l ws bs) (g i n : Int) (i0 : -9223372036854775808 ≤ i) (i1 : i ≤ 9223372036854775807) (he : sizeE l i n ≠ 0) :
    Calls Tryz.prog 28 #[.pointer (some ⟨s.sp, 0, none⟩), .int .i64 g, .int .i64 i, .int .i64 n] w fun e w' => e = .returned (.int .i64 (sizeE l i n)) ∧ Kept [] w w' := by
  obtain ⟨c0, c1, c2⟩ := h.cells
  have HO := Lib.hid (of_tab h.tab i n i0 i1)
  have hb : (sizeE l i n != 0) = true := by rw [bne_iff_ne]; exact he
  unfold Hd.val at HO
  clear h hG he
  generalize sizeE l i n = er at *
  generalize ofL l i n = x at *
  generalize x.tg = xg at *
  generalize x.ty = xt at *
  generalize x.ln = xn at *
  generalize x.sz = xs at *
  go_enter Tryz.func28, Tryz.ntmps28
  go_wp2_with fail
  refine HO.out.mono ?_
  rintro e w1 ⟨rfl, hk⟩
  have HK := Lib.hid (hk.alloc (.cells #[.int .u8 xg, .int .i64 xt, .int .i64 xn, .int .i64 xs] 49))
  clear hk HO
  go_wp2_with fail
  go_ret
  exact ⟨rfl, HK.out⟩
set_option maxRecDepth 100000 in
set_option maxHeartbeats 1000000 in
theorem put_out (hG : Glob0 w s) (h : Spc w s l ws bs) (g i n : Int) (g0 : -9223372036854775808 ≤ g) (g1 : g ≤ 9223372036854775807) (i0 : -9223372036854775808 ≤ i) (i1 : i ≤ 9223372036854775807) (he : sizeE l i n = 0) (ho : g < 0 ∨ gran ws ≤ g) :
    Calls Tryz.prog 28 #[.pointer (some ⟨s.sp, 0, none⟩), .int .i64 g, .int .i64 i, .int .i64 n] w fun e w' => e = .returned (.int .i64 2) ∧ Kept [] w w' := by
  obtain ⟨c0, c1, c2⟩ := h.cells
  have hsh := h.short
  have hgr : 0 ≤ gran ws ∧ gran ws ≤ 32768 := by unfold gran; omega
  have HO := Lib.hid (of_tab h.tab i n i0 i1)
  rw [he] at HO
  have HGr := Lib.hid (fun y (k : Kept [] w y) => granules_ok (h.keep0 k))
  unfold Hd.val at HO
  clear h hG he
  generalize gran ws = G at *
  generalize ofL l i n = x at *
  generalize x.tg = xg at *
  generalize x.ty = xt at *
  generalize x.ln = xn at *
  generalize x.sz = xs at *
  by_cases hg : g < 0
  · clear ho
    go_enter Tryz.func28, Tryz.ntmps28
    go_wp2_with fail
    refine HO.out.mono ?_
    rintro e w1 ⟨rfl, hk⟩
    have HK := Lib.hid (hk.alloc (.cells #[.int .u8 xg, .int .i64 xt, .int .i64 xn, .int .i64 xs] 49))
    clear hk HO
    go_wp2_with fail
    go_ret
    exact ⟨rfl, HK.out⟩
  · have hge : G ≤ g := by omega
    clear ho
    go_enter Tryz.func28, Tryz.ntmps28
    go_wp2_with fail
    refine HO.out.mono ?_
    rintro e w1 ⟨rfl, hk⟩
    have HK := Lib.hid (hk.alloc (.cells #[.int .u8 xg, .int .i64 xt, .int .i64 xn, .int .i64 xs] 49))
    clear hk HO
    go_wp2_with fail
    refine (HGr.out _ HK.out).mono ?_
    rintro e w2 ⟨rfl, rfl⟩
    go_wp2_with fail
    go_ret
    exact ⟨rfl, HK.out⟩
end
end Go.Proofs.YtoagghileebokaaGreatDoor.Sp

/-
  The contract of Put where the granule is one of the space's: there is no room, or there is.
-/
namespace Go.Proofs.YtoagghileebokaaGreatDoor.Sp
open Go.RowKit Go.Proofs.YtoagghileebokaaGreatDoor.Ar Go.Proofs.YtoagghileebokaaGreatDoor.Sh Go.Sort
open Go.Proofs.YtoagghileebokaaGreatDoor.Hd (Hd Fields cells4 free4 ofL of_tab of_facts)
open Go.Proofs.YtoagghileebokaaGreatDoor.Tb (Ty Tab blk sizeE)
open Go.Proofs.YtoagghileebokaaGreatDoor.Bt (Bv atI prevO nextO)
open Go.Proofs.YtoagghileebokaaGreatDoor.Wd (Table)
set_option linter.unusedVariables false
section
variable {w : World} {s : Ids} {l : List Ty} {ws : List Int} {bs : List Bool}
set_option maxRecDepth 100000 in
set_option maxHeartbeats 4000000 in
theorem put_none (hG : Glob0 w s) (h : Spc w s l ws bs) (g i n : Int) (i0 : -9223372036854775808 ≤ i) (i1 : i ≤ 9223372036854775807) (he : sizeE l i n = 0) (g0 : 0 ≤ g) (g1 : g < gran ws)
    (cs : List Cel) (hC : Scans ws l (atI (prevO bs g)) cs) (x : Cel) (hgp : gapO cs g = some x) (x0 : 0 ≤ x.a ∧ x.a ≤ 100000) (x1 : 1 ≤ x.h.sz ∧ x.h.sz ≤ 100000)
    (hx : x.h.tg = 1 ∨ x.a + x.h.sz - g < (ofL l i n).sz) :
    Calls Tryz.prog 28 #[.pointer (some ⟨s.sp, 0, none⟩), .int .i64 g, .int .i64 i, .int .i64 n] w fun e w' => e = .returned (.int .i64 3) ∧ Kept [] w w' := by
  obtain ⟨c0, c1, c2⟩ := h.cells
  have hsh := h.short
  have hgr : 0 ≤ gran ws ∧ gran ws ≤ 32768 := by unfold gran; omega
  obtain ⟨sz, ho, s1, s2, j0, j1, n0, n1⟩ := of_facts he h.tab.len
  have HO := Lib.hid (of_tab h.tab i n i0 i1)
  have HGr := Lib.hid (fun y (k : Kept [] w y) => granules_ok (h.keep0 k))
  have HGp := Lib.hid (fun y (k : Kept [] w y) => gap_ok (hG.keep0 k).f (h.keep0 k) g (by omega) (by omega) cs hC)
  rw [hgp] at HGp
  rw [ho, he] at HO
  rw [ho] at hx
  have HN : Hid (∀ y : World, Has (y.alloc (.cells #[.int .u8 1, .int .i64 i, .int .i64 n, .int .i64 sz] 49)) y.heap.size 49 [.int .u8 1, .int .i64 i, .int .i64 n, .int .i64 sz]) := Lib.hid fun y => Has.new y _ _
  have HBh := Lib.hid (fun X => behind_ok x (by omega) (by omega) (by omega) (by omega) X)
  unfold Hd.val at HO
  unfold gapC gapB Option.getD at HGp
  obtain ⟨xa, ⟨xt, xy, xl, xz⟩⟩ := x
  have HNc : Hid (∀ y : World, Has (y.alloc (.cells #[.int .i64 xa, .int .u8 xt, .int .i64 xy, .int .i64 xl, .int .i64 xz] 51)) y.heap.size 51 [.int .i64 xa, .int .u8 xt, .int .i64 xy, .int .i64 xl, .int .i64 xz]) := Lib.hid fun y => Has.new y _ _
  unfold Cel.val at HGp HBh
  simp only at *
  clear h hG he hC hgp ho
  generalize gran ws = G at *
  by_cases ht : xt = 1
  · have hb1 : (xt != 1) = false := by rw [ht]; rfl
    clear hx ht
    go_enter Tryz.func28, Tryz.ntmps28
    go_wp2_with fail
    refine HO.out.mono ?_
    rintro e w1 ⟨rfl, hk⟩
    have K1 := Lib.hid (hk.alloc (.cells #[.int .u8 1, .int .i64 i, .int .i64 n, .int .i64 sz] 49))
    have B1 := Lib.hid (HN.out w1)
    clear hk HO HN c0 c1 c2
    go_wp2_with fail
    generalize w1.alloc (.cells #[.int .u8 1, .int .i64 i, .int .i64 n, .int .i64 sz] 49) = y1 at *
    generalize w1.heap.size = b9 at *
    refine (HGr.out _ K1.out).mono ?_
    rintro e w2 ⟨rfl, rfl⟩
    go_wp2_with fail
    refine (HGp.out _ K1.out).mono ?_
    rintro e w3 ⟨rfl, hk⟩
    have K3 := Lib.hid ((K1.out.trans hk).alloc (.cells #[.int .i64 xa, .int .u8 xt, .int .i64 xy, .int .i64 xl, .int .i64 xz] 51))
    have B3 := Lib.hid ((B1.out.keep0 hk).alloc (.cells #[.int .i64 xa, .int .u8 xt, .int .i64 xy, .int .i64 xl, .int .i64 xz] 51))
    have C3 := Lib.hid (HNc.out w3)
    clear hk HGp HGr HNc B1 K1
    go_wp2_with fail
    generalize w3.alloc (.cells #[.int .i64 xa, .int .u8 xt, .int .i64 xy, .int .i64 xl, .int .i64 xz] 51) = y3 at *
    generalize w3.heap.size = b11 at *
    obtain ⟨p0, p1, p2, p3⟩ := cells4 B3.out
    obtain ⟨q0, q1, q2, q3, q4⟩ := cells5 C3.out
    have c3 := cell_regrown p3
    have d0 := cell_regrown q0
    have d1 := cell_regrown q1
    have d2 := cell_regrown q2
    have d3 := cell_regrown q3
    have d4 := cell_regrown q4
    have CB : Hid (∀ d os, Calls Tryz.prog 52 #[.agg #[.int .i64 xa, .int .u8 xt, .int .i64 xy, .int .i64 xl, .int .i64 xz]] (grow (redrawn y3 d) os) fun e z => e = .returned (.int .i64 (xa + xz)) ∧ ∃ p : Regrown, z = grow (redrawn y3 p.d) p.os) :=
      Lib.hid fun d os => Calls.regrown_of ((HBh.out _).mono fun _ _ ⟨he, hk⟩ => ⟨he, hk.below (Nat.le_refl _) (by simp)⟩)
    clear p0 p1 p2 p3 q0 q1 q2 q3 q4
    refine wp_region_quiet_below (by kernel_rfl) (by kernel_rfl) ?_
    repeat (first | go_big_quiet_step (exact CB.out _ _) | quiet_step (exact CB.out _ _))
    refine wpQuiet_nil ?_
    rintro _ ⟨⟨dq, osq⟩, rfl⟩
    have hk4 := Kept.ofBelow (below_regrown y3 dq osq) []
    clear c3 d0 d1 d2 d3 d4 CB hb1
    generalize grow (redrawn y3 dq) osq = y4 at hk4 ⊢
    have K4 := Lib.hid (K3.out.trans hk4)
    clear hk4 K3 B3 C3
    go_wp2_with fail
    go_ret
    exact ⟨rfl, K4.out⟩
  · have hb1 : (xt != 1) = true := by rw [bne_iff_ne]; exact ht
    have hwr : IntKind.i64.wrap (xa + xz - g) = xa + xz - g := by rw [IntKind.wrap_i64]; omega
    have hlt : decide (xa + xz - g < sz) = true := decide_eq_true (by omega)
    clear hx ht
    go_enter Tryz.func28, Tryz.ntmps28
    go_wp2_with fail
    refine HO.out.mono ?_
    rintro e w1 ⟨rfl, hk⟩
    have K1 := Lib.hid (hk.alloc (.cells #[.int .u8 1, .int .i64 i, .int .i64 n, .int .i64 sz] 49))
    have B1 := Lib.hid (HN.out w1)
    clear hk HO HN c0 c1 c2
    go_wp2_with fail
    generalize w1.alloc (.cells #[.int .u8 1, .int .i64 i, .int .i64 n, .int .i64 sz] 49) = y1 at *
    generalize w1.heap.size = b9 at *
    refine (HGr.out _ K1.out).mono ?_
    rintro e w2 ⟨rfl, rfl⟩
    go_wp2_with fail
    refine (HGp.out _ K1.out).mono ?_
    rintro e w3 ⟨rfl, hk⟩
    have K3 := Lib.hid ((K1.out.trans hk).alloc (.cells #[.int .i64 xa, .int .u8 xt, .int .i64 xy, .int .i64 xl, .int .i64 xz] 51))
    have B3 := Lib.hid ((B1.out.keep0 hk).alloc (.cells #[.int .i64 xa, .int .u8 xt, .int .i64 xy, .int .i64 xl, .int .i64 xz] 51))
    have C3 := Lib.hid (HNc.out w3)
    clear hk HGp HGr HNc B1 K1
    go_wp2_with fail
    generalize w3.alloc (.cells #[.int .i64 xa, .int .u8 xt, .int .i64 xy, .int .i64 xl, .int .i64 xz] 51) = y3 at *
    generalize w3.heap.size = b11 at *
    obtain ⟨p0, p1, p2, p3⟩ := cells4 B3.out
    obtain ⟨q0, q1, q2, q3, q4⟩ := cells5 C3.out
    have c3 := cell_regrown p3
    have d0 := cell_regrown q0
    have d1 := cell_regrown q1
    have d2 := cell_regrown q2
    have d3 := cell_regrown q3
    have d4 := cell_regrown q4
    have CB : Hid (∀ d os, Calls Tryz.prog 52 #[.agg #[.int .i64 xa, .int .u8 xt, .int .i64 xy, .int .i64 xl, .int .i64 xz]] (grow (redrawn y3 d) os) fun e z => e = .returned (.int .i64 (xa + xz)) ∧ ∃ p : Regrown, z = grow (redrawn y3 p.d) p.os) :=
      Lib.hid fun d os => Calls.regrown_of ((HBh.out _).mono fun _ _ ⟨he, hk⟩ => ⟨he, hk.below (Nat.le_refl _) (by simp)⟩)
    clear p0 p1 p2 p3 q0 q1 q2 q3 q4
    refine wp_region_quiet_below (by kernel_rfl) (by kernel_rfl) ?_
    repeat (first | go_big_quiet_step (exact CB.out _ _) | quiet_step (exact CB.out _ _))
    refine wpQuiet_nil ?_
    rintro _ ⟨⟨dq, osq⟩, rfl⟩
    have hk4 := Kept.ofBelow (below_regrown y3 dq osq) []
    clear c3 d0 d1 d2 d3 d4 CB hb1 hwr hlt
    generalize grow (redrawn y3 dq) osq = y4 at hk4 ⊢
    have K4 := Lib.hid (K3.out.trans hk4)
    clear hk4 K3 B3 C3
    go_wp2_with fail
    go_ret
    exact ⟨rfl, K4.out⟩
end
end Go.Proofs.YtoagghileebokaaGreatDoor.Sp

/-
  The contract of Put where the granule is one of the space's: there is no room, or there is.
-/
namespace Go.Proofs.YtoagghileebokaaGreatDoor.Sp
open Go.RowKit Go.Proofs.YtoagghileebokaaGreatDoor.Ar Go.Proofs.YtoagghileebokaaGreatDoor.Sh Go.Sort
open Go.Proofs.YtoagghileebokaaGreatDoor.Hd (Hd Fields cells4 free4 ofL of_tab of_facts)
open Go.Proofs.YtoagghileebokaaGreatDoor.Tb (Ty Tab blk sizeE)
open Go.Proofs.YtoagghileebokaaGreatDoor.Bt (Bv atI prevO nextO)
open Go.Proofs.YtoagghileebokaaGreatDoor.Wd (Table)
set_option linter.unusedVariables false
/-- What lies in the two boxes. -/
def Cs9 (y : World) (b9 b11 : Nat) (i n sz xa xt xy xl xz : Int) : Prop :=
  y.cell? ⟨b9, 0, none⟩ = some (.int .u8 1) ∧ y.cell? ⟨b9, 1, none⟩ = some (.int .i64 i) ∧ y.cell? ⟨b9, 2, none⟩ = some (.int .i64 n) ∧ y.cell? ⟨b9, 3, none⟩ = some (.int .i64 sz) ∧ y.cell? ⟨b11, 0, none⟩ = some (.int .i64 xa) ∧ y.cell? ⟨b11, 1, none⟩ = some (.int .u8 xt) ∧ y.cell? ⟨b11, 2, none⟩ = some (.int .i64 xy) ∧ y.cell? ⟨b11, 3, none⟩ = some (.int .i64 xl) ∧ y.cell? ⟨b11, 4, none⟩ = some (.int .i64 xz)
section
variable {w : World} {s : Ids} {l : List Ty} {ws : List Int} {bs : List Bool}
set_option maxRecDepth 100000 in
set_option maxHeartbeats 4000000 in
theorem put_yes (hG : Glob0 w s) (h : Spc w s l ws bs) (g i n : Int) (i0 : -9223372036854775808 ≤ i) (i1 : i ≤ 9223372036854775807) (he : sizeE l i n = 0) (g0 : 0 ≤ g) (g1 : g < gran ws)
    (cs : List Cel) (hC : Scans ws l (atI (prevO bs g)) cs) (x : Cel) (hgp : gapO cs g = some x) (x0 : 0 ≤ x.a ∧ x.a ≤ 100000) (x1 : 1 ≤ x.h.sz ∧ x.h.sz ≤ 100000)
    (hx : x.h.tg ≠ 1) (hfit : (ofL l i n).sz ≤ x.a + x.h.sz - g) (hxg : x.a ≤ g) :
    Calls Tryz.prog 28 #[.pointer (some ⟨s.sp, 0, none⟩), .int .i64 g, .int .i64 i, .int .i64 n] w fun e w' => e = .returned (.int .i64 0) ∧ Spc w' s l (becomeW (makeW ws l g i n) x.a [⟨g, ofL l i n⟩] (x.a + x.h.sz)) (becomeB bs x.a [⟨g, ofL l i n⟩] (x.a + x.h.sz)) ∧ Kept s.turn w w' := by
  obtain ⟨c0, c1, c2⟩ := h.cells
  have hsh := h.short
  have hgr : 0 ≤ gran ws ∧ gran ws ≤ 32768 := by unfold gran; omega
  obtain ⟨sz, ho, s1, s2, j0, j1, n0, n1⟩ := of_facts he h.tab.len
  have HO := Lib.hid (of_tab h.tab i n i0 i1)
  have HGr := Lib.hid (fun y (k : Kept [] w y) => granules_ok (h.keep0 k))
  have HGp := Lib.hid (fun y (k : Kept [] w y) => gap_ok (hG.keep0 k).f (h.keep0 k) g (by omega) (by omega) cs hC)
  rw [hgp] at HGp
  rw [ho, he] at HO
  rw [ho] at hfit ⊢
  have HN : Hid (∀ y : World, Has (y.alloc (.cells #[.int .u8 1, .int .i64 i, .int .i64 n, .int .i64 sz] 49)) y.heap.size 49 [.int .u8 1, .int .i64 i, .int .i64 n, .int .i64 sz]) := Lib.hid fun y => Has.new y _ _
  have HBh := Lib.hid (fun X => behind_ok x (by omega) (by omega) (by omega) (by omega) X)
  unfold Hd.val at HO
  unfold gapC gapB Option.getD at HGp
  obtain ⟨xa, ⟨xt, xy, xl, xz⟩⟩ := x
  have HNc : Hid (∀ y : World, Has (y.alloc (.cells #[.int .i64 xa, .int .u8 xt, .int .i64 xy, .int .i64 xl, .int .i64 xz] 51)) y.heap.size 51 [.int .i64 xa, .int .u8 xt, .int .i64 xy, .int .i64 xl, .int .i64 xz]) := Lib.hid fun y => Has.new y _ _
  unfold Cel.val at HGp HBh
  simp only at *
  have HSpc := Lib.hid h
  have HGl := Lib.hid hG
  have HE := Lib.hid he
  clear h hG he hC hgp ho
  have hgG : g ≤ 32768 := by omega
  generalize gran ws = G at *
  have hb1 : (xt != 1) = true := by rw [bne_iff_ne]; exact hx
  have hwr : IntKind.i64.wrap (xa + xz - g) = xa + xz - g := by rw [IntKind.wrap_i64]; omega
  have hlt : decide (xa + xz - g < sz) = false := decide_eq_false (by omega)
  clear hx
  go_enter Tryz.func28, Tryz.ntmps28
  go_wp2_with fail
  refine HO.out.mono ?_
  rintro e w1 ⟨rfl, hk⟩
  have K1 := Lib.hid (hk.alloc (.cells #[.int .u8 1, .int .i64 i, .int .i64 n, .int .i64 sz] 49))
  have B1 := Lib.hid (HN.out w1)
  clear hk HO HN c0 c1 c2
  go_wp2_with fail
  generalize w1.alloc (.cells #[.int .u8 1, .int .i64 i, .int .i64 n, .int .i64 sz] 49) = y1 at *
  generalize w1.heap.size = b9 at *
  refine (HGr.out _ K1.out).mono ?_
  rintro e w2 ⟨rfl, rfl⟩
  go_wp2_with fail
  refine (HGp.out _ K1.out).mono ?_
  rintro e w3 ⟨rfl, hk⟩
  have K3 := Lib.hid ((K1.out.trans hk).alloc (.cells #[.int .i64 xa, .int .u8 xt, .int .i64 xy, .int .i64 xl, .int .i64 xz] 51))
  have B3 := Lib.hid ((B1.out.keep0 hk).alloc (.cells #[.int .i64 xa, .int .u8 xt, .int .i64 xy, .int .i64 xl, .int .i64 xz] 51))
  have C3 := Lib.hid (HNc.out w3)
  clear hk HGp HGr HNc B1 K1
  go_wp2_with fail
  generalize w3.alloc (.cells #[.int .i64 xa, .int .u8 xt, .int .i64 xy, .int .i64 xl, .int .i64 xz] 51) = y3 at *
  generalize w3.heap.size = b11 at *
  obtain ⟨p0, p1, p2, p3⟩ := cells4 B3.out
  obtain ⟨q0, q1, q2, q3, q4⟩ := cells5 C3.out
  have c3 := cell_regrown p3
  have d0 := cell_regrown q0
  have d1 := cell_regrown q1
  have d2 := cell_regrown q2
  have d3 := cell_regrown q3
  have d4 := cell_regrown q4
  have CB : Hid (∀ d os, Calls Tryz.prog 52 #[.agg #[.int .i64 xa, .int .u8 xt, .int .i64 xy, .int .i64 xl, .int .i64 xz]] (grow (redrawn y3 d) os) fun e z => e = .returned (.int .i64 (xa + xz)) ∧ ∃ p : Regrown, z = grow (redrawn y3 p.d) p.os) :=
    Lib.hid fun d os => Calls.regrown_of ((HBh.out _).mono fun _ _ ⟨he, hk⟩ => ⟨he, hk.below (Nat.le_refl _) (by simp)⟩)
  clear p0 p1 p2 p3 q0 q1 q2 q3 q4
  refine wp_region_quiet_below (by kernel_rfl) (by kernel_rfl) ?_
  repeat (first | go_big_quiet_step (exact CB.out _ _) | quiet_step (exact CB.out _ _))
  refine wpQuiet_nil ?_
  rintro _ ⟨⟨dq, osq⟩, rfl⟩
  have hk4 := Kept.ofBelow (below_regrown y3 dq osq) []
  clear c3 d0 d1 d2 d3 d4 CB hb1 hwr hlt
  generalize grow (redrawn y3 dq) osq = y4 at hk4 ⊢
  have K4 := Lib.hid (K3.out.trans hk4)
  have B4 := Lib.hid (B3.out.keep0 hk4)
  have C4 := Lib.hid (C3.out.keep0 hk4)
  clear hk4 K3 B3 C3
  obtain ⟨c0, c1, c2⟩ := (HSpc.out.keep0 K4.out).cells
  go_wp2_with fail
  go_still_tail 11, (by kernel_rfl)
  change wpList _ _ _ _ _ y4.drew
  have hk5 : Kept [] y4 y4.drew := (Kept.refl [] y4).drew
  clear c0 c1 c2
  generalize y4.drew = y5 at hk5 ⊢
  have K5 := Lib.hid (K4.out.trans hk5)
  have B5 := Lib.hid (B4.out.keep0 hk5)
  have C5 := Lib.hid (C4.out.keep0 hk5)
  have S5 := Lib.hid (HSpc.out.keep0 K5.out)
  have HM : Hid (Calls Tryz.prog 53 #[.pointer (some ⟨s.ap, 0, none⟩), .pointer (some ⟨s.tp, 0, none⟩), .int .i64 g, .int .i64 i, .int .i64 n] y5 (MakePost y5 s.ap s.aq ws l g i n)) := by
    obtain ⟨m, ha⟩ := S5.out.ar
    exact Lib.hid (make_ok (HGl.out.keep0 K5.out).f ha S5.out.tab g i n (by omega) (by omega) i0 i1)
  clear hk5 K4 B4 C4
  go_wp2_with fail
  refine HM.out.mono ?_
  rintro e w6 ⟨rfl, ha6, hk6⟩
  have K6 : Hid (Kept s.turn w w6) := Lib.hid ((K5.out.none _).trans (hk6.mono (sub_turn s)))
  have S6 : Hid (Spc w6 s l (makeW ws l g i n) bs) := Lib.hid (S5.out.arena hk6 ha6 (HSpc.out.wm.make HSpc.out.tab.len))
  have B6 := Lib.hid (B5.out.kept hk6 fun hm => S5.out.beside B5.out (by decide) (by decide) (by decide) (sub_turn s _ hm))
  have C6 := Lib.hid (C5.out.kept hk6 fun hm => S5.out.beside C5.out (by decide) (by decide) (by decide) (sub_turn s _ hm))
  have G6 := Lib.hid (HGl.out.kept K6.out)
  have HSw := Lib.hid HSpc.out.tab.len
  clear ha6 hk6 K5 B5 C5 S5 HM HGl HSpc
  go_wp2_with fail
  generalize makeE ws.length l g i n = me at *
  obtain ⟨ws6, hw6⟩ : ∃ x, makeW ws l g i n = x := ⟨_, rfl⟩
  rw [hw6] at S6
  have HW6 := Lib.hid hw6
  clear hw6
  have hof : Hid (∀ z, Has z b9 49 [.int .u8 1, .int .i64 i, .int .i64 n, .int .i64 sz] → Has z b11 51 [.int .i64 xa, .int .u8 xt, .int .i64 xy, .int .i64 xl, .int .i64 xz] → Cs9 z b9 b11 i n sz xa xt xy xl xz) := Lib.hid fun z h1 h2 => by
    obtain ⟨a0, a1, a2, a3⟩ := cells4 h1
    obtain ⟨b0, b1, b2, b3, b4⟩ := cells5 h2
    exact ⟨a0, a1, a2, a3, b0, b1, b2, b3, b4⟩
  have D1 : Hid (∀ y, Kept [] w6 y → Calls Tryz.prog 52 #[.agg #[.int .i64 xa, .int .u8 xt, .int .i64 xy, .int .i64 xl, .int .i64 xz]] y fun e z => e = .returned (.int .i64 (xa + xz)) ∧ Kept [] y z ∧ Kept [] w6 z ∧ Cs9 z b9 b11 i n sz xa xt xy xl xz) :=
    Lib.hid fun y hy => (HBh.out y).mono fun e z ⟨he, hk⟩ => ⟨he, hk, hy.trans hk, hof.out z (B6.out.keep0 (hy.trans hk)) (C6.out.keep0 (hy.trans hk))⟩
  have D2 : Hid (∀ y g', Kept [] w6 y → Has y g' 51 [.int .i64 g, .int .u8 1, .int .i64 i, .int .i64 n, .int .i64 sz] → Calls Tryz.prog 41 #[.pointer (some ⟨s.sp, 0, none⟩), .int .i64 xa, .int .i64 (xa + xz), .slice (some ⟨g', 0, none⟩) 1 1] y fun e z => (∃ v, e = .returned v) ∧ Spc z s l (becomeW ws6 xa [⟨g, ⟨1, i, n, sz⟩⟩] (xa + xz)) (becomeB bs xa [⟨g, ⟨1, i, n, sz⟩⟩] (xa + xz)) ∧ Kept s.turn w z ∧ Cs9 z b9 b11 i n sz xa xt xy xl xz) :=
    Lib.hid fun y g' hy hg => by
      have hb := B6.out.keep0 hy
      have hc := C6.out.keep0 hy
      have hs := S6.out.keep0 hy
      refine (become_ok (G6.out.keep0 hy) hs xa (xa + xz) (by omega) (by omega) (by omega) (by omega) (some ⟨g', 0, none⟩) 1 [⟨g, ⟨1, i, n, sz⟩⟩] (seen_one hg) (fun a o e => by injection e with e; injection e with e; rw [← e]; exact hs.beside hg (by decide) (by decide) (by decide)) (fun c hc => by rw [List.mem_singleton.1 hc]; simp only; omega) (by simp)).mono ?_
      rintro e z ⟨h1, h2, h3⟩
      exact ⟨h1, h2, (K6.out.trans (hy.none _)).trans h3, hof.out z (hb.kept h3 (hs.beside hb (by decide) (by decide) (by decide))) (hc.kept h3 (hs.beside hc (by decide) (by decide) (by decide)))⟩
  obtain ⟨r0, r1, r2, r3, t0, t1, t2, t3, t4⟩ := hof.out w6 B6.out C6.out
  clear hof B6 C6 S6 G6 HBh
  go_region_held3 (fun y => y.cell? ⟨b9, 0, none⟩ = some (.int .u8 1) ∧ y.cell? ⟨b9, 1, none⟩ = some (.int .i64 i) ∧ y.cell? ⟨b9, 2, none⟩ = some (.int .i64 n) ∧ y.cell? ⟨b9, 3, none⟩ = some (.int .i64 sz) ∧ y.cell? ⟨b11, 0, none⟩ = some (.int .i64 xa) ∧ y.cell? ⟨b11, 1, none⟩ = some (.int .u8 xt) ∧ y.cell? ⟨b11, 2, none⟩ = some (.int .i64 xy) ∧ y.cell? ⟨b11, 3, none⟩ = some (.int .i64 xl) ∧ y.cell? ⟨b11, 4, none⟩ = some (.int .i64 xz)) (go_keep)
    (first
      | (go_at_call 52; refine (D1.out _ ?_).mono ?_; (first | exact Kept.refl _ _ | exact (Kept.refl _ _).drewN _ | exact (Kept.refl _ _).alloc _ | exact ((Kept.refl _ _).drewN _).alloc _ | exact ((Kept.refl _ _).alloc _).drewN _); rintro e z1 ⟨rfl, hz1, hz0, u0, u1, u2, u3, v0, v1, v2, v3, v4⟩)
      | (go_at_call 41; refine (D2.out _ _ ?_ ?_).mono ?_; (first | exact hz0 | exact hz0.alloc _ | exact (hz0.drewN _).alloc _ | exact hz0.drewN _ | exact (hz0.alloc _).drewN _); (first | exact (Has.new _ _ _).keep0 hz1 | exact Has.new _ _ _ | exact (Has.new _ _ _).drewN _ | exact ((Has.new _ _ _).drewN _).keep0 hz1 | exact ((Has.new _ _ _).keep0 hz1).drewN _); rintro e z2 ⟨⟨vv, rfl⟩, hS2, hK2, u5, u6, u7, u8, v5, v6, v7, v8, v9⟩))
  all_goals
    have HS2 := Lib.hid hS2
    have HK2 := Lib.hid hK2
    clear hS2 hK2
    go_wp2_with fail
    go_ret
    exact ⟨rfl, by rw [HW6.out]; exact HS2.out, HK2.out⟩
end
end Go.Proofs.YtoagghileebokaaGreatDoor.Sp

/-
  A space of a law's own making: its cells, its starts, Put and Drop on it.
-/
namespace Go.Proofs.YtoagghileebokaaGreatDoor.Sp
open Go.RowKit Go.Proofs.YtoagghileebokaaGreatDoor.Ar Go.Proofs.YtoagghileebokaaGreatDoor.Sh
open Go.Proofs.YtoagghileebokaaGreatDoor.Hd (Hd Fields ofL of_facts)
open Go.Proofs.YtoagghileebokaaGreatDoor.Tb (Ty Tab blk sizeE sizeT)
open Go.Proofs.YtoagghileebokaaGreatDoor.Bt (Bv bit atI prevO nextO hasV has_ok)
open Go.Proofs.YtoagghileebokaaGreatDoor.Wd (Table)
set_option linter.unusedVariables false

structure Mine (w x : World) (s : Ids) (l : List Ty) (ws : List Int) (bs : List Bool) (cs : List Cel) : Prop where
  kept : Kept [] w x
  spc : Spc x s l ws bs
  glob : Glob x s
  snd : Snd ws l bs cs
  fresh : ∀ i ∈ s.turn, w.heap.size ≤ i
/-- .. where the table of the lowest bits may be anything. -/
structure Mine0 (w x : World) (s : Ids) (l : List Ty) (ws : List Int) (bs : List Bool) (cs : List Cel) : Prop where
  kept : Kept [] w x
  spc : Spc x s l ws bs
  glob : Glob0 x s
  snd : Snd ws l bs cs
  fresh : ∀ i ∈ s.turn, w.heap.size ≤ i
def Has0 (w x : World) (s : Ids) (l : List Ty) (cs : List Cel) : Prop := ∃ ws bs, Mine0 w x s l ws bs cs
theorem Mine.zero {w x : World} {s : Ids} {l : List Ty} {ws : List Int} {bs : List Bool} {cs : List Cel} (h : Mine w x s l ws bs cs) : Mine0 w x s l ws bs cs := ⟨h.kept, h.spc, h.glob.zero, h.snd, h.fresh⟩
theorem Mine0.keep0 {w x y : World} {s : Ids} {l : List Ty} {ws : List Int} {bs : List Bool} {cs : List Cel} (h : Mine0 w x s l ws bs cs) (k : Kept [] x y) : Mine0 w y s l ws bs cs :=
  ⟨h.kept.trans k, h.spc.keep0 k, h.glob.keep0 k, h.snd, h.fresh⟩
theorem Mine0.turned {w x y : World} {s : Ids} {l : List Ty} {ws ws' : List Int} {bs bs' : List Bool} {cs cs' : List Cel} (h : Mine0 w x s l ws bs cs) (k : Kept s.turn x y) (hS : Spc y s l ws' bs') (hN : Snd ws' l bs' cs') : Mine0 w y s l ws' bs' cs' :=
  ⟨h.kept.forget k h.fresh, hS, h.glob.kept k, hN, h.fresh⟩
theorem Has0.keep0 {w x y : World} {s : Ids} {l : List Ty} {cs : List Cel} (h : Has0 w x s l cs) (k : Kept [] x y) : Has0 w y s l cs := let ⟨ws, bs, m⟩ := h; ⟨ws, bs, m.keep0 k⟩
theorem Has0.kept {w x : World} {s : Ids} {l : List Ty} {cs : List Cel} (h : Has0 w x s l cs) : Kept [] w x := let ⟨ws, bs, m⟩ := h; m.kept
theorem zero_cells {w x : World} {s : Ids} {l : List Ty} {cs : List Cel} (h : Has0 w x s l cs) : Calls Tryz.prog 12 #[.pointer (some ⟨s.sp, 0, none⟩)] x fun e y => ∃ v, e = .returned v ∧ Own y v cs ∧ FreshV x v ∧ Kept [] x y := by
  obtain ⟨ws, bs, m⟩ := h
  exact allCells_ok m.glob.f m.spc cs m.snd.scans
/-- There is such a space, with these cells. -/
def Has1 (w x : World) (s : Ids) (l : List Ty) (cs : List Cel) : Prop := ∃ ws bs, Mine w x s l ws bs cs
theorem Mine.keep0 {w x y : World} {s : Ids} {l : List Ty} {ws : List Int} {bs : List Bool} {cs : List Cel} (h : Mine w x s l ws bs cs) (k : Kept [] x y) : Mine w y s l ws bs cs :=
  ⟨h.kept.trans k, h.spc.keep0 k, h.glob.keep0 k, h.snd, h.fresh⟩
theorem Has1.keep0 {w x y : World} {s : Ids} {l : List Ty} {cs : List Cel} (h : Has1 w x s l cs) (k : Kept [] x y) : Has1 w y s l cs := let ⟨ws, bs, m⟩ := h; ⟨ws, bs, m.keep0 k⟩
theorem Has1.kept {w x : World} {s : Ids} {l : List Ty} {cs : List Cel} (h : Has1 w x s l cs) : Kept [] w x := let ⟨ws, bs, m⟩ := h; m.kept
theorem Mine.turned {w x y : World} {s : Ids} {l : List Ty} {ws ws' : List Int} {bs bs' : List Bool} {cs cs' : List Cel} (h : Mine w x s l ws bs cs) (k : Kept s.turn x y) (hS : Spc y s l ws' bs') (hN : Snd ws' l bs' cs') : Mine w y s l ws' bs' cs' :=
  ⟨h.kept.forget k h.fresh, hS, h.glob.kept k, hN, h.fresh⟩
/-- All granules of cells. -/
def tot : List Cel → Int
  | [] => 0
  | c :: cs => c.h.sz + tot cs
theorem Tiled.sum {ws : List Int} {l : List Ty} : ∀ {cs : List Cel} {f e : Int}, Tiled ws l f cs e → f + tot cs = e
  | [], f, e, h => by
    have h : f = e := h
    show f + 0 = e
    omega
  | c :: cs, f, e, h => by
    have := Tiled.sum h.2.2.2.2
    show f + (c.h.sz + tot cs) = e
    omega
theorem tot_of {ws : List Int} {l : List Ty} {bs : List Bool} {cs : List Cel} (h : Snd ws l bs cs) : tot cs = gran ws := by
  have := h.tiled.sum
  omega
section
variable {w x : World} {s : Ids} {l : List Ty} {cs : List Cel}
theorem one_cells (h : Has1 w x s l cs) : Calls Tryz.prog 12 #[.pointer (some ⟨s.sp, 0, none⟩)] x fun e y => ∃ v, e = .returned v ∧ Own y v cs ∧ FreshV x v ∧ Kept [] x y := by
  obtain ⟨ws, bs, m⟩ := h
  exact allCells_ok m.glob.f m.spc cs m.snd.scans
end
end Go.Proofs.YtoagghileebokaaGreatDoor.Sp
