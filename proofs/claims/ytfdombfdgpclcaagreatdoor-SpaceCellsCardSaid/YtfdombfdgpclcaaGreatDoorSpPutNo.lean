/-
  The contract of Put where the granule is one of the space's: there is no room, or there is.
-/
import Derived.Test.YtfdombfdgpclcaaGreatDoorSpPut
import Derived.StillTail
import Derived.StillTailTactics
namespace Go.Proofs.YtfdombfdgpclcaaGreatDoor.Sp
open Go.RowKit Go.Proofs.YtfdombfdgpclcaaGreatDoor.Ar Go.Proofs.YtfdombfdgpclcaaGreatDoor.Sh Go.Sort
open Go.Proofs.YtfdombfdgpclcaaGreatDoor.Hd (Hd Fields cells4 free4 ofL of_tab of_facts)
open Go.Proofs.YtfdombfdgpclcaaGreatDoor.Tb (Ty Tab blk sizeE)
open Go.Proofs.YtfdombfdgpclcaaGreatDoor.Bt (Bv atI prevO nextO)
open Go.Proofs.YtfdombfdgpclcaaGreatDoor.Wd (Table)
set_option linter.unusedVariables false
section
variable {w : World} {s : Ids} {l : List Ty} {ws : List Int} {bs : List Bool}
set_option maxRecDepth 100000 in
set_option maxHeartbeats 4000000 in
theorem put_none (hG : Glob w s) (h : Spc w s l ws bs) (g i n : Int) (i0 : -9223372036854775808 ≤ i) (i1 : i ≤ 9223372036854775807) (he : sizeE l i n = 0) (g0 : 0 ≤ g) (g1 : g < gran ws)
    (cs : List Cel) (hC : Scans ws l (atI (prevO bs g)) cs) (x : Cel) (hgp : gapO cs g = some x) (x0 : 0 ≤ x.a ∧ x.a ≤ 100000) (x1 : 1 ≤ x.h.sz ∧ x.h.sz ≤ 100000)
    (hx : x.h.tg = 1 ∨ x.a + x.h.sz - g < (ofL l i n).sz) :
    Calls Tryz.prog 9 #[.pointer (some ⟨s.sp, 0, none⟩), .int .i64 g, .int .i64 i, .int .i64 n] w fun e w' => e = .returned (.int .i64 3) ∧ Kept [] w w' := by
  obtain ⟨c0, c1, c2⟩ := h.cells
  have hsh := h.short
  have hgr : 0 ≤ gran ws ∧ gran ws ≤ 32768 := by unfold gran; omega
  obtain ⟨sz, ho, s1, s2, j0, j1, n0, n1⟩ := of_facts he h.tab.len
  have HO := Lib.hid (of_tab h.tab i n i0 i1)
  have HGr := Lib.hid (fun y (k : Kept [] w y) => granules_ok (h.keep0 k))
  have HGp := Lib.hid (fun y (k : Kept [] w y) => gap_ok (hG.keep0 k).f (h.keep0 k) g (by omega) (by omega) cs hC)
  rw [hgp] at HGp
  rw [ho, he] at HO
  rw [ho] at hx
  have HN : Hid (∀ y : World, Has (y.alloc (.cells #[.int .u8 1, .int .i64 i, .int .i64 n, .int .i64 sz] 43)) y.heap.size 43 [.int .u8 1, .int .i64 i, .int .i64 n, .int .i64 sz]) := Lib.hid fun y => Has.new y _ _
  have HBh := Lib.hid (fun X => behind_ok x (by omega) (by omega) (by omega) (by omega) X)
  unfold Hd.val at HO
  unfold gapC gapB Option.getD at HGp
  obtain ⟨xa, ⟨xt, xy, xl, xz⟩⟩ := x
  have HNc : Hid (∀ y : World, Has (y.alloc (.cells #[.int .i64 xa, .int .u8 xt, .int .i64 xy, .int .i64 xl, .int .i64 xz] 45)) y.heap.size 45 [.int .i64 xa, .int .u8 xt, .int .i64 xy, .int .i64 xl, .int .i64 xz]) := Lib.hid fun y => Has.new y _ _
  unfold Cel.val at HGp HBh
  simp only at *
  clear h hG he hC hgp ho
  generalize gran ws = G at *
  by_cases ht : xt = 1
  · have hb1 : (xt != 1) = false := by rw [ht]; rfl
    clear hx ht
    go_enter Tryz.func9, Tryz.ntmps9
    go_wp2_with fail
    refine HO.out.mono ?_
    rintro e w1 ⟨rfl, hk⟩
    have K1 := Lib.hid (hk.alloc (.cells #[.int .u8 1, .int .i64 i, .int .i64 n, .int .i64 sz] 43))
    have B1 := Lib.hid (HN.out w1)
    clear hk HO HN c0 c1 c2
    go_wp2_with fail
    generalize w1.alloc (.cells #[.int .u8 1, .int .i64 i, .int .i64 n, .int .i64 sz] 43) = y1 at *
    generalize w1.heap.size = b9 at *
    refine (HGr.out _ K1.out).mono ?_
    rintro e w2 ⟨rfl, rfl⟩
    go_wp2_with fail
    refine (HGp.out _ K1.out).mono ?_
    rintro e w3 ⟨rfl, hk⟩
    have K3 := Lib.hid ((K1.out.trans hk).alloc (.cells #[.int .i64 xa, .int .u8 xt, .int .i64 xy, .int .i64 xl, .int .i64 xz] 45))
    have B3 := Lib.hid ((B1.out.keep0 hk).alloc (.cells #[.int .i64 xa, .int .u8 xt, .int .i64 xy, .int .i64 xl, .int .i64 xz] 45))
    have C3 := Lib.hid (HNc.out w3)
    clear hk HGp HGr HNc B1 K1
    go_wp2_with fail
    generalize w3.alloc (.cells #[.int .i64 xa, .int .u8 xt, .int .i64 xy, .int .i64 xl, .int .i64 xz] 45) = y3 at *
    generalize w3.heap.size = b11 at *
    obtain ⟨p0, p1, p2, p3⟩ := cells4 B3.out
    obtain ⟨q0, q1, q2, q3, q4⟩ := cells5 C3.out
    have c3 := cell_regrown p3
    have d0 := cell_regrown q0
    have d1 := cell_regrown q1
    have d2 := cell_regrown q2
    have d3 := cell_regrown q3
    have d4 := cell_regrown q4
    have CB : Hid (∀ d os, Calls Tryz.prog 27 #[.agg #[.int .i64 xa, .int .u8 xt, .int .i64 xy, .int .i64 xl, .int .i64 xz]] (grow (redrawn y3 d) os) fun e z => e = .returned (.int .i64 (xa + xz)) ∧ ∃ p : Regrown, z = grow (redrawn y3 p.d) p.os) :=
      Lib.hid fun d os => Calls.regrown_of ((HBh.out _).mono fun _ _ ⟨he, hk⟩ => ⟨he, hk.below (Nat.le_refl _) (by simp)⟩)
    clear p0 p1 p2 p3 q0 q1 q2 q3 q4
    refine wp_region_quiet_below (by kernel_rfl) (by kernel_rfl) ?_
    repeat (first | go_big_quiet_step (exact CB.out _ _) | quiet_step (exact CB.out _ _))
    refine wpQuiet_nil ?_
    rintro _ ⟨⟨dq, osq⟩, rfl⟩
    have hk4 := Kept.ofBelow (below_regrown y3 dq osq) []
    clear c3 d0 d1 d2 d3 d4 CB hb1
    generalize grow (redrawn y3 dq) osq = y4 at hk4 ⊢
    have K4 := Lib.hid (K3.out.trans hk4)
    clear hk4 K3 B3 C3
    go_wp2_with fail
    go_ret
    exact ⟨rfl, K4.out⟩
  · have hb1 : (xt != 1) = true := by rw [bne_iff_ne]; exact ht
    have hwr : IntKind.i64.wrap (xa + xz - g) = xa + xz - g := by rw [IntKind.wrap_i64]; omega
    have hlt : decide (xa + xz - g < sz) = true := decide_eq_true (by omega)
    clear hx ht
    go_enter Tryz.func9, Tryz.ntmps9
    go_wp2_with fail
    refine HO.out.mono ?_
    rintro e w1 ⟨rfl, hk⟩
    have K1 := Lib.hid (hk.alloc (.cells #[.int .u8 1, .int .i64 i, .int .i64 n, .int .i64 sz] 43))
    have B1 := Lib.hid (HN.out w1)
    clear hk HO HN c0 c1 c2
    go_wp2_with fail
    generalize w1.alloc (.cells #[.int .u8 1, .int .i64 i, .int .i64 n, .int .i64 sz] 43) = y1 at *
    generalize w1.heap.size = b9 at *
    refine (HGr.out _ K1.out).mono ?_
    rintro e w2 ⟨rfl, rfl⟩
    go_wp2_with fail
    refine (HGp.out _ K1.out).mono ?_
    rintro e w3 ⟨rfl, hk⟩
    have K3 := Lib.hid ((K1.out.trans hk).alloc (.cells #[.int .i64 xa, .int .u8 xt, .int .i64 xy, .int .i64 xl, .int .i64 xz] 45))
    have B3 := Lib.hid ((B1.out.keep0 hk).alloc (.cells #[.int .i64 xa, .int .u8 xt, .int .i64 xy, .int .i64 xl, .int .i64 xz] 45))
    have C3 := Lib.hid (HNc.out w3)
    clear hk HGp HGr HNc B1 K1
    go_wp2_with fail
    generalize w3.alloc (.cells #[.int .i64 xa, .int .u8 xt, .int .i64 xy, .int .i64 xl, .int .i64 xz] 45) = y3 at *
    generalize w3.heap.size = b11 at *
    obtain ⟨p0, p1, p2, p3⟩ := cells4 B3.out
    obtain ⟨q0, q1, q2, q3, q4⟩ := cells5 C3.out
    have c3 := cell_regrown p3
    have d0 := cell_regrown q0
    have d1 := cell_regrown q1
    have d2 := cell_regrown q2
    have d3 := cell_regrown q3
    have d4 := cell_regrown q4
    have CB : Hid (∀ d os, Calls Tryz.prog 27 #[.agg #[.int .i64 xa, .int .u8 xt, .int .i64 xy, .int .i64 xl, .int .i64 xz]] (grow (redrawn y3 d) os) fun e z => e = .returned (.int .i64 (xa + xz)) ∧ ∃ p : Regrown, z = grow (redrawn y3 p.d) p.os) :=
      Lib.hid fun d os => Calls.regrown_of ((HBh.out _).mono fun _ _ ⟨he, hk⟩ => ⟨he, hk.below (Nat.le_refl _) (by simp)⟩)
    clear p0 p1 p2 p3 q0 q1 q2 q3 q4
    refine wp_region_quiet_below (by kernel_rfl) (by kernel_rfl) ?_
    repeat (first | go_big_quiet_step (exact CB.out _ _) | quiet_step (exact CB.out _ _))
    refine wpQuiet_nil ?_
    rintro _ ⟨⟨dq, osq⟩, rfl⟩
    have hk4 := Kept.ofBelow (below_regrown y3 dq osq) []
    clear c3 d0 d1 d2 d3 d4 CB hb1 hwr hlt
    generalize grow (redrawn y3 dq) osq = y4 at hk4 ⊢
    have K4 := Lib.hid (K3.out.trans hk4)
    clear hk4 K3 B3 C3
    go_wp2_with fail
    go_ret
    exact ⟨rfl, K4.out⟩
end
end Go.Proofs.YtfdombfdgpclcaaGreatDoor.Sp
