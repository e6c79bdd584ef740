/-
  Several texts in one: SpCell, SpIter, RoundAny, SpList.
-/
import Derived.Test.YtagmmbkgjomdlaaGreatDoorG19
import Derived.Test.YtagmmbkgjomdlaaGreatDoorG07
import Derived.Lib.QuietBelow
import Derived.Deep.QuietTactic
import Derived.BigQuiet
import Derived.Test.YtagmmbkgjomdlaaGreatDoorG03
import Derived.Test.YtagmmbkgjomdlaaGreatDoorG01
import Derived.Shelf.Abstract
import Derived.OwnWalkIn
import Derived.TacticsInMore
import Derived.LoopNIn
import Derived.LoopIn
import Derived.Shelf.RegionOpen
/-
  The contract of cell: the cell that begins at a granule, and whether one may.
-/
namespace Go.Proofs.YtagmmbkgjomdlaaGreatDoor.Sp
open Go.RowKit Go.Proofs.YtagmmbkgjomdlaaGreatDoor.Ar Go.Proofs.YtagmmbkgjomdlaaGreatDoor.Sh Go.Sort
open Go.Proofs.YtagmmbkgjomdlaaGreatDoor.Hd (Hd Fields cells4 free4 fitL fits_tab)
open Go.Proofs.YtagmmbkgjomdlaaGreatDoor.Tb (Ty Tab blk cells3)
open Go.Proofs.YtagmmbkgjomdlaaGreatDoor.Kd (ret_row)
set_option linter.unusedVariables false

def put5 (b : Nat) (v0 v1 v2 v3 v4 : Value) (w : World) : World := ((((w.setCell ⟨b, 0, none⟩ v0).setCell ⟨b, 1, none⟩ v1).setCell ⟨b, 2, none⟩ v2).setCell ⟨b, 3, none⟩ v3).setCell ⟨b, 4, none⟩ v4
theorem put5_has {b : Nat} {t : TypeId} {w : World} {a0 a1 a2 a3 a4 : Value} (h : Has w b t [a0, a1, a2, a3, a4]) (v0 v1 v2 v3 v4 : Value) : Has (put5 b v0 v1 v2 v3 v4 w) b t [v0, v1, v2, v3, v4] := ((((h.put 0 v0).put 1 v1).put 2 v2).put 3 v3).put 4 v4
theorem put5_kept {b : Nat} {S : List Nat} {w0 w : World} (h : Kept S w0 w) (hb : b ∈ S ∨ w0.heap.size ≤ b) (v0 v1 v2 v3 v4 : Value) : Kept S w0 (put5 b v0 v1 v2 v3 v4 w) :=
  ((((h.setCell ⟨b, 0, none⟩ v0 hb).setCell ⟨b, 1, none⟩ v1 hb).setCell ⟨b, 2, none⟩ v2 hb).setCell ⟨b, 3, none⟩ v3 hb).setCell ⟨b, 4, none⟩ v4 hb
theorem size_cell : (Tryz.prog.info? 78).map (·.size) = some 5 := by kernel_rfl
theorem ret_cel {f : Func} {p u : Tmp} (h : f.results = #[.cell p 78, .tmp u]) {a : Act} {w0 w : World} {g : Nat} {a0 a1 a2 a3 a4 v0 v1 v2 v3 v4 : Value} (hp : a.tmps.getD p undef = .pointer (some ⟨g, 0, none⟩)) (hH : Has w g 78 [a0, a1, a2, a3, a4]) (hk : Kept [] w0 w) (hg : w0.heap.size ≤ g)
    (hdf : a.defers = []) {E : Value} (hE : a.tmps.getD u undef = E) {R : Ending → World → Prop}
    (hR : ∀ X, Kept [] w0 X → R (.returned (.tuple #[.agg #[v0, v1, v2, v3, v4], E])) X) : bodyPost Tryz.prog f R .ret a (put5 g v0 v1 v2 v3 v4 w) := by
  refine ret_row h _ hp (put5_has hH v0 v1 v2 v3 v4) rfl Tryz.underlying78 rfl size_cell hdf ?_
  rw [hE]
  exact hR _ (put5_kept hk (.inr hg) _ _ _ _ _)
section
variable {w : World} {s : Ids} {l : List Ty} {ws : List Int} {bs : List Bool}
set_option maxRecDepth 100000 in
set_option maxHeartbeats 4000000 in
theorem cell_ok (hF : Fields w) (h : Spc w s l ws bs) (g : Int) (g0 : 0 ≤ g) (g1 : g ≤ 4611686018427387903) :
    Calls Tryz.prog 111 #[.pointer (some ⟨s.sp, 0, none⟩), .int .i64 g] w fun e w' => e = .returned (.tuple #[(cellC ws l g).val, .bool (cellB ws l g)]) ∧ Kept [] w w' := by
  obtain ⟨m, ha⟩ := h.ar
  have hsh := h.short
  have hG : 0 ≤ gran ws ∧ gran ws ≤ 32768 := by unfold gran; omega
  have hb := Has.new w 78 [.int .i64 0, .int .u8 0, .int .i64 0, .int .i64 0, .int .i64 0]
  have k0 : Kept [] w (w.alloc (.cells #[.int .i64 0, .int .u8 0, .int .i64 0, .int .i64 0, .int .i64 0] 78)) := (Kept.refl [] w).alloc _
  have HH := Lib.hid (fun y (k : Kept [] w y) => head_any (hF.keep0 k) (ha.keep0 k) h.wds g (by omega) (by omega))
  have hok := hdH_ok (g := g) h.wds
  have HFt := Lib.hid (fun y (k : Kept [] w y) => fits_tab (hF.keep0 k) (h.tab.keep0 k) (hdH ws g) hok)
  have HGr := Lib.hid (fun y (k : Kept [] w y) => granules_ok (h.keep0 k))
  have HSp := Lib.hid (fun y (k : Kept [] w y) => (h.keep0 k).cells)
  have HN : Hid (∀ y : World, Has (y.alloc (.cells #[.int .u8 (hdH ws g).tg, .int .i64 (hdH ws g).ty, .int .i64 (hdH ws g).ln, .int .i64 (hdH ws g).sz] 76)) y.heap.size 76 [.int .u8 (hdH ws g).tg, .int .i64 (hdH ws g).ty, .int .i64 (hdH ws g).ln, .int .i64 (hdH ws g).sz]) := Lib.hid fun y => Hd.Hd.new y _
  have hz0 := hok.s0
  have hz1 := hok.s1
  have hcb : cellB ws l g = decide (hdE ws g = 0 ∧ fitL l (hdH ws g) = 0 ∧ (hdH ws g).sz ≤ gran ws - g) := rfl
  unfold cellC
  rw [hcb]
  obtain ⟨i0, i1, i2⟩ := HSp.out _ k0
  clear hcb hok h hF ha
  generalize gran ws = G at *
  generalize hdE ws g = er at *
  generalize fitL l (hdH ws g) = fe at *
  generalize hdH ws g = x at *
  generalize s.sp = sp at *
  generalize s.ap = ap at *
  generalize s.tp = tp at *
  have HB := Lib.hid hb
  have K0 := Lib.hid k0
  clear hb k0
  unfold Hd.val Cel.val at *
  by_cases h1 : er = 0
  · by_cases h2 : fe = 0
    · by_cases h3 : x.sz ≤ G - g
      · rw [decide_eq_true ⟨h1, h2, h3⟩, if_pos rfl]
        simp only
        have hb1 : (er != 0) = false := by rw [h1]; rfl
        have hb2 : (fe != 0) = false := by rw [h2]; rfl
        clear h1 h2
        generalize x.tg = xg at *
        generalize x.ty = xt at *
        generalize x.ln = xn at *
        generalize x.sz = xs at *
        have hwr : IntKind.i64.wrap (G - g) = G - g := by rw [IntKind.wrap_i64]; omega
        have hgt : decide (G - g < xs) = false := decide_eq_false (by omega)
        clear h3
        go_enter Tryz.func111, Tryz.ntmps111
        go_wp2_with fail
        refine (HH.out _ K0.out).mono ?_
        rintro e x1 ⟨rfl, k1⟩
        have K1 := Lib.hid ((K0.out.trans k1).alloc (.cells #[.int .u8 xg, .int .i64 xt, .int .i64 xn, .int .i64 xs] 76))
        have b1 := HN.out x1
        have r1 := (HB.out.keep0 k1).alloc (.cells #[.int .u8 xg, .int .i64 xt, .int .i64 xn, .int .i64 xs] 76)
        have R1 := Lib.hid r1
        have B1 := Lib.hid b1
        clear k1 b1 HH HN HB r1 i0 i1 i2
        go_wp2_with fail
        generalize x1.alloc (.cells #[.int .u8 xg, .int .i64 xt, .int .i64 xn, .int .i64 xs] 76) = y1 at *
        generalize x1.heap.size = hb at *
        obtain ⟨p0, p1, p2, p3⟩ := cells4 B1.out
        have c0 := cell_regrown p0
        have c1 := cell_regrown p1
        have c2 := cell_regrown p2
        have c3 := cell_regrown p3
        have s1 := cell_regrown (HSp.out _ K1.out).2.1
        have C1 : Hid (∀ d os, Calls Tryz.prog 76 #[.pointer (some ⟨tp, 0, none⟩), .agg #[.int .u8 xg, .int .i64 xt, .int .i64 xn, .int .i64 xs]] (grow (redrawn y1 d) os) fun e z => e = .returned (.int .i64 fe) ∧ ∃ p : Regrown, z = grow (redrawn y1 p.d) p.os) :=
          Lib.hid fun d os => Calls.regrown_of ((HFt.out _ (K1.out.trans (Kept.ofBelow (below_regrown y1 d os) []))).mono fun _ _ ⟨he, hk⟩ => ⟨he, hk.below (Nat.le_refl _) (by simp)⟩)
        have C2 : Hid (∀ d os, Calls Tryz.prog 26 #[.pointer (some ⟨sp, 0, none⟩)] (grow (redrawn y1 d) os) fun e z => e = .returned (.int .i64 G) ∧ ∃ p : Regrown, z = grow (redrawn y1 p.d) p.os) :=
          Lib.hid fun d os => Calls.regrown_of ((HGr.out _ (K1.out.trans (Kept.ofBelow (below_regrown y1 d os) []))).mono fun _ _ ⟨he, hk⟩ => ⟨he, by rw [← hk]; exact (Kept.refl [] _).below (Nat.le_refl _) (by simp)⟩)
        clear p0 p1 p2 p3 HFt HGr HSp
        refine wp_region_quiet_below (by kernel_rfl) (by kernel_rfl) ?_
        repeat (first | go_big_quiet_step (first | exact C1.out _ _ | exact C2.out _ _) | quiet_step (first | exact C1.out _ _ | exact C2.out _ _))
        refine wpQuiet_nil ?_
        rintro _ ⟨⟨dq, osq⟩, rfl⟩
        have hk3 := Kept.ofBelow (below_regrown y1 dq osq) []
        clear c0 c1 c2 c3 s1 C1 C2 hwr hgt hb1 hb2
        generalize grow (redrawn y1 dq) osq = y3 at hk3 ⊢
        have K3 := Lib.hid (K1.out.trans hk3)
        have b3 := B1.out.keep0 hk3
        have r3 := R1.out.keep0 hk3
        obtain ⟨c0, c1, c2, c3⟩ := cells4 b3
        obtain ⟨f0, f1, f2, f3, f4⟩ := free5 r3
        obtain ⟨d0, d1, d2, d3, d4⟩ := cells5 r3
        have R3 := Lib.hid r3
        clear hk3 b3 r3 B1 R1 K1
        go_wp2_with fail
        exact ret_cel rfl rfl R3.out K3.out (Nat.le_refl _) rfl rfl fun X hX => ⟨rfl, hX⟩
      · rw [decide_eq_false (by rintro ⟨a, b, c⟩; exact h3 c), if_neg (by decide)]
        unfold Cel.zero Hd.zero
        have hb1 : (er != 0) = false := by rw [h1]; rfl
        have hb2 : (fe != 0) = false := by rw [h2]; rfl
        clear h1 h2
        generalize x.tg = xg at *
        generalize x.ty = xt at *
        generalize x.ln = xn at *
        generalize x.sz = xs at *
        have hwr : IntKind.i64.wrap (G - g) = G - g := by rw [IntKind.wrap_i64]; omega
        have hgt : decide (G - g < xs) = true := decide_eq_true (by omega)
        clear h3
        go_enter Tryz.func111, Tryz.ntmps111
        go_wp2_with fail
        refine (HH.out _ K0.out).mono ?_
        rintro e x1 ⟨rfl, k1⟩
        have K1 := Lib.hid ((K0.out.trans k1).alloc (.cells #[.int .u8 xg, .int .i64 xt, .int .i64 xn, .int .i64 xs] 76))
        have b1 := HN.out x1
        have r1 := (HB.out.keep0 k1).alloc (.cells #[.int .u8 xg, .int .i64 xt, .int .i64 xn, .int .i64 xs] 76)
        have R1 := Lib.hid r1
        have B1 := Lib.hid b1
        clear k1 b1 HH HN HB r1 i0 i1 i2
        go_wp2_with fail
        generalize x1.alloc (.cells #[.int .u8 xg, .int .i64 xt, .int .i64 xn, .int .i64 xs] 76) = y1 at *
        generalize x1.heap.size = hb at *
        obtain ⟨p0, p1, p2, p3⟩ := cells4 B1.out
        have c0 := cell_regrown p0
        have c1 := cell_regrown p1
        have c2 := cell_regrown p2
        have c3 := cell_regrown p3
        have s1 := cell_regrown (HSp.out _ K1.out).2.1
        have C1 : Hid (∀ d os, Calls Tryz.prog 76 #[.pointer (some ⟨tp, 0, none⟩), .agg #[.int .u8 xg, .int .i64 xt, .int .i64 xn, .int .i64 xs]] (grow (redrawn y1 d) os) fun e z => e = .returned (.int .i64 fe) ∧ ∃ p : Regrown, z = grow (redrawn y1 p.d) p.os) :=
          Lib.hid fun d os => Calls.regrown_of ((HFt.out _ (K1.out.trans (Kept.ofBelow (below_regrown y1 d os) []))).mono fun _ _ ⟨he, hk⟩ => ⟨he, hk.below (Nat.le_refl _) (by simp)⟩)
        have C2 : Hid (∀ d os, Calls Tryz.prog 26 #[.pointer (some ⟨sp, 0, none⟩)] (grow (redrawn y1 d) os) fun e z => e = .returned (.int .i64 G) ∧ ∃ p : Regrown, z = grow (redrawn y1 p.d) p.os) :=
          Lib.hid fun d os => Calls.regrown_of ((HGr.out _ (K1.out.trans (Kept.ofBelow (below_regrown y1 d os) []))).mono fun _ _ ⟨he, hk⟩ => ⟨he, by rw [← hk]; exact (Kept.refl [] _).below (Nat.le_refl _) (by simp)⟩)
        clear p0 p1 p2 p3 HFt HGr HSp
        refine wp_region_quiet_below (by kernel_rfl) (by kernel_rfl) ?_
        repeat (first | go_big_quiet_step (first | exact C1.out _ _ | exact C2.out _ _) | quiet_step (first | exact C1.out _ _ | exact C2.out _ _))
        refine wpQuiet_nil ?_
        rintro _ ⟨⟨dq, osq⟩, rfl⟩
        have hk3 := Kept.ofBelow (below_regrown y1 dq osq) []
        clear c0 c1 c2 c3 s1 C1 C2 hwr hgt hb1 hb2
        generalize grow (redrawn y1 dq) osq = y3 at hk3 ⊢
        have K3 := Lib.hid (K1.out.trans hk3)
        have b3 := B1.out.keep0 hk3
        have r3 := R1.out.keep0 hk3
        obtain ⟨c0, c1, c2, c3⟩ := cells4 b3
        obtain ⟨f0, f1, f2, f3, f4⟩ := free5 r3
        obtain ⟨d0, d1, d2, d3, d4⟩ := cells5 r3
        have R3 := Lib.hid r3
        clear hk3 b3 r3 B1 R1 K1
        go_wp2_with fail
        exact ret_cel rfl rfl R3.out K3.out (Nat.le_refl _) rfl rfl fun X hX => ⟨rfl, hX⟩
    · rw [decide_eq_false (by rintro ⟨a, b, c⟩; exact h2 b), if_neg (by decide)]
      unfold Cel.zero Hd.zero
      have hb1 : (er != 0) = false := by rw [h1]; rfl
      have hb2 : (fe != 0) = true := by rw [bne_iff_ne]; exact h2
      clear h1 h2
      generalize x.tg = xg at *
      generalize x.ty = xt at *
      generalize x.ln = xn at *
      generalize x.sz = xs at *
      go_enter Tryz.func111, Tryz.ntmps111
      go_wp2_with fail
      refine (HH.out _ K0.out).mono ?_
      rintro e x1 ⟨rfl, k1⟩
      have K1 := Lib.hid ((K0.out.trans k1).alloc (.cells #[.int .u8 xg, .int .i64 xt, .int .i64 xn, .int .i64 xs] 76))
      have b1 := HN.out x1
      have r1 := (HB.out.keep0 k1).alloc (.cells #[.int .u8 xg, .int .i64 xt, .int .i64 xn, .int .i64 xs] 76)
      have R1 := Lib.hid r1
      have B1 := Lib.hid b1
      clear k1 b1 HH HN HB r1 i0 i1 i2
      go_wp2_with fail
      generalize x1.alloc (.cells #[.int .u8 xg, .int .i64 xt, .int .i64 xn, .int .i64 xs] 76) = y1 at *
      generalize x1.heap.size = hb at *
      obtain ⟨p0, p1, p2, p3⟩ := cells4 B1.out
      have c0 := cell_regrown p0
      have c1 := cell_regrown p1
      have c2 := cell_regrown p2
      have c3 := cell_regrown p3
      have s1 := cell_regrown (HSp.out _ K1.out).2.1
      have C1 : Hid (∀ d os, Calls Tryz.prog 76 #[.pointer (some ⟨tp, 0, none⟩), .agg #[.int .u8 xg, .int .i64 xt, .int .i64 xn, .int .i64 xs]] (grow (redrawn y1 d) os) fun e z => e = .returned (.int .i64 fe) ∧ ∃ p : Regrown, z = grow (redrawn y1 p.d) p.os) :=
        Lib.hid fun d os => Calls.regrown_of ((HFt.out _ (K1.out.trans (Kept.ofBelow (below_regrown y1 d os) []))).mono fun _ _ ⟨he, hk⟩ => ⟨he, hk.below (Nat.le_refl _) (by simp)⟩)
      have C2 : Hid (∀ d os, Calls Tryz.prog 26 #[.pointer (some ⟨sp, 0, none⟩)] (grow (redrawn y1 d) os) fun e z => e = .returned (.int .i64 G) ∧ ∃ p : Regrown, z = grow (redrawn y1 p.d) p.os) :=
        Lib.hid fun d os => Calls.regrown_of ((HGr.out _ (K1.out.trans (Kept.ofBelow (below_regrown y1 d os) []))).mono fun _ _ ⟨he, hk⟩ => ⟨he, by rw [← hk]; exact (Kept.refl [] _).below (Nat.le_refl _) (by simp)⟩)
      clear p0 p1 p2 p3 HFt HGr HSp
      refine wp_region_quiet_below (by kernel_rfl) (by kernel_rfl) ?_
      repeat (first | go_big_quiet_step (first | exact C1.out _ _ | exact C2.out _ _) | quiet_step (first | exact C1.out _ _ | exact C2.out _ _))
      refine wpQuiet_nil ?_
      rintro _ ⟨⟨dq, osq⟩, rfl⟩
      have hk3 := Kept.ofBelow (below_regrown y1 dq osq) []
      clear c0 c1 c2 c3 s1 C1 C2 hb1 hb2
      generalize grow (redrawn y1 dq) osq = y3 at hk3 ⊢
      have K3 := Lib.hid (K1.out.trans hk3)
      have b3 := B1.out.keep0 hk3
      have r3 := R1.out.keep0 hk3
      obtain ⟨c0, c1, c2, c3⟩ := cells4 b3
      obtain ⟨f0, f1, f2, f3, f4⟩ := free5 r3
      obtain ⟨d0, d1, d2, d3, d4⟩ := cells5 r3
      have R3 := Lib.hid r3
      clear hk3 b3 r3 B1 R1 K1
      go_wp2_with fail
      exact ret_cel rfl rfl R3.out K3.out (Nat.le_refl _) rfl rfl fun X hX => ⟨rfl, hX⟩
  · rw [decide_eq_false (by rintro ⟨a, b, c⟩; exact h1 a), if_neg (by decide)]
    unfold Cel.zero Hd.zero
    have hb1 : (er != 0) = true := by rw [bne_iff_ne]; exact h1
    clear h1
    generalize x.tg = xg at *
    generalize x.ty = xt at *
    generalize x.ln = xn at *
    generalize x.sz = xs at *
    go_enter Tryz.func111, Tryz.ntmps111
    go_wp2_with fail
    refine (HH.out _ K0.out).mono ?_
    rintro e x1 ⟨rfl, k1⟩
    have K1 := Lib.hid ((K0.out.trans k1).alloc (.cells #[.int .u8 xg, .int .i64 xt, .int .i64 xn, .int .i64 xs] 76))
    have b1 := HN.out x1
    have r1 := (HB.out.keep0 k1).alloc (.cells #[.int .u8 xg, .int .i64 xt, .int .i64 xn, .int .i64 xs] 76)
    have R1 := Lib.hid r1
    have B1 := Lib.hid b1
    clear k1 b1 HH HN HB r1 i0 i1 i2
    go_wp2_with fail
    generalize x1.alloc (.cells #[.int .u8 xg, .int .i64 xt, .int .i64 xn, .int .i64 xs] 76) = y1 at *
    generalize x1.heap.size = hb at *
    obtain ⟨p0, p1, p2, p3⟩ := cells4 B1.out
    have c0 := cell_regrown p0
    have c1 := cell_regrown p1
    have c2 := cell_regrown p2
    have c3 := cell_regrown p3
    have s1 := cell_regrown (HSp.out _ K1.out).2.1
    have C1 : Hid (∀ d os, Calls Tryz.prog 76 #[.pointer (some ⟨tp, 0, none⟩), .agg #[.int .u8 xg, .int .i64 xt, .int .i64 xn, .int .i64 xs]] (grow (redrawn y1 d) os) fun e z => e = .returned (.int .i64 fe) ∧ ∃ p : Regrown, z = grow (redrawn y1 p.d) p.os) :=
      Lib.hid fun d os => Calls.regrown_of ((HFt.out _ (K1.out.trans (Kept.ofBelow (below_regrown y1 d os) []))).mono fun _ _ ⟨he, hk⟩ => ⟨he, hk.below (Nat.le_refl _) (by simp)⟩)
    have C2 : Hid (∀ d os, Calls Tryz.prog 26 #[.pointer (some ⟨sp, 0, none⟩)] (grow (redrawn y1 d) os) fun e z => e = .returned (.int .i64 G) ∧ ∃ p : Regrown, z = grow (redrawn y1 p.d) p.os) :=
      Lib.hid fun d os => Calls.regrown_of ((HGr.out _ (K1.out.trans (Kept.ofBelow (below_regrown y1 d os) []))).mono fun _ _ ⟨he, hk⟩ => ⟨he, by rw [← hk]; exact (Kept.refl [] _).below (Nat.le_refl _) (by simp)⟩)
    clear p0 p1 p2 p3 HFt HGr HSp
    refine wp_region_quiet_below (by kernel_rfl) (by kernel_rfl) ?_
    repeat (first | go_big_quiet_step (first | exact C1.out _ _ | exact C2.out _ _) | quiet_step (first | exact C1.out _ _ | exact C2.out _ _))
    refine wpQuiet_nil ?_
    rintro _ ⟨⟨dq, osq⟩, rfl⟩
    have hk3 := Kept.ofBelow (below_regrown y1 dq osq) []
    clear c0 c1 c2 c3 s1 C1 C2 hb1
    generalize grow (redrawn y1 dq) osq = y3 at hk3 ⊢
    have K3 := Lib.hid (K1.out.trans hk3)
    have b3 := B1.out.keep0 hk3
    have r3 := R1.out.keep0 hk3
    obtain ⟨c0, c1, c2, c3⟩ := cells4 b3
    obtain ⟨f0, f1, f2, f3, f4⟩ := free5 r3
    obtain ⟨d0, d1, d2, d3, d4⟩ := cells5 r3
    have R3 := Lib.hid r3
    clear hk3 b3 r3 B1 R1 K1
    go_wp2_with fail
    exact ret_cel rfl rfl R3.out K3.out (Nat.le_refl _) rfl rfl fun X hX => ⟨rfl, hX⟩
end
end Go.Proofs.YtagmmbkgjomdlaaGreatDoor.Sp

/-
  The loop over a space's cells: the contract of the function that cells hands back.
-/
namespace Go.Proofs.YtagmmbkgjomdlaaGreatDoor.Sp
open Go.RowKit Go.Proofs.YtagmmbkgjomdlaaGreatDoor.Ar Go.Proofs.YtagmmbkgjomdlaaGreatDoor.Sh Go.Shelf Go.Sort
open Go.Proofs.YtagmmbkgjomdlaaGreatDoor.Hd (Hd Fields)
open Go.Proofs.YtagmmbkgjomdlaaGreatDoor.Tb (Ty Tab)
open Go.Proofs.YtagmmbkgjomdlaaGreatDoor.Bt (Bv)
set_option linter.unusedVariables false
attribute [local go_sem] Oper.semAt_some

/-- The block of the slice that lies in the box b. -/
def ownAt (W : World) (b : Nat) : Option Nat := match W.cell? ⟨b, 0, none⟩ with | some v => v.ownBlock | none => none
theorem ownAt_of {W W' : World} {b : Nat} (h : W'.heap[b]? = W.heap[b]?) : ownAt W' b = ownAt W b := by
  unfold ownAt
  rw [World.cell?_of_block (w := W) h]
theorem ownAt_has {W : World} {b : Nat} {t : TypeId} {v : Value} (h : Has W b t [v]) : ownAt W b = v.ownBlock := by
  unfold ownAt
  rw [h.cell 0]
  rfl
/-- What a round that goes on keeps: all cells but the box b and the slice in it. -/
structure Kpw (b : Nat) (A B : World) : Prop where
  size : A.heap.size ≤ B.heap.size
  same : ∀ i o, i ≠ b → ownAt A b ≠ some i → A.heap[i]? = some o → o.isCells = true → B.heap[i]? = some o
  own : ownAt B b = ownAt A b ∨ ∃ g, ownAt B b = some g ∧ A.heap.size ≤ g ∧ g < B.heap.size
namespace Kpw
theorem refl (b : Nat) (W : World) : Kpw b W W := ⟨Nat.le_refl _, fun _ _ _ _ h _ => h, .inl rfl⟩
theorem trans {b : Nat} {A B C : World} (h : Kpw b A B) (k : Kpw b B C) : Kpw b A C := by
  refine ⟨Nat.le_trans h.size k.size, fun i o hi ha ho hc => ?_, ?_⟩
  · refine k.same i o hi (fun e => ?_) (h.same i o hi ha ho hc) hc
    rcases h.own with h1 | ⟨g, h1, h2, _⟩
    · rw [h1] at e; exact ha e
    · rw [h1] at e
      injection e with e
      have := (Array.getElem?_eq_some_iff.1 ho).1
      omega
  · rcases k.own with k1 | ⟨g, k1, k2, k3⟩
    · rw [k1]
      rcases h.own with h1 | ⟨g, h1, h2, h3⟩
      · exact .inl h1
      · exact .inr ⟨g, h1, h2, Nat.lt_of_lt_of_le h3 k.size⟩
    · exact .inr ⟨g, k1, Nat.le_trans h.size k2, k3⟩
theorem put {b n : Nat} (hb : b < n) (W : World) (l : Nat) (o o' : Obj) (hl : n ≤ l) (h : W.heap[l]? = some o) (hc : o.isCells = false) : Kpw b W (W.putObj l o') := by
  have hlt := (Array.getElem?_eq_some_iff.1 h).1
  refine ⟨(grownBy_putObj' W l o').size, fun i x hi _ hx hxc => ?_, .inl ?_⟩
  · have hne : i ≠ l := by rintro rfl; rw [h] at hx; injection hx with hx; rw [hx, hxc] at hc; cases hc
    exact ((grownBy_putObj' W l o').block i (Array.getElem?_eq_some_iff.1 hx).1 (fun e => hne (by injection e))).trans hx
  · exact ownAt_of ((grownBy_putObj' W l o').block b (by omega) (fun e => by injection e with e; omega))
theorem ofKept {b : Nat} {A B : World} (k : Kept [] A B) (hb : b < A.heap.size) : Kpw b A B :=
  ⟨k.more, fun i o _ _ ho _ => (k.old i (Array.getElem?_eq_some_iff.1 ho).1 (by simp)).trans ho, .inl (ownAt_of (k.old b hb (by simp)))⟩
theorem has {b : Nat} {A B : World} (h : Kpw b A B) {i : Nat} {t : TypeId} {cs : List Value} (hi : i ≠ b) (ho : ownAt A b ≠ some i) (hh : Has A i t cs) : Has B i t cs := h.same i _ hi ho hh rfl
end Kpw
theorem grownBy_of {A B : World} (k : Kept [] A B) : A.grownBy B none :=
  ⟨k.os, k.tape, k.out, k.more, fun i hi _ => k.old i hi (by simp)⟩
/-- A space is the same where its blocks are. -/
theorem Spc.moved {w w' : World} {s : Ids} {l : List Ty} {ws : List Int} {bs : List Bool} (h : Spc w s l ws bs) (k : ∀ i o, (∃ t cs, (t = 124 ∨ t = 185 ∨ t = 32 ∨ t = 156 ∨ t = 84 ∨ t = 183 ∨ t = 217) ∧ Has w i t cs) → w.heap[i]? = some o → w'.heap[i]? = some o) : Spc w' s l ws bs := by
  obtain ⟨m, a⟩ := h.ar
  obtain ⟨vs, bv, hM⟩ := h.bv
  refine ⟨k _ _ ⟨_, _, by simp, h.head⟩ h.head, ⟨m, k _ _ ⟨_, _, by simp, a.head⟩ a.head, k _ _ ⟨_, _, by simp, a.row⟩ a.row, a.short⟩, ⟨k _ _ ⟨_, _, by simp, h.tab.head⟩ h.tab.head, ⟨h.tab.own.1, ?_⟩, h.tab.nil, h.tab.len, h.tab.all⟩, ⟨vs, ⟨k _ _ ⟨_, _, by simp, bv.head⟩ bv.head, k _ _ ⟨_, _, by simp, bv.row⟩ bv.row, bv.len, bv.few, bv.word⟩, hM⟩, h.wm⟩
  rcases h.tab.own.2 with hn | ⟨g, cap, cur, e, hb, hg, rest⟩
  · exact .inl hn
  · refine .inr ⟨g, cap, cur, e, hb, ?_, rest⟩
    have hh : Has w g 84 cur.toList := by unfold Has; simpa using hg
    exact k _ _ ⟨_, _, by simp, hh⟩ hg
theorem Spc.kpw {w w' : World} {s : Ids} {l : List Ty} {ws : List Int} {bs : List Bool} {b : Nat} {tb : TypeId} {vb : Value} (h : Spc w s l ws bs) (hb : Has w b tb [vb]) (ht : tb ∉ [124, 185, 32, 156, 84, 183, 217]) (hn : ownAt w b = none) (k : Kpw b w w') : Spc w' s l ws bs := by
  refine h.moved fun i o ⟨t, cs, hi, hh⟩ ho => ?_
  refine k.same i o ?_ (by rw [hn]; simp) ho ?_
  · refine Has.block_type hh hb ?_
    rintro rfl
    exact ht (by simp; omega)
  · rw [hh] at ho
    injection ho with ho
    rw [← ho]
    rfl
theorem fields_kpw {w w' : World} {b : Nat} {tb : TypeId} {vb : Value} (h : Fields w) (hb : Has w b tb [vb]) (hn : ownAt w b = none) (k : Kpw b w w') : Fields w' := by
  obtain ⟨t, fr, hh⟩ := h
  refine ⟨t, fr, k.same _ _ ?_ (by rw [hn]; simp) hh rfl⟩
  rintro e
  rw [← e] at hb
  have e2 := hb.symm.trans hh
  injection e2 with e2
  injection e2 with e3
  have := congrArg Array.size e3
  simp [Hd.fieldCells] at this
abbrev El (cs : List Cel) := { c : Cel // c ∈ cs }
def encs {cs : List Cel} (x : El cs) : Array Value := #[.agg #[.int .i64 x.1.a, .int .u8 x.1.h.tg, .int .i64 x.1.h.ty, .int .i64 x.1.h.ln, .int .i64 x.1.h.sz]]
def vals {cs : List Cel} (xs : List (El cs)) : List Cel := xs.map (·.1)
theorem vals_snoc {cs : List Cel} (xs : List (El cs)) (x : El cs) : vals (xs ++ [x]) = vals xs ++ [x.1] := by simp [vals]

set_option maxRecDepth 100000 in
set_option maxHeartbeats 4000000 in
theorem cells1_in (n : Nat) (hn : 1 ≤ n) (b bg bb : Nat) (s : Ids) (l : List Ty) (ws : List Int) (bs : List Bool) (g : Int) (cs : List Cel) (y : Nat) (J Jx : List (El cs) → World → Prop) (W : World) (hJ : AbidesFrom W.heap.size J)
    (hY : ∀ pre x W1, J pre W1 → pre.length < cs.length → YieldAt Fence.wide (n - 1) Tryz.prog y (encs x) W1 fun e W' =>
      (e = .returned (.bool true) ∧ J (pre ++ [x]) W' ∧ Kpw b W1 W') ∨ (e = .returned (.bool false) ∧ Jx (pre ++ [x]) W'))
    (hG : Has W bg 3 [.int .i64 g]) (g0 : 0 ≤ g) (g1 : g ≤ 1000000) (hB : Has W bb 27 [.pointer (some ⟨s.sp, 0, none⟩)]) (hF : Fields W) (hS : Spc W s l ws bs) (hC : Scans ws l g cs)
    {tb : TypeId} {vb : Value} (hb : Has W b tb [vb]) (ht : tb ∉ [124, 185, 32, 156, 84, 183, 217]) (hti : tb ≠ 27) (hob : vb.ownBlock = none) (h0 : J [] W) :
    CallsIn Fence.wide n Tryz.prog 110 #[.func (.yield y) #[] #[], .pointer (some ⟨bg, 0, none⟩), .pointer (some ⟨bb, 0, none⟩)] W fun e' W' => (∃ v, e' = .returned v) ∧
      ((∃ xs, vals xs = cs ∧ J xs W') ∨ (∃ pre, (∃ rest, cs = vals pre ++ rest) ∧ Jx pre W')) := by
  have cg := hG.cell 0
  simp at cg
  have hown : ownAt W b = none := (ownAt_has hb).trans hob
  have hsh := hS.short
  have hgr : 0 ≤ gran ws ∧ gran ws ≤ 32768 := by unfold gran; omega
  have HSp : Hid (∀ X, Kpw b W X → Spc X s l ws bs) := Lib.hid fun X k => hS.kpw hb ht hown k
  have HFd : Hid (∀ X, Kpw b W X → Fields X) := Lib.hid fun X k => fields_kpw hF hb hown k
  have HBb : Hid (∀ X, Kpw b W X → Has X bb 27 [.pointer (some ⟨s.sp, 0, none⟩)]) := Lib.hid fun X k => k.has (Has.block_type hB hb (Ne.symm hti)) (by rw [hown]; simp) hB
  have Hlt := Lib.hid hb.lt
  have Hown := Lib.hid hown
  have H0 := Lib.hid h0
  have HY := Lib.hid hY
  have HJ := Lib.hid hJ
  have HC := Lib.hid hC
  clear hG h0 hY hJ hb hob hti ht hown hS hF hB hC
  refine callsIn_of_wp Tryz.func110 rfl trivial ?_ rfl
  simp only [Tryz.ntmps110, List.size_toArray, List.length_cons, List.length_nil, Nat.reduceAdd, Nat.reduceSub, Array.replicate_succ, Array.replicate_zero, List.push_toArray, List.append_toArray, List.nil_append, List.cons_append]
  gi_wp2_with (fail)
  clear cg
  gi_loopw [4] (fun t wr => ∃ a : Int, t = .int .i64 a ∧ 0 ≤ a ∧ a ≤ 1000000 ∧ Hid (∃ (pre : List (El cs)) (rest : List Cel), vals pre ++ rest = cs ∧ Scans ws l a rest ∧ J pre wr ∧ Kpw b W wr)) (fun t _ => (gran ws - intOf t).toNat)
  case atStart => exact ⟨g, rfl, g0, g1, Lib.hid ⟨[], cs, rfl, HC.out, H0.out, Kpw.refl _ _⟩⟩
  case round =>
    obtain ⟨a, rfl, a0, a1, hr⟩ := hrel
    obtain ⟨pre, rest, hpr, hsc, hJp, hkp⟩ := hr.out
    have HS1 := Lib.hid (HSp.out _ hkp)
    have cb := (HBb.out _ hkp).cell 0
    simp at cb
    have HGr := Lib.hid (granules_ok HS1.out)
    have HCl := Lib.hid (cell_ok (HFd.out _ hkp) HS1.out a a0 (by omega))
    have Hsc := Lib.hid hsc
    have Hpr := Lib.hid hpr
    have HJp := Lib.hid hJp
    have Hkp := Lib.hid hkp
    clear hr hpr hsc hJp hkp
    obtain ⟨G, hG⟩ : ∃ G, gran ws = G := ⟨_, rfl⟩
    rw [hG] at HGr hgr ⊢
    have HGe := Lib.hid hG
    clear hG
    by_cases hlt : a < G
    · gi_wp2_with (fail)
      refine ⟨trivial, (callsIn_wide.2 HGr.out).mono ?_⟩
      rintro e1 w1 ⟨rfl, rfl⟩
      clear HGr
      gi_wp2_with (fail)
      cases rest with
      | nil =>
        have hcb : cellB ws l a = false := Hsc.out
        unfold cellC at HCl
        rw [hcb, if_neg (by decide)] at HCl
        unfold Cel.val Cel.zero Hd.zero at HCl
        simp only at HCl
        refine ⟨trivial, (callsIn_wide.2 HCl.out).mono ?_⟩
        rintro e1 w1 ⟨rfl, hk1⟩
        have Hk1 := Lib.hid hk1
        clear hk1 HCl hcb Hsc
        gi_wp2_with (fail)
        refine ⟨(fun f h => by cases h), ?_⟩
        gi_wp2_with (fail)
        refine bodyPost_ret (results_none rfl _ _ _) rfl ?_
        refine ⟨⟨_, rfl⟩, .inl ⟨pre, by have := Hpr.out; rwa [List.append_nil] at this, HJ.out pre wr _ none HJp.out (grownBy_of (Hk1.out.alloc _)) (fun r e => by cases e)⟩⟩
      | cons c rest =>
        obtain ⟨hcb, hce, hsr⟩ := Hsc.out
        have hfa := cellB_facts hcb
        unfold cellC at HCl
        rw [hcb, if_pos rfl, ← hce] at HCl
        have hca : c.a = a := by rw [hce]
        have hsz : c.h.sz = (hdH ws a).sz := by rw [hce]
        have hmem : c ∈ cs := by rw [← Hpr.out]; simp
        have hlen : pre.length < cs.length := by
          have := congrArg List.length Hpr.out
          unfold vals at this
          simp at this
          omega
        have Hnext : Hid (vals (pre ++ [⟨c, hmem⟩]) ++ rest = cs) := Lib.hid (by rw [vals_snoc]; simpa using Hpr.out)
        have Hsr : Hid (Scans ws l (c.a + c.h.sz) rest) := Lib.hid (by rw [hca]; exact hsr)
        have hz1 : 1 ≤ c.h.sz := by omega
        have hz2 : c.a + c.h.sz ≤ G := by have := HGe.out; unfold gran at this; omega
        have HBh := Lib.hid (fun X => behind_ok c (by omega) (by omega) (by omega) (by omega) X)
        have Hyy := Lib.hid (fun X (hJX : J pre X) => HY.out pre ⟨c, hmem⟩ X hJX hlen)
        clear hcb hce hsr hfa hsz Hsc
        obtain ⟨ca, ⟨ct, cy, cl, cz⟩⟩ := c
        simp only at hca hz1 hz2 HBh HCl Hsr
        subst hca
        unfold Cel.val at HCl HBh
        simp only at HCl HBh
        refine ⟨trivial, (callsIn_wide.2 HCl.out).mono ?_⟩
        rintro e1 w1 ⟨rfl, hk1⟩
        have hb2 : Has (w1.alloc (.cells #[.int .i64 ca, .int .u8 ct, .int .i64 cy, .int .i64 cl, .int .i64 cz] 78)) w1.heap.size 78 [.int .i64 ca, .int .u8 ct, .int .i64 cy, .int .i64 cl, .int .i64 cz] := Has.new w1 _ _
        have hk2 : Kept [] wr (w1.alloc (.cells #[.int .i64 ca, .int .u8 ct, .int .i64 cy, .int .i64 cl, .int .i64 cz] 78)) := hk1.alloc _
        have hbw : wr.heap.size ≤ w1.heap.size := hk1.more
        clear hk1 HCl
        obtain ⟨d0, d1, d2, d3, d4⟩ := cells5 hb2
        have Hb2 := Lib.hid hb2
        have Hk2 := Lib.hid hk2
        clear hb2 hk2
        gi_wp2_with (fail)
        generalize w1.alloc (.cells #[.int .i64 ca, .int .u8 ct, .int .i64 cy, .int .i64 cl, .int .i64 cz] 78) = w2 at *
        generalize w1.heap.size = xb at *
        obtain ⟨fn, tmps, assign, body, hy, hR⟩ := Hyy.out w2 (HJ.out pre wr w2 none HJp.out (grownBy_of Hk2.out) (fun r e => by cases e))
        dsimp only [encs] at hy
        clear Hyy
        gi_wp2_with (fail)
        rw [hy, Oper.uponIn_round]
        refine ⟨fun _ => hn, hR.mono ?_⟩
        rintro e3 W3 (⟨rfl, hJ3, hkp3⟩ | ⟨rfl, hJx⟩)
        · have hxb : xb ≠ b := by
            rintro rfl
            have := Hlt.out
            have := Hkp.out.size
            omega
          have ho2 : ownAt w2 b ≠ some xb := by
            have hlb : b < wr.heap.size := Nat.lt_of_lt_of_le Hlt.out Hkp.out.size
            rw [ownAt_of (Hk2.out.old b hlb (by simp))]
            rcases Hkp.out.own with h1 | ⟨g', h1, _, h3⟩
            · rw [h1, Hown.out]; simp
            · rw [h1]
              intro e
              injection e with e
              omega
          have hb3 := hkp3.has hxb ho2 Hb2.out
          clear d0 d1 d2 d3 d4
          obtain ⟨d0, d1, d2, d3, d4⟩ := cells5 hb3
          have HN : Hid (∀ X, Kept [] W3 X → ∃ (pre : List (El cs)) (rest : List Cel), vals pre ++ rest = cs ∧ Scans ws l (ca + cz) rest ∧ J pre X ∧ Kpw b W X) :=
            Lib.hid fun X k => ⟨_, rest, Hnext.out, Hsr.out, HJ.out _ W3 X none hJ3 (grownBy_of k) (fun r e => by cases e), ((Hkp.out.trans (Kpw.ofKept Hk2.out (Nat.lt_of_lt_of_le Hlt.out Hkp.out.size))).trans hkp3).trans (Kpw.ofKept k (Nat.lt_of_lt_of_le Hlt.out (Nat.le_trans Hkp.out.size (Nat.le_trans Hk2.out.more hkp3.size))))⟩
          clear hJ3 hkp3 hy hR hxb ho2 hb3 HJp Hkp Hnext Hsr
          gi_wp2_with (fail)
          refine ⟨trivial, (callsIn_wide.2 (HBh.out _)).mono ?_⟩
          rintro e4 W4 ⟨rfl, hk4⟩
          have HN4 := Lib.hid (HN.out _ hk4)
          clear HN hk4 HBh
          gi_wp2_with (fail)
          go_roundw
          case rel => exact ⟨ca + cz, rfl, by omega, by omega, HN4⟩
          case measure => simp [intOf]; omega
        · have HE : Hid (cs = vals (pre ++ [⟨_, hmem⟩]) ++ rest) := Lib.hid Hnext.out.symm
          clear hy hR
          gi_wp2_with (fail)
          refine bodyPost_ret (results_none rfl _ _ _) rfl ?_
          exact ⟨⟨_, rfl⟩, .inr ⟨_, ⟨_, HE.out⟩, hJx⟩⟩
    · have hcb : cellB ws l a = false := cellB_out (by have := HGe.out; unfold gran at this; omega)
      have hnil : rest = [] := by
        cases rest with
        | nil => rfl
        | cons c rest => have := Hsc.out.1; rw [hcb] at this; cases this
      subst hnil
      clear hcb HCl
      gi_wp2_with (fail)
      refine ⟨trivial, (callsIn_wide.2 HGr.out).mono ?_⟩
      rintro e1 w1 ⟨rfl, rfl⟩
      clear HGr
      gi_wp2_with (fail)
      go_end0
      exact ⟨⟨_, rfl⟩, .inl ⟨pre, by have := Hpr.out; rwa [List.append_nil] at this, HJp.out⟩⟩

theorem cells_stops (n : Nat) (hn : 1 ≤ n) (b bg bb : Nat) (s : Ids) (l : List Ty) (ws : List Int) (bs : List Bool) (g : Int) (cs : List Cel) (w : World)
    (hG : Has w bg 3 [.int .i64 g]) (g0 : 0 ≤ g) (g1 : g ≤ 1000000) (hB : Has w bb 27 [.pointer (some ⟨s.sp, 0, none⟩)]) (hF : Fields w) (hS : Spc w s l ws bs) (hC : Scans ws l g cs)
    {tb : TypeId} {vb : Value} (hb : Has w b tb [vb]) (ht : tb ∉ [124, 185, 32, 156, 84, 183, 217]) (hti : tb ≠ 27) (hob : vb.ownBlock = none) :
    SeqStopsK Fence.wide n Tryz.prog 110 #[.pointer (some ⟨bg, 0, none⟩), .pointer (some ⟨bb, 0, none⟩)] (encs (cs := cs)) (Kpw b) (fun xs => vals xs = cs) (fun pre => ∃ rest, cs = vals pre ++ rest) cs.length w :=
  fun y J Jx W hW hJ _ hY h0 => cells1_in n hn b bg bb s l ws bs g cs y J Jx W hJ hY (hG.keep0 (Kept.ofBelow hW [])) g0 g1 (hB.keep0 (Kept.ofBelow hW [])) (hF.keep0 (Kept.ofBelow hW [])) (hS.keep0 (Kept.ofBelow hW [])) hC (hb.keep0 (Kept.ofBelow hW [])) ht hti hob h0
end Go.Proofs.YtagmmbkgjomdlaaGreatDoor.Sp

/-
  A region that draws its order, whose first k operations only read and all come ahead of the rest: the head in the text's order, then the rest in whatever order is left. No program is named here.
-/
namespace Go.Proofs.YtagmmbkgjomdlaaGreatDoor.Rk

section
variable {P : Program} {C : World → Prop} {md : Region.Mode} {r : Option Nat} {m : Nat}

/-- Each of the rest but its first waits for one of the rest. -/
def tailB (md : Region.Mode) (ops : Array Oper) (n : Nat) : Bool :=
  (List.range ops.size).all fun t => decide (t ≤ n) || (List.range t).any fun s => decide (n ≤ s) && Region.waitsFor md ops t s
theorem tail_waits' {ops : Array Oper} {n : Nat} {listed : Array Bool} (hs : Region.sinkB md ops n = true) (hc : tailB md ops n = true) (hn : n < ops.size) (inv : HeadInv md ops n listed) :
    ∀ (d i : Nat), n - i = d → i < n → listed.getD i true = false → ∀ t, n ≤ t → t ∉ Region.ready md ops listed := by
  intro d
  induction d using Nat.strongRecOn with
  | _ d ih =>
    intro i hd hi hun t ht hr
    obtain ⟨_, ot, hot, hall⟩ := mem_ready.1 hr
    have htlt : t < ops.size := (Array.getElem?_eq_some_iff.1 hot).1
    by_cases htn : t = n
    · subst htn
      have h1 := List.all_eq_true.1 hs i (List.mem_range.2 hi)
      obtain ⟨j, hj, hj2⟩ := List.any_eq_true.1 h1
      simp only [Bool.and_eq_true, decide_eq_true_eq] at hj2
      obtain ⟨oj, hoj, e, he, hb, hon⟩ := Region.waitsFor_spec hj2.2
      have hjle : j ≤ t := by have := List.mem_range.1 hj; omega
      by_cases hjt : j = t
      · subst hjt
        have : oj = ot := Option.some.inj (hoj.symm.trans hot)
        subst this
        have h2 := hall e he hb
        rw [hon, getD_both hun] at h2
        cases h2
      · cases hl : listed.getD j false with
        | true =>
          have h2 := inv.closed j oj hoj hl e he hb
          rw [hon, getD_both hun] at h2
          cases h2
        | false =>
          have hjs : j < listed.size := by rw [inv.size]; omega
          exact ih (t - j) (by omega) j rfl (by omega) (getD_in hjs hl) t (Nat.le_refl _) hr
    · have h1 := List.all_eq_true.1 hc t (List.mem_range.2 htlt)
      simp only [Bool.or_eq_true, decide_eq_true_eq] at h1
      rcases h1 with h1 | h1
      · omega
      · obtain ⟨s, hs1, hs2⟩ := List.any_eq_true.1 h1
        simp only [Bool.and_eq_true, decide_eq_true_eq] at hs2
        obtain ⟨o', ho', e, he, hb, hon⟩ := Region.waitsFor_spec hs2.2
        have hst := List.mem_range.1 hs1
        have : o' = ot := Option.some.inj (ho'.symm.trans hot)
        subst this
        have h2 := hall e he hb
        rw [hon, getD_both (inv.tail s hs2.1 (by omega))] at h2
        cases h2
def earlierK (k : Nat) (l : List Oper) : Bool := (List.range k).all fun j => match l[j]? with | some o => o.after.all fun e => decide (e.on < j) | none => true
theorem ready_some' {k : Nat} {l : List Oper} {listed : Array Bool} (hk : k ≤ l.length) (hE : earlierK k l = true) (inv : HeadInv md l.toArray k listed) (h : ∃ i, i < k ∧ listed.getD i true = false) : Region.ready md l.toArray listed ≠ [] := by
  obtain ⟨i, hi, hu⟩ := h
  induction i using Nat.strongRecOn with
  | _ i ih =>
    have hil : i < l.length := by omega
    by_cases hall : ∀ e ∈ l[i].after, Region.binds md e = true → listed.getD e.on false = true
    · intro h0
      have hm : i ∈ Region.ready md l.toArray listed := mem_ready.2 ⟨hu, l[i], by simp [hil], hall⟩
      rw [h0] at hm
      cases hm
    · simp only [Classical.not_forall] at hall
      obtain ⟨e, he, _, hne⟩ := hall
      have h1 := List.all_eq_true.1 hE i (List.mem_range.2 hi)
      rw [List.getElem?_eq_getElem hil] at h1
      have h2 : e.on < i := by
        have := Array.all_eq_true_iff_forall_mem.1 h1 e he
        simpa using this
      refine ih e.on h2 (by omega) ?_
      have hsz := inv.size
      refine getD_in (by rw [hsz]; simp; omega) ?_
      simpa using hne
/-- What the quiet walk says of the end, once the head is over. -/
theorem quiet_end' {k : Nat} {l : List Oper} {Q : Act → Prop} : ∀ (fuel : Nat) (listed : Array Bool) (a : Act), (∀ i, i < k → listed.getD i true = true) →
    wpAnyQ P md (nopped k l).toArray C Q fuel listed a → Q a
  | 0, _, _, _, h => h.2
  | f + 1, listed, a, hf, h => by
    cases hr : Region.ready md (nopped k l).toArray listed with
    | nil => exact h.1 hr
    | cons i rest =>
      have hi : i ∈ Region.ready md (nopped k l).toArray listed := by rw [hr]; simp
      obtain ⟨hun, o, ho, _⟩ := mem_ready.1 hi
      have hki : k ≤ i := by
        rcases Nat.lt_or_ge i k with hlt | hge
        · rw [hf i hlt] at hun; cases hun
        · exact hge
      have hq := h.2 i hi
      unfold qOp at hq
      rw [ho] at hq
      rw [List.getElem?_toArray, nopped_high k l i hki] at ho
      cases hl : l[i]? with
      | none => rw [hl] at ho; cases ho
      | some o' =>
        rw [hl] at ho
        injection ho with ho
        subst ho
        have hw : Region.wanted (nop o') (yielded (nopped k l).toArray a.tmps) = true := wanted_of rfl _
        simp only at hq
        rw [if_pos hw] at hq
        obtain ⟨v, _, hn⟩ := hq
        refine quiet_end' f _ a (fun j hj => ?_) hn
        by_cases e : i = j
        · subst e; omega
        · rw [getD_set_ne true e]; exact hf j hj
theorem any_of_quiet' {k : Nat} {l : List Oper} {Qh : Act → Prop} {Q : Exit → Act → World → Prop} (hk : k < l.length) (hE : earlierK k l = true) (hP : (l.take k).all plainB = true)
    (hs : Region.sinkB md l.toArray k = true) (hc : tailB md l.toArray k = true)
    (hQ : ∀ a w fuel, C w → Qh a → l.length - k ≤ fuel → wpAnyIn (fence r) m P md l.toArray Q fuel (front k l.length) a w) :
    ∀ (fuel : Nat) (listed : Array Bool) (a : Act) (w : World) (U : List Nat), HeadInv md l.toArray k listed → (∀ i, i < k → listed.getD i true = false → i ∈ U) → U.length + (l.length - k) ≤ fuel → C w →
      wpAnyQ P md (nopped k l).toArray C Qh fuel listed a → wpAnyIn (fence r) m P md l.toArray Q fuel listed a w := by
  intro fuel
  induction fuel with
  | zero => intro listed a w U _ _ hf; omega
  | succ f ih =>
    intro listed a w U inv hU hf hC h
    by_cases hex : ∃ i, i < k ∧ listed.getD i true = false
    · refine ⟨fun h0 => absurd h0 (ready_some' (by omega) hE inv hex), fun i hi => ?_⟩
      obtain ⟨i0, hi0, hu0⟩ := hex
      have hik : i < k := by
        rcases Nat.lt_or_ge i k with hlt | hge
        · exact hlt
        · exact absurd hi (tail_waits' hs hc (by simpa using hk) inv _ i0 rfl hi0 hu0 i hge)
      have hq := h.2 i ((ready_nopped k l listed i).2 hi)
      have hui := (mem_ready.1 hi).1
      have hil : i < l.length := by omega
      have hp : plainB l[i] = true := List.all_eq_true.1 hP _ (List.mem_iff_getElem?.2 ⟨i, by rw [List.getElem?_take_of_lt hik, List.getElem?_eq_getElem hil]⟩)
      unfold qOp at hq
      rw [List.getElem?_toArray, nopped_low k l i hik, List.getElem?_eq_getElem hil] at hq
      unfold wpOpIn
      rw [List.getElem?_toArray, List.getElem?_eq_getElem hil]
      simp only at hq ⊢
      rw [if_pos (wanted_of (plainB_guard hp) _)] at hq ⊢
      refine wpIn_of_quiet hp hC (fun a' w' hC' hn => ?_) hq
      have hiU := hU i hik hui
      have hlen := List.length_erase_of_mem hiU
      have hpos := List.length_pos_of_mem hiU
      refine ih (listed.setIfInBounds i true) a' w' (U.erase i) (inv.set hi hik) (fun j hj hju => ?_) (by omega) hC' hn
      have hji : j ≠ i := by
        rintro rfl
        have hlt : j < listed.size := by rw [inv.size]; simpa using hil
        simp [hlt] at hju
      rw [getD_set_ne true (Ne.symm hji)] at hju
      exact (List.mem_erase_of_ne hji).2 (hU j hj hju)
    · have he := front_of (by simp; omega) inv hex
      have he' : listed = front k l.length := by simpa using he
      have hfull : ∀ i, i < k → listed.getD i true = true := fun i hi => by
        cases hx : listed.getD i true with
        | true => rfl
        | false => exact absurd ⟨i, hi, hx⟩ hex
      have hg := quiet_end' (k := k) (f + 1) listed a hfull h
      subst he'
      exact hQ a w (f + 1) hC hg (by omega)
def headAnyB (k : Nat) (l : List Oper) : Bool :=
  decide (k < l.length) && earlierK k l && (l.take k).all plainB && Region.sinkB .any l.toArray k && tailB .any l.toArray k && Region.lexB .any (nopped k l).toArray

/-- **The head in the text's order, in any world of the class; then the rest, in whatever order.** -/
theorem wpIn_headAny {id : Nat} {Q : Exit → Act → World → Prop} {a : Act} {w : World} {l : List Oper} (k : Nat) (hm : P.follows .mixedOrders = true) (hB : headAnyB k l = true) (hC : C { w with drawn := w.drawn + 1 })
    (h : wpQuiet P l.toArray C (fun a' => ∀ w', C w' → ∀ fuel, l.length - k ≤ fuel → wpAnyIn (fence r) m P .any l.toArray Q fuel (front k l.length) a' w') (l.take k) a) : (Code.region id l.toArray true).wpIn (fence r) m P Q a w := by
  unfold headAnyB at hB
  simp only [Bool.and_eq_true, decide_eq_true_eq] at hB
  obtain ⟨⟨⟨⟨⟨hk, hE⟩, hP⟩, hs⟩, hc⟩, hlex⟩ := hB
  unfold Region.lexB at hlex
  rw [Bool.and_eq_true] at hlex
  refine wpIn_region_any hm ?_
  have hq : wpQuiet P (nopped k l).toArray C (fun a' => ∀ w', C w' → ∀ fuel, l.length - k ≤ fuel → wpAnyIn (fence r) m P .any l.toArray Q fuel (front k l.length) a' w') (nopped k l) a := quiet_nops (l.drop k) (l.take k) a hP h
  have hlen := nopped_length k l
  have hx := wpAnyQ_lex (C := C) (md := .any) hlex.1 (nopped k l) 0 (Array.replicate (nopped k l).toArray.size false) a (by simp) (by simpa using hlex.2) hq
  refine any_of_quiet' (Qh := fun a' => ∀ w', C w' → ∀ fuel, l.length - k ≤ fuel → wpAnyIn (fence r) m P .any l.toArray Q fuel (front k l.length) a' w') hk hE hP hs hc (fun a' w' fuel hw' hh hf => hh w' hw' fuel hf) _ _ _ _ (List.range k)
    ⟨by simp, fun j oj _ hl => (by rw [getD_replicate_false] at hl; cases hl), fun t _ ht => getD_in (by simpa using ht) (getD_replicate_false _ _)⟩ (fun i hi _ => List.mem_range.2 hi) (by rw [List.length_range]; simp; omega) hC ?_
  rw [List.size_toArray, hlen] at hx
  simpa using hx
end
end Go.Proofs.YtagmmbkgjomdlaaGreatDoor.Rk

/-
  The contracts of cells, AppendSeq, Collect and Cells: all cells, in order.
-/
namespace Go.Proofs.YtagmmbkgjomdlaaGreatDoor.Sp
open Go.RowKit Go.Proofs.YtagmmbkgjomdlaaGreatDoor.Ar Go.Proofs.YtagmmbkgjomdlaaGreatDoor.Sh Go.Proofs.YtagmmbkgjomdlaaGreatDoor.Lk Go.Shelf Go.Sort
open Go.Proofs.YtagmmbkgjomdlaaGreatDoor.Hd (Hd Fields)
open Go.Proofs.YtagmmbkgjomdlaaGreatDoor.Tb (Ty Tab)
set_option linter.unusedVariables false
attribute [local go_sem] Oper.semAt_some

def FreshV (w : World) (v : Value) : Prop := v.ownBlock = none ∨ ∃ b, v.ownBlock = some b ∧ w.heap.size ≤ b
/-- The box b and the slice in it alone have turned. -/
theorem kpw_of {A B : World} {b : Nat} {t : TypeId} {v v' : Value} (hb : Has A b t [v]) (k : Kept (b :: v.ownBlock.toList) A B) (hb' : Has B b t [v']) (ho : v'.ownBlock = v.ownBlock ∨ ∃ g, v'.ownBlock = some g ∧ A.heap.size ≤ g ∧ g < B.heap.size) : Kpw b A B := by
  refine ⟨k.more, fun i o hi hn hx hc => ?_, ?_⟩
  · rw [ownAt_has hb] at hn
    refine (k.old i (Array.getElem?_eq_some_iff.1 hx).1 ?_).trans hx
    intro hm
    rcases List.mem_cons.1 hm with rfl | hm
    · exact hi rfl
    · exact hn (by simpa using hm)
  · rw [ownAt_has hb, ownAt_has hb']
    exact ho
theorem cells_ok (p : Option Addr) (g : Int) (w : World) :
    Calls Tryz.prog 67 #[.pointer p, .int .i64 g] w fun e w' => e = .returned (.func (.func 110) #[] #[.pointer (some ⟨w.heap.size + 1, 0, none⟩), .pointer (some ⟨w.heap.size, 0, none⟩)]) ∧ w' = (w.alloc (.cells #[.pointer p] 27)).alloc (.cells #[.int .i64 g] 3) := by
  go_enter Tryz.func67, Tryz.ntmps67
  go_wp2_with fail
  go_ret
  exact ⟨by simp, rfl⟩
set_option maxRecDepth 100000 in
set_option maxHeartbeats 4000000 in
theorem appendSeq_ok (bg bb : Nat) (s : Ids) (l : List Ty) (ws : List Int) (bs : List Bool) (g : Int) (cs : List Cel) (w : World)
    (hG : Has w bg 3 [.int .i64 g]) (g0 : 0 ≤ g) (g1 : g ≤ 1000000) (hB : Has w bb 27 [.pointer (some ⟨s.sp, 0, none⟩)]) (hF : Fields w) (hS : Spc w s l ws bs) (hC : Scans ws l g cs) :
    Calls Tryz.prog 109 #[.slice none 0 0, .func (.func 110) #[] #[.pointer (some ⟨bg, 0, none⟩), .pointer (some ⟨bb, 0, none⟩)]] w fun e w' => ∃ v, e = .returned v ∧ Own w' v cs ∧ FreshV w v ∧ Kept [] w w' := by
  have hcl : cs.length ≤ 32768 := by
    have hsh := hS.short
    rcases hC.length g0 with h | h
    · omega
    · subst h; simp
  have HG := Lib.hid hG
  have HB := Lib.hid hB
  have HF := Lib.hid hF
  have HS := Lib.hid hS
  have HC := Lib.hid hC
  clear hG hB hF hS hC
  refine (callsIn_wide (n := 5)).1 ?_
  refine callsIn_of_wp_marks Tryz.func109 rfl trivial ?_ rfl
  simp only [Tryz.ntmps109, List.size_toArray, List.length_cons, List.length_nil, Nat.reduceAdd, Nat.reduceSub, Array.replicate_succ, Array.replicate_zero, List.push_toArray, List.append_toArray, List.nil_append, List.cons_append]
  gi_wp2_with (fail)
  have hk2 : Kept [] w (w.alloc (.cells #[.slice none 0 0] 36)) := (Kept.refl [] w).alloc _
  have h3 := Has.new w 36 [.slice none 0 0]
  obtain ⟨w2, hw2⟩ : ∃ w2, w.alloc (.cells #[.slice none 0 0] 36) = w2 := ⟨_, rfl⟩
  have hw2' : w.alloc (.cells [.slice none 0 0].toArray 36) = w2 := hw2
  rw [hw2] at hk2 ⊢
  rw [hw2'] at h3
  clear hw2 hw2'
  have H30 := Lib.hid h3
  have Hkw := Lib.hid hk2
  have Hlt0 := Lib.hid h3.lt
  clear h3 hk2
  refine wpIn_rangeFunc_ownH rfl (by decide) (gf := 110) (lb := #[.pointer (some ⟨bg, 0, none⟩), .pointer (some ⟨bb, 0, none⟩)]) rfl trivial (enters_of Tryz.func110 (by kernel_rfl) rfl)
    (cells_stops 4 (by decide) w.heap.size bg bb s l ws bs g cs w2 (HG.out.keep0 Hkw.out) g0 g1 (HB.out.keep0 Hkw.out) (HF.out.keep0 Hkw.out) (HS.out.keep0 Hkw.out) HC.out H30.out (by decide) (by decide) rfl)
    (fun h k => h.trans k) (fun W l o o' hl h hc _ => Kpw.put Hlt0.out W l o o' hl h hc) (Below.refl _ _) (fun _ => rfl)
    (fun pre W => (∃ v, Has W w.heap.size 36 [v] ∧ Own W v (vals pre) ∧ FreshV w v) ∧ Kept [] w W)
    (fun _ _ _ => False)
    (OwnFrom.and (fun pre X Y row hs hg hr => by
      obtain ⟨v, h1, h2, h3⟩ := hs
      exact ⟨v, own_has (β := Unit) (f := fun _ => [v]) () X Y row h1 hg hr, own_from () X Y row h2 hg hr, h3⟩) (own_kept Hkw.out.more))
    (fun _ _ _ _ _ hs _ _ => hs)
    ⟨⟨_, H30.out, Own.nil _, .inl rfl⟩, Hkw.out⟩
    (fun x a' W => ∃ Bx, Has W Bx 78 [.int .i64 x.1.a, .int .u8 x.1.h.tg, .int .i64 x.1.h.ty, .int .i64 x.1.h.ln, .int .i64 x.1.h.sz] ∧ a' = { tmps := #[.slice none 0 0, .func (.func 110) #[] #[.pointer (some ⟨bg, 0, none⟩), .pointer (some ⟨bb, 0, none⟩)], .pointer (some ⟨w.heap.size, 0, none⟩), undef, .slice none 0 0, .pointer (some ⟨Bx, 0, none⟩), .func (.func 110) #[] #[.pointer (some ⟨bg, 0, none⟩), .pointer (some ⟨bb, 0, none⟩)], .agg #[.int .i64 x.1.a, .int .u8 x.1.h.tg, .int .i64 x.1.h.ty, .int .i64 x.1.h.ln, .int .i64 x.1.h.sz], undef, undef, undef, undef, undef], defers := [] })
    (fun x a' _ X Y row hs hg hr => by
      obtain ⟨Bx, h2, h3⟩ := hs
      exact ⟨Bx, own_has (β := Unit) (f := fun _ => [.int .i64 x.1.a, .int .u8 x.1.h.tg, .int .i64 x.1.h.ty, .int .i64 x.1.h.ln, .int .i64 x.1.h.sz]) () X Y row h2 hg hr, h3⟩)
    ?assign ?body ?done ?stop
  case assign =>
    rintro l pre x W K ⟨⟨v, hi3, hO, hV⟩, hk⟩ hK
    unfold encs
    have HK := Lib.hid hK
    have HI := Lib.hid hi3
    have HO := Lib.hid hO
    have HV := Lib.hid hV
    have Hk := Lib.hid hk
    clear hi3 hO hV hk hK
    gi_wp2
    have hkn : Kept [] W (W.alloc (.cells #[.int .i64 x.1.a, .int .u8 x.1.h.tg, .int .i64 x.1.h.ty, .int .i64 x.1.h.ln, .int .i64 x.1.h.sz] 78)) := (Kept.refl [] W).alloc _
    exact HK.out _ _ (keepsFrom_of hkn (by simp)) (Kpw.ofKept hkn HI.out.lt) ⟨⟨v, HI.out.keep0 hkn, HO.out.keep0 hkn, HV.out⟩, Hk.out.trans hkn⟩ ⟨W.heap.size, Has.new W _ _, rfl⟩
  case body =>
    rintro l pre y a' W _ _ ⟨⟨v, hi3, hO, hV⟩, hk⟩ ⟨Bx, hX, rfl⟩ hlen
    have hsn := vals_snoc pre y
    obtain ⟨rs, hs⟩ : ∃ rs, rs = vals pre := ⟨_, rfl⟩
    have hlr : rs.length ≤ 32768 := by rw [hs]; unfold vals; rw [List.length_map]; omega
    rw [← hs] at hsn hO
    have Hsn := Lib.hid hsn
    clear hsn hs
    obtain ⟨⟨ca, ⟨ct, cy, cl, cz⟩⟩, hy⟩ := y
    simp only at Hsn hX
    obtain ⟨x0, x1, x2, x3, x4⟩ := cells5 hX
    have c3 := hi3.cell 0
    have f3 := hi3.free 0
    simp at c3
    have Hk := Lib.hid hk
    have H3' := Lib.hid hi3
    have HO := Lib.hid hO
    have HV := Lib.hid hV
    clear hk hlen hO hV hX
    dsimp only
    clear hi3
    have hka : Kept [] W (W.alloc (.cells #[.int .i64 ca, .int .u8 ct, .int .i64 cy, .int .i64 cl, .int .i64 cz] 78)) := (Kept.refl [] W).alloc _
    have hB : Has (W.alloc (.cells #[.int .i64 ca, .int .u8 ct, .int .i64 cy, .int .i64 cl, .int .i64 cz] 78)) W.heap.size 78 (Cel.l ⟨ca, ⟨ct, cy, cl, cz⟩⟩) := Has.new W 78 [.int .i64 ca, .int .u8 ct, .int .i64 cy, .int .i64 cl, .int .i64 cz]
    have hOa := HO.out.keep0 hka
    have H0 := Lib.hid hB
    have HOa := Lib.hid hOa
    have Hka := Lib.hid hka
    clear hOa hka hB
    gi_wp2_with (gi_at_builtin; refine append_cels_in rfl (.tmp 8) (.tmp 10) rfl v rs rfl HOa.out W.heap.size 1 ⟨ca, ⟨ct, cy, cl, cz⟩⟩ rfl H0.out (by omega) ?_)
    all_goals
      intro v' w3 hO hG hV
      have hk3 : Kept [] w w3 := own_grown (Hk.out.trans Hka.out) HV.out hG
      have hF3 := own_fresh (v' := v') (Hk.out.trans Hka.out) HV.out (by rw [World.size_alloc]; exact hV)
      have hS := kept_grown hG
      have hne : w.heap.size ∉ v.ownBlock.toList := fun hm => by
        obtain ⟨cs, hcs⟩ := own_cells HO.out _ hm
        exact Has.block_type H3'.out hcs (by decide) rfl
      have h3 := (H3'.out.keep0 Hka.out).kept hS hne
      have c3 := h3.cell 0
      have f3 := h3.free 0
      simp at c3
      obtain ⟨g', cap', rfl, hg', _⟩ : ∃ g cap, v' = .slice (some ⟨g, 0, none⟩) (rs ++ [(⟨ca, ⟨ct, cy, cl, cz⟩⟩ : Cel)]).length cap ∧ g < w3.heap.size ∧ (rs ++ [(⟨ca, ⟨ct, cy, cl, cz⟩⟩ : Cel)]).length ≤ cap := by
        rcases hO.form with ⟨_, h⟩ | h
        · simp at h
        · obtain ⟨g, cap, h1, h2, h3, _⟩ := h
          exact ⟨g, cap, h1, h2, h3⟩
      have hown : ∀ X : World, w3.heap.size ≤ X.heap.size → (Value.slice (some ⟨g', 0, none⟩) (rs ++ [(⟨ca, ⟨ct, cy, cl, cz⟩⟩ : Cel)]).length cap').ownBlock = v.ownBlock ∨ ∃ g, (Value.slice (some ⟨g', 0, none⟩) (rs ++ [(⟨ca, ⟨ct, cy, cl, cz⟩⟩ : Cel)]).length cap').ownBlock = some g ∧ W.heap.size ≤ g ∧ g < X.heap.size := fun X hX => by
        rcases hV with h | h
        · exact .inl h
        · refine .inr ⟨g', rfl, ?_, by omega⟩
          have h : some g' = some _ := h
          injection h with h
          try rw [World.size_alloc] at h
          omega
      have HO3 := Lib.hid hO
      have Hk3 := Lib.hid hk3
      have HF3 := Lib.hid hF3
      have HS := Lib.hid ((Hka.out.none _).trans hS)
      have H33 := Lib.hid h3
      have Hne := Lib.hid hne
      have Hown := Lib.hid hown
      clear hO hk3 hF3 hS h3 hne hG hV H0 HOa hown
      obtain ⟨len, hlen⟩ : ∃ len, len = (rs ++ [(⟨ca, ⟨ct, cy, cl, cz⟩⟩ : Cel)]).length := ⟨_, rfl⟩
      rw [← hlen] at HO3 HF3 Hown ⊢
      clear hlen
      gi_wp2_with (fail)
      have hKS : Kept [w.heap.size] w3 (w3.setCell ⟨w.heap.size, 0, none⟩ (.slice (some ⟨g', 0, none⟩) len cap')) := (Kept.refl _ w3).setCell _ _ (.inl (by simp))
      have hKA : Kept (w.heap.size :: v.ownBlock.toList) W (w3.setCell ⟨w.heap.size, 0, none⟩ (.slice (some ⟨g', 0, none⟩) len cap')) := (HS.out.mono fun b hb => List.mem_cons_of_mem _ hb).trans (hKS.mono (by simp))
      have hbx : Has (w3.setCell ⟨w.heap.size, 0, none⟩ (.slice (some ⟨g', 0, none⟩) len cap')) w.heap.size 36 [.slice (some ⟨g', 0, none⟩) len cap'] := H33.out.put 0 _
      refine ⟨keepsFrom_of hKA ?_, kpw_of H3'.out hKA hbx (Hown.out _ hKS.more), ⟨_, hbx, ?_, HF3.out⟩, Hk3.out.forget hKS (by simp)⟩
      · intro b hb
        rcases List.mem_cons.1 hb with rfl | hb
        · exact ⟨_, _, H3'.out⟩
        · exact ⟨_, own_cells HO.out b hb⟩
      · rw [Hsn.out]
        exact HO3.out.kept hKS fun g hg e => by
          obtain rfl := List.mem_singleton.1 hg
          obtain ⟨cs, hcs⟩ := own_cells HO3.out w.heap.size (by rw [e]; simp)
          exact Has.block_type H33.out hcs (by decide) rfl
  case done =>
    rintro D xs W hD hx ⟨⟨v, hi3, hO, hV⟩, hk⟩ hK
    have c3 := hi3.cell 0
    simp at c3
    have HKd := Lib.hid hK
    have Hk := Lib.hid hk
    have HE : Hid (vals xs = cs) := Lib.hid hx
    have HO := Lib.hid hO
    have HV := Lib.hid hV
    clear hK hk hi3 hx hO hV
    generalize vals xs = P at *
    gi_wp2_with (fail)
    refine ⟨by simp, .inl ⟨_, _, rfl, run_takeDeferred HKd.out, ?_⟩⟩
    exact ⟨_, results_tmp rfl _ _ _, ⟨v, rfl, by rw [← HE.out]; exact own_put HO.out D _ _ HKd.out rfl, HV.out, kept_put Hk.out D _ (Nat.le_trans Hkw.out.more hD)⟩⟩
  case stop =>
    rintro D c pre W _ _ h _
    exact h.elim
theorem collect_ok (bg bb : Nat) (s : Ids) (l : List Ty) (ws : List Int) (bs : List Bool) (g : Int) (cs : List Cel) (w : World)
    (hG : Has w bg 3 [.int .i64 g]) (g0 : 0 ≤ g) (g1 : g ≤ 1000000) (hB : Has w bb 27 [.pointer (some ⟨s.sp, 0, none⟩)]) (hF : Fields w) (hS : Spc w s l ws bs) (hC : Scans ws l g cs) :
    Calls Tryz.prog 66 #[.func (.func 110) #[] #[.pointer (some ⟨bg, 0, none⟩), .pointer (some ⟨bb, 0, none⟩)]] w fun e w' => ∃ v, e = .returned v ∧ Own w' v cs ∧ FreshV w v ∧ Kept [] w w' := by
  have H := Lib.hid (appendSeq_ok bg bb s l ws bs g cs w hG g0 g1 hB hF hS hC)
  clear hG hB hF hS hC
  go_enter Tryz.func66, Tryz.ntmps66
  go_wp2_with fail
  refine H.out.mono ?_
  rintro e w1 ⟨v, rfl, hO, hV, hk⟩
  have HO := Lib.hid hO
  have HV := Lib.hid hV
  have HK := Lib.hid hk
  clear hO hV hk
  go_wp2_with fail
  go_ret
  exact ⟨v, rfl, HO.out, HV.out, HK.out⟩
/-- All cells of a space. -/
theorem allCells_ok {w : World} {s : Ids} {l : List Ty} {ws : List Int} {bs : List Bool} (hF : Fields w) (hS : Spc w s l ws bs) (cs : List Cel) (hC : Scans ws l 0 cs) :
    Calls Tryz.prog 31 #[.pointer (some ⟨s.sp, 0, none⟩)] w fun e w' => ∃ v, e = .returned v ∧ Own w' v cs ∧ FreshV w v ∧ Kept [] w w' := by
  have HF := Lib.hid hF
  have HS := Lib.hid hS
  have HC := Lib.hid hC
  have H1 := Lib.hid (cells_ok (some ⟨s.sp, 0, none⟩) 0 w)
  clear hF hS hC
  go_enter Tryz.func31, Tryz.ntmps31
  go_wp2_with fail
  refine H1.out.mono ?_
  rintro e w1 ⟨rfl, hw1⟩
  have hk1 : Kept [] w w1 := by rw [hw1]; exact ((Kept.refl [] w).alloc _).alloc _
  have hb : Has w1 w.heap.size 27 [.pointer (some ⟨s.sp, 0, none⟩)] := by rw [hw1]; exact (Has.new w _ _).alloc _
  have hg : Has w1 (w.heap.size + 1) 3 [.int .i64 0] := by
    rw [hw1]
    have := Has.new (w.alloc (.cells #[.pointer (some ⟨s.sp, 0, none⟩)] 27)) 3 [.int .i64 0]
    rwa [World.size_alloc] at this
  have HK1 := Lib.hid hk1
  have H2 := Lib.hid (collect_ok (w.heap.size + 1) w.heap.size s l ws bs 0 cs w1 hg (by omega) (by omega) hb (HF.out.keep0 hk1) (HS.out.keep0 hk1) HC.out)
  clear hk1 hb hg hw1 H1
  go_wp2_with fail
  refine H2.out.mono ?_
  rintro e w2 ⟨v, rfl, hO, hV, hk⟩
  have HO := Lib.hid hO
  have HV : Hid (FreshV w v) := Lib.hid (hV.imp_right fun ⟨b, h1, h2⟩ => ⟨b, h1, Nat.le_trans HK1.out.more h2⟩)
  have HK := Lib.hid (HK1.out.trans hk)
  clear hO hV hk
  go_wp2_with fail
  go_ret
  exact ⟨v, rfl, HO.out, HV.out, HK.out⟩
end Go.Proofs.YtagmmbkgjomdlaaGreatDoor.Sp
