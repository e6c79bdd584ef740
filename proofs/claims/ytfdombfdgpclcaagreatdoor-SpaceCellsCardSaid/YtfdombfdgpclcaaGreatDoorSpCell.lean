/-
  The contract of cell: the cell that begins at a granule, and whether one may.
-/
import Derived.Test.YtfdombfdgpclcaaGreatDoorSpMem
import Derived.Test.YtfdombfdgpclcaaGreatDoorGK
import Derived.Lib.QuietBelow
import Derived.Deep.QuietTactic
import Derived.BigQuiet
namespace Go.Proofs.YtfdombfdgpclcaaGreatDoor.Sp
open Go.RowKit Go.Proofs.YtfdombfdgpclcaaGreatDoor.Ar Go.Proofs.YtfdombfdgpclcaaGreatDoor.Sh Go.Sort
open Go.Proofs.YtfdombfdgpclcaaGreatDoor.Hd (Hd Fields cells4 free4 fitL fits_tab)
open Go.Proofs.YtfdombfdgpclcaaGreatDoor.Tb (Ty Tab blk cells3)
open Go.Proofs.YtfdombfdgpclcaaGreatDoor.Kd (ret_row)
set_option linter.unusedVariables false

def put5 (b : Nat) (v0 v1 v2 v3 v4 : Value) (w : World) : World := ((((w.setCell ⟨b, 0, none⟩ v0).setCell ⟨b, 1, none⟩ v1).setCell ⟨b, 2, none⟩ v2).setCell ⟨b, 3, none⟩ v3).setCell ⟨b, 4, none⟩ v4
theorem put5_has {b : Nat} {t : TypeId} {w : World} {a0 a1 a2 a3 a4 : Value} (h : Has w b t [a0, a1, a2, a3, a4]) (v0 v1 v2 v3 v4 : Value) : Has (put5 b v0 v1 v2 v3 v4 w) b t [v0, v1, v2, v3, v4] := ((((h.put 0 v0).put 1 v1).put 2 v2).put 3 v3).put 4 v4
theorem put5_kept {b : Nat} {S : List Nat} {w0 w : World} (h : Kept S w0 w) (hb : b ∈ S ∨ w0.heap.size ≤ b) (v0 v1 v2 v3 v4 : Value) : Kept S w0 (put5 b v0 v1 v2 v3 v4 w) :=
  ((((h.setCell ⟨b, 0, none⟩ v0 hb).setCell ⟨b, 1, none⟩ v1 hb).setCell ⟨b, 2, none⟩ v2 hb).setCell ⟨b, 3, none⟩ v3 hb).setCell ⟨b, 4, none⟩ v4 hb
theorem size_cell : (Tryz.prog.info? 45).map (·.size) = some 5 := by kernel_rfl
theorem ret_cel {f : Func} {p u : Tmp} (h : f.results = #[.cell p 45, .tmp u]) {a : Act} {w0 w : World} {g : Nat} {a0 a1 a2 a3 a4 v0 v1 v2 v3 v4 : Value} (hp : a.tmps.getD p undef = .pointer (some ⟨g, 0, none⟩)) (hH : Has w g 45 [a0, a1, a2, a3, a4]) (hk : Kept [] w0 w) (hg : w0.heap.size ≤ g)
    (hdf : a.defers = []) {E : Value} (hE : a.tmps.getD u undef = E) {R : Ending → World → Prop}
    (hR : ∀ X, Kept [] w0 X → R (.returned (.tuple #[.agg #[v0, v1, v2, v3, v4], E])) X) : bodyPost Tryz.prog f R .ret a (put5 g v0 v1 v2 v3 v4 w) := by
  refine ret_row h _ hp (put5_has hH v0 v1 v2 v3 v4) rfl Tryz.underlying45 rfl size_cell hdf ?_
  rw [hE]
  exact hR _ (put5_kept hk (.inr hg) _ _ _ _ _)
section
variable {w : World} {s : Ids} {l : List Ty} {ws : List Int} {bs : List Bool}
set_option maxRecDepth 100000 in
set_option maxHeartbeats 4000000 in
theorem cell_ok (hF : Fields w) (h : Spc w s l ws bs) (g : Int) (g0 : 0 ≤ g) (g1 : g ≤ 4611686018427387903) :
    Calls Tryz.prog 51 #[.pointer (some ⟨s.sp, 0, none⟩), .int .i64 g] w fun e w' => e = .returned (.tuple #[(cellC ws l g).val, .bool (cellB ws l g)]) ∧ Kept [] w w' := by
  obtain ⟨m, ha⟩ := h.ar
  have hsh := h.short
  have hG : 0 ≤ gran ws ∧ gran ws ≤ 32768 := by unfold gran; omega
  have hb := Has.new w 45 [.int .i64 0, .int .u8 0, .int .i64 0, .int .i64 0, .int .i64 0]
  have k0 : Kept [] w (w.alloc (.cells #[.int .i64 0, .int .u8 0, .int .i64 0, .int .i64 0, .int .i64 0] 45)) := (Kept.refl [] w).alloc _
  have HH := Lib.hid (fun y (k : Kept [] w y) => head_any (hF.keep0 k) (ha.keep0 k) h.wds g (by omega) (by omega))
  have hok := hdH_ok (g := g) h.wds
  have HFt := Lib.hid (fun y (k : Kept [] w y) => fits_tab (hF.keep0 k) (h.tab.keep0 k) (hdH ws g) hok)
  have HGr := Lib.hid (fun y (k : Kept [] w y) => granules_ok (h.keep0 k))
  have HSp := Lib.hid (fun y (k : Kept [] w y) => (h.keep0 k).cells)
  have HN : Hid (∀ y : World, Has (y.alloc (.cells #[.int .u8 (hdH ws g).tg, .int .i64 (hdH ws g).ty, .int .i64 (hdH ws g).ln, .int .i64 (hdH ws g).sz] 43)) y.heap.size 43 [.int .u8 (hdH ws g).tg, .int .i64 (hdH ws g).ty, .int .i64 (hdH ws g).ln, .int .i64 (hdH ws g).sz]) := Lib.hid fun y => Hd.Hd.new y _
  have hz0 := hok.s0
  have hz1 := hok.s1
  have hcb : cellB ws l g = decide (hdE ws g = 0 ∧ fitL l (hdH ws g) = 0 ∧ (hdH ws g).sz ≤ gran ws - g) := rfl
  unfold cellC
  rw [hcb]
  obtain ⟨i0, i1, i2⟩ := HSp.out _ k0
  clear hcb hok h hF ha
  generalize gran ws = G at *
  generalize hdE ws g = er at *
  generalize fitL l (hdH ws g) = fe at *
  generalize hdH ws g = x at *
  generalize s.sp = sp at *
  generalize s.ap = ap at *
  generalize s.tp = tp at *
  have HB := Lib.hid hb
  have K0 := Lib.hid k0
  clear hb k0
  unfold Hd.val Cel.val at *
  by_cases h1 : er = 0
  · by_cases h2 : fe = 0
    · by_cases h3 : x.sz ≤ G - g
      · rw [decide_eq_true ⟨h1, h2, h3⟩, if_pos rfl]
        simp only
        have hb1 : (er != 0) = false := by rw [h1]; rfl
        have hb2 : (fe != 0) = false := by rw [h2]; rfl
        clear h1 h2
        generalize x.tg = xg at *
        generalize x.ty = xt at *
        generalize x.ln = xn at *
        generalize x.sz = xs at *
        have hwr : IntKind.i64.wrap (G - g) = G - g := by rw [IntKind.wrap_i64]; omega
        have hgt : decide (G - g < xs) = false := decide_eq_false (by omega)
        clear h3
        go_enter Tryz.func51, Tryz.ntmps51
        go_wp2_with fail
        refine (HH.out _ K0.out).mono ?_
        rintro e x1 ⟨rfl, k1⟩
        have K1 := Lib.hid ((K0.out.trans k1).alloc (.cells #[.int .u8 xg, .int .i64 xt, .int .i64 xn, .int .i64 xs] 43))
        have b1 := HN.out x1
        have r1 := (HB.out.keep0 k1).alloc (.cells #[.int .u8 xg, .int .i64 xt, .int .i64 xn, .int .i64 xs] 43)
        have R1 := Lib.hid r1
        have B1 := Lib.hid b1
        clear k1 b1 HH HN HB r1 i0 i1 i2
        go_wp2_with fail
        generalize x1.alloc (.cells #[.int .u8 xg, .int .i64 xt, .int .i64 xn, .int .i64 xs] 43) = y1 at *
        generalize x1.heap.size = hb at *
        obtain ⟨p0, p1, p2, p3⟩ := cells4 B1.out
        have c0 := cell_regrown p0
        have c1 := cell_regrown p1
        have c2 := cell_regrown p2
        have c3 := cell_regrown p3
        have s1 := cell_regrown (HSp.out _ K1.out).2.1
        have C1 : Hid (∀ d os, Calls Tryz.prog 67 #[.pointer (some ⟨tp, 0, none⟩), .agg #[.int .u8 xg, .int .i64 xt, .int .i64 xn, .int .i64 xs]] (grow (redrawn y1 d) os) fun e z => e = .returned (.int .i64 fe) ∧ ∃ p : Regrown, z = grow (redrawn y1 p.d) p.os) :=
          Lib.hid fun d os => Calls.regrown_of ((HFt.out _ (K1.out.trans (Kept.ofBelow (below_regrown y1 d os) []))).mono fun _ _ ⟨he, hk⟩ => ⟨he, hk.below (Nat.le_refl _) (by simp)⟩)
        have C2 : Hid (∀ d os, Calls Tryz.prog 22 #[.pointer (some ⟨sp, 0, none⟩)] (grow (redrawn y1 d) os) fun e z => e = .returned (.int .i64 G) ∧ ∃ p : Regrown, z = grow (redrawn y1 p.d) p.os) :=
          Lib.hid fun d os => Calls.regrown_of ((HGr.out _ (K1.out.trans (Kept.ofBelow (below_regrown y1 d os) []))).mono fun _ _ ⟨he, hk⟩ => ⟨he, by rw [← hk]; exact (Kept.refl [] _).below (Nat.le_refl _) (by simp)⟩)
        clear p0 p1 p2 p3 HFt HGr HSp
        refine wp_region_quiet_below (by kernel_rfl) (by kernel_rfl) ?_
        repeat (first | go_big_quiet_step (first | exact C1.out _ _ | exact C2.out _ _) | quiet_step (first | exact C1.out _ _ | exact C2.out _ _))
        refine wpQuiet_nil ?_
        rintro _ ⟨⟨dq, osq⟩, rfl⟩
        have hk3 := Kept.ofBelow (below_regrown y1 dq osq) []
        clear c0 c1 c2 c3 s1 C1 C2 hwr hgt hb1 hb2
        generalize grow (redrawn y1 dq) osq = y3 at hk3 ⊢
        have K3 := Lib.hid (K1.out.trans hk3)
        have b3 := B1.out.keep0 hk3
        have r3 := R1.out.keep0 hk3
        obtain ⟨c0, c1, c2, c3⟩ := cells4 b3
        obtain ⟨f0, f1, f2, f3, f4⟩ := free5 r3
        obtain ⟨d0, d1, d2, d3, d4⟩ := cells5 r3
        have R3 := Lib.hid r3
        clear hk3 b3 r3 B1 R1 K1
        go_wp2_with fail
        exact ret_cel rfl rfl R3.out K3.out (Nat.le_refl _) rfl rfl fun X hX => ⟨rfl, hX⟩
      · rw [decide_eq_false (by rintro ⟨a, b, c⟩; exact h3 c), if_neg (by decide)]
        unfold Cel.zero Hd.zero
        have hb1 : (er != 0) = false := by rw [h1]; rfl
        have hb2 : (fe != 0) = false := by rw [h2]; rfl
        clear h1 h2
        generalize x.tg = xg at *
        generalize x.ty = xt at *
        generalize x.ln = xn at *
        generalize x.sz = xs at *
        have hwr : IntKind.i64.wrap (G - g) = G - g := by rw [IntKind.wrap_i64]; omega
        have hgt : decide (G - g < xs) = true := decide_eq_true (by omega)
        clear h3
        go_enter Tryz.func51, Tryz.ntmps51
        go_wp2_with fail
        refine (HH.out _ K0.out).mono ?_
        rintro e x1 ⟨rfl, k1⟩
        have K1 := Lib.hid ((K0.out.trans k1).alloc (.cells #[.int .u8 xg, .int .i64 xt, .int .i64 xn, .int .i64 xs] 43))
        have b1 := HN.out x1
        have r1 := (HB.out.keep0 k1).alloc (.cells #[.int .u8 xg, .int .i64 xt, .int .i64 xn, .int .i64 xs] 43)
        have R1 := Lib.hid r1
        have B1 := Lib.hid b1
        clear k1 b1 HH HN HB r1 i0 i1 i2
        go_wp2_with fail
        generalize x1.alloc (.cells #[.int .u8 xg, .int .i64 xt, .int .i64 xn, .int .i64 xs] 43) = y1 at *
        generalize x1.heap.size = hb at *
        obtain ⟨p0, p1, p2, p3⟩ := cells4 B1.out
        have c0 := cell_regrown p0
        have c1 := cell_regrown p1
        have c2 := cell_regrown p2
        have c3 := cell_regrown p3
        have s1 := cell_regrown (HSp.out _ K1.out).2.1
        have C1 : Hid (∀ d os, Calls Tryz.prog 67 #[.pointer (some ⟨tp, 0, none⟩), .agg #[.int .u8 xg, .int .i64 xt, .int .i64 xn, .int .i64 xs]] (grow (redrawn y1 d) os) fun e z => e = .returned (.int .i64 fe) ∧ ∃ p : Regrown, z = grow (redrawn y1 p.d) p.os) :=
          Lib.hid fun d os => Calls.regrown_of ((HFt.out _ (K1.out.trans (Kept.ofBelow (below_regrown y1 d os) []))).mono fun _ _ ⟨he, hk⟩ => ⟨he, hk.below (Nat.le_refl _) (by simp)⟩)
        have C2 : Hid (∀ d os, Calls Tryz.prog 22 #[.pointer (some ⟨sp, 0, none⟩)] (grow (redrawn y1 d) os) fun e z => e = .returned (.int .i64 G) ∧ ∃ p : Regrown, z = grow (redrawn y1 p.d) p.os) :=
          Lib.hid fun d os => Calls.regrown_of ((HGr.out _ (K1.out.trans (Kept.ofBelow (below_regrown y1 d os) []))).mono fun _ _ ⟨he, hk⟩ => ⟨he, by rw [← hk]; exact (Kept.refl [] _).below (Nat.le_refl _) (by simp)⟩)
        clear p0 p1 p2 p3 HFt HGr HSp
        refine wp_region_quiet_below (by kernel_rfl) (by kernel_rfl) ?_
        repeat (first | go_big_quiet_step (first | exact C1.out _ _ | exact C2.out _ _) | quiet_step (first | exact C1.out _ _ | exact C2.out _ _))
        refine wpQuiet_nil ?_
        rintro _ ⟨⟨dq, osq⟩, rfl⟩
        have hk3 := Kept.ofBelow (below_regrown y1 dq osq) []
        clear c0 c1 c2 c3 s1 C1 C2 hwr hgt hb1 hb2
        generalize grow (redrawn y1 dq) osq = y3 at hk3 ⊢
        have K3 := Lib.hid (K1.out.trans hk3)
        have b3 := B1.out.keep0 hk3
        have r3 := R1.out.keep0 hk3
        obtain ⟨c0, c1, c2, c3⟩ := cells4 b3
        obtain ⟨f0, f1, f2, f3, f4⟩ := free5 r3
        obtain ⟨d0, d1, d2, d3, d4⟩ := cells5 r3
        have R3 := Lib.hid r3
        clear hk3 b3 r3 B1 R1 K1
        go_wp2_with fail
        exact ret_cel rfl rfl R3.out K3.out (Nat.le_refl _) rfl rfl fun X hX => ⟨rfl, hX⟩
    · rw [decide_eq_false (by rintro ⟨a, b, c⟩; exact h2 b), if_neg (by decide)]
      unfold Cel.zero Hd.zero
      have hb1 : (er != 0) = false := by rw [h1]; rfl
      have hb2 : (fe != 0) = true := by rw [bne_iff_ne]; exact h2
      clear h1 h2
      generalize x.tg = xg at *
      generalize x.ty = xt at *
      generalize x.ln = xn at *
      generalize x.sz = xs at *
      go_enter Tryz.func51, Tryz.ntmps51
      go_wp2_with fail
      refine (HH.out _ K0.out).mono ?_
      rintro e x1 ⟨rfl, k1⟩
      have K1 := Lib.hid ((K0.out.trans k1).alloc (.cells #[.int .u8 xg, .int .i64 xt, .int .i64 xn, .int .i64 xs] 43))
      have b1 := HN.out x1
      have r1 := (HB.out.keep0 k1).alloc (.cells #[.int .u8 xg, .int .i64 xt, .int .i64 xn, .int .i64 xs] 43)
      have R1 := Lib.hid r1
      have B1 := Lib.hid b1
      clear k1 b1 HH HN HB r1 i0 i1 i2
      go_wp2_with fail
      generalize x1.alloc (.cells #[.int .u8 xg, .int .i64 xt, .int .i64 xn, .int .i64 xs] 43) = y1 at *
      generalize x1.heap.size = hb at *
      obtain ⟨p0, p1, p2, p3⟩ := cells4 B1.out
      have c0 := cell_regrown p0
      have c1 := cell_regrown p1
      have c2 := cell_regrown p2
      have c3 := cell_regrown p3
      have s1 := cell_regrown (HSp.out _ K1.out).2.1
      have C1 : Hid (∀ d os, Calls Tryz.prog 67 #[.pointer (some ⟨tp, 0, none⟩), .agg #[.int .u8 xg, .int .i64 xt, .int .i64 xn, .int .i64 xs]] (grow (redrawn y1 d) os) fun e z => e = .returned (.int .i64 fe) ∧ ∃ p : Regrown, z = grow (redrawn y1 p.d) p.os) :=
        Lib.hid fun d os => Calls.regrown_of ((HFt.out _ (K1.out.trans (Kept.ofBelow (below_regrown y1 d os) []))).mono fun _ _ ⟨he, hk⟩ => ⟨he, hk.below (Nat.le_refl _) (by simp)⟩)
      have C2 : Hid (∀ d os, Calls Tryz.prog 22 #[.pointer (some ⟨sp, 0, none⟩)] (grow (redrawn y1 d) os) fun e z => e = .returned (.int .i64 G) ∧ ∃ p : Regrown, z = grow (redrawn y1 p.d) p.os) :=
        Lib.hid fun d os => Calls.regrown_of ((HGr.out _ (K1.out.trans (Kept.ofBelow (below_regrown y1 d os) []))).mono fun _ _ ⟨he, hk⟩ => ⟨he, by rw [← hk]; exact (Kept.refl [] _).below (Nat.le_refl _) (by simp)⟩)
      clear p0 p1 p2 p3 HFt HGr HSp
      refine wp_region_quiet_below (by kernel_rfl) (by kernel_rfl) ?_
      repeat (first | go_big_quiet_step (first | exact C1.out _ _ | exact C2.out _ _) | quiet_step (first | exact C1.out _ _ | exact C2.out _ _))
      refine wpQuiet_nil ?_
      rintro _ ⟨⟨dq, osq⟩, rfl⟩
      have hk3 := Kept.ofBelow (below_regrown y1 dq osq) []
      clear c0 c1 c2 c3 s1 C1 C2 hb1 hb2
      generalize grow (redrawn y1 dq) osq = y3 at hk3 ⊢
      have K3 := Lib.hid (K1.out.trans hk3)
      have b3 := B1.out.keep0 hk3
      have r3 := R1.out.keep0 hk3
      obtain ⟨c0, c1, c2, c3⟩ := cells4 b3
      obtain ⟨f0, f1, f2, f3, f4⟩ := free5 r3
      obtain ⟨d0, d1, d2, d3, d4⟩ := cells5 r3
      have R3 := Lib.hid r3
      clear hk3 b3 r3 B1 R1 K1
      go_wp2_with fail
      exact ret_cel rfl rfl R3.out K3.out (Nat.le_refl _) rfl rfl fun X hX => ⟨rfl, hX⟩
  · rw [decide_eq_false (by rintro ⟨a, b, c⟩; exact h1 a), if_neg (by decide)]
    unfold Cel.zero Hd.zero
    have hb1 : (er != 0) = true := by rw [bne_iff_ne]; exact h1
    clear h1
    generalize x.tg = xg at *
    generalize x.ty = xt at *
    generalize x.ln = xn at *
    generalize x.sz = xs at *
    go_enter Tryz.func51, Tryz.ntmps51
    go_wp2_with fail
    refine (HH.out _ K0.out).mono ?_
    rintro e x1 ⟨rfl, k1⟩
    have K1 := Lib.hid ((K0.out.trans k1).alloc (.cells #[.int .u8 xg, .int .i64 xt, .int .i64 xn, .int .i64 xs] 43))
    have b1 := HN.out x1
    have r1 := (HB.out.keep0 k1).alloc (.cells #[.int .u8 xg, .int .i64 xt, .int .i64 xn, .int .i64 xs] 43)
    have R1 := Lib.hid r1
    have B1 := Lib.hid b1
    clear k1 b1 HH HN HB r1 i0 i1 i2
    go_wp2_with fail
    generalize x1.alloc (.cells #[.int .u8 xg, .int .i64 xt, .int .i64 xn, .int .i64 xs] 43) = y1 at *
    generalize x1.heap.size = hb at *
    obtain ⟨p0, p1, p2, p3⟩ := cells4 B1.out
    have c0 := cell_regrown p0
    have c1 := cell_regrown p1
    have c2 := cell_regrown p2
    have c3 := cell_regrown p3
    have s1 := cell_regrown (HSp.out _ K1.out).2.1
    have C1 : Hid (∀ d os, Calls Tryz.prog 67 #[.pointer (some ⟨tp, 0, none⟩), .agg #[.int .u8 xg, .int .i64 xt, .int .i64 xn, .int .i64 xs]] (grow (redrawn y1 d) os) fun e z => e = .returned (.int .i64 fe) ∧ ∃ p : Regrown, z = grow (redrawn y1 p.d) p.os) :=
      Lib.hid fun d os => Calls.regrown_of ((HFt.out _ (K1.out.trans (Kept.ofBelow (below_regrown y1 d os) []))).mono fun _ _ ⟨he, hk⟩ => ⟨he, hk.below (Nat.le_refl _) (by simp)⟩)
    have C2 : Hid (∀ d os, Calls Tryz.prog 22 #[.pointer (some ⟨sp, 0, none⟩)] (grow (redrawn y1 d) os) fun e z => e = .returned (.int .i64 G) ∧ ∃ p : Regrown, z = grow (redrawn y1 p.d) p.os) :=
      Lib.hid fun d os => Calls.regrown_of ((HGr.out _ (K1.out.trans (Kept.ofBelow (below_regrown y1 d os) []))).mono fun _ _ ⟨he, hk⟩ => ⟨he, by rw [← hk]; exact (Kept.refl [] _).below (Nat.le_refl _) (by simp)⟩)
    clear p0 p1 p2 p3 HFt HGr HSp
    refine wp_region_quiet_below (by kernel_rfl) (by kernel_rfl) ?_
    repeat (first | go_big_quiet_step (first | exact C1.out _ _ | exact C2.out _ _) | quiet_step (first | exact C1.out _ _ | exact C2.out _ _))
    refine wpQuiet_nil ?_
    rintro _ ⟨⟨dq, osq⟩, rfl⟩
    have hk3 := Kept.ofBelow (below_regrown y1 dq osq) []
    clear c0 c1 c2 c3 s1 C1 C2 hb1
    generalize grow (redrawn y1 dq) osq = y3 at hk3 ⊢
    have K3 := Lib.hid (K1.out.trans hk3)
    have b3 := B1.out.keep0 hk3
    have r3 := R1.out.keep0 hk3
    obtain ⟨c0, c1, c2, c3⟩ := cells4 b3
    obtain ⟨f0, f1, f2, f3, f4⟩ := free5 r3
    obtain ⟨d0, d1, d2, d3, d4⟩ := cells5 r3
    have R3 := Lib.hid r3
    clear hk3 b3 r3 B1 R1 K1
    go_wp2_with fail
    exact ret_cel rfl rfl R3.out K3.out (Nat.le_refl _) rfl rfl fun X hX => ⟨rfl, hX⟩
end
end Go.Proofs.YtfdombfdgpclcaaGreatDoor.Sp
