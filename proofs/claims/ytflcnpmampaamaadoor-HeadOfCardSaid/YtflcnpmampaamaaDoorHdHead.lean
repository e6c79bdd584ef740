/-
  The contract of headOf.
-/
import Derived.Test.YtflcnpmampaamaaDoorHdCut
namespace Go.Proofs.YtflcnpmampaamaaDoor.Hd
open Go.RowKit Go.Proofs.YtflcnpmampaamaaDoor.Ar
set_option linter.unusedVariables false

theorem free4 {w : World} {b : Nat} {t : TypeId} {cs : List Value} (h : Has w b t cs) : w.frozen? ⟨b, 0, none⟩ = false ∧ w.frozen? ⟨b, 1, none⟩ = false ∧ w.frozen? ⟨b, 2, none⟩ = false ∧ w.frozen? ⟨b, 3, none⟩ = false :=
  ⟨h.free 0, h.free 1, h.free 2, h.free 3⟩
def put4 (b : Nat) (v0 v1 v2 v3 : Value) (w : World) : World := (((w.setCell ⟨b, 0, none⟩ v0).setCell ⟨b, 1, none⟩ v1).setCell ⟨b, 2, none⟩ v2).setCell ⟨b, 3, none⟩ v3
theorem put4_has {b : Nat} {t : TypeId} {w : World} {a0 a1 a2 a3 : Value} (h : Has w b t [a0, a1, a2, a3]) (v0 v1 v2 v3 : Value) : Has (put4 b v0 v1 v2 v3 w) b t [v0, v1, v2, v3] := (((h.put 0 v0).put 1 v1).put 2 v2).put 3 v3
theorem put4_kept {b : Nat} {S : List Nat} {w0 w : World} (h : Kept S w0 w) (hb : b ∈ S ∨ w0.heap.size ≤ b) (v0 v1 v2 v3 : Value) : Kept S w0 (put4 b v0 v1 v2 v3 w) :=
  (((h.setCell ⟨b, 0, none⟩ v0 hb).setCell ⟨b, 1, none⟩ v1 hb).setCell ⟨b, 2, none⟩ v2 hb).setCell ⟨b, 3, none⟩ v3 hb
theorem size_head : (Tryd.prog.info? 23).map (·.size) = some 4 := by kernel_rfl
/-- The end of a function whose result is a header that lies in memory. -/
theorem ret_one0 {f : Func} {p : Tmp} (h : f.results = #[.cell p 23]) {a : Act} {X : World} {g : Nat} {v0 v1 v2 v3 : Value} (hp : a.tmps.getD p undef = .pointer (some ⟨g, 0, none⟩)) (hH : Has X g 23 [v0, v1, v2, v3])
    (hdf : a.defers = []) {R : Ending → World → Prop} (hR : R (.returned (.agg #[v0, v1, v2, v3])) X) : bodyPost Tryd.prog f R .ret a X := by
  refine bodyPost_ret ?_ hdf hR
  exact results_cell_row h a.tmps X g 23 #[v0, v1, v2, v3] (0, 0) _ hp hH Tryd.underlying23 rfl size_head
theorem ret_hd0 {f : Func} {p u : Tmp} (h : f.results = #[.cell p 23, .tmp u]) {a : Act} {X : World} {g : Nat} {v0 v1 v2 v3 : Value} (hp : a.tmps.getD p undef = .pointer (some ⟨g, 0, none⟩)) (hH : Has X g 23 [v0, v1, v2, v3])
    (hdf : a.defers = []) {E : Value} (hE : a.tmps.getD u undef = E) {R : Ending → World → Prop} (hR : R (.returned (.tuple #[.agg #[v0, v1, v2, v3], E])) X) : bodyPost Tryd.prog f R .ret a X := by
  refine Kd.ret_row h _ hp hH rfl Tryd.underlying23 rfl size_head hdf ?_
  rw [hE]
  exact hR
/-- The end of a function whose first result is a header that lies in memory: four stores, then it is read. -/
theorem ret_hd {f : Func} {p u : Tmp} (h : f.results = #[.cell p 23, .tmp u]) {a : Act} {w0 w : World} {g : Nat} {a0 a1 a2 a3 v0 v1 v2 v3 : Value} (hp : a.tmps.getD p undef = .pointer (some ⟨g, 0, none⟩)) (hH : Has w g 23 [a0, a1, a2, a3]) (hk : Kept [] w0 w) (hg : w0.heap.size ≤ g)
    (hdf : a.defers = []) {E : Value} (hE : a.tmps.getD u undef = E) {R : Ending → World → Prop}
    (hR : ∀ X, Kept [] w0 X → R (.returned (.tuple #[.agg #[v0, v1, v2, v3], E])) X) : bodyPost Tryd.prog f R .ret a (put4 g v0 v1 v2 v3 w) :=
  ret_hd0 h hp (put4_has hH v0 v1 v2 v3) hdf hE (hR _ (put4_kept hk (.inr hg) _ _ _ _))
set_option maxRecDepth 100000 in
theorem head_ok' {w : World} (h : Fields w) (u : Int) (hu0 : 0 ≤ u) (hu : u ≤ 18446744073709551615) : Calls Tryd.prog 24 #[.int .u64 u] w fun e w' => e = .returned (headI u).val ∧ Kept [] w w' := by
  have k0 : Kept [] w ((w.alloc (.cells #[.int .u64 u] 24)).alloc (.cells #[.int .u8 0, .int .i64 0, .int .i64 0, .int .i64 0] 23)) := ((Kept.refl [] w).alloc _).alloc _
  have b0 : Has ((w.alloc (.cells #[.int .u64 u] 24)).alloc (.cells #[.int .u8 0, .int .i64 0, .int .i64 0, .int .i64 0] 23)) w.heap.size 24 [.int .u64 u] := (Has.new w 24 [.int .u64 u]).alloc _
  have r0 : Has ((w.alloc (.cells #[.int .u64 u] 24)).alloc (.cells #[.int .u8 0, .int .i64 0, .int .i64 0, .int .i64 0] 23)) (w.heap.size + 1) 23 Hd.zero.cells := by
    have := Has.new (w.alloc (.cells #[.int .u64 u] 24)) 23 Hd.zero.cells
    simpa [Hd.cells, Hd.zero] using this
  have H0 := Lib.hid (fun y k => cut_0 (w := y) (h.keep0 (k0.trans k)) (b0.keep0 k) hu0 hu)
  have H1 := Lib.hid (fun y k => cut_1 (w := y) (h.keep0 (k0.trans k)) (b0.keep0 k) hu0 hu)
  have H2 := Lib.hid (fun y k => cut_2 (w := y) (h.keep0 (k0.trans k)) (b0.keep0 k) hu0 hu)
  have H3 := Lib.hid (fun y k => cut_3 (w := y) (h.keep0 (k0.trans k)) (b0.keep0 k) hu0 hu)
  have K0 := Lib.hid k0
  have R0 := Lib.hid r0
  have e0 : 0 ≤ u % 4 ∧ u % 4 < 4 := by omega
  unfold Hd.val headI
  simp only
  clear h k0 b0 r0
  generalize u % 4 = n0 at *
  generalize u / 4 % 4096 = n1 at *
  generalize u / 65536 % 16777216 = n2 at *
  generalize u / 1099511627776 = n3 at *
  obtain ⟨e0, e1⟩ := e0
  go_enter Tryd.func24, Tryd.ntmps24
  go_wp2_with fail
  refine (H0.out _ (Kept.refl _ _)).mono ?_
  rintro e x1 ⟨rfl, k1⟩
  have K1 := Lib.hid k1
  clear k1
  go_wp2_with fail
  refine (H1.out _ K1.out).mono ?_
  rintro e x2 ⟨rfl, k2⟩
  have K2 := Lib.hid (K1.out.trans k2)
  clear k2 K1
  go_wp2_with fail
  refine (H2.out _ K2.out).mono ?_
  rintro e x3 ⟨rfl, k3⟩
  have K3 := Lib.hid (K2.out.trans k3)
  clear k3 K2
  go_wp2_with fail
  refine (H3.out _ K3.out).mono ?_
  rintro e x4 ⟨rfl, k4⟩
  have K4 := Lib.hid (K3.out.trans k4)
  clear k4 K3 H0 H1 H2 H3
  have r4 := R0.out.keep0 K4.out
  unfold Hd.cells Hd.zero at r4
  obtain ⟨f0, f1, f2, f3⟩ := free4 r4
  obtain ⟨c0, c1, c2, c3⟩ := cells4 r4
  have R4 := Lib.hid r4
  clear r4
  go_wp2_with fail
  exact ret_one0 rfl rfl (put4_has R4.out _ _ _ _) rfl ⟨rfl, put4_kept (K0.out.trans K4.out) (.inr (by omega)) _ _ _ _⟩
end Go.Proofs.YtflcnpmampaamaaDoor.Hd
