/-
  Several texts in one: HdHead, HdCode, HdDoc, HdDoc2.
-/
import Derived.Test.YtoagghileebokaaGreatDoorG04
import Derived.Test.YtoagghileebokaaGreatDoorG09
/-
  The contract of headOf.
-/
namespace Go.Proofs.YtoagghileebokaaGreatDoor.Hd
open Go.RowKit Go.Proofs.YtoagghileebokaaGreatDoor.Ar
set_option linter.unusedVariables false

theorem free4 {w : World} {b : Nat} {t : TypeId} {cs : List Value} (h : Has w b t cs) : w.frozen? ⟨b, 0, none⟩ = false ∧ w.frozen? ⟨b, 1, none⟩ = false ∧ w.frozen? ⟨b, 2, none⟩ = false ∧ w.frozen? ⟨b, 3, none⟩ = false :=
  ⟨h.free 0, h.free 1, h.free 2, h.free 3⟩
def put4 (b : Nat) (v0 v1 v2 v3 : Value) (w : World) : World := (((w.setCell ⟨b, 0, none⟩ v0).setCell ⟨b, 1, none⟩ v1).setCell ⟨b, 2, none⟩ v2).setCell ⟨b, 3, none⟩ v3
theorem put4_has {b : Nat} {t : TypeId} {w : World} {a0 a1 a2 a3 : Value} (h : Has w b t [a0, a1, a2, a3]) (v0 v1 v2 v3 : Value) : Has (put4 b v0 v1 v2 v3 w) b t [v0, v1, v2, v3] := (((h.put 0 v0).put 1 v1).put 2 v2).put 3 v3
theorem put4_kept {b : Nat} {S : List Nat} {w0 w : World} (h : Kept S w0 w) (hb : b ∈ S ∨ w0.heap.size ≤ b) (v0 v1 v2 v3 : Value) : Kept S w0 (put4 b v0 v1 v2 v3 w) :=
  (((h.setCell ⟨b, 0, none⟩ v0 hb).setCell ⟨b, 1, none⟩ v1 hb).setCell ⟨b, 2, none⟩ v2 hb).setCell ⟨b, 3, none⟩ v3 hb
theorem size_head : (Tryz.prog.info? 49).map (·.size) = some 4 := by kernel_rfl
/-- The end of a function whose result is a header that lies in memory. -/
theorem ret_one0 {f : Func} {p : Tmp} (h : f.results = #[.cell p 49]) {a : Act} {X : World} {g : Nat} {v0 v1 v2 v3 : Value} (hp : a.tmps.getD p undef = .pointer (some ⟨g, 0, none⟩)) (hH : Has X g 49 [v0, v1, v2, v3])
    (hdf : a.defers = []) {R : Ending → World → Prop} (hR : R (.returned (.agg #[v0, v1, v2, v3])) X) : bodyPost Tryz.prog f R .ret a X := by
  refine bodyPost_ret ?_ hdf hR
  exact results_cell_row h a.tmps X g 49 #[v0, v1, v2, v3] (0, 0) _ hp hH Tryz.underlying49 rfl size_head
theorem ret_hd0 {f : Func} {p u : Tmp} (h : f.results = #[.cell p 49, .tmp u]) {a : Act} {X : World} {g : Nat} {v0 v1 v2 v3 : Value} (hp : a.tmps.getD p undef = .pointer (some ⟨g, 0, none⟩)) (hH : Has X g 49 [v0, v1, v2, v3])
    (hdf : a.defers = []) {E : Value} (hE : a.tmps.getD u undef = E) {R : Ending → World → Prop} (hR : R (.returned (.tuple #[.agg #[v0, v1, v2, v3], E])) X) : bodyPost Tryz.prog f R .ret a X := by
  refine Kd.ret_row h _ hp hH rfl Tryz.underlying49 rfl size_head hdf ?_
  rw [hE]
  exact hR
/-- The end of a function whose first result is a header that lies in memory: four stores, then it is read. -/
theorem ret_hd {f : Func} {p u : Tmp} (h : f.results = #[.cell p 49, .tmp u]) {a : Act} {w0 w : World} {g : Nat} {a0 a1 a2 a3 v0 v1 v2 v3 : Value} (hp : a.tmps.getD p undef = .pointer (some ⟨g, 0, none⟩)) (hH : Has w g 49 [a0, a1, a2, a3]) (hk : Kept [] w0 w) (hg : w0.heap.size ≤ g)
    (hdf : a.defers = []) {E : Value} (hE : a.tmps.getD u undef = E) {R : Ending → World → Prop}
    (hR : ∀ X, Kept [] w0 X → R (.returned (.tuple #[.agg #[v0, v1, v2, v3], E])) X) : bodyPost Tryz.prog f R .ret a (put4 g v0 v1 v2 v3 w) :=
  ret_hd0 h hp (put4_has hH v0 v1 v2 v3) hdf hE (hR _ (put4_kept hk (.inr hg) _ _ _ _))
set_option maxRecDepth 100000 in
theorem head_ok' {w : World} (h : Fields w) (u : Int) (hu0 : 0 ≤ u) (hu : u ≤ 18446744073709551615) : Calls Tryz.prog 154 #[.int .u64 u] w fun e w' => e = .returned (headI u).val ∧ Kept [] w w' := by
  have k0 : Kept [] w ((w.alloc (.cells #[.int .u64 u] 55)).alloc (.cells #[.int .u8 0, .int .i64 0, .int .i64 0, .int .i64 0] 49)) := ((Kept.refl [] w).alloc _).alloc _
  have b0 : Has ((w.alloc (.cells #[.int .u64 u] 55)).alloc (.cells #[.int .u8 0, .int .i64 0, .int .i64 0, .int .i64 0] 49)) w.heap.size 55 [.int .u64 u] := (Has.new w 55 [.int .u64 u]).alloc _
  have r0 : Has ((w.alloc (.cells #[.int .u64 u] 55)).alloc (.cells #[.int .u8 0, .int .i64 0, .int .i64 0, .int .i64 0] 49)) (w.heap.size + 1) 49 Hd.zero.cells := by
    have := Has.new (w.alloc (.cells #[.int .u64 u] 55)) 49 Hd.zero.cells
    simpa [Hd.cells, Hd.zero] using this
  have H0 := Lib.hid (fun y k => cut_0 (w := y) (h.keep0 (k0.trans k)) (b0.keep0 k) hu0 hu)
  have H1 := Lib.hid (fun y k => cut_1 (w := y) (h.keep0 (k0.trans k)) (b0.keep0 k) hu0 hu)
  have H2 := Lib.hid (fun y k => cut_2 (w := y) (h.keep0 (k0.trans k)) (b0.keep0 k) hu0 hu)
  have H3 := Lib.hid (fun y k => cut_3 (w := y) (h.keep0 (k0.trans k)) (b0.keep0 k) hu0 hu)
  have K0 := Lib.hid k0
  have R0 := Lib.hid r0
  have e0 : 0 ≤ u % 4 ∧ u % 4 < 4 := by omega
  unfold Hd.val headI
  simp only
  clear h k0 b0 r0
  generalize u % 4 = n0 at *
  generalize u / 4 % 4096 = n1 at *
  generalize u / 65536 % 16777216 = n2 at *
  generalize u / 1099511627776 = n3 at *
  obtain ⟨e0, e1⟩ := e0
  go_enter Tryz.func154, Tryz.ntmps154
  go_wp2_with fail
  refine (H0.out _ (Kept.refl _ _)).mono ?_
  rintro e x1 ⟨rfl, k1⟩
  have K1 := Lib.hid k1
  clear k1
  go_wp2_with fail
  refine (H1.out _ K1.out).mono ?_
  rintro e x2 ⟨rfl, k2⟩
  have K2 := Lib.hid (K1.out.trans k2)
  clear k2 K1
  go_wp2_with fail
  refine (H2.out _ K2.out).mono ?_
  rintro e x3 ⟨rfl, k3⟩
  have K3 := Lib.hid (K2.out.trans k3)
  clear k3 K2
  go_wp2_with fail
  refine (H3.out _ K3.out).mono ?_
  rintro e x4 ⟨rfl, k4⟩
  have K4 := Lib.hid (K3.out.trans k4)
  clear k4 K3 H0 H1 H2 H3
  have r4 := R0.out.keep0 K4.out
  unfold Hd.cells Hd.zero at r4
  obtain ⟨f0, f1, f2, f3⟩ := free4 r4
  obtain ⟨c0, c1, c2, c3⟩ := cells4 r4
  have R4 := Lib.hid r4
  clear r4
  go_wp2_with fail
  exact ret_one0 rfl rfl (put4_has R4.out _ _ _ _) rfl ⟨rfl, put4_kept (K0.out.trans K4.out) (.inr (by omega)) _ _ _ _⟩
end Go.Proofs.YtoagghileebokaaGreatDoor.Hd

/-
  The contracts of Encode, Decode, Gap.
-/
namespace Go.Proofs.YtoagghileebokaaGreatDoor.Hd
open Go.RowKit Go.Proofs.YtoagghileebokaaGreatDoor.Ar
set_option linter.unusedVariables false

section
variable {w : World}
theorem Hd.new (w : World) (x : Hd) : Has (w.alloc (.cells #[.int .u8 x.tg, .int .i64 x.ty, .int .i64 x.ln, .int .i64 x.sz] 49)) w.heap.size 49 [.int .u8 x.tg, .int .i64 x.ty, .int .i64 x.ln, .int .i64 x.sz] := Has.new w _ _
set_option maxRecDepth 100000 in
theorem encode_ok (h : Fields w) (x : Hd) (ok : x.ok) : Calls Tryz.prog 88 #[x.val] w fun e w' => e = .returned (.tuple #[.int .u64 (encW x), .int .i64 (errH x)]) ∧ Kept [] w w' := by
  have hb := Hd.new w x
  have k0 : Kept [] w (w.alloc (.cells #[.int .u8 x.tg, .int .i64 x.ty, .int .i64 x.ln, .int .i64 x.sz] 49)) := (Kept.refl [] w).alloc _
  have HC := Lib.hid (fun y (k : Kept [] w y) => check_ok (h.keep0 k) x ok)
  have HW := Lib.hid (fun (c : x.can) y (k : Kept [] w y) => word_ok (h.keep0 k) x c)
  clear h ok
  by_cases c : x.can
  · rw [encW_yes c]
    rw [errH_yes c] at *
    have HW' := Lib.hid (HW.out c)
    clear HW c
    unfold Hd.val at *
    generalize wordI x = u at *
    generalize x.tg = g at *
    generalize x.ty = t at *
    generalize x.ln = n at *
    generalize x.sz = s at *
    have HB := Lib.hid hb
    have K0 := Lib.hid k0
    clear hb k0
    go_enter Tryz.func88, Tryz.ntmps88
    go_wp2_with fail
    refine (HC.out _ K0.out).mono ?_
    rintro e x1 ⟨rfl, k1⟩
    obtain ⟨c0, c1, c2, c3⟩ := cells4 (HB.out.keep0 k1)
    have K1 := Lib.hid (K0.out.trans k1)
    clear k1 HC K0
    go_wp2_with fail
    refine (HW'.out _ K1.out).mono ?_
    rintro e x2 ⟨rfl, k2⟩
    have K2 := Lib.hid (K1.out.trans k2)
    clear k2 K1 c0 c1 c2 c3
    go_wp2_with fail
    go_ret2
    exact ⟨rfl, K2.out⟩
  · rw [encW_no c]
    rw [errH_no c] at *
    clear HW c
    unfold Hd.val at *
    generalize x.tg = g at *
    generalize x.ty = t at *
    generalize x.ln = n at *
    generalize x.sz = s at *
    have K0 := Lib.hid k0
    clear hb k0
    go_enter Tryz.func88, Tryz.ntmps88
    go_wp2_with fail
    refine (HC.out _ K0.out).mono ?_
    rintro e x1 ⟨rfl, k1⟩
    have K1 := Lib.hid (K0.out.trans k1)
    clear k1 HC K0
    go_wp2_with fail
    go_ret2
    exact ⟨rfl, K1.out⟩
set_option maxRecDepth 100000 in
set_option maxHeartbeats 1000000 in
theorem decode_ok (h : Fields w) (u : Int) (hu0 : 0 ≤ u) (hu1 : u ≤ 18446744073709551615) : Calls Tryz.prog 125 #[.int .u64 u] w fun e w' => e = .returned (.tuple #[(decH u).val, .int .i64 (decE u)]) ∧ Kept [] w w' := by
  have hb := Hd.new w Hd.zero
  have k0 : Kept [] w (w.alloc (.cells #[.int .u8 Hd.zero.tg, .int .i64 Hd.zero.ty, .int .i64 Hd.zero.ln, .int .i64 Hd.zero.sz] 49)) := (Kept.refl [] w).alloc _
  have HH := Lib.hid (fun y (k : Kept [] w y) => head_ok' (h.keep0 k) u hu0 hu1)
  have HE := Lib.hid (fun y (k : Kept [] w y) => encode_ok (h.keep0 k) (headI u) (head_ok hu0 hu1))
  have HN : Hid (∀ y : World, Has (y.alloc (.cells #[.int .u8 (headI u).tg, .int .i64 (headI u).ty, .int .i64 (headI u).ln, .int .i64 (headI u).sz] 49)) y.heap.size 49 [.int .u8 (headI u).tg, .int .i64 (headI u).ty, .int .i64 (headI u).ln, .int .i64 (headI u).sz]) := Lib.hid fun y => Hd.new y _
  have hiff := @isHead_iff u
  have hcase : ((headI u).can ∧ wordI (headI u) = u ∧ decH u = headI u ∧ decE u = 0 ∧ encW (headI u) = u ∧ errH (headI u) = 0) ∨ (decH u = Hd.zero ∧ decE u = 7 ∧ ((errH (headI u) = 2) ∨ (errH (headI u) = 0 ∧ encW (headI u) ≠ u))) := by
    by_cases c : (headI u).can
    · by_cases d : wordI (headI u) = u
      · have e := hiff.2 ⟨c, d⟩
        exact .inl ⟨c, d, (dec_yes e).1, (dec_yes e).2, (encW_yes c).trans d, errH_yes c⟩
      · have e : isHead u = false := by
          cases hx : isHead u with
          | false => rfl
          | true => exact absurd (hiff.1 hx).2 d
        exact .inr ⟨(dec_no e).1, (dec_no e).2, .inr ⟨errH_yes c, by rw [encW_yes c]; exact d⟩⟩
    · have e : isHead u = false := by
        cases hx : isHead u with
        | false => rfl
        | true => exact absurd (hiff.1 hx).1 c
      exact .inr ⟨(dec_no e).1, (dec_no e).2, .inl (errH_no c)⟩
  clear hiff h
  unfold Hd.val at *
  rcases hcase with ⟨_, _, e1, e2, e3, e4⟩ | ⟨e1, e2, e3⟩
  · rw [e3, e4] at HE
    rw [e1, e2]
    clear e1 e2 e3 e4
    generalize headI u = x at *
    generalize x.tg = g at *
    generalize x.ty = t at *
    generalize x.ln = n at *
    generalize x.sz = s at *
    unfold Hd.zero at *
    simp only at hb k0
    have HB := Lib.hid hb
    have K0 := Lib.hid k0
    clear hb k0
    go_enter Tryz.func125, Tryz.ntmps125
    go_wp2_with fail
    refine (HH.out _ K0.out).mono ?_
    rintro e x1 ⟨rfl, k1⟩
    have K1 := Lib.hid (K0.out.trans k1)
    have HB1 := Lib.hid (HB.out.keep0 k1)
    have HN1 := Lib.hid (HN.out x1)
    clear k1 K0 HB HH HN
    go_wp2_with fail
    refine (HE.out _ (K1.out.alloc _)).mono ?_
    rintro e x2 ⟨rfl, k2⟩
    have K2 := Lib.hid ((K1.out.alloc _).trans k2)
    have r2 := (HB1.out.alloc _).keep0 k2
    have b2 := HN1.out.keep0 k2
    clear k2 HE HN1 K1 HB1
    obtain ⟨f0, f1, f2, f3⟩ := free4 r2
    obtain ⟨d0, d1, d2, d3⟩ := cells4 r2
    obtain ⟨c0, c1, c2, c3⟩ := cells4 b2
    have R2 := Lib.hid r2
    clear r2 b2
    go_wp2_with fail
    exact ret_hd rfl rfl R2.out K2.out (Nat.le_refl _) rfl rfl fun X hX => ⟨rfl, hX⟩
  · rw [e1, e2]
    clear e1 e2
    have HZ : Hid (Hd.zero = ⟨0, 0, 0, 0⟩) := Lib.hid rfl
    generalize headI u = x at *
    generalize errH x = er at *
    generalize encW x = ew at *
    generalize x.tg = g at *
    generalize x.ty = t at *
    generalize x.ln = n at *
    generalize x.sz = s at *
    unfold Hd.zero at *
    simp only at hb k0
    have HB := Lib.hid hb
    have K0 := Lib.hid k0
    clear hb k0
    go_enter Tryz.func125, Tryz.ntmps125
    go_wp2_with fail
    refine (HH.out _ K0.out).mono ?_
    rintro e x1 ⟨rfl, k1⟩
    have K1 := Lib.hid (K0.out.trans k1)
    have HB1 := Lib.hid (HB.out.keep0 k1)
    have HN1 := Lib.hid (HN.out x1)
    clear k1 K0 HB HH HN
    go_wp2_with fail
    refine (HE.out _ (K1.out.alloc _)).mono ?_
    rintro e x2 ⟨rfl, k2⟩
    have K2 := Lib.hid ((K1.out.alloc _).trans k2)
    have r2 := (HB1.out.alloc _).keep0 k2
    have b2 := HN1.out.keep0 k2
    clear k2 HE HN1 K1 HB1
    obtain ⟨f0, f1, f2, f3⟩ := free4 r2
    obtain ⟨d0, d1, d2, d3⟩ := cells4 r2
    obtain ⟨c0, c1, c2, c3⟩ := cells4 b2
    have R2 := Lib.hid r2
    clear r2 b2
    rcases e3 with rfl | ⟨rfl, hne⟩
    · go_wp2_with fail
      exact ret_hd rfl rfl R2.out K2.out (Nat.le_refl _) rfl rfl fun X hX => ⟨rfl, hX⟩
    · go_wp2_with fail
      exact ret_hd rfl rfl R2.out K2.out (Nat.le_refl _) rfl rfl fun X hX => ⟨rfl, hX⟩
/-- A gap's header. -/
def gapH (g z : Int) : Hd := if (Hd.mk g 0 0 z).can then ⟨g, 0, 0, z⟩ else Hd.zero
theorem gap_yes {g z : Int} (h : (Hd.mk g 0 0 z).can) : gapH g z = ⟨g, 0, 0, z⟩ := if_pos h
theorem gap_no {g z : Int} (h : ¬ (Hd.mk g 0 0 z).can) : gapH g z = Hd.zero := if_neg h
set_option maxRecDepth 100000 in
set_option maxHeartbeats 1000000 in
theorem gap_ok (h : Fields w) (g z : Int) (g0 : 0 ≤ g) (g1 : g ≤ 255) (z0 : -9223372036854775808 ≤ z) (z1 : z ≤ 9223372036854775807) : Calls Tryz.prog 104 #[.int .u8 g, .int .i64 z] w fun e w' => e = .returned (.tuple #[(gapH g z).val, .int .i64 (errH ⟨g, 0, 0, z⟩)]) ∧ Kept [] w w' := by
  have hb := Hd.new w Hd.zero
  have k0 : Kept [] w (w.alloc (.cells #[.int .u8 Hd.zero.tg, .int .i64 Hd.zero.ty, .int .i64 Hd.zero.ln, .int .i64 Hd.zero.sz] 49)) := (Kept.refl [] w).alloc _
  have HC := Lib.hid (fun y (k : Kept [] w y) => check_ok (h.keep0 k) ⟨g, 0, 0, z⟩ ⟨g0, g1, by simp, by simp, by simp, by simp, z0, z1⟩)
  have HN : Hid (Has ((w.alloc (.cells #[.int .u8 0, .int .i64 0, .int .i64 0, .int .i64 0] 49)).alloc (.cells #[.int .u8 g, .int .i64 0, .int .i64 0, .int .i64 z] 49)) (w.heap.size + 1) 49 [.int .u8 g, .int .i64 0, .int .i64 0, .int .i64 z]) := Lib.hid (by simpa using Hd.new (w.alloc (.cells #[.int .u8 0, .int .i64 0, .int .i64 0, .int .i64 0] 49)) ⟨g, 0, 0, z⟩)
  unfold Hd.zero at hb k0
  simp only at hb k0
  have HB := Lib.hid hb
  have K0 := Lib.hid k0
  clear hb k0 h
  by_cases c : (Hd.mk g 0 0 z).can
  · rw [gap_yes c]
    rw [errH_yes c] at *
    unfold Hd.val at *
    simp only at *
    clear c
    go_enter Tryz.func104, Tryz.ntmps104
    go_wp2_with fail
    refine (HC.out _ (K0.out.alloc _)).mono ?_
    rintro e x2 ⟨rfl, k2⟩
    have K2 := Lib.hid ((K0.out.alloc _).trans k2)
    have r2 := (HB.out.alloc _).keep0 k2
    have b2 := HN.out.keep0 k2
    clear k2 HC HN K0 HB
    obtain ⟨f0, f1, f2, f3⟩ := free4 r2
    obtain ⟨d0, d1, d2, d3⟩ := cells4 r2
    obtain ⟨c0, c1, c2, c3⟩ := cells4 b2
    have R2 := Lib.hid r2
    clear r2 b2
    go_wp2_with fail
    exact ret_hd rfl rfl R2.out K2.out (Nat.le_refl _) rfl rfl fun X hX => ⟨rfl, hX⟩
  · rw [gap_no c]
    rw [errH_no c] at *
    unfold Hd.val Hd.zero at *
    simp only at *
    clear c
    go_enter Tryz.func104, Tryz.ntmps104
    go_wp2_with fail
    refine (HC.out _ (K0.out.alloc _)).mono ?_
    rintro e x2 ⟨rfl, k2⟩
    have K2 := Lib.hid ((K0.out.alloc _).trans k2)
    have r2 := (HB.out.alloc _).keep0 k2
    have b2 := HN.out.keep0 k2
    clear k2 HC HN K0 HB
    obtain ⟨f0, f1, f2, f3⟩ := free4 r2
    obtain ⟨d0, d1, d2, d3⟩ := cells4 r2
    obtain ⟨c0, c1, c2, c3⟩ := cells4 b2
    have R2 := Lib.hid r2
    clear r2 b2
    go_wp2_with fail
    exact ret_hd rfl rfl R2.out K2.out (Nat.le_refl _) rfl rfl fun X hX => ⟨rfl, hX⟩
end
end Go.Proofs.YtoagghileebokaaGreatDoor.Hd

/-
  The contracts of the document's functions: May, Encode, Decode, Gap.
-/
namespace Go.Proofs.YtoagghileebokaaGreatDoor.Hd
open Go.RowKit Go.Proofs.YtoagghileebokaaGreatDoor.Ar
set_option linter.unusedVariables false

section
variable {w : World}
theorem Hd.new' (w : World) (x : Hd) : Has (w.alloc (.cells #[.int .u8 x.tg, .int .i64 x.ty, .int .i64 x.ln, .int .i64 x.sz] 49)) w.heap.size 49 [.int .u8 x.tg, .int .i64 x.ty, .int .i64 x.ln, .int .i64 x.sz] := Has.new w _ _
set_option maxRecDepth 100000 in
set_option maxHeartbeats 1000000 in
theorem may_ok (x : Hd) (ok : x.ok) : Calls Tryz.prog 162 #[x.val] w fun e w' => e = .returned (.bool (decide x.can)) ∧ Kept [] w w' := by
  have hb := Hd.new' w x
  have k0 : Kept [] w (w.alloc (.cells #[.int .u8 x.tg, .int .i64 x.ty, .int .i64 x.ln, .int .i64 x.sz] 49)) := (Kept.refl [] w).alloc _
  obtain ⟨g0, g1, t0, t1, l0, l1, s0, s1⟩ := ok
  have hc : decide x.can = decide ((1 ≤ x.sz ∧ x.sz ≤ 16777215 ∧ 0 ≤ x.ln ∧ x.ln ≤ 16777215) ∧ ((x.tg = 1 ∧ 1 ≤ x.ty ∧ x.ty ≤ 4095) ∨ ((x.tg = 2 ∨ x.tg = 3) ∧ x.ty = 0 ∧ x.ln = 0))) := by
    rw [Bool.eq_iff_iff, decide_eq_true_iff, decide_eq_true_iff]; rfl
  rw [hc]; clear hc
  unfold Hd.val
  generalize x.tg = g at *
  generalize x.ty = t at *
  generalize x.ln = n at *
  generalize x.sz = s at *
  obtain ⟨c0, c1, c2, c3⟩ := cells4 hb
  have K0 := Lib.hid k0
  clear hb k0
  by_cases h1 : s < 1
  · rw [decide_eq_false (by omega)]
    go_enter Tryz.func162, Tryz.ntmps162
    go_wp2_with fail
    go_ret
    exact ⟨rfl, K0.out⟩
  by_cases h2 : s ≥ 16777216
  · rw [decide_eq_false (by omega)]
    go_enter Tryz.func162, Tryz.ntmps162
    go_wp2_with fail
    go_ret
    exact ⟨rfl, K0.out⟩
  by_cases h3 : n < 0
  · rw [decide_eq_false (by omega)]
    go_enter Tryz.func162, Tryz.ntmps162
    go_wp2_with fail
    go_ret
    exact ⟨rfl, K0.out⟩
  by_cases h4 : n ≥ 16777216
  · rw [decide_eq_false (by omega)]
    go_enter Tryz.func162, Tryz.ntmps162
    go_wp2_with fail
    go_ret
    exact ⟨rfl, K0.out⟩
  by_cases hg1 : g = 1
  · subst hg1
    by_cases ht : 1 ≤ t
    · by_cases ht2 : t ≤ 4095
      · rw [decide_eq_true (by omega)]
        go_enter Tryz.func162, Tryz.ntmps162
        go_wp2_with fail
        go_ret
        exact ⟨ret_bool (by first | rfl | (simp; done) | (simp; omega)), K0.out⟩
      · rw [decide_eq_false (by omega)]
        go_enter Tryz.func162, Tryz.ntmps162
        go_wp2_with fail
        go_ret
        exact ⟨ret_bool (by first | rfl | (simp; done) | (simp; omega)), K0.out⟩
    · rw [decide_eq_false (by omega)]
      go_enter Tryz.func162, Tryz.ntmps162
      go_wp2_with fail
      go_ret
      exact ⟨ret_bool (by first | rfl | (simp; done) | (simp; omega)), K0.out⟩
  by_cases hg2 : g = 2
  · subst hg2
    by_cases ht : t = 0
    · subst ht
      by_cases hn : n = 0
      · subst hn
        rw [decide_eq_true (by omega)]
        go_enter Tryz.func162, Tryz.ntmps162
        go_wp2_with fail
        go_ret
        exact ⟨ret_bool (by first | rfl | (simp; done) | (simp; omega)), K0.out⟩
      · rw [decide_eq_false (by omega)]
        go_enter Tryz.func162, Tryz.ntmps162
        go_wp2_with fail
        go_ret
        exact ⟨ret_bool (by first | rfl | (simp; done) | (simp; omega)), K0.out⟩
    · rw [decide_eq_false (by omega)]
      go_enter Tryz.func162, Tryz.ntmps162
      go_wp2_with fail
      go_ret
      exact ⟨ret_bool (by first | rfl | (simp; done) | (simp; omega)), K0.out⟩
  by_cases hg3 : g = 3
  · subst hg3
    by_cases ht : t = 0
    · subst ht
      by_cases hn : n = 0
      · subst hn
        rw [decide_eq_true (by omega)]
        go_enter Tryz.func162, Tryz.ntmps162
        go_wp2_with fail
        go_ret
        exact ⟨ret_bool (by first | rfl | (simp; done) | (simp; omega)), K0.out⟩
      · rw [decide_eq_false (by omega)]
        go_enter Tryz.func162, Tryz.ntmps162
        go_wp2_with fail
        go_ret
        exact ⟨ret_bool (by first | rfl | (simp; done) | (simp; omega)), K0.out⟩
    · rw [decide_eq_false (by omega)]
      go_enter Tryz.func162, Tryz.ntmps162
      go_wp2_with fail
      go_ret
      exact ⟨ret_bool (by first | rfl | (simp; done) | (simp; omega)), K0.out⟩
  rw [decide_eq_false (by omega)]
  go_enter Tryz.func162, Tryz.ntmps162
  go_wp2_with fail
  go_ret
  exact ⟨ret_bool (by first | rfl | (simp; done) | (simp; omega)), K0.out⟩
end
end Go.Proofs.YtoagghileebokaaGreatDoor.Hd

/-
  The contracts of the document's functions: Encode, Decode, Gap.
-/
namespace Go.Proofs.YtoagghileebokaaGreatDoor.Hd
open Go.RowKit Go.Proofs.YtoagghileebokaaGreatDoor.Ar
set_option linter.unusedVariables false

section
variable {w : World}
set_option maxRecDepth 100000 in
theorem dencode_ok (x : Hd) (ok : x.ok) : Calls Tryz.prog 139 #[x.val] w fun e w' => e = .returned (.tuple #[.int .u64 (encW x), .int .i64 (errH x)]) ∧ Kept [] w w' := by
  have hb := Hd.new w x
  have k0 : Kept [] w (w.alloc (.cells #[.int .u8 x.tg, .int .i64 x.ty, .int .i64 x.ln, .int .i64 x.sz] 49)) := (Kept.refl [] w).alloc _
  have HC := Lib.hid (fun y => may_ok (w := y) x ok)
  clear ok
  by_cases c : x.can
  · rw [encW_yes c, errH_yes c]
    rw [decide_eq_true c] at HC
    obtain ⟨g0, g1, t0, t1, l0, l1, s0, s1⟩ : 0 ≤ x.tg ∧ x.tg ≤ 3 ∧ 0 ≤ x.ty ∧ x.ty ≤ 4095 ∧ 0 ≤ x.ln ∧ x.ln ≤ 16777215 ∧ 0 ≤ x.sz ∧ x.sz ≤ 16777215 := by
      unfold Hd.can at c; omega
    clear c
    unfold Hd.val wordI at *
    generalize x.tg = g at *
    generalize x.ty = t at *
    generalize x.ln = n at *
    generalize x.sz = s at *
    have HB := Lib.hid hb
    have K0 := Lib.hid k0
    clear hb k0
    go_enter Tryz.func139, Tryz.ntmps139
    go_wp2_with fail
    refine (HC.out _).mono ?_
    rintro e x1 ⟨rfl, k1⟩
    obtain ⟨c0, c1, c2, c3⟩ := cells4 (HB.out.keep0 k1)
    have K1 := Lib.hid (K0.out.trans k1)
    clear k1 HC K0 HB
    go_wp2_with fail
    go_ret2
    exact ⟨rfl, K1.out⟩
  · rw [encW_no c, errH_no c]
    rw [decide_eq_false c] at HC
    clear c
    unfold Hd.val at *
    generalize x.tg = g at *
    generalize x.ty = t at *
    generalize x.ln = n at *
    generalize x.sz = s at *
    have K0 := Lib.hid k0
    clear hb k0
    go_enter Tryz.func139, Tryz.ntmps139
    go_wp2_with fail
    refine (HC.out _).mono ?_
    rintro e x1 ⟨rfl, k1⟩
    have K1 := Lib.hid (K0.out.trans k1)
    clear k1 HC K0
    go_wp2_with fail
    go_ret2
    exact ⟨rfl, K1.out⟩
/-- How a decoded word falls out. -/
theorem dec_case (u : Int) : (decH u = headI u ∧ decE u = 0 ∧ encW (headI u) = u ∧ errH (headI u) = 0) ∨ (decH u = Hd.zero ∧ decE u = 7 ∧ ((errH (headI u) = 2) ∨ (errH (headI u) = 0 ∧ encW (headI u) ≠ u))) := by
  have hiff := @isHead_iff u
  by_cases c : (headI u).can
  · by_cases d : wordI (headI u) = u
    · have e := hiff.2 ⟨c, d⟩
      exact .inl ⟨(dec_yes e).1, (dec_yes e).2, (encW_yes c).trans d, errH_yes c⟩
    · have e : isHead u = false := by
        cases hx : isHead u with
        | false => rfl
        | true => exact absurd (hiff.1 hx).2 d
      exact .inr ⟨(dec_no e).1, (dec_no e).2, .inr ⟨errH_yes c, by rw [encW_yes c]; exact d⟩⟩
  · have e : isHead u = false := by
      cases hx : isHead u with
      | false => rfl
      | true => exact absurd (hiff.1 hx).1 c
    exact .inr ⟨(dec_no e).1, (dec_no e).2, .inl (errH_no c)⟩
set_option maxRecDepth 100000 in
set_option maxHeartbeats 1000000 in
theorem ddecode_ok (u : Int) (hu0 : 0 ≤ u) (hu1 : u ≤ 18446744073709551615) : Calls Tryz.prog 163 #[.int .u64 u] w fun e w' => e = .returned (.tuple #[(decH u).val, .int .i64 (decE u)]) ∧ Kept [] w w' := by
  have hb := Hd.new w Hd.zero
  have k0 : Kept [] w (w.alloc (.cells #[.int .u8 Hd.zero.tg, .int .i64 Hd.zero.ty, .int .i64 Hd.zero.ln, .int .i64 Hd.zero.sz] 49)) := (Kept.refl [] w).alloc _
  have HE := Lib.hid (fun y => dencode_ok (w := y) (headI u) (head_ok hu0 hu1))
  have HN : Hid (Has ((w.alloc (.cells #[.int .u8 0, .int .i64 0, .int .i64 0, .int .i64 0] 49)).alloc (.cells #[.int .u8 (headI u).tg, .int .i64 (headI u).ty, .int .i64 (headI u).ln, .int .i64 (headI u).sz] 49)) (w.heap.size + 1) 49 [.int .u8 (headI u).tg, .int .i64 (headI u).ty, .int .i64 (headI u).ln, .int .i64 (headI u).sz]) := Lib.hid (by simpa using Hd.new (w.alloc (.cells #[.int .u8 0, .int .i64 0, .int .i64 0, .int .i64 0] 49)) (headI u))
  have hcase := dec_case u
  unfold Hd.val Hd.zero at *
  simp only at *
  have HB := Lib.hid hb
  have K0 := Lib.hid k0
  clear hb k0
  rcases hcase with ⟨e1, e2, e3, e4⟩ | ⟨e1, e2, e3⟩
  · rw [e3, e4] at HE
    rw [e1, e2]
    clear e1 e2 e3 e4
    unfold headI at *
    simp only at *
    go_enter Tryz.func163, Tryz.ntmps163
    go_wp2_with fail
    refine (HE.out _).mono ?_
    rintro e x2 ⟨rfl, k2⟩
    have K2 := Lib.hid ((K0.out.alloc _).trans k2)
    have r2 := (HB.out.alloc _).keep0 k2
    have b2 := HN.out.keep0 k2
    clear k2 HE HN K0 HB
    obtain ⟨f0, f1, f2, f3⟩ := free4 r2
    obtain ⟨d0, d1, d2, d3⟩ := cells4 r2
    obtain ⟨c0, c1, c2, c3⟩ := cells4 b2
    have R2 := Lib.hid r2
    clear r2 b2
    go_wp2_with fail
    exact ret_hd rfl rfl R2.out K2.out (Nat.le_refl _) rfl rfl fun X hX => ⟨rfl, hX⟩
  · rw [e1, e2]
    clear e1 e2
    generalize encW (headI u) = ew at *
    generalize errH (headI u) = er at *
    unfold headI at *
    simp only at *
    go_enter Tryz.func163, Tryz.ntmps163
    go_wp2_with fail
    refine (HE.out _).mono ?_
    rintro e x2 ⟨rfl, k2⟩
    have K2 := Lib.hid ((K0.out.alloc _).trans k2)
    have r2 := (HB.out.alloc _).keep0 k2
    have b2 := HN.out.keep0 k2
    clear k2 HE HN K0 HB
    obtain ⟨f0, f1, f2, f3⟩ := free4 r2
    obtain ⟨d0, d1, d2, d3⟩ := cells4 r2
    obtain ⟨c0, c1, c2, c3⟩ := cells4 b2
    have R2 := Lib.hid r2
    clear r2 b2
    rcases e3 with rfl | ⟨rfl, hne⟩
    · go_wp2_with fail
      exact ret_hd rfl rfl R2.out K2.out (Nat.le_refl _) rfl rfl fun X hX => ⟨rfl, hX⟩
    · go_wp2_with fail
      exact ret_hd rfl rfl R2.out K2.out (Nat.le_refl _) rfl rfl fun X hX => ⟨rfl, hX⟩
set_option maxRecDepth 100000 in
set_option maxHeartbeats 1000000 in
theorem dgap_ok (g z : Int) (g0 : 0 ≤ g) (g1 : g ≤ 255) (z0 : -9223372036854775808 ≤ z) (z1 : z ≤ 9223372036854775807) : Calls Tryz.prog 160 #[.int .u8 g, .int .i64 z] w fun e w' => e = .returned (.tuple #[(gapH g z).val, .int .i64 (errH ⟨g, 0, 0, z⟩)]) ∧ Kept [] w w' := by
  have hb := Hd.new w Hd.zero
  have k0 : Kept [] w (w.alloc (.cells #[.int .u8 Hd.zero.tg, .int .i64 Hd.zero.ty, .int .i64 Hd.zero.ln, .int .i64 Hd.zero.sz] 49)) := (Kept.refl [] w).alloc _
  have HC := Lib.hid (fun y => may_ok (w := y) ⟨g, 0, 0, z⟩ ⟨g0, g1, by simp, by simp, by simp, by simp, z0, z1⟩)
  have HN : Hid (Has ((w.alloc (.cells #[.int .u8 0, .int .i64 0, .int .i64 0, .int .i64 0] 49)).alloc (.cells #[.int .u8 g, .int .i64 0, .int .i64 0, .int .i64 z] 49)) (w.heap.size + 1) 49 [.int .u8 g, .int .i64 0, .int .i64 0, .int .i64 z]) := Lib.hid (by simpa using Hd.new (w.alloc (.cells #[.int .u8 0, .int .i64 0, .int .i64 0, .int .i64 0] 49)) ⟨g, 0, 0, z⟩)
  unfold Hd.zero at hb k0
  simp only at hb k0
  have HB := Lib.hid hb
  have K0 := Lib.hid k0
  clear hb k0
  by_cases hg : g = 1
  · subst hg
    have c : ¬ (Hd.mk 1 0 0 z).can := by unfold Hd.can; simp
    rw [gap_no c, errH_no c]
    unfold Hd.val Hd.zero at *
    simp only at *
    clear c HC
    have K2 := Lib.hid (K0.out.alloc (.cells #[.int .u8 1, .int .i64 0, .int .i64 0, .int .i64 z] 49))
    have r2 := HB.out.alloc (.cells #[.int .u8 1, .int .i64 0, .int .i64 0, .int .i64 z] 49)
    clear K0 HB HN
    obtain ⟨f0, f1, f2, f3⟩ := free4 r2
    obtain ⟨d0, d1, d2, d3⟩ := cells4 r2
    have R2 := Lib.hid r2
    clear r2
    go_enter Tryz.func160, Tryz.ntmps160
    go_wp2_with fail
    exact ret_hd0 rfl rfl R2.out rfl rfl ⟨rfl, K2.out⟩
  · by_cases c : (Hd.mk g 0 0 z).can
    · rw [gap_yes c, errH_yes c]
      rw [decide_eq_true c] at HC
      unfold Hd.val at *
      simp only at *
      clear c
      go_enter Tryz.func160, Tryz.ntmps160
      go_wp2_with fail
      refine (HC.out _).mono ?_
      rintro e x2 ⟨rfl, k2⟩
      have K2 := Lib.hid ((K0.out.alloc _).trans k2)
      have r2 := (HB.out.alloc _).keep0 k2
      have b2 := HN.out.keep0 k2
      clear k2 HC HN K0 HB
      obtain ⟨f0, f1, f2, f3⟩ := free4 r2
      obtain ⟨d0, d1, d2, d3⟩ := cells4 r2
      obtain ⟨c0, c1, c2, c3⟩ := cells4 b2
      have R2 := Lib.hid r2
      clear r2 b2
      go_wp2_with fail
      exact ret_hd rfl rfl R2.out K2.out (Nat.le_refl _) rfl rfl fun X hX => ⟨rfl, hX⟩
    · rw [gap_no c, errH_no c]
      rw [decide_eq_false c] at HC
      unfold Hd.val Hd.zero at *
      simp only at *
      clear c
      go_enter Tryz.func160, Tryz.ntmps160
      go_wp2_with fail
      refine (HC.out _).mono ?_
      rintro e x2 ⟨rfl, k2⟩
      have K2 := Lib.hid ((K0.out.alloc _).trans k2)
      have r2 := (HB.out.alloc _).keep0 k2
      have b2 := HN.out.keep0 k2
      clear k2 HC HN K0 HB
      obtain ⟨f0, f1, f2, f3⟩ := free4 r2
      obtain ⟨d0, d1, d2, d3⟩ := cells4 r2
      obtain ⟨c0, c1, c2, c3⟩ := cells4 b2
      have R2 := Lib.hid r2
      clear r2 b2
      go_wp2_with fail
      exact ret_hd rfl rfl R2.out K2.out (Nat.le_refl _) rfl rfl fun X hX => ⟨rfl, hX⟩
end
end Go.Proofs.YtoagghileebokaaGreatDoor.Hd
