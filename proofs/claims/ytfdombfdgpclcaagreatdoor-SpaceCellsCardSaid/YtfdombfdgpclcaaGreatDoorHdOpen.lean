/-
  What came in: a header, a byte; the table of the fields as the row's condition says it.
-/
import Derived.Test.YtfdombfdgpclcaaGreatDoorRows
import Derived.Test.YtfdombfdgpclcaaGreatDoorGH
import Derived.Test.YtfdombfdgpclcaaGreatDoorGB
import Derived.Test.YtfdombfdgpclcaaGreatDoorTbOpen
namespace Go.Proofs.YtfdombfdgpclcaaGreatDoor.Hd
open Go.ChangeShapes Go.WideShapes Go.ChangeAt Go.RowKit Go.Proofs.YtfdombfdgpclcaaGreatDoor.Ar
set_option linter.unusedVariables false

theorem u8_of_wf {n : Int} (h : (Lit.int .u8 n).wf = true) : 0 ≤ n ∧ n ≤ 255 := by
  simp [Lit.wf, IntKind.min, IntKind.max, IntKind.signed, IntKind.bits] at h
  omega
theorem u64_of {n : Int} (h : 0 ≤ n ∧ n < 18446744073709551616) : n ≤ 18446744073709551615 := by omega
section
variable {H : Type} {enc : TypeId × Value → H} {w : World} {base : Nat} {spare : Nat → Bool} {held : Bool} {fuel : Nat}
set_option maxRecDepth 100000 in
theorem head_of {cs : List Value} {x : DataW H × List MemPlace} (h : DataW.trod enc Tryz.prog w base spare held fuel 43 cs = some x) : ∃ s : Hd, cs = s.cells ∧ s.ok := by
  obtain ⟨xs, m, _, _, hlen, hxl, hf⟩ := DataW.trod_struct Tryz.underlying43 h
  have hC : Tryz.prog.cellsOf 43 = 4 := by kernel_rfl
  have hI : Tryz.prog.cellsOf 3 = 1 := by kernel_rfl
  have hU : Tryz.prog.cellsOf 5 = 1 := by kernel_rfl
  rw [hC] at hlen
  match cs, hlen, xs, hxl with
  | [c0, c1, c2, c3], _, [y0, y1, y2, y3], _ =>
    have g0 := hf 0 _ rfl
    have g1 := hf 1 _ rfl
    have g2 := hf 2 _ rfl
    have g3 := hf 3 _ rfl
    simp [hI, hU] at g0 g1 g2 g3
    obtain ⟨a, e0, _, w0⟩ := DataW.trod_int Tryz.underlying5 g0
    obtain ⟨b, e1, _, w1⟩ := DataW.trod_int Tryz.underlying3 g1
    obtain ⟨c, e2, _, w2⟩ := DataW.trod_int Tryz.underlying3 g2
    obtain ⟨d, e3, _, w3⟩ := DataW.trod_int Tryz.underlying3 g3
    simp at e0 e1 e2 e3
    subst e0 e1 e2 e3
    have b0 := u8_of_wf w0
    have b1 := Ar.i64_of_wf w1
    have b2 := Ar.i64_of_wf w2
    have b3 := Ar.i64_of_wf w3
    exact ⟨⟨a, b, c, d⟩, rfl, b0.1, b0.2, b1.1, b1.2, b2.1, b2.2, b3.1, b3.2⟩
set_option maxRecDepth 100000 in
/-- One entry of the table. -/
theorem entry_of {c0 c1 : Value} {u v : Int} {x : DataW H × List MemPlace} (h : DataW.trod enc Tryz.prog w base spare held fuel 149 [c0, c1] = some x) (hx : x.1 = .agg [.lit (.int .i64 u), .lit (.int .i64 v)]) : c0 = .int .i64 u ∧ c1 = .int .i64 v := by
  obtain ⟨xs, m, _, e, hlen, hxl, hf⟩ := DataW.trod_struct Tryz.underlying149 h
  have hI : Tryz.prog.cellsOf 3 = 1 := by kernel_rfl
  match xs, hxl with
  | [y0, y1], _ =>
    have g0 := hf 0 _ rfl
    have g1 := hf 1 _ rfl
    simp [hI] at g0 g1
    obtain ⟨a, e0, f0, _⟩ := DataW.trod_int Tryz.underlying3 g0
    obtain ⟨b, e1, f1, _⟩ := DataW.trod_int Tryz.underlying3 g1
    subst e
    simp only [List.map_cons, List.map_nil, DataW.agg.injEq, List.cons.injEq, and_true, f0, f1, DataW.lit.injEq, Lit.int.injEq, true_and] at hx
    obtain ⟨rfl, rfl⟩ := hx
    simp at e0 e1
    exact ⟨e0, e1⟩
end
theorem gF : Tryz.prog.globalNamed "skerry/head.fields" = some 0 := by kernel_rfl
theorem gFType : (Tryz.prog.globals[0]?).map (·.type) = some 150 := by kernel_rfl
theorem cellsF : Tryz.prog.cellsOf 150 = 8 := by kernel_rfl
theorem cellsE : Tryz.prog.cellsOf 149 = 2 := by kernel_rfl
set_option maxRecDepth 100000 in
theorem fields_of {W : World} (h : laidMet Tryz.prog [("skerry/head.fields", Rows.laid_skerry_head_fields)] W) : Fields W := by
  obtain ⟨ps, ⟨g', t', cs, fuel, p, q, hg', ht', hvar, hd, _, _⟩, _⟩ := h
  obtain rfl := Option.some.inj (gF.symm.trans hg')
  obtain rfl := Option.some.inj (gFType.symm.trans ht')
  obtain ⟨xs, m, _, e, hlen, hxl, hat⟩ := DataW.trod_array Tryz.underlying150 hd
  rw [cellsF] at hlen
  have hcs : cs = fieldCells := by
    obtain ⟨cl⟩ := cs
    match cl, hlen, xs, hxl with
    | [c0, c1, c2, c3, c4, c5, c6, c7], _, [y0, y1, y2, y3], _ =>
      have a0 := hat 0 (by decide)
      have a1 := hat 1 (by decide)
      have a2 := hat 2 (by decide)
      have a3 := hat 3 (by decide)
      simp [cellsE] at a0 a1 a2 a3
      have ee := congrArg Prod.fst e
      simp only [Rows.laid_skerry_head_fields, List.map_cons, List.map_nil, DataW.agg.injEq, List.cons.injEq, and_true] at ee
      obtain ⟨f0, f1, f2, f3⟩ := ee
      obtain ⟨rfl, rfl⟩ := entry_of a0 f0.symm
      obtain ⟨rfl, rfl⟩ := entry_of a1 f1.symm
      obtain ⟨rfl, rfl⟩ := entry_of a2 f2.symm
      obtain ⟨rfl, rfl⟩ := entry_of a3 f3.symm
      rfl
  subst hcs
  simp only [World.var?, gF, Option.bind_some] at hvar
  split at hvar
  · rename_i cs' t fr hh
    injection hvar with hvar
    exact ⟨t, fr, by rw [← hvar]; exact hh⟩
  · cases hvar
end Go.Proofs.YtfdombfdgpclcaaGreatDoor.Hd
