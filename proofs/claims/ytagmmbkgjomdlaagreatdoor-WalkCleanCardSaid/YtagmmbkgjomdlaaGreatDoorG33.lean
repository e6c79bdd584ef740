/-
  Several texts in one: HdOpen, SpOpen.
-/
import Derived.Test.YtagmmbkgjomdlaaGreatDoorRows
import Derived.Test.YtagmmbkgjomdlaaGreatDoorG07
import Derived.Test.YtagmmbkgjomdlaaGreatDoorG32
import Derived.Test.YtagmmbkgjomdlaaGreatDoorG02
import Derived.ProofKit
import Derived.OpenShut
import Derived.ChangeOld
import Derived.Deep.Slices
import Derived.Deep.Fields
import Derived.Lib.LaidTab
/-
  What came in: a header, a byte; the table of the fields as the row's condition says it.
-/
namespace Go.Proofs.YtagmmbkgjomdlaaGreatDoor.Hd
open Go.ChangeShapes Go.WideShapes Go.ChangeAt Go.RowKit Go.Proofs.YtagmmbkgjomdlaaGreatDoor.Ar
set_option linter.unusedVariables false

theorem u8_of_wf {n : Int} (h : (Lit.int .u8 n).wf = true) : 0 ≤ n ∧ n ≤ 255 := by
  simp [Lit.wf, IntKind.min, IntKind.max, IntKind.signed, IntKind.bits] at h
  omega
section
variable {H : Type} {enc : TypeId × Value → H} {w : World} {base : Nat} {spare : Nat → Bool} {held : Bool} {fuel : Nat}
set_option maxRecDepth 100000 in
/-- One entry of the table. -/
theorem entry_of {c0 c1 : Value} {u v : Int} {x : DataW H × List MemPlace} (h : DataW.trod enc Tryz.prog w base spare held fuel 236 [c0, c1] = some x) (hx : x.1 = .agg [.lit (.int .i64 u), .lit (.int .i64 v)]) : c0 = .int .i64 u ∧ c1 = .int .i64 v := by
  obtain ⟨xs, m, _, e, hlen, hxl, hf⟩ := DataW.trod_struct Tryz.underlying236 h
  have hI : Tryz.prog.cellsOf 3 = 1 := by kernel_rfl
  match xs, hxl with
  | [y0, y1], _ =>
    have g0 := hf 0 _ rfl
    have g1 := hf 1 _ rfl
    simp [hI] at g0 g1
    obtain ⟨a, e0, f0, _⟩ := DataW.trod_int Tryz.underlying3 g0
    obtain ⟨b, e1, f1, _⟩ := DataW.trod_int Tryz.underlying3 g1
    subst e
    simp only [List.map_cons, List.map_nil, DataW.agg.injEq, List.cons.injEq, and_true, f0, f1, DataW.lit.injEq, Lit.int.injEq, true_and] at hx
    obtain ⟨rfl, rfl⟩ := hx
    simp at e0 e1
    exact ⟨e0, e1⟩
end
theorem gF : Tryz.prog.globalNamed "skerry/head.fields" = some 0 := by kernel_rfl
theorem gFType : (Tryz.prog.globals[0]?).map (·.type) = some 237 := by kernel_rfl
theorem cellsF : Tryz.prog.cellsOf 237 = 8 := by kernel_rfl
theorem cellsE : Tryz.prog.cellsOf 236 = 2 := by kernel_rfl
set_option maxRecDepth 100000 in
theorem fields_of {W : World} (h : laidMet Tryz.prog [("skerry/head.fields", Rows.laid_skerry_head_fields)] W) : Fields W := by
  obtain ⟨ps, ⟨g', t', cs, fuel, p, q, hg', ht', hvar, hd, _, _⟩, _⟩ := h
  obtain rfl := Option.some.inj (gF.symm.trans hg')
  obtain rfl := Option.some.inj (gFType.symm.trans ht')
  obtain ⟨xs, m, _, e, hlen, hxl, hat⟩ := DataW.trod_array Tryz.underlying237 hd
  rw [cellsF] at hlen
  have hcs : cs = fieldCells := by
    obtain ⟨cl⟩ := cs
    match cl, hlen, xs, hxl with
    | [c0, c1, c2, c3, c4, c5, c6, c7], _, [y0, y1, y2, y3], _ =>
      have a0 := hat 0 (by decide)
      have a1 := hat 1 (by decide)
      have a2 := hat 2 (by decide)
      have a3 := hat 3 (by decide)
      simp [cellsE] at a0 a1 a2 a3
      have ee := congrArg Prod.fst e
      simp only [Rows.laid_skerry_head_fields, List.map_cons, List.map_nil, DataW.agg.injEq, List.cons.injEq, and_true] at ee
      obtain ⟨f0, f1, f2, f3⟩ := ee
      obtain ⟨rfl, rfl⟩ := entry_of a0 f0.symm
      obtain ⟨rfl, rfl⟩ := entry_of a1 f1.symm
      obtain ⟨rfl, rfl⟩ := entry_of a2 f2.symm
      obtain ⟨rfl, rfl⟩ := entry_of a3 f3.symm
      rfl
  subst hcs
  simp only [World.var?, gF, Option.bind_some] at hvar
  split at hvar
  · rename_i cs' t fr hh
    injection hvar with hvar
    exact ⟨t, fr, by rw [← hvar]; exact hh⟩
  · cases hvar
end Go.Proofs.YtagmmbkgjomdlaaGreatDoor.Hd

/-
  How the arguments of layer 9's law read: a row of Steps; and the two constant tables.
-/
namespace Go.Proofs.YtagmmbkgjomdlaaGreatDoor.Sp
open Go.Proofs.YtagmmbkgjomdlaaGreatDoor.Ar Go.RowKit Go.ChangeShapes Go.WideShapes
open Go.Proofs.YtagmmbkgjomdlaaGreatDoor.Wd (Table tab)
open Go.Proofs.YtagmmbkgjomdlaaGreatDoor.Hd (Fields)
set_option linter.unusedVariables false

section
variable {H : Type} {enc : TypeId × Value → H} {w : World} {base : Nat} {spare : Nat → Bool} {held : Bool} {fuel : Nat}

/-- A step: Do, G, Id, N, W, At. -/
structure Stp where
  d : Int
  g : Int
  i : Int
  n : Int
  u : Int
  A : Option Addr
  len : Nat
  cap : Nat
def I64 (n : Int) : Prop := -9223372036854775808 ≤ n ∧ n ≤ 9223372036854775807
def Stp.ok (s : Stp) : Prop := I64 s.d ∧ I64 s.g ∧ I64 s.i ∧ I64 s.n ∧ s.len ≤ maxLen
def Stp.cells (s : Stp) : List Value := [.int .i64 s.d, .int .i64 s.g, .int .i64 s.i, .int .i64 s.n, .int .u64 s.u, .slice s.A s.len s.cap]
theorem slice_of {c : Value} {x : DataW H × List MemPlace} (h : DataW.trod enc Tryz.prog w base spare held fuel 33 [c] = some x) : ∃ A len cap, c = .slice A len cap ∧ len ≤ maxLen := by
  rcases Go.Deep.open_slice Tryz.underlying33 h with ⟨hcs, _⟩ | ⟨a, l, c', m, n, D, Pl, hcs, _, hl, hm, hmm, _, hx⟩
  · simp at hcs
    exact ⟨_, _, _, hcs, by unfold maxLen; omega⟩
  · simp at hcs
    exact ⟨_, _, _, hcs, by omega⟩
/-- A row of steps that came in. -/
def Steps (w : World) (A : Option Addr) (L : List Stp) : Prop := L ≠ [] → ∃ g f, A = some ⟨g, f, none⟩ ∧ g < w.heap.size ∧ ∀ i s, L[i]? = some s → ∀ j v, s.cells[j]? = some v → w.cell? ⟨g, f + (i * 6 + j), none⟩ = some v
theorem Steps.keep0 {w w' : World} {A : Option Addr} {L : List Stp} (h : Steps w A L) (k : Kept [] w w') : Steps w' A L := by
  intro hL
  obtain ⟨g, f, e, hg, hc⟩ := h hL
  exact ⟨g, f, e, Nat.lt_of_lt_of_le hg k.more, fun i s hi j v hv => (World.cell?_of_block (w := w) (k.old g hg (by simp))).trans (hc i s hi j v hv)⟩
theorem exists_list {P : Nat → Stp → Prop} : ∀ n : Nat, (∀ i, i < n → ∃ s, P i s) → ∃ L : List Stp, L.length = n ∧ ∀ i s, L[i]? = some s → P i s
  | 0, _ => ⟨[], rfl, fun i s h => by simp at h⟩
  | n + 1, h => by
    obtain ⟨L, hL, hP⟩ := exists_list n fun i hi => h i (by omega)
    obtain ⟨s, hs⟩ := h n (by omega)
    refine ⟨L ++ [s], by simp [hL], fun i t ht => ?_⟩
    by_cases hi : i < L.length
    · rw [List.getElem?_append_left hi] at ht
      exact hP i t ht
    · rw [List.getElem?_append_right (by omega)] at ht
      have hin : i = n := by
        rcases Nat.lt_or_ge (i - L.length) 1 with h1 | h1
        · omega
        · rw [List.getElem?_eq_none (by simpa using h1)] at ht; cases ht
      subst hin
      rw [hL, Nat.sub_self] at ht
      simp at ht
      subst ht
      exact hs
end
theorem gTab : Tryz.prog.globalNamed "math/bits.deBruijn64tab" = some 1 := by kernel_rfl
theorem gTabType : (Tryz.prog.globals[1]?).map (·.type) = some 240 := by kernel_rfl
theorem cellsTab : Tryz.prog.cellsOf 240 = 64 := by kernel_rfl
theorem cellsByte : Tryz.prog.cellsOf 5 = 1 := by kernel_rfl
theorem table_of {W : World} (h : laidMet Tryz.prog [("math/bits.deBruijn64tab", Rows.laid_math_bits_deBruijn64tab), ("skerry/head.fields", Rows.laid_skerry_head_fields)] W) : Table W := fun i hi =>
  Lib.TabIs.cell (k := .u8) (zs := tab) (Lib.tabIs_of_head (rest := [("skerry/head.fields", Rows.laid_skerry_head_fields)]) gTab gTabType Tryz.underlying240 Tryz.underlying5 cellsByte cellsTab h) gTab i hi
theorem fields2_of {W : World} (h : laidMet Tryz.prog [("math/bits.deBruijn64tab", Rows.laid_math_bits_deBruijn64tab), ("skerry/head.fields", Rows.laid_skerry_head_fields)] W) : Fields W := by
  obtain ⟨ps, ⟨g', t', cs, fuel, p, q, _, _, _, _, hq, rfl⟩, hn, ha⟩ := h
  exact Hd.fields_of ⟨q, hq, (List.nodup_append.1 hn).2.1, fun b off hb => ha b off (List.mem_append_right _ hb)⟩
end Go.Proofs.YtagmmbkgjomdlaaGreatDoor.Sp
