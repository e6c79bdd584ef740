/-
  How the arguments of layer 9's law read: a row of Steps; and the two constant tables.
-/
import Derived.Test.YtfdombfdgpclcaaGreatDoorRows
import Derived.Test.YtfdombfdgpclcaaGreatDoorGB
import Derived.Test.YtfdombfdgpclcaaGreatDoorHdOpen
import Derived.Test.YtfdombfdgpclcaaGreatDoorGBa
import Derived.ProofKit
import Derived.OpenShut
import Derived.ChangeOld
import Derived.Deep.Slices
import Derived.Deep.Fields
import Derived.Lib.LaidTab
namespace Go.Proofs.YtfdombfdgpclcaaGreatDoor.Sp
open Go.Proofs.YtfdombfdgpclcaaGreatDoor.Ar Go.RowKit Go.ChangeShapes Go.WideShapes
open Go.Proofs.YtfdombfdgpclcaaGreatDoor.Wd (Table tab)
open Go.Proofs.YtfdombfdgpclcaaGreatDoor.Hd (Fields)
set_option linter.unusedVariables false

section
variable {H : Type} {enc : TypeId × Value → H} {w : World} {base : Nat} {spare : Nat → Bool} {held : Bool} {fuel : Nat}

/-- A step: Do, G, Id, N, W, At. -/
structure Stp where
  d : Int
  g : Int
  i : Int
  n : Int
  u : Int
  A : Option Addr
  len : Nat
  cap : Nat
def I64 (n : Int) : Prop := -9223372036854775808 ≤ n ∧ n ≤ 9223372036854775807
def Stp.ok (s : Stp) : Prop := I64 s.d ∧ I64 s.g ∧ I64 s.i ∧ I64 s.n ∧ s.len ≤ maxLen
def Stp.cells (s : Stp) : List Value := [.int .i64 s.d, .int .i64 s.g, .int .i64 s.i, .int .i64 s.n, .int .u64 s.u, .slice s.A s.len s.cap]
theorem slice_of {c : Value} {x : DataW H × List MemPlace} (h : DataW.trod enc Tryz.prog w base spare held fuel 35 [c] = some x) : ∃ A len cap, c = .slice A len cap ∧ len ≤ maxLen := by
  rcases Go.Deep.open_slice Tryz.underlying35 h with ⟨hcs, _⟩ | ⟨a, l, c', m, n, D, Pl, hcs, _, hl, hm, hmm, _, hx⟩
  · simp at hcs
    exact ⟨_, _, _, hcs, by unfold maxLen; omega⟩
  · simp at hcs
    exact ⟨_, _, _, hcs, by omega⟩
set_option maxRecDepth 100000 in
theorem step_of {cs : List Value} {x : DataW H × List MemPlace} (h : DataW.trod enc Tryz.prog w base spare held fuel 37 cs = some x) : ∃ s : Stp, cs = s.cells ∧ s.ok := by
  obtain ⟨xs, m, _, _, hlen, hxl, hf⟩ := DataW.trod_struct Tryz.underlying37 h
  have hC : Tryz.prog.cellsOf 37 = 6 := by kernel_rfl
  have hI : Tryz.prog.cellsOf 3 = 1 := by kernel_rfl
  have hU : Tryz.prog.cellsOf 34 = 1 := by kernel_rfl
  have hL : Tryz.prog.cellsOf 35 = 1 := by kernel_rfl
  rw [hC] at hlen
  match cs, hlen, xs, hxl with
  | [c0, c1, c2, c3, c4, c5], _, [y0, y1, y2, y3, y4, y5], _ =>
    have g0 := hf 0 _ rfl
    have g1 := hf 1 _ rfl
    have g2 := hf 2 _ rfl
    have g3 := hf 3 _ rfl
    have g4 := hf 4 _ rfl
    have g5 := hf 5 _ rfl
    simp [hI, hU, hL] at g0 g1 g2 g3 g4 g5
    obtain ⟨d, e0, _, w0⟩ := DataW.trod_int Tryz.underlying3 g0
    obtain ⟨g, e1, _, w1⟩ := DataW.trod_int Tryz.underlying3 g1
    obtain ⟨i, e2, _, w2⟩ := DataW.trod_int Tryz.underlying3 g2
    obtain ⟨n, e3, _, w3⟩ := DataW.trod_int Tryz.underlying3 g3
    obtain ⟨u, e4, _, w4⟩ := DataW.trod_int Tryz.underlying34 g4
    obtain ⟨A, len, cap, e5, h5⟩ := slice_of g5
    simp at e0 e1 e2 e3 e4
    subst e0 e1 e2 e3 e4 e5
    exact ⟨⟨d, g, i, n, u, A, len, cap⟩, rfl, Ar.i64_of_wf w0, Ar.i64_of_wf w1, Ar.i64_of_wf w2, Ar.i64_of_wf w3, h5⟩

/-- A row of steps that came in. -/
def Steps (w : World) (A : Option Addr) (L : List Stp) : Prop := L ≠ [] → ∃ g f, A = some ⟨g, f, none⟩ ∧ g < w.heap.size ∧ ∀ i s, L[i]? = some s → ∀ j v, s.cells[j]? = some v → w.cell? ⟨g, f + (i * 6 + j), none⟩ = some v
theorem Steps.keep0 {w w' : World} {A : Option Addr} {L : List Stp} (h : Steps w A L) (k : Kept [] w w') : Steps w' A L := by
  intro hL
  obtain ⟨g, f, e, hg, hc⟩ := h hL
  exact ⟨g, f, e, Nat.lt_of_lt_of_le hg k.more, fun i s hi j v hv => (World.cell?_of_block (w := w) (k.old g hg (by simp))).trans (hc i s hi j v hv)⟩
theorem exists_list {P : Nat → Stp → Prop} : ∀ n : Nat, (∀ i, i < n → ∃ s, P i s) → ∃ L : List Stp, L.length = n ∧ ∀ i s, L[i]? = some s → P i s
  | 0, _ => ⟨[], rfl, fun i s h => by simp at h⟩
  | n + 1, h => by
    obtain ⟨L, hL, hP⟩ := exists_list n fun i hi => h i (by omega)
    obtain ⟨s, hs⟩ := h n (by omega)
    refine ⟨L ++ [s], by simp [hL], fun i t ht => ?_⟩
    by_cases hi : i < L.length
    · rw [List.getElem?_append_left hi] at ht
      exact hP i t ht
    · rw [List.getElem?_append_right (by omega)] at ht
      have hin : i = n := by
        rcases Nat.lt_or_ge (i - L.length) 1 with h1 | h1
        · omega
        · rw [List.getElem?_eq_none (by simpa using h1)] at ht; cases ht
      subst hin
      rw [hL, Nat.sub_self] at ht
      simp at ht
      subst ht
      exact hs
theorem steps_of {A : Option Addr} {len cap : Nat} {x : DataW H × List MemPlace} (h : DataW.trod enc Tryz.prog w base spare held fuel 23 (Value.cells (.slice A len cap)).toList = some x) :
    ∃ L : List Stp, L.length = len ∧ len ≤ cap ∧ cap ≤ maxLen ∧ Steps w A L ∧ ∀ s ∈ L, s.ok := by
  have hC : Tryz.prog.cellsOf 37 = 6 := by kernel_rfl
  rcases Go.Deep.open_slice Tryz.underlying23 h with ⟨hcs, _⟩ | ⟨a, l, c, m, n, D, Pl, hcs, _, hl, hm, hmm, _, hx⟩
  · simp [Value.cells] at hcs
    obtain ⟨rfl, rfl, rfl⟩ := hcs
    exact ⟨[], rfl, Nat.le_refl _, by unfold maxLen; omega, fun hne => absurd rfl hne, fun v hv => by cases hv⟩
  · simp [Value.cells] at hcs
    obtain ⟨rfl, rfl, rfl⟩ := hcs
    have hlm : len ≤ m := by rw [hmm]; split <;> omega
    obtain ⟨L, hL, hP⟩ := exists_list (P := fun i s => s.ok ∧ ∀ j v, s.cells[j]? = some v → w.cell? ((a.add (i * 6)).add j) = some v) len fun i hi => by
      obtain ⟨cs, h1, h2⟩ := hx i (by omega)
      obtain ⟨s, rfl, hs⟩ := step_of h2
      obtain ⟨_, hlen, hcell⟩ := World.cells?_some h1
      rw [hC] at hcell
      refine ⟨s, hs, fun j v hv => ?_⟩
      have hj : j < s.cells.length := (List.getElem?_eq_some_iff.1 hv).1
      have e := hcell (i := j) (by simpa [Stp.cells] using hj)
      rw [hv] at e
      exact e
    refine ⟨L, hL, hl, hm, fun hne => ?_, fun s hs => ?_⟩
    · have h0 : 0 < L.length := by
        cases L with
        | nil => exact absurd rfl hne
        | cons => simp
      have hc := (hP 0 L[0] (List.getElem?_eq_getElem h0)).2 0 _ rfl
      obtain ⟨g, f, s⟩ := a
      have hs : s = none := by simpa [Addr.add] using World.cell?_spot hc
      subst hs
      refine ⟨g, f, rfl, by simpa [Addr.add] using World.block_lt_of_cell? w _ hc, fun i s hi j v hv => ?_⟩
      have e := (hP i s hi).2 j v hv
      rw [add_at, add_at, Nat.add_assoc] at e
      exact e
    · obtain ⟨i, hi, rfl⟩ := List.mem_iff_getElem.1 hs
      exact (hP i _ (List.getElem?_eq_getElem hi)).1
end
theorem gTab : Tryz.prog.globalNamed "math/bits.deBruijn64tab" = some 1 := by kernel_rfl
theorem gTabType : (Tryz.prog.globals[1]?).map (·.type) = some 153 := by kernel_rfl
theorem cellsTab : Tryz.prog.cellsOf 153 = 64 := by kernel_rfl
theorem cellsByte : Tryz.prog.cellsOf 5 = 1 := by kernel_rfl
theorem table_of {W : World} (h : laidMet Tryz.prog [("math/bits.deBruijn64tab", Rows.laid_math_bits_deBruijn64tab), ("skerry/head.fields", Rows.laid_skerry_head_fields)] W) : Table W := fun i hi =>
  Lib.TabIs.cell (k := .u8) (zs := tab) (Lib.tabIs_of_head (rest := [("skerry/head.fields", Rows.laid_skerry_head_fields)]) gTab gTabType Tryz.underlying153 Tryz.underlying5 cellsByte cellsTab h) gTab i hi
theorem fields2_of {W : World} (h : laidMet Tryz.prog [("math/bits.deBruijn64tab", Rows.laid_math_bits_deBruijn64tab), ("skerry/head.fields", Rows.laid_skerry_head_fields)] W) : Fields W := by
  obtain ⟨ps, ⟨g', t', cs, fuel, p, q, _, _, _, _, hq, rfl⟩, hn, ha⟩ := h
  exact Hd.fields_of ⟨q, hq, (List.nodup_append.1 hn).2.1, fun b off hb => ha b off (List.mem_append_right _ hb)⟩
end Go.Proofs.YtfdombfdgpclcaaGreatDoor.Sp
