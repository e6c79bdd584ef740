/-
  Several texts in one: Wf, OpenWords, TyRow, TbOpen.
-/
import Derived.ProofKit
import Derived.OpenShut
import Derived.Test.YtoagghileebokaaGreatDoorG11
import Derived.ChangeOld
import Derived.Test.YtoagghileebokaaGreatDoorProg
import Derived.Test.YtoagghileebokaaGreatDoorG01
import Derived.WalkKit
import Derived.Maps.AppendAt
import Derived.Laws.AppendOwnNone
import Derived.OwnWalk
import Derived.Deep.AppendLies
import Derived.Deep.Slices
import Derived.Deep.Fields
import Derived.ChangeMaps5
/-
  The bounds of numbers that came in.
-/
namespace Go.Proofs.YtoagghileebokaaGreatDoor.Ar
open Go.RowKit

theorem u64_of_wf {n : Int} (h : (Lit.int .u64 n).wf = true) : 0 ≤ n ∧ n < 18446744073709551616 := by
  simp [Lit.wf, IntKind.min, IntKind.max, IntKind.signed, IntKind.bits] at h
  omega
theorem i64_of_wf {n : Int} (h : (Lit.int .i64 n).wf = true) : -9223372036854775808 ≤ n ∧ n ≤ 9223372036854775807 := by
  simp [Lit.wf, IntKind.min, IntKind.max, IntKind.signed, IntKind.bits] at h
  omega
end Go.Proofs.YtoagghileebokaaGreatDoor.Ar

/-
  How an argument that is a row of words reads.
-/
namespace Go.Proofs.YtoagghileebokaaGreatDoor.Ar
open Go.RowKit Go.ChangeShapes Go.WideShapes

section
variable {H : Type} {enc : TypeId × Value → H} {w : World} {base : Nat} {spare : Nat → Bool} {held : Bool} {fuel : Nat}
end
end Go.Proofs.YtoagghileebokaaGreatDoor.Ar

/-
  Rows of types ([]api.Type): as cells of a block, as a slice that is seen, as one that was made by appends; append as a law, in a plain region and in one that draws its order.
-/
namespace Go.Proofs.YtoagghileebokaaGreatDoor.Tb
open Go.RowKit Go.Proofs.YtoagghileebokaaGreatDoor.Ar
set_option linter.unusedVariables false

/-- A type: Kind, Words, Mask. -/
structure Ty where
  k : Nat
  wd : Int
  ms : Nat
theorem Ty.ext {a b : Ty} (h0 : a.k = b.k) (h1 : a.wd = b.wd) (h2 : a.ms = b.ms) : a = b := by
  cases a; cases b; simp only at h0 h1 h2; subst h0 h1 h2; rfl
instance : DecidableEq Ty := fun a b => decidable_of_iff (a.k = b.k ∧ a.wd = b.wd ∧ a.ms = b.ms) ⟨fun ⟨h0, h1, h2⟩ => Ty.ext h0 h1 h2, fun h => by subst h; exact ⟨rfl, rfl, rfl⟩⟩
def Ty.ok (x : Ty) : Prop := x.k < 256 ∧ x.ms < 18446744073709551616
def Ty.val (x : Ty) : Value := .agg #[.int .u8 (x.k : Int), .int .i64 x.wd, .int .u64 (x.ms : Int)]
def Ty.zero : Ty := ⟨0, 0, 0⟩
/-- A list of types as cells: three each. -/
def tyCells : List Ty → List Value
  | [] => []
  | x :: l => .int .u8 (x.k : Int) :: .int .i64 x.wd :: .int .u64 (x.ms : Int) :: tyCells l
theorem tyCells_append : ∀ (a b : List Ty), tyCells (a ++ b) = tyCells a ++ tyCells b
  | [], b => rfl
  | x :: a, b => by
    show _ :: _ :: _ :: tyCells (a ++ b) = _ :: _ :: _ :: (tyCells a ++ tyCells b)
    rw [tyCells_append a b]
theorem tyCells_get : ∀ (l : List Ty) (i : Nat), i < l.length → (tyCells l)[i * 3]? = some (.int .u8 ((l.getD i Ty.zero).k : Int)) ∧ (tyCells l)[i * 3 + 1]? = some (.int .i64 (l.getD i Ty.zero).wd) ∧ (tyCells l)[i * 3 + 2]? = some (.int .u64 ((l.getD i Ty.zero).ms : Int))
  | [], i, h => absurd h (by simp)
  | x :: l, 0, _ => ⟨rfl, rfl, rfl⟩
  | x :: l, i + 1, h => by
    have := tyCells_get l i (by simpa using h)
    rw [show (i + 1) * 3 = i * 3 + 1 + 1 + 1 by omega]
    exact this
theorem tyCells_one (l : List Ty) : ∀ v ∈ tyCells l, v.oneCell' = true := by
  induction l with
  | nil => intro v hv; cases hv
  | cons x l ih =>
    intro v hv
    rcases List.mem_cons.1 hv with rfl | hv
    · rfl
    · rcases List.mem_cons.1 hv with rfl | hv
      · rfl
      · rcases List.mem_cons.1 hv with rfl | hv
        · rfl
        · exact ih v hv
theorem info_type : (Tryz.prog.info? 57).map (fun i => (i.zero, i.size, i.bytes)) = some (some (.agg #[.int .u8 0, .int .i64 0, .int .u64 0]), 3, 24) := by kernel_rfl
/-- A slice of types that reads as a list: an empty one has whatever address. -/
def Seen (w : World) (A : Option Addr) (l : List Ty) : Prop := l ≠ [] → ∃ g f, A = some ⟨g, f, none⟩ ∧ g < w.heap.size ∧ ∀ j v, (tyCells l)[j]? = some v → w.cell? ⟨g, f + j, none⟩ = some v
theorem Seen.nil (w : World) (A : Option Addr) : Seen w A [] := fun h => absurd rfl h
theorem Seen.keep {w w' : World} {A : Option Addr} {l : List Ty} (h : Seen w A l) (hk : ∀ g f, A = some ⟨g, f, none⟩ → g < w.heap.size → w'.heap[g]? = w.heap[g]?) (hs : w.heap.size ≤ w'.heap.size) : Seen w' A l := by
  intro hl
  obtain ⟨g, f, e, hg, hc⟩ := h hl
  exact ⟨g, f, e, by omega, fun j v hv => (World.cell?_of_block (w := w) (hk g f e hg)).trans (hc j v hv)⟩
theorem Seen.keep0 {w w' : World} {A : Option Addr} {l : List Ty} (h : Seen w A l) (k : Kept [] w w') : Seen w' A l :=
  h.keep (fun g f _ hg => k.old g hg (by simp)) k.more
/-- The three cells of a type in the row, in whatever later world. -/
theorem Seen.at {w : World} {A : Option Addr} {l : List Ty} (h : Seen w A l) (i : Nat) (hi : i < l.length) (x : Ty) (hx : x = l.getD i Ty.zero) : ∃ g f, A = some ⟨g, f, none⟩ ∧ g < w.heap.size ∧
    ∀ y, Kept [] w y → y.cell? ⟨g, f + i * 3, none⟩ = some (.int .u8 (x.k : Int)) ∧ y.cell? ⟨g, f + i * 3 + 1, none⟩ = some (.int .i64 x.wd) ∧ y.cell? ⟨g, f + i * 3 + 2, none⟩ = some (.int .u64 (x.ms : Int)) := by
  obtain ⟨g, f, e, hg, hc⟩ := h (by rintro rfl; simp at hi)
  refine ⟨g, f, e, hg, fun y k => ?_⟩
  obtain ⟨c0, c1, c2⟩ := tyCells_get l i hi
  have hb : y.heap[g]? = w.heap[g]? := k.old g hg (by simp)
  subst hx
  exact ⟨(World.cell?_of_block (w := w) hb).trans (hc _ _ c0), (World.cell?_of_block (w := w) hb).trans (hc _ _ c1), (World.cell?_of_block (w := w) hb).trans (hc _ _ c2)⟩
theorem seen_one {w : World} {b : Nat} {t : TypeId} {x : Ty} (h : Has w b t [.int .u8 (x.k : Int), .int .i64 x.wd, .int .u64 (x.ms : Int)]) : Seen w (some ⟨b, 0, none⟩) [x] :=
  fun _ => ⟨b, 0, rfl, h.lt, fun j v hv => by rw [h.cell, Nat.zero_add]; exact hv⟩
/-- A slice value that was made by appends alone, with these types. -/
def Own (w : World) (v : Value) (l : List Ty) : Prop := w.ownsRow 0 57 3 v l.length (tyCells l)
theorem Own.nil (w : World) : Own w (.slice none 0 0) [] := World.ownsRow_nil w 0 _ 3
theorem Own.form {w : World} {v : Value} {l : List Ty} (h : Own w v l) : (v = .slice none 0 0 ∧ l = []) ∨ ∃ g cap, v = .slice (some ⟨g, 0, none⟩) l.length cap ∧ g < w.heap.size ∧ l.length ≤ cap ∧ cap ≤ maxLen := by
  rcases h.2 with ⟨rfl, h0⟩ | ⟨g, cap, cur, rfl, _, hg, hc, hm, _⟩
  · exact .inl ⟨rfl, List.eq_nil_of_length_eq_zero h0⟩
  · exact .inr ⟨g, cap, rfl, (Array.getElem?_eq_some_iff.1 hg).1, hc, hm⟩
theorem Own.cell {w : World} {g n cap : Nat} {l : List Ty} (h : Own w (.slice (some ⟨g, 0, none⟩) n cap) l) : ∀ j v, (tyCells l)[j]? = some v → w.cell? ⟨g, j, none⟩ = some v := by
  intro j v hv
  rcases h.2 with ⟨h1, _⟩ | ⟨g', cap', cur, h1, _, hg, _, _, _, ht⟩
  · cases h1
  · injection h1 with h1 h2 h3
    injection h1 with h1
    injection h1 with h1
    subst h1
    rw [cell_of_row w g j cur _ (0, 0) hg, ← Array.getElem?_toList]
    rw [← ht, List.getElem?_take] at hv
    split at hv
    · exact hv
    · cases hv
theorem Own.seen {w : World} {A : Option Addr} {n cap : Nat} {l : List Ty} (h : Own w (.slice A n cap) l) : Seen w A l := by
  intro hl
  rcases h.form with ⟨_, e⟩ | ⟨g, c, e, hg, _⟩
  · exact absurd e hl
  · injection e with e1 e2 e3
    subst e1
    exact ⟨g, 0, rfl, hg, fun j v hv => by rw [Nat.zero_add]; exact Own.cell h j v hv⟩
theorem Own.keep {w w' : World} {v : Value} {l : List Ty} {row : Option Nat} (h : Own w v l) (hg : w.grownBy w' row) (hne : v.ownBlock = none ∨ v.ownBlock ≠ row) : Own w' v l := World.ownsRow.kept h hg hne
theorem Own.kept {w w' : World} {v : Value} {l : List Ty} {S : List Nat} (h : Own w v l) (k : Kept S w w') (hS : ∀ g ∈ S, v.ownBlock ≠ some g) : Own w' v l := by
  refine ⟨h.1, ?_⟩
  rcases h.2 with hn | ⟨g, cap, cur, rfl, hb, hg, rest⟩
  · exact .inl hn
  · refine .inr ⟨g, cap, cur, rfl, hb, ?_, rest⟩
    rw [k.old g (Array.getElem?_eq_some_iff.1 hg).1 fun hs => hS g hs rfl]
    exact hg
theorem Own.keep0 {w w' : World} {v : Value} {l : List Ty} (h : Own w v l) (k : Kept [] w w') : Own w' v l := h.kept k fun _ hi => by cases hi
theorem Own.lt {w : World} {v : Value} {l : List Ty} (h : Own w v l) : ∀ g, v.ownBlock = some g → g < w.heap.size := fun g hg => (World.ownsRow.lt h g hg).2
theorem Own.block_type {w : World} {v : Value} {b : Nat} {l : List Ty} {t : TypeId} {cs : List Value} (h : Own w v l) (h' : Has w b t cs) (ht : t ≠ 57) : v.ownBlock ≠ some b := by
  rcases h.2 with ⟨rfl, _⟩ | ⟨g', cap', cur, rfl, _, hg, _⟩
  · intro e; cases e
  · intro e
    have e : g' = b := by simpa [Value.ownBlock] using e
    subst e
    have e := h'.symm.trans hg
    injection e with e
    injection e with _ e
    exact ht e
/-- append of one type, at a step of a region that draws its order. -/
theorem step_append_type {w : World} {ops : Array Oper} {o : Oper} {a : Act} {K : Act → World → Prop} {Q : Exit → Act → World → Prop} {E : Prop} (hgd : o.guard = none) (s x : Operand)
    (ho : o.op = .call { callee := .builtin .append, args := #[s, x], argTypes := #[22, 22] })
    (v : Value) (l : List Ty) (hs : a.eval s = v) (hown : Own w v l) (b c : Nat) (y : Ty) (hx : a.eval x = .slice (some ⟨b, 0, none⟩) 1 c)
    (hb : Has w b 57 [.int .u8 (y.k : Int), .int .i64 y.wd, .int .u64 (y.ms : Int)]) (hlen : l.length + 1 ≤ 1073741824) (H : Nat) (hH : w.heap.size = H)
    (h : ∀ g cap w', Own w' (.slice (some ⟨g, 0, none⟩) (l.length + 1) cap) (l ++ [y]) → w.grownBy w' v.ownBlock → (v.ownBlock = some g ∨ g = H) → g < w'.heap.size → K (a.put o.dst (.slice (some ⟨g, 0, none⟩) (l.length + 1) cap)) w') :
    if Region.wanted o (yielded ops a.tmps) = true then Oper.wp Tryz.prog o a w K Q else E := by
  obtain ⟨i0, hi, hz0, hz1, hz2⟩ := info_parts info_type
  refine step_append_lies w hgd s x 22 ho 0 57 i0 _ 3 24 Tryz.underlying22 hi hz0 hz1 hz2 rfl (by decide) v l.length (tyCells l) hs hown ⟨b, 0, none⟩ 1 c (tyCells [y]) hx rfl ?_ (tyCells_one _) (by decide) (by unfold maxLen; omega) (by omega) (Nat.zero_le _) H hH ?_
  · intro j u hu
    rw [add_at, Nat.zero_add, hb.cell]
    exact hu
  · intro g cap w' h1 h2 h3 h4
    refine h g cap w' ?_ h2 h3 h4
    unfold Own
    rw [List.length_append, tyCells_append]
    exact h1
/-- A slice that a call hands back, as a row of types. -/
def Back (w x : World) (A : Option Addr) (c : Nat) (l : List Ty) : Prop := (A = none → c = 0) ∧ Seen x A l ∧ Kept [] w x
theorem back_own {w y : World} {v : Value} {l : List Ty} (hk : Kept [] w y) (hO : Own y v l) : ∃ A c, v = .slice A l.length c ∧ Back w y A c l := by
  rcases hO.form with ⟨rfl, rfl⟩ | ⟨g', cap', rfl, hlt, _, _⟩
  · exact ⟨none, 0, rfl, (fun _ => rfl), (fun h => absurd rfl h), hk⟩
  · exact ⟨_, _, rfl, (fun h => by cases h), Own.seen hO, hk⟩
end Go.Proofs.YtoagghileebokaaGreatDoor.Tb

/-
  How the arguments of layer 6's laws read: a row of types.
-/
namespace Go.Proofs.YtoagghileebokaaGreatDoor.Tb
open Go.Proofs.YtoagghileebokaaGreatDoor.Ar Go.RowKit Go.ChangeShapes Go.WideShapes

section
variable {H : Type} {enc : TypeId × Value → H} {w : World} {base : Nat} {spare : Nat → Bool} {held : Bool} {fuel : Nat}

def Ty.cells (s : Ty) : List Value := [.int .u8 (s.k : Int), .int .i64 s.wd, .int .u64 (s.ms : Int)]
theorem cells_of : ∀ (l : List Ty) (j : Nat) (v : Value), (tyCells l)[j]? = some v → ∃ i s r, l[i]? = some s ∧ s.cells[r]? = some v ∧ j = i * 3 + r
  | [], j, v, h => by simp [tyCells] at h
  | x :: l, 0, v, h => ⟨0, x, 0, rfl, h, rfl⟩
  | x :: l, 1, v, h => ⟨0, x, 1, rfl, h, rfl⟩
  | x :: l, 2, v, h => ⟨0, x, 2, rfl, h, rfl⟩
  | x :: l, j + 3, v, h => by
    obtain ⟨i, s, r, h1, h2, h3⟩ := cells_of l j v h
    exact ⟨i + 1, s, r, h1, h2, by omega⟩
theorem u8_of_wf {n : Int} (h : (Lit.int .u8 n).wf = true) : 0 ≤ n ∧ n < 256 := by
  simp [Lit.wf, IntKind.min, IntKind.max, IntKind.signed, IntKind.bits] at h
  omega
set_option maxRecDepth 100000 in
theorem type_of {cs : List Value} {x : DataW H × List MemPlace} (h : DataW.trod enc Tryz.prog w base spare held fuel 57 cs = some x) : ∃ s : Ty, cs = s.cells ∧ s.ok := by
  obtain ⟨xs, m, _, _, hlen, hxl, hf⟩ := DataW.trod_struct Tryz.underlying57 h
  have hC : Tryz.prog.cellsOf 57 = 3 := by kernel_rfl
  have hI : Tryz.prog.cellsOf 3 = 1 := by kernel_rfl
  have hU : Tryz.prog.cellsOf 5 = 1 := by kernel_rfl
  have hM : Tryz.prog.cellsOf 55 = 1 := by kernel_rfl
  rw [hC] at hlen
  match cs, hlen, xs, hxl with
  | [c0, c1, c2], _, [y0, y1, y2], _ =>
    have g0 := hf 0 _ rfl
    have g1 := hf 1 _ rfl
    have g2 := hf 2 _ rfl
    simp [hI, hU, hM] at g0 g1 g2
    obtain ⟨a, e0, _, w0⟩ := DataW.trod_int Tryz.underlying5 g0
    obtain ⟨b, e1, _, w1⟩ := DataW.trod_int Tryz.underlying3 g1
    obtain ⟨c, e2, _, w2⟩ := DataW.trod_int Tryz.underlying55 g2
    simp at e0 e1 e2
    subst e0 e1 e2
    have b0 := u8_of_wf w0
    have b2 := u64_of_wf w2
    obtain ⟨k, rfl⟩ := Int.eq_ofNat_of_zero_le b0.1
    obtain ⟨mk, rfl⟩ := Int.eq_ofNat_of_zero_le b2.1
    exact ⟨⟨k, b, mk⟩, rfl, show k < 256 by omega, show mk < _ by omega⟩
theorem exists_list {P : Nat → Ty → Prop} : ∀ n : Nat, (∀ i, i < n → ∃ s, P i s) → ∃ L : List Ty, L.length = n ∧ ∀ i s, L[i]? = some s → P i s
  | 0, _ => ⟨[], rfl, fun i s h => by simp at h⟩
  | n + 1, h => by
    obtain ⟨L, hL, hP⟩ := exists_list n fun i hi => h i (by omega)
    obtain ⟨s, hs⟩ := h n (by omega)
    refine ⟨L ++ [s], by simp [hL], fun i t ht => ?_⟩
    by_cases hi : i < L.length
    · rw [List.getElem?_append_left hi] at ht
      exact hP i t ht
    · rw [List.getElem?_append_right (by omega)] at ht
      have hin : i = n := by
        rcases Nat.lt_or_ge (i - L.length) 1 with h1 | h1
        · omega
        · rw [List.getElem?_eq_none (by simpa using h1)] at ht; cases ht
      subst hin
      rw [hL, Nat.sub_self] at ht
      simp at ht
      subst ht
      exact hs
theorem types_of {A : Option Addr} {len cap : Nat} {x : DataW H × List MemPlace} (h : DataW.trod enc Tryz.prog w base spare held fuel 22 (Value.cells (.slice A len cap)).toList = some x) :
    ∃ L : List Ty, L.length = len ∧ len ≤ cap ∧ cap ≤ maxLen ∧ Seen w A L ∧ (A = none → cap = 0) ∧ ∀ s ∈ L, s.ok := by
  have hC : Tryz.prog.cellsOf 57 = 3 := by kernel_rfl
  rcases Go.Deep.open_slice Tryz.underlying22 h with ⟨hcs, _⟩ | ⟨a, l, c, m, n, D, Pl, hcs, _, hl, hm, hmm, _, hx⟩
  · simp [Value.cells] at hcs
    obtain ⟨rfl, rfl, rfl⟩ := hcs
    exact ⟨[], rfl, Nat.le_refl _, by unfold maxLen; omega, (fun hne => absurd rfl hne), (fun _ => rfl), (fun v hv => by cases hv)⟩
  · simp [Value.cells] at hcs
    obtain ⟨rfl, rfl, rfl⟩ := hcs
    have hlm : len ≤ m := by rw [hmm]; split <;> omega
    obtain ⟨L, hL, hP⟩ := exists_list (P := fun i s => s.ok ∧ ∀ j v, s.cells[j]? = some v → w.cell? ((a.add (i * 3)).add j) = some v) len fun i hi => by
      obtain ⟨cs, h1, h2⟩ := hx i (by omega)
      obtain ⟨s, rfl, hs⟩ := type_of h2
      obtain ⟨_, hlen, hcell⟩ := World.cells?_some h1
      rw [hC] at hcell
      refine ⟨s, hs, fun j v hv => ?_⟩
      have hj : j < s.cells.length := (List.getElem?_eq_some_iff.1 hv).1
      have e := hcell (i := j) (by simpa [Ty.cells] using hj)
      rw [hv] at e
      exact e
    refine ⟨L, hL, hl, hm, fun hne => ?_, (fun e => by cases e), fun s hs => ?_⟩
    · have h0 : 0 < L.length := by
        cases L with
        | nil => exact absurd rfl hne
        | cons => simp
      have hc := (hP 0 L[0] (List.getElem?_eq_getElem h0)).2 0 _ rfl
      obtain ⟨g, f, s⟩ := a
      have hs : s = none := by simpa [Addr.add] using World.cell?_spot hc
      subst hs
      refine ⟨g, f, rfl, by simpa [Addr.add] using World.block_lt_of_cell? w _ hc, fun j v hv => ?_⟩
      obtain ⟨i, s, r, hi, hr, rfl⟩ := cells_of L j v hv
      have e := (hP i s hi).2 r v hr
      rw [add_at, add_at, Nat.add_assoc] at e
      exact e
    · obtain ⟨i, hi, rfl⟩ := List.mem_iff_getElem.1 hs
      exact (hP i _ (List.getElem?_eq_getElem hi)).1
end
end Go.Proofs.YtoagghileebokaaGreatDoor.Tb
