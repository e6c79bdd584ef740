/-
  Stage 12, black: a list as an object in memory: two vectors of bits in an array.
-/
import Derived.Test.YtijlaganpnoefaaDoorBkRows
import Derived.Test.YtijlaganpnoefaaDoorBkCtr
namespace Go.Proofs.YtijlaganpnoefaaDoor.Bk
open Go.RowKit Go.Proofs.YtijlaganpnoefaaDoor.Ar
open Go.Proofs.YtijlaganpnoefaaDoor.Bt (Bv hasV)
set_option linter.unusedVariables false
/-- Its blocks: the list, the first row's vector and words, the second row's. -/
structure Bs where
  p : Nat
  p0 : Nat
  q0 : Nat
  p1 : Nat
  q1 : Nat
def Bs.all (s : Bs) : List Nat := [s.p, s.p0, s.q0, s.p1, s.q1]
structure Obj2 (w x : World) (s : Bs) (c d : List Bool) : Prop where
  head : Has x s.p 50 [.pointer (some ⟨s.p0, 0, none⟩), .pointer (some ⟨s.p1, 0, none⟩)]
  r0 : Bv x s.p0 s.q0 c
  r1 : Bv x s.p1 s.q1 d
  len : d.length = c.length
  few : c.length ≤ 65536
  ne : s.q0 ≠ s.q1
  own : ∀ i ∈ s.all, w.heap.size ≤ i
  start : Kept [] w x
theorem vec_lt {w : World} {p q : Nat} {bs : List Bool} (h : Bv w p q bs) : p < w.heap.size ∧ q < w.heap.size := let ⟨_, hV, _⟩ := h; ⟨hV.head.lt, hV.row.lt⟩
section
variable {w x y : World} {s : Bs} {c d : List Bool}
theorem Obj2.lt (h : Obj2 w x s c d) : ∀ i ∈ s.all, i < x.heap.size := fun i hi => by
  obtain ⟨a0, b0⟩ := vec_lt h.r0
  obtain ⟨a1, b1⟩ := vec_lt h.r1
  have := h.head.lt
  unfold Bs.all at hi
  simp only [List.mem_cons, List.not_mem_nil, or_false] at hi
  rcases hi with rfl | rfl | rfl | rfl | rfl <;> assumption
theorem Obj2.kept (h : Obj2 w x s c d) {S : List Nat} (k : Kept S x y) (hT : ∀ i ∈ s.all, i ∉ S) (hS : ∀ i ∈ S, w.heap.size ≤ i) : Obj2 w y s c d :=
  ⟨h.head.kept k (hT _ (by simp [Bs.all])), h.r0.kept k (hT _ (by simp [Bs.all])) (hT _ (by simp [Bs.all])), h.r1.kept k (hT _ (by simp [Bs.all])) (hT _ (by simp [Bs.all])), h.len, h.few, h.ne, h.own, h.start.forget k hS⟩
theorem Obj2.keep0 (h : Obj2 w x s c d) (k : Kept [] x y) : Obj2 w y s c d := h.kept k (fun _ _ hi => by cases hi) (fun _ hi => by cases hi)
/-- No vector's block is the list's own. -/
theorem Obj2.apart (h : Obj2 w x s c d) : s.p ≠ s.p0 ∧ s.p ≠ s.q0 ∧ s.p ≠ s.p1 ∧ s.p ≠ s.q1 ∧ s.p1 ≠ s.q0 ∧ s.p0 ≠ s.q1 := by
  obtain ⟨w0, v0, _⟩ := h.r0
  obtain ⟨w1, v1, _⟩ := h.r1
  exact ⟨Has.block_type h.head v0.head (by decide), Has.block_type h.head v0.row (by decide), Has.block_type h.head v1.head (by decide), Has.block_type h.head v1.row (by decide), Has.block_type v1.head v0.row (by decide), Has.block_type v0.head v1.row (by decide)⟩
/-- The first row's vector has turned. -/
theorem Obj2.set0 (h : Obj2 w x s c d) {c' : List Bool} (hl : c'.length = c.length) (hb : Bv y s.p0 s.q0 c') (k : Kept [s.q0] x y) : Obj2 w y s c' d := by
  obtain ⟨e1, e2, e3, e4, e5, e6⟩ := h.apart
  exact ⟨h.head.kept k (by simpa using e2), hb, h.r1.kept k (by simpa using e5) (by simpa using Ne.symm h.ne), h.len.trans hl.symm, by rw [hl]; exact h.few, h.ne, h.own, h.start.forget k (fun i hi => by rw [List.mem_singleton.1 hi]; exact h.own _ (by simp [Bs.all]))⟩
theorem Obj2.c0 (h : Obj2 w x s c d) : x.cell? ⟨s.p, 0, none⟩ = some (.pointer (some ⟨s.p0, 0, none⟩)) := h.head.cell 0
theorem Obj2.c1 (h : Obj2 w x s c d) : x.cell? ⟨s.p, 1, none⟩ = some (.pointer (some ⟨s.p1, 0, none⟩)) := h.head.cell 1
theorem Obj2.f (h : Obj2 w x s c d) (i : Nat) : x.frozen? ⟨s.p, i, none⟩ = false := h.head.free i
theorem Obj2.len_ok (h : Obj2 w x s c d) : Calls Tryd.prog 34 #[.pointer (some ⟨s.p0, 0, none⟩)] x fun e y => e = .returned (.int .i64 c.length) ∧ x = y := let ⟨_, v, _⟩ := h.r0; Bt.len_ok x v
end
/-- For the laws. -/
def Pb (w x : World) (p : Nat) (T : List Nat) (ls : List Int) : Prop := ∃ s c d, s.p = p ∧ s.all = T ∧ ages c d = ls ∧ Obj2 w x s c d
end Go.Proofs.YtijlaganpnoefaaDoor.Bk
