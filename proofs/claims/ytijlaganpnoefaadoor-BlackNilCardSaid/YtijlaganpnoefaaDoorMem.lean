/-
  Memory told by blocks: which blocks may have turned, what a block holds; and small plain facts.
-/
import Derived.WalkKit
import Derived.Lib.Hide
import Derived.Laws.OwnMore
import Derived.Laws.Rows
import Derived.Deep.Draws
namespace Go.Proofs.YtijlaganpnoefaaDoor.Ar
open Go.RowKit

/-- Of what w had, only the blocks in S may hold something else in w'. -/
structure Kept (S : List Nat) (w w' : World) : Prop where
  os : w'.os = w.os
  tape : w'.tape = w.tape
  out : w'.output = w.output
  more : w.heap.size ≤ w'.heap.size
  old : ∀ i, i < w.heap.size → i ∉ S → w'.heap[i]? = w.heap[i]?
namespace Kept
theorem refl (S : List Nat) (w : World) : Kept S w w := ⟨rfl, rfl, rfl, Nat.le_refl _, fun _ _ _ => rfl⟩
theorem trans {S : List Nat} {a b c : World} (h : Kept S a b) (k : Kept S b c) : Kept S a c :=
  ⟨k.os.trans h.os, k.tape.trans h.tape, k.out.trans h.out, Nat.le_trans h.more k.more,
    fun i hi hS => (k.old i (Nat.lt_of_lt_of_le hi h.more) hS).trans (h.old i hi hS)⟩
theorem mono {S T : List Nat} {a b : World} (h : Kept S a b) (hS : ∀ i ∈ S, i ∈ T) : Kept T a b :=
  ⟨h.os, h.tape, h.out, h.more, fun i hi hT => h.old i hi fun hs => hT (hS i hs)⟩
theorem none {a b : World} (h : Kept [] a b) (T : List Nat) : Kept T a b := h.mono fun _ hi => by cases hi
theorem drewN {S : List Nat} {a b : World} (h : Kept S a b) (n : Nat) : Kept S a (b.drewN n) := ⟨h.os, h.tape, h.out, h.more, h.old⟩
theorem drew {S : List Nat} {a b : World} (h : Kept S a b) : Kept S a b.drew := ⟨h.os, h.tape, h.out, h.more, h.old⟩
theorem alloc {S : List Nat} {a b : World} (h : Kept S a b) (o : Obj) : Kept S a (b.alloc o) :=
  h.trans ⟨rfl, rfl, rfl, by simp, fun i hi _ => heap_alloc_old b o hi⟩
theorem setCell {S : List Nat} {a b : World} (h : Kept S a b) (p : Addr) (u : Value) (hp : p.block ∈ S ∨ a.heap.size ≤ p.block) : Kept S a (b.setCell p u) := by
  refine ⟨h.os, h.tape, h.out, by simpa [World.setCell] using h.more, fun i hi hS => ?_⟩
  rw [heap_setCell_other b p i u (by
    rintro rfl
    rcases hp with hp | hp
    · exact hS hp
    · omega)]
  exact h.old i hi hS
theorem setRow {S : List Nat} {a b : World} (h : Kept S a b) (g : Nat) (cs : Array Value) (hp : g ∈ S ∨ a.heap.size ≤ g) : Kept S a (b.setRow g cs) := by
  refine ⟨h.os, h.tape, h.out, by simpa using h.more, fun i hi hS => ?_⟩
  rw [setRow_other b g i cs (by
    rintro rfl
    rcases hp with hp | hp
    · exact hS hp
    · omega)]
  exact h.old i hi hS
theorem grown {S : List Nat} {a b c : World} {row : Option Nat} (h : Kept S a b) (hg : b.grownBy c row) (hr : ∀ g, row = some g → g ∈ S ∨ a.heap.size ≤ g) : Kept S a c := by
  refine ⟨hg.os.trans h.os, hg.tape.trans h.tape, hg.output.trans h.out, Nat.le_trans h.more hg.size, fun i hi hS => ?_⟩
  refine (hg.block i (Nat.lt_of_lt_of_le hi h.more) fun e => ?_).trans (h.old i hi hS)
  rcases hr i e.symm with hp | hp
  · exact hS hp
  · omega
theorem below {S : List Nat} {a b : World} (h : Kept S a b) {B : Nat} (hB : B ≤ a.heap.size) (hS : ∀ i ∈ S, B ≤ i) : Below B a b :=
  ⟨h.os, h.tape, h.out, h.more, fun i hi => h.old i (by omega) fun hs => by have := hS i hs; omega⟩
theorem ofBelow {a b : World} (h : Below a.heap.size a b) (S : List Nat) : Kept S a b := ⟨h.os, h.tape, h.output, h.size, fun i hi _ => h.block i hi⟩
end Kept
/-- What is told of the blocks that a call made itself is nothing to its caller. -/
theorem Kept.forget {S : List Nat} {a b c : World} (h : Kept [] a b) (k : Kept S b c) (hS : ∀ i ∈ S, a.heap.size ≤ i) : Kept [] a c :=
  ⟨k.os.trans h.os, k.tape.trans h.tape, k.out.trans h.out, Nat.le_trans h.more k.more,
    fun i hi _ => (k.old i (Nat.lt_of_lt_of_le hi h.more) fun hs => by have := hS i hs; omega).trans (h.old i hi (by simp))⟩
/-- Block b holds just these cells, of elements of type t; none is frozen. -/
def Has (w : World) (b : Nat) (t : TypeId) (cs : List Value) : Prop := w.heap[b]? = some (.cells cs.toArray t (0, 0))
namespace Has
variable {w w' : World} {b : Nat} {t : TypeId} {cs : List Value}
theorem lt (h : Has w b t cs) : b < w.heap.size := by
  rcases Nat.lt_or_ge b w.heap.size with hlt | hge
  · exact hlt
  · unfold Has at h
    rw [Array.getElem?_eq_none hge] at h
    cases h
theorem cell (h : Has w b t cs) (i : Nat) : w.cell? ⟨b, i, none⟩ = cs[i]? := by
  rw [cell_of_row w b i cs.toArray t (0, 0) h, List.getElem?_toArray]
theorem free (h : Has w b t cs) (i : Nat) : w.frozen? ⟨b, i, none⟩ = false := frozen_of_row w b i cs.toArray t h
theorem new (w : World) (t : TypeId) (cs : List Value) : Has (w.alloc (.cells cs.toArray t)) w.heap.size t cs := heap_alloc_new w _
theorem kept {S : List Nat} (h : Has w b t cs) (k : Kept S w w') (hb : b ∉ S) : Has w' b t cs := (k.old b h.lt hb).trans h
theorem keep0 (h : Has w b t cs) (k : Kept [] w w') : Has w' b t cs := h.kept k (by simp)
theorem drew (h : Has w b t cs) : Has w.drew b t cs := h
theorem drewN (h : Has w b t cs) (n : Nat) : Has (w.drewN n) b t cs := h
theorem alloc (h : Has w b t cs) (o : Obj) : Has (w.alloc o) b t cs := h.keep0 ((Kept.refl [] w).alloc o)
theorem put (h : Has w b t cs) (i : Nat) (u : Value) : Has (w.setCell ⟨b, i, none⟩ u) b t (cs.set i u) := by
  have e := heap_setCell_same w b i cs.toArray t u h
  unfold Has
  rw [e]
  simp
theorem beside (h : Has w b t cs) (p : Addr) (hp : b ≠ p.block) (u : Value) : Has (w.setCell p u) b t cs := (heap_setCell_other w p b u hp).trans h
theorem row (h : Has w b t cs) (ds : List Value) : Has (w.setRow b ds.toArray) b t ds := setRow_heap w b cs.toArray ds.toArray t (0, 0) h
theorem otherRow (h : Has w b t cs) (g : Nat) (hp : b ≠ g) (ds : Array Value) : Has (w.setRow g ds) b t cs := (setRow_other w g b ds hp).trans h
end Has
theorem Has.block_type {w : World} {b b' : Nat} {t t' : TypeId} {cs cs' : List Value} (h : Has w b t cs) (h' : Has w b' t' cs') (ht : t ≠ t') : b ≠ b' := by
  rintro rfl
  have e := h.symm.trans h'
  injection e with e
  injection e with _ e
  exact ht e
theorem add_at (q f j : Nat) : (⟨q, f, none⟩ : Addr).add j = ⟨q, f + j, none⟩ := by
  unfold Addr.add
  by_cases h : j = 0
  · subst h; simp
  · simp [h]
theorem ret_bool {a b : Bool} (h : a = b) : Ending.returned (.bool a) = .returned (.bool b) := by rw [h]
theorem ret_int {k : IntKind} {a b : Int} (h : a = b) : Ending.returned (.int k a) = .returned (.int k b) := by rw [h]
/-- The sum of two counts, as a uint64 has it. -/
def addU (n k : Int) : Int := IntKind.u64.wrap (n + k)
theorem addU_small (n k : Int) (h : 0 ≤ n + k) (h2 : n + k < 18446744073709551616) : addU n k = n + k := by
  unfold addU
  rw [IntKind.wrap_u64]
  omega
theorem list_ext (a b : List Int) (h : a.length = b.length) (e : ∀ j, j < a.length → a.getD j 0 = b.getD j 0) : a = b := by
  apply List.ext_getElem h
  intro j h1 h2
  have := e j h1
  rw [List.getD, List.getD, List.getElem?_eq_getElem h1, List.getElem?_eq_getElem h2] at this
  exact this
theorem cut_get (ws : List Int) (f k j : Nat) (h : j < k) : ((ws.drop f).take k).getD j 0 = ws.getD (f + j) 0 := by
  rw [List.getD, List.getD, List.getElem?_take_of_lt h, List.getElem?_drop]
end Go.Proofs.YtijlaganpnoefaaDoor.Ar
