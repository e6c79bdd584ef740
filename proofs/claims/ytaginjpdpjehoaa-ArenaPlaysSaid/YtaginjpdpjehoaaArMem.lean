/-
  Memory of package arena and of the document's answer, told by blocks: what a block holds, which blocks may have turned.
-/
import Derived.WalkKit
import Derived.Lib.Hide
import Derived.Laws.OwnMore
import Derived.Laws.Rows
import Derived.Deep.Draws
namespace Go.Proofs.Ytaginjpdpjehoaa.Ar
open Go.RowKit

/-- Of what w had, only the blocks in S may hold something else in w'. -/
structure Kept (S : List Nat) (w w' : World) : Prop where
  os : w'.os = w.os
  tape : w'.tape = w.tape
  out : w'.output = w.output
  more : w.heap.size ≤ w'.heap.size
  old : ∀ i, i < w.heap.size → i ∉ S → w'.heap[i]? = w.heap[i]?

namespace Kept
theorem refl (S : List Nat) (w : World) : Kept S w w := ⟨rfl, rfl, rfl, Nat.le_refl _, fun _ _ _ => rfl⟩
theorem trans {S : List Nat} {a b c : World} (h : Kept S a b) (k : Kept S b c) : Kept S a c :=
  ⟨k.os.trans h.os, k.tape.trans h.tape, k.out.trans h.out, Nat.le_trans h.more k.more,
    fun i hi hS => (k.old i (Nat.lt_of_lt_of_le hi h.more) hS).trans (h.old i hi hS)⟩
theorem mono {S T : List Nat} {a b : World} (h : Kept S a b) (hS : ∀ i ∈ S, i ∈ T) : Kept T a b :=
  ⟨h.os, h.tape, h.out, h.more, fun i hi hT => h.old i hi fun hs => hT (hS i hs)⟩
theorem none {a b : World} (h : Kept [] a b) (T : List Nat) : Kept T a b := h.mono fun _ hi => by cases hi
theorem drewN {S : List Nat} {a b : World} (h : Kept S a b) (n : Nat) : Kept S a (b.drewN n) := ⟨h.os, h.tape, h.out, h.more, h.old⟩
theorem drew {S : List Nat} {a b : World} (h : Kept S a b) : Kept S a b.drew := ⟨h.os, h.tape, h.out, h.more, h.old⟩
theorem alloc {S : List Nat} {a b : World} (h : Kept S a b) (o : Obj) : Kept S a (b.alloc o) :=
  h.trans ⟨rfl, rfl, rfl, by simp, fun i hi _ => heap_alloc_old b o hi⟩
theorem setCell {S : List Nat} {a b : World} (h : Kept S a b) (p : Addr) (u : Value) (hp : p.block ∈ S ∨ a.heap.size ≤ p.block) : Kept S a (b.setCell p u) := by
  refine ⟨h.os, h.tape, h.out, by simpa [World.setCell] using h.more, fun i hi hS => ?_⟩
  rw [heap_setCell_other b p i u (by
    rintro rfl
    rcases hp with hp | hp
    · exact hS hp
    · omega)]
  exact h.old i hi hS
theorem setRow {S : List Nat} {a b : World} (h : Kept S a b) (g : Nat) (cs : Array Value) (hp : g ∈ S ∨ a.heap.size ≤ g) : Kept S a (b.setRow g cs) := by
  refine ⟨h.os, h.tape, h.out, by simpa using h.more, fun i hi hS => ?_⟩
  rw [setRow_other b g i cs (by
    rintro rfl
    rcases hp with hp | hp
    · exact hS hp
    · omega)]
  exact h.old i hi hS
theorem grown {S : List Nat} {a b c : World} {row : Option Nat} (h : Kept S a b) (hg : b.grownBy c row) (hr : ∀ g, row = some g → g ∈ S ∨ a.heap.size ≤ g) : Kept S a c := by
  refine ⟨hg.os.trans h.os, hg.tape.trans h.tape, hg.output.trans h.out, Nat.le_trans h.more hg.size, fun i hi hS => ?_⟩
  refine (hg.block i (Nat.lt_of_lt_of_le hi h.more) fun e => ?_).trans (h.old i hi hS)
  rcases hr i e.symm with hp | hp
  · exact hS hp
  · omega
theorem below {S : List Nat} {a b : World} (h : Kept S a b) {B : Nat} (hB : B ≤ a.heap.size) (hS : ∀ i ∈ S, B ≤ i) : Below B a b :=
  ⟨h.os, h.tape, h.out, h.more, fun i hi => h.old i (by omega) fun hs => by have := hS i hs; omega⟩
theorem ofBelow {a b : World} (h : Below a.heap.size a b) (S : List Nat) : Kept S a b := ⟨h.os, h.tape, h.output, h.size, fun i hi _ => h.block i hi⟩
end Kept

/-- Block b holds just these cells, of elements of type t; none is frozen. -/
def Has (w : World) (b : Nat) (t : TypeId) (cs : List Value) : Prop := w.heap[b]? = some (.cells cs.toArray t (0, 0))

namespace Has
variable {w w' : World} {b : Nat} {t : TypeId} {cs : List Value}
theorem lt (h : Has w b t cs) : b < w.heap.size := by
  rcases Nat.lt_or_ge b w.heap.size with hlt | hge
  · exact hlt
  · unfold Has at h
    rw [Array.getElem?_eq_none hge] at h
    cases h
theorem cell (h : Has w b t cs) (i : Nat) : w.cell? ⟨b, i, none⟩ = cs[i]? := by
  rw [cell_of_row w b i cs.toArray t (0, 0) h, List.getElem?_toArray]
theorem free (h : Has w b t cs) (i : Nat) : w.frozen? ⟨b, i, none⟩ = false := frozen_of_row w b i cs.toArray t h
theorem new (w : World) (t : TypeId) (cs : List Value) : Has (w.alloc (.cells cs.toArray t)) w.heap.size t cs := heap_alloc_new w _
theorem kept {S : List Nat} (h : Has w b t cs) (k : Kept S w w') (hb : b ∉ S) : Has w' b t cs := (k.old b h.lt hb).trans h
theorem keep0 (h : Has w b t cs) (k : Kept [] w w') : Has w' b t cs := h.kept k (by simp)
theorem drew (h : Has w b t cs) : Has w.drew b t cs := h
theorem drewN (h : Has w b t cs) (n : Nat) : Has (w.drewN n) b t cs := h
theorem alloc (h : Has w b t cs) (o : Obj) : Has (w.alloc o) b t cs := h.keep0 ((Kept.refl [] w).alloc o)
theorem put (h : Has w b t cs) (i : Nat) (u : Value) : Has (w.setCell ⟨b, i, none⟩ u) b t (cs.set i u) := by
  have e := heap_setCell_same w b i cs.toArray t u h
  unfold Has
  rw [e]
  simp
theorem beside (h : Has w b t cs) (p : Addr) (hp : b ≠ p.block) (u : Value) : Has (w.setCell p u) b t cs := (heap_setCell_other w p b u hp).trans h
theorem row (h : Has w b t cs) (ds : List Value) : Has (w.setRow b ds.toArray) b t ds := setRow_heap w b cs.toArray ds.toArray t (0, 0) h
theorem otherRow (h : Has w b t cs) (g : Nat) (hp : b ≠ g) (ds : Array Value) : Has (w.setRow g ds) b t cs := (setRow_other w g b ds hp).trans h
end Has

/-- A list of words as cells. -/
def ints (ws : List Int) : List Value := ws.map (Value.int .u64)
theorem ints_length (ws : List Int) : (ints ws).length = ws.length := List.length_map _
theorem ints_get (ws : List Int) (i : Nat) (h : i < ws.length) : (ints ws)[i]? = some (.int .u64 (ws.getD i 0)) := by
  unfold ints
  rw [List.getElem?_map, List.getElem?_eq_getElem h]
  simp [List.getD, List.getElem?_eq_getElem h]
theorem ints_set (ws : List Int) (i : Nat) (v : Int) : (ints ws).set i (.int .u64 v) = ints (ws.set i v) := by
  unfold ints
  rw [List.map_set]
theorem ints_one (ws : List Int) : ∀ v ∈ ints ws, v.oneCell' = true := by
  intro v hv
  unfold ints at hv
  obtain ⟨x, _, rfl⟩ := List.mem_map.1 hv
  rfl

/-- The sum of two counts, as a uint64 has it. -/
def addU (n k : Int) : Int := IntKind.u64.wrap (n + k)
theorem addU_small (n k : Int) (h : 0 ≤ n + k) (h2 : n + k < 18446744073709551616) : addU n k = n + k := by
  unfold addU
  rw [IntKind.wrap_u64]
  omega

/-- An arena at block p, its words at block q. -/
structure Arena (w : World) (p q : Nat) (ws : List Int) (n : Int) : Prop where
  head : Has w p 55 [.slice (some ⟨q, 0, none⟩) ws.length ws.length, .int .u64 n]
  row : Has w q 32 (ints ws)
  short : ws.length ≤ 65536

namespace Arena
variable {w w' : World} {p q : Nat} {ws : List Int} {n : Int}
theorem ne (h : Arena w p q ws n) : p ≠ q := by
  rintro rfl
  have e := h.head.symm.trans h.row
  injection e with e
  injection e with _ e
  exact absurd e (by decide)
theorem kept {S : List Nat} (h : Arena w p q ws n) (k : Kept S w w') (hp : p ∉ S) (hq : q ∉ S) : Arena w' p q ws n := ⟨h.head.kept k hp, h.row.kept k hq, h.short⟩
theorem keep0 (h : Arena w p q ws n) (k : Kept [] w w') : Arena w' p q ws n := h.kept k (by simp) (by simp)
theorem drewN (h : Arena w p q ws n) (k : Nat) : Arena (w.drewN k) p q ws n := ⟨h.head, h.row, h.short⟩
end Arena

/-! ### What the calls answer, as plain functions -/
/-- k words from the word i on lie within L. -/
def within (L : Nat) (i k : Int) : Bool := decide (0 ≤ i ∧ 0 ≤ k ∧ i + k ≤ L)
theorem within_iff (L : Nat) (i k : Int) : within L i k = true ↔ 0 ≤ i ∧ 0 ≤ k ∧ i + k ≤ L := by unfold within; exact decide_eq_true_iff
/-- OK or ErrArg. -/
def errOf (b : Bool) : Int := if b then 0 else 2
/-- l laid over ws from the word i on. -/
def putW (ws : List Int) (i : Nat) (l : List Int) : List Int := ws.take i ++ (l ++ ws.drop (i + l.length))
theorem putW_length (ws : List Int) (i : Nat) (l : List Int) (h : i + l.length ≤ ws.length) : (putW ws i l).length = ws.length := by
  unfold putW
  simp only [List.length_append, List.length_take, List.length_drop]
  omega
def cutW (ws : List Int) (i k : Int) : List Int := (ws.drop i.toNat).take k.toNat
theorem cutW_length (ws : List Int) (i k : Int) (h : within ws.length i k = true) : (cutW ws i k).length = k.toNat := by
  obtain ⟨a, b, c⟩ := (within_iff _ _ _).1 h
  unfold cutW
  rw [List.length_take, List.length_drop]
  omega
def loadV (ws : List Int) (i : Int) : Int := if within ws.length i 1 then ws.getD i.toNat 0 else 0
def fillW (ws : List Int) (i k v : Int) : List Int := if within ws.length i k then putW ws i.toNat (List.replicate k.toNat v) else ws
def fillN (ws : List Int) (n i k : Int) : Int := if within ws.length i k then addU n k else n
def moveB (ws : List Int) (to fr k : Int) : Bool := within ws.length to k && within ws.length fr k
def moveW (ws : List Int) (to fr k : Int) : List Int := if moveB ws to fr k then putW ws to.toNat (cutW ws fr k) else ws
def moveN (ws : List Int) (n to fr k : Int) : Int := if moveB ws to fr k then addU n k else n

theorem fillW_length (ws : List Int) (i k v : Int) : (fillW ws i k v).length = ws.length := by
  unfold fillW
  split
  · rename_i h
    obtain ⟨a, b, c⟩ := (within_iff _ _ _).1 h
    exact putW_length _ _ _ (by rw [List.length_replicate]; omega)
  · rfl
theorem moveW_length (ws : List Int) (to fr k : Int) : (moveW ws to fr k).length = ws.length := by
  unfold moveW moveB
  split
  · rename_i h
    obtain ⟨h1, h2⟩ := Bool.and_eq_true_iff.1 h
    obtain ⟨a, b, c⟩ := (within_iff _ _ _).1 h1
    exact putW_length _ _ _ (by rw [cutW_length _ _ _ h2]; omega)
  · rfl
end Go.Proofs.Ytaginjpdpjehoaa.Ar
