/-
  Several texts in one: Mem, OwnRow, LoopKit, WkRow.
-/
import Derived.WalkKit
import Derived.Lib.Hide
import Derived.Laws.OwnMore
import Derived.Laws.Rows
import Derived.Deep.Draws
import Derived.Test.YtagmmbkgjomdlaaGreatDoorProg
import Derived.Laws.MakeOwn
import Derived.Maps.AppendAt
import Derived.Laws.AppendOwnNone
import Derived.OwnWalk
import Derived.RangeFuncNested
import Derived.RangeFuncLeaves
import Derived.RangeFuncBound
import Derived.RangeFuncCalls
import Derived.Maps.OwnIn
import Derived.Deep.RegionLaw
/-
  Memory told by blocks: which blocks may have turned, what a block holds; and small plain facts.
-/
namespace Go.Proofs.YtagmmbkgjomdlaaGreatDoor.Ar
open Go.RowKit

/-- Of what w had, only the blocks in S may hold something else in w'. -/
structure Kept (S : List Nat) (w w' : World) : Prop where
  os : w'.os = w.os
  tape : w'.tape = w.tape
  out : w'.output = w.output
  more : w.heap.size ≤ w'.heap.size
  old : ∀ i, i < w.heap.size → i ∉ S → w'.heap[i]? = w.heap[i]?
namespace Kept
theorem refl (S : List Nat) (w : World) : Kept S w w := ⟨rfl, rfl, rfl, Nat.le_refl _, fun _ _ _ => rfl⟩
theorem trans {S : List Nat} {a b c : World} (h : Kept S a b) (k : Kept S b c) : Kept S a c :=
  ⟨k.os.trans h.os, k.tape.trans h.tape, k.out.trans h.out, Nat.le_trans h.more k.more,
    fun i hi hS => (k.old i (Nat.lt_of_lt_of_le hi h.more) hS).trans (h.old i hi hS)⟩
theorem mono {S T : List Nat} {a b : World} (h : Kept S a b) (hS : ∀ i ∈ S, i ∈ T) : Kept T a b :=
  ⟨h.os, h.tape, h.out, h.more, fun i hi hT => h.old i hi fun hs => hT (hS i hs)⟩
theorem none {a b : World} (h : Kept [] a b) (T : List Nat) : Kept T a b := h.mono fun _ hi => by cases hi
theorem drewN {S : List Nat} {a b : World} (h : Kept S a b) (n : Nat) : Kept S a (b.drewN n) := ⟨h.os, h.tape, h.out, h.more, h.old⟩
theorem drew {S : List Nat} {a b : World} (h : Kept S a b) : Kept S a b.drew := ⟨h.os, h.tape, h.out, h.more, h.old⟩
theorem alloc {S : List Nat} {a b : World} (h : Kept S a b) (o : Obj) : Kept S a (b.alloc o) :=
  h.trans ⟨rfl, rfl, rfl, by simp, fun i hi _ => heap_alloc_old b o hi⟩
theorem setCell {S : List Nat} {a b : World} (h : Kept S a b) (p : Addr) (u : Value) (hp : p.block ∈ S ∨ a.heap.size ≤ p.block) : Kept S a (b.setCell p u) := by
  refine ⟨h.os, h.tape, h.out, by simpa [World.setCell] using h.more, fun i hi hS => ?_⟩
  rw [heap_setCell_other b p i u (by
    rintro rfl
    rcases hp with hp | hp
    · exact hS hp
    · omega)]
  exact h.old i hi hS
theorem setRow {S : List Nat} {a b : World} (h : Kept S a b) (g : Nat) (cs : Array Value) (hp : g ∈ S ∨ a.heap.size ≤ g) : Kept S a (b.setRow g cs) := by
  refine ⟨h.os, h.tape, h.out, by simpa using h.more, fun i hi hS => ?_⟩
  rw [setRow_other b g i cs (by
    rintro rfl
    rcases hp with hp | hp
    · exact hS hp
    · omega)]
  exact h.old i hi hS
theorem grown {S : List Nat} {a b c : World} {row : Option Nat} (h : Kept S a b) (hg : b.grownBy c row) (hr : ∀ g, row = some g → g ∈ S ∨ a.heap.size ≤ g) : Kept S a c := by
  refine ⟨hg.os.trans h.os, hg.tape.trans h.tape, hg.output.trans h.out, Nat.le_trans h.more hg.size, fun i hi hS => ?_⟩
  refine (hg.block i (Nat.lt_of_lt_of_le hi h.more) fun e => ?_).trans (h.old i hi hS)
  rcases hr i e.symm with hp | hp
  · exact hS hp
  · omega
theorem below {S : List Nat} {a b : World} (h : Kept S a b) {B : Nat} (hB : B ≤ a.heap.size) (hS : ∀ i ∈ S, B ≤ i) : Below B a b :=
  ⟨h.os, h.tape, h.out, h.more, fun i hi => h.old i (by omega) fun hs => by have := hS i hs; omega⟩
theorem ofBelow {a b : World} (h : Below a.heap.size a b) (S : List Nat) : Kept S a b := ⟨h.os, h.tape, h.output, h.size, fun i hi _ => h.block i hi⟩
end Kept
/-- What is told of the blocks that a call made itself is nothing to its caller. -/
theorem Kept.forget {S : List Nat} {a b c : World} (h : Kept [] a b) (k : Kept S b c) (hS : ∀ i ∈ S, a.heap.size ≤ i) : Kept [] a c :=
  ⟨k.os.trans h.os, k.tape.trans h.tape, k.out.trans h.out, Nat.le_trans h.more k.more,
    fun i hi _ => (k.old i (Nat.lt_of_lt_of_le hi h.more) fun hs => by have := hS i hs; omega).trans (h.old i hi (by simp))⟩
/-- Block b holds just these cells, of elements of type t; none is frozen. -/
def Has (w : World) (b : Nat) (t : TypeId) (cs : List Value) : Prop := w.heap[b]? = some (.cells cs.toArray t (0, 0))
namespace Has
variable {w w' : World} {b : Nat} {t : TypeId} {cs : List Value}
theorem lt (h : Has w b t cs) : b < w.heap.size := by
  rcases Nat.lt_or_ge b w.heap.size with hlt | hge
  · exact hlt
  · unfold Has at h
    rw [Array.getElem?_eq_none hge] at h
    cases h
theorem cell (h : Has w b t cs) (i : Nat) : w.cell? ⟨b, i, none⟩ = cs[i]? := by
  rw [cell_of_row w b i cs.toArray t (0, 0) h, List.getElem?_toArray]
theorem free (h : Has w b t cs) (i : Nat) : w.frozen? ⟨b, i, none⟩ = false := frozen_of_row w b i cs.toArray t h
theorem new (w : World) (t : TypeId) (cs : List Value) : Has (w.alloc (.cells cs.toArray t)) w.heap.size t cs := heap_alloc_new w _
theorem kept {S : List Nat} (h : Has w b t cs) (k : Kept S w w') (hb : b ∉ S) : Has w' b t cs := (k.old b h.lt hb).trans h
theorem keep0 (h : Has w b t cs) (k : Kept [] w w') : Has w' b t cs := h.kept k (by simp)
theorem drew (h : Has w b t cs) : Has w.drew b t cs := h
theorem drewN (h : Has w b t cs) (n : Nat) : Has (w.drewN n) b t cs := h
theorem alloc (h : Has w b t cs) (o : Obj) : Has (w.alloc o) b t cs := h.keep0 ((Kept.refl [] w).alloc o)
theorem put (h : Has w b t cs) (i : Nat) (u : Value) : Has (w.setCell ⟨b, i, none⟩ u) b t (cs.set i u) := by
  have e := heap_setCell_same w b i cs.toArray t u h
  unfold Has
  rw [e]
  simp
theorem beside (h : Has w b t cs) (p : Addr) (hp : b ≠ p.block) (u : Value) : Has (w.setCell p u) b t cs := (heap_setCell_other w p b u hp).trans h
theorem row (h : Has w b t cs) (ds : List Value) : Has (w.setRow b ds.toArray) b t ds := setRow_heap w b cs.toArray ds.toArray t (0, 0) h
theorem otherRow (h : Has w b t cs) (g : Nat) (hp : b ≠ g) (ds : Array Value) : Has (w.setRow g ds) b t cs := (setRow_other w g b ds hp).trans h
end Has
theorem Has.block_type {w : World} {b b' : Nat} {t t' : TypeId} {cs cs' : List Value} (h : Has w b t cs) (h' : Has w b' t' cs') (ht : t ≠ t') : b ≠ b' := by
  rintro rfl
  have e := h.symm.trans h'
  injection e with e
  injection e with _ e
  exact ht e
theorem add_at (q f j : Nat) : (⟨q, f, none⟩ : Addr).add j = ⟨q, f + j, none⟩ := by
  unfold Addr.add
  by_cases h : j = 0
  · subst h; simp
  · simp [h]
theorem ret_bool {a b : Bool} (h : a = b) : Ending.returned (.bool a) = .returned (.bool b) := by rw [h]
theorem ret_int {k : IntKind} {a b : Int} (h : a = b) : Ending.returned (.int k a) = .returned (.int k b) := by rw [h]
/-- The sum of two counts, as a uint64 has it. -/
def addU (n k : Int) : Int := IntKind.u64.wrap (n + k)
theorem cut_get (ws : List Int) (f k j : Nat) (h : j < k) : ((ws.drop f).take k).getD j 0 = ws.getD (f + j) 0 := by
  rw [List.getD, List.getD, List.getElem?_take_of_lt h, List.getElem?_drop]
end Go.Proofs.YtagmmbkgjomdlaaGreatDoor.Ar

/-
  A slice of the call's own that grows: what its owner keeps.
-/
namespace Go.Proofs.YtagmmbkgjomdlaaGreatDoor.Ar
open Go.RowKit

theorem own_grown {w w1 w2 : World} {v : Value} (hk : Kept [] w w1) (hv : v.ownBlock = none ∨ ∃ b, v.ownBlock = some b ∧ w.heap.size ≤ b) (hg : w1.grownBy w2 v.ownBlock) : Kept [] w w2 :=
  hk.grown hg fun b hb => .inr (by
    rcases hv with h | ⟨b', h, hle⟩
    · rw [h] at hb; cases hb
    · rw [h] at hb; injection hb with hb; subst hb; exact hle)
theorem own_fresh {w w1 : World} {v v' : Value} (hk : Kept [] w w1) (hv : v.ownBlock = none ∨ ∃ b, v.ownBlock = some b ∧ w.heap.size ≤ b) (h : v'.ownBlock = v.ownBlock ∨ v'.ownBlock = some w1.heap.size) : v'.ownBlock = none ∨ ∃ b, v'.ownBlock = some b ∧ w.heap.size ≤ b := by
  rcases h with h | h
  · rw [h]; exact hv
  · exact .inr ⟨_, h, hk.more⟩
end Go.Proofs.YtagmmbkgjomdlaaGreatDoor.Ar

/-
  What a caller's word on its memory needs to abide a range over a function.
-/
namespace Go.Proofs.YtagmmbkgjomdlaaGreatDoor.Lk
open Go.RowKit Go.Proofs.YtagmmbkgjomdlaaGreatDoor.Ar
set_option linter.unusedVariables false

theorem own_kept {β : Type} {S : List Nat} {w0 : World} {B : Nat} (hB : w0.heap.size ≤ B) : OwnFrom B (fun (_ : β) W => Kept S w0 W) :=
  fun _ X Y row hs hg hr => hs.grown hg fun g e => .inr (Nat.le_trans hB (hr g e).1)
theorem own_has {β : Type} {B b : Nat} {t : TypeId} {f : β → List Value} : OwnFrom B (fun s W => Has W b t (f s)) :=
  fun s X Y row hs hg hr => (hg.block b (Has.lt hs) fun e => by
    obtain ⟨_, o, ho, hc⟩ := hr b e.symm
    have hs' : X.heap[b]? = some (.cells (f s).toArray t (0, 0)) := hs
    rw [ho] at hs'
    injection hs' with hs'
    subst hs'
    cases hc).trans hs
theorem keepsFrom_of {S : List Nat} {B : Nat} {W W' : World} (h : Kept S W W') (hS : ∀ b ∈ S, ∃ t cs, Has W b t cs) : KeepsFrom B W W' :=
  ⟨h.more, fun k o _ ho hc => (h.old k (Array.getElem?_eq_some_iff.1 ho).1 fun hk => by
    obtain ⟨t, cs, hh⟩ := hS k hk
    unfold Has at hh
    rw [ho] at hh
    injection hh with hh
    subst hh
    cases hc).trans ho⟩
theorem kept_put {w W : World} (h : Kept [] w W) (D : Nat) (o : Obj) (hD : w.heap.size ≤ D) : Kept [] w (W.putObj D o) :=
  h.grown (grownBy_putObj' W D o) fun g e => .inr (by injection e with e; omega)
theorem has_put {W : World} {b : Nat} {t : TypeId} {cs : List Value} (h : Has W b t cs) (D : Nat) (o o' : Obj) (hD : W.heap[D]? = some o) (hc : o.isCells = false) : Has (W.putObj D o') b t cs := by
  have hne : b ≠ D := by
    rintro rfl
    unfold Has at h
    rw [hD] at h
    injection h with h
    subst h
    cases hc
  exact ((grownBy_putObj' W D o').block b h.lt (fun e => hne (by injection e))).trans h
theorem put_other {W : World} {p : Addr} {u : Value} {D : Nat} (hD : p.block ≠ D) : (W.setCell p u).heap[D]? = W.heap[D]? := heap_setCell_other W p D u (fun e => hD e.symm)
end Go.Proofs.YtagmmbkgjomdlaaGreatDoor.Lk

/-
  Rows of structs of numbers, whatever the struct: as cells of a block; append of one, of a row, in a walk, in a round and at a step of a region that draws its order; the rows of faults, of edges and of runs.
-/
namespace Go.Proofs.YtagmmbkgjomdlaaGreatDoor.Wk
open Go.RowKit Go.Proofs.YtagmmbkgjomdlaaGreatDoor.Ar Go.Proofs.YtagmmbkgjomdlaaGreatDoor.Lk
set_option linter.unusedVariables false

/-- A kind of rows: the element's type, the slice's type, how many cells, how an element is laid. -/
structure RowK where
  α : Type
  e : TypeId
  t : TypeId
  k : Nat
  kpos : 0 < k
  enc : α → List Value
  len : ∀ x, (enc x).length = k
  one : ∀ x, ∀ v ∈ enc x, v.oneCell' = true
  z : Value
  bytes : Nat
  zs : z.cells.size = k
  small : bytes ≤ 64
  info : (Tryz.prog.info? e).map (fun i => (i.zero, i.size, i.bytes)) = some (some z, k, bytes)
  und : Tryz.prog.underlying t = some (.slice e)
section
variable (K : RowK)
def cs : List K.α → List Value
  | [] => []
  | x :: xs => K.enc x ++ cs xs
theorem cs_length : ∀ l : List K.α, (cs K l).length = l.length * K.k
  | [] => by simp [cs]
  | x :: xs => by
    show (K.enc x ++ cs K xs).length = (xs.length + 1) * K.k
    rw [List.length_append, K.len, cs_length xs, Nat.add_mul, Nat.one_mul, Nat.add_comm]
theorem cs_append : ∀ (a b : List K.α), cs K (a ++ b) = cs K a ++ cs K b
  | [], b => rfl
  | x :: xs, b => by
    show K.enc x ++ cs K (xs ++ b) = (K.enc x ++ cs K xs) ++ cs K b
    rw [cs_append xs b, List.append_assoc]
theorem cs_one : ∀ l : List K.α, ∀ v ∈ cs K l, v.oneCell' = true
  | [], v, hv => by cases hv
  | x :: xs, v, hv => by
    rcases List.mem_append.1 hv with hv | hv
    · exact K.one x v hv
    · exact cs_one xs v hv
theorem cs_get : ∀ (l : List K.α) (i : Nat) (x : K.α), l[i]? = some x → ∀ j v, (K.enc x)[j]? = some v → (cs K l)[i * K.k + j]? = some v
  | [], i, x, h, _, _, _ => by simp at h
  | y :: ys, 0, x, h, j, v, hv => by
    simp at h
    subst h
    show (K.enc y ++ cs K ys)[0 * K.k + j]? = some v
    have hj := (List.getElem?_eq_some_iff.1 hv).1
    rw [Nat.zero_mul, Nat.zero_add, List.getElem?_append_left hj]
    exact hv
  | y :: ys, i + 1, x, h, j, v, hv => by
    have h1 := cs_get ys i x (by simpa using h) j v hv
    show (K.enc y ++ cs K ys)[(i + 1) * K.k + j]? = some v
    rw [List.getElem?_append_right (by rw [K.len, Nat.add_mul, Nat.one_mul]; omega), K.len, show (i + 1) * K.k + j - K.k = i * K.k + j by rw [Nat.add_mul, Nat.one_mul]; omega]
    exact h1
/-- What is seen of a row. -/
def Seen (w : World) (A : Option Addr) (l : List K.α) : Prop := l ≠ [] → ∃ g f, A = some ⟨g, f, none⟩ ∧ g < w.heap.size ∧ ∀ j v, (cs K l)[j]? = some v → w.cell? ⟨g, f + j, none⟩ = some v
variable {K}
theorem Seen.nil (w : World) (A : Option Addr) : Seen K w A [] := fun h => absurd rfl h
theorem Seen.keep {w w' : World} {A : Option Addr} {l : List K.α} (h : Seen K w A l) (hk : ∀ g f, A = some ⟨g, f, none⟩ → g < w.heap.size → w'.heap[g]? = w.heap[g]?) (hs : w.heap.size ≤ w'.heap.size) : Seen K w' A l := by
  intro hl
  obtain ⟨g, f, e, hlt, hc⟩ := h hl
  exact ⟨g, f, e, Nat.lt_of_lt_of_le hlt hs, fun j v hv => by rw [World.cell?_of_block (a := ⟨g, f + j, none⟩) (hk g f e hlt)]; exact hc j v hv⟩
theorem Seen.keep0 {w w' : World} {A : Option Addr} {l : List K.α} (h : Seen K w A l) (k : Kept [] w w') : Seen K w' A l :=
  h.keep (fun g f _ hg => k.old g hg (by simp)) k.more
theorem seen_one {w : World} {b : Nat} {t : TypeId} {x : K.α} (h : Has w b t (K.enc x)) : Seen K w (some ⟨b, 0, none⟩) [x] :=
  fun _ => ⟨b, 0, rfl, h.lt, fun j v hv => by
    rw [Nat.zero_add, h.cell]
    have : cs K [x] = K.enc x := by show K.enc x ++ [] = _; simp
    rwa [this] at hv⟩
theorem Seen.at {w : World} {A : Option Addr} {l : List K.α} (h : Seen K w A l) {i : Nat} {x : K.α} (hx : l[i]? = some x) : ∃ g f, A = some ⟨g, f, none⟩ ∧ g < w.heap.size ∧ ∀ j v, (K.enc x)[j]? = some v → w.cell? ⟨g, f + i * K.k + j, none⟩ = some v := by
  obtain ⟨g, f, e, hlt, hc⟩ := h (by rintro rfl; simp at hx)
  exact ⟨g, f, e, hlt, fun j v hv => by rw [Nat.add_assoc]; exact hc _ _ (cs_get K l i x hx j v hv)⟩
variable (K)
/-- A slice value that was made by appends alone. -/
def Own (w : World) (v : Value) (l : List K.α) : Prop := w.ownsRow 0 K.e K.k v l.length (cs K l)
variable {K}
theorem Own.nil (w : World) : Own K w (.slice none 0 0) [] := World.ownsRow_nil w 0 _ K.k
theorem Own.form {w : World} {v : Value} {l : List K.α} (h : Own K w v l) : (v = .slice none 0 0 ∧ l = []) ∨ ∃ g cap, v = .slice (some ⟨g, 0, none⟩) l.length cap ∧ g < w.heap.size ∧ l.length ≤ cap ∧ cap ≤ maxLen := by
  rcases h.2 with ⟨rfl, h0⟩ | ⟨g, cap, cur, rfl, _, hg, hc, hm, _⟩
  · exact .inl ⟨rfl, List.eq_nil_of_length_eq_zero h0⟩
  · exact .inr ⟨g, cap, rfl, (Array.getElem?_eq_some_iff.1 hg).1, hc, hm⟩
theorem Own.cell {w : World} {g n cap : Nat} {l : List K.α} (h : Own K w (.slice (some ⟨g, 0, none⟩) n cap) l) : ∀ j v, (cs K l)[j]? = some v → w.cell? ⟨g, j, none⟩ = some v := by
  intro j v hv
  rcases h.2 with ⟨h1, _⟩ | ⟨g', cap', cur, h1, _, hg, _, _, _, ht⟩
  · cases h1
  · injection h1 with h1 h2 h3
    injection h1 with h1
    injection h1 with h1
    subst h1
    rw [cell_of_row w g j cur _ (0, 0) hg, ← Array.getElem?_toList]
    rw [← ht, List.getElem?_take] at hv
    split at hv
    · exact hv
    · cases hv
theorem Own.seen {w : World} {A : Option Addr} {n cap : Nat} {l : List K.α} (h : Own K w (.slice A n cap) l) : Seen K w A l := by
  intro hl
  rcases h.form with ⟨_, e⟩ | ⟨g, c, e, hg, _⟩
  · exact absurd e hl
  · injection e with e1 e2 e3
    subst e1
    exact ⟨g, 0, rfl, hg, fun j v hv => by rw [Nat.zero_add]; exact Own.cell h j v hv⟩
theorem Own.keep {w w' : World} {v : Value} {l : List K.α} {row : Option Nat} (h : Own K w v l) (hg : w.grownBy w' row) (hne : v.ownBlock = none ∨ v.ownBlock ≠ row) : Own K w' v l := World.ownsRow.kept h hg hne
theorem Own.kept {w w' : World} {v : Value} {l : List K.α} {S : List Nat} (h : Own K w v l) (k : Kept S w w') (hS : ∀ g ∈ S, v.ownBlock ≠ some g) : Own K w' v l := by
  refine ⟨h.1, ?_⟩
  rcases h.2 with hn | ⟨g, cap, cur, rfl, hb, hg, rest⟩
  · exact .inl hn
  · refine .inr ⟨g, cap, cur, rfl, hb, ?_, rest⟩
    rw [k.old g (Array.getElem?_eq_some_iff.1 hg).1 fun hs => hS g hs rfl]
    exact hg
theorem Own.keep0 {w w' : World} {v : Value} {l : List K.α} (h : Own K w v l) (k : Kept [] w w') : Own K w' v l := h.kept k fun _ hi => by cases hi
theorem Own.lt {w : World} {v : Value} {l : List K.α} (h : Own K w v l) : ∀ g, v.ownBlock = some g → g < w.heap.size := fun g hg => (World.ownsRow.lt h g hg).2
theorem own_cells {w : World} {v : Value} {l : List K.α} (h : Own K w v l) : ∀ b ∈ v.ownBlock.toList, ∃ cs, Has w b K.e cs := by
  intro b hb
  rcases h.2 with ⟨rfl, _⟩ | ⟨g, cap, cur, rfl, _, hg, _⟩
  · cases hb
  · obtain rfl : b = g := by simpa [Value.ownBlock] using hb
    exact ⟨cur.toList, hg⟩
theorem Own.apart {w : World} {v : Value} {b : Nat} {l : List K.α} {t : TypeId} {cs : List Value} (h : Own K w v l) (h' : Has w b t cs) (ht : t ≠ K.e) : v.ownBlock ≠ some b := fun e => by
  obtain ⟨ds, hd⟩ := own_cells h b (by rw [e]; simp)
  exact Has.block_type h' hd ht rfl
theorem info_of (K : RowK) : ∃ i, Tryz.prog.info? K.e = some i ∧ i.zero = some K.z ∧ i.size = K.k ∧ i.bytes = K.bytes := info_parts K.info
theorem append_law {w : World} {ops : Array Oper} {rest : List Oper} {o : Oper} {a : Act} {Q : Exit → Act → World → Prop} (K : RowK) (hgd : o.guard = none) (s x : Operand)
    (ho : o.op = .call { callee := .builtin .append, args := #[s, x], argTypes := #[K.t, K.t] })
    (v : Value) (l : List K.α) (hs : a.eval s = v) (hown : Own K w v l) (A : Option Addr) (m c : Nat) (news : List K.α) (hx : a.eval x = .slice A m c) (hm : m = news.length) (hnil : A = none → c = 0) (hseen : Seen K w A news)
    (hb : l.length + news.length ≤ 1073741824)
    (h : ∀ v' w', Own K w' v' (l ++ news) → w.grownBy w' v.ownBlock → (v'.ownBlock = v.ownBlock ∨ v'.ownBlock = some w.heap.size) → wpList Tryz.prog ops Q rest (a.put o.dst v') w') : wpList Tryz.prog ops Q (o :: rest) a w := by
  obtain ⟨i0, hi, hz0, hz1, hz2⟩ := info_of K
  have hsm := K.small
  subst hm
  cases A with
  | none =>
    have hn : news = [] := by
      cases news with
      | nil => rfl
      | cons y ys =>
        obtain ⟨g, f, e, _⟩ := hseen (by simp)
        cases e
    subst hn
    obtain rfl := hnil rfl
    refine wpList_append_own_none hgd s x K.t ho 0 K.e i0 K.k K.und hi v l.length (cs K l) hs hown hx ?_
    exact h v w (by rw [List.append_nil]; exact hown) (World.grownBy.refl w _) (.inl rfl)
  | some ad =>
    refine wpList_append_own_at w hgd s x K.t ho 0 K.e i0 K.z K.k K.bytes K.und hi hz0 hz1 hz2 K.zs K.kpos v l.length (cs K l) hs hown ad news.length c (cs K news) hx (cs_length K news) ?_ (cs_one K news) (by unfold maxLen; omega) ?_ (Nat.zero_le _) ?_
    · intro j u hu
      by_cases hne : news = []
      · subst hne; cases hu
      · obtain ⟨g, f, e, _, hc⟩ := hseen hne
        obtain rfl := Option.some.inj e
        rw [add_at]
        exact hc j u hu
    · exact Nat.le_trans (Nat.mul_le_mul hb hsm) (by decide)
    · intro v' w' h1 h2 _ h4
      refine h v' w' ?_ h2 h4
      unfold Own
      rw [List.length_append, cs_append]
      exact h1
theorem append_in {F : Fence} {n : Nat} {w : World} {ops : Array Oper} {rest : List Oper} {o : Oper} {a : Act} {Q : Exit → Act → World → Prop} (K : RowK) (hgd : o.guard = none) (s x : Operand)
    (ho : o.op = .call { callee := .builtin .append, args := #[s, x], argTypes := #[K.t, K.t] })
    (v : Value) (l : List K.α) (hs : a.eval s = v) (hown : Own K w v l) (ad : Addr) (m c : Nat) (news : List K.α) (hx : a.eval x = .slice (some ad) m c) (hm : m = news.length) (hseen : Seen K w (some ad) news)
    (hb : l.length + news.length ≤ 1073741824)
    (h : ∀ v' w', Own K w' v' (l ++ news) → w.grownBy w' v.ownBlock → (v'.ownBlock = v.ownBlock ∨ v'.ownBlock = some w.heap.size) → wpListIn F n Tryz.prog ops Q rest (a.put o.dst v') w') : wpListIn F n Tryz.prog ops Q (o :: rest) a w := by
  obtain ⟨i0, hi, hz0, hz1, hz2⟩ := info_of K
  have hsm := K.small
  subst hm
  refine wpListIn_append_own_at w hgd s x K.t ho 0 K.e i0 K.z K.k K.bytes K.und hi hz0 hz1 hz2 K.zs K.kpos v l.length (cs K l) hs hown ad news.length c (cs K news) hx (cs_length K news) ?_ (cs_one K news) (by unfold maxLen; omega) ?_ (Nat.zero_le _) ?_
  · intro j u hu
    by_cases hne : news = []
    · subst hne; cases hu
    · obtain ⟨g, f, e, _, hc⟩ := hseen hne
      obtain rfl := Option.some.inj e
      rw [add_at]
      exact hc j u hu
  · exact Nat.le_trans (Nat.mul_le_mul hb hsm) (by decide)
  · intro v' w' h1 h2 _ h4
    refine h v' w' ?_ h2 h4
    unfold Own
    rw [List.length_append, cs_append]
    exact h1
theorem step_append {w : World} {ops : Array Oper} {o : Oper} {a : Act} {H : Act → World → Prop} {Q : Exit → Act → World → Prop} {E : Prop} (K : RowK) (hgd : o.guard = none) (s x : Operand)
    (ho : o.op = .call { callee := .builtin .append, args := #[s, x], argTypes := #[K.t, K.t] })
    (v : Value) (l : List K.α) (hs : a.eval s = v) (hown : Own K w v l) (A : Option Addr) (m c : Nat) (news : List K.α) (hx : a.eval x = .slice A m c) (hm : m = news.length) (hnil : A = none → c = 0) (hseen : Seen K w A news)
    (hb : l.length + news.length ≤ 1073741824)
    (h : ∀ v' w', Own K w' v' (l ++ news) → w.grownBy w' v.ownBlock → (v'.ownBlock = v.ownBlock ∨ v'.ownBlock = some w.heap.size) → H (a.put o.dst v') w') :
    if Region.wanted o (yielded ops a.tmps) = true then Oper.wp Tryz.prog o a w H Q else E := by
  have hw : Region.wanted o (yielded ops a.tmps) = true := by simp [Region.wanted, hgd]
  rw [if_pos hw]
  subst hm
  have hsm := K.small
  obtain ⟨i0, hi, hz0, hz1, hz2⟩ := info_of K
  cases A with
  | none =>
    have hn : news = [] := by
      cases news with
      | nil => rfl
      | cons y ys =>
        obtain ⟨g, f, e, _⟩ := hseen (by simp)
        cases e
    subst hn
    obtain rfl := hnil rfl
    have hr := run_append_owned_none (P := Tryz.prog) (w := w) 0 K.t o.type K.e i0 K.k K.und hi v l.length (cs K l) hown
    unfold Oper.wp execOp
    simp only [ho, resolve, invoke, builtin, Sem.run_bind, Sem.run_pure, Result.andThen_ok, List.map_toArray, List.map_cons, List.map_nil, hs, hx, List.length_nil, hr]
    exact h v w (by rw [List.append_nil]; exact hown) (World.grownBy.refl w _) (.inl rfl)
  | some ad =>
    obtain ⟨v', w', hr, h2, h3, h4, h5⟩ := run_append_own_at (P := Tryz.prog) w 0 K.t o.type K.e i0 K.z K.k K.bytes K.und hi hz0 hz1 hz2 K.zs K.kpos v l.length (cs K l) hown ad news.length c (cs K news) (cs_length K news) (fun j u hu => by
      by_cases hne : news = []
      · subst hne; cases hu
      · obtain ⟨g, f, e, _, hc⟩ := hseen hne
        obtain rfl := Option.some.inj e
        rw [add_at]
        exact hc j u hu) (cs_one K news) (by unfold maxLen; omega) (Nat.le_trans (Nat.mul_le_mul hb hsm) (by decide)) (Nat.zero_le _)
    unfold Oper.wp execOp
    simp only [ho, resolve, invoke, builtin, Sem.run_bind, Sem.run_pure, Result.andThen_ok, List.map_toArray, List.map_cons, List.map_nil, hs, hx, hr]
    refine h v' w' ?_ h3 h5
    unfold Own
    rw [List.length_append, cs_append]
    exact h2
/-- A slice that a call hands back. -/
theorem back_own {y : World} {v : Value} {l : List K.α} (hO : Own K y v l) : ∃ A c, v = .slice A l.length c ∧ (A = none → c = 0) ∧ Seen K y A l := by
  rcases hO.form with ⟨rfl, rfl⟩ | ⟨g', cap', rfl, hlt, _, _⟩
  · exact ⟨none, 0, rfl, (fun _ => rfl), (fun h => absurd rfl h)⟩
  · exact ⟨_, _, rfl, (fun h => by cases h), Own.seen hO⟩
theorem own_from {B : Nat} {v : Value} {rs : List K.α} : OwnFrom B (fun (_ : Unit) W => Own K W v rs) :=
  fun s X Y row hs hg hr => Own.keep hs hg (by
    rcases hs.2 with ⟨rfl, _⟩ | ⟨g, cap, cur, rfl, _, hb, _⟩
    · exact .inl rfl
    · refine .inr fun e => ?_
      obtain ⟨_, o, ho, hc⟩ := hr g e.symm
      rw [ho] at hb
      injection hb with hb
      subst hb
      cases hc)
theorem own_put {w : World} {v : Value} {rs : List K.α} (h : Own K w v rs) (D : Nat) (o o' : Obj) (hD : w.heap[D]? = some o) (hc : o.isCells = false) : Own K (w.putObj D o') v rs :=
  own_from (B := 0) () w _ (some D) h (grownBy_putObj' w D o') fun r e => by injection e with e; subst e; exact ⟨Nat.zero_le _, o, hD, hc⟩
end
/-- Three numbers. -/
structure Tri where
  a : Int
  b : Int
  c : Int
def Tri.l (x : Tri) : List Value := [.int .i64 x.a, .int .i64 x.b, .int .i64 x.c]
def Flt : RowK where
  α := Tri
  e := 69
  t := 58
  k := 3
  kpos := by decide
  enc := Tri.l
  len := fun _ => rfl
  one := fun x v hv => by
    rcases List.mem_cons.1 hv with rfl | hv
    · rfl
    · rcases List.mem_cons.1 hv with rfl | hv
      · rfl
      · rw [List.mem_singleton.1 hv]; rfl
  z := .agg #[.int .i64 0, .int .i64 0, .int .i64 0]
  bytes := 24
  zs := rfl
  small := by decide
  info := by kernel_rfl
  und := Tryz.underlying58
def Edg : RowK where
  α := Tri
  e := 90
  t := 46
  k := 3
  kpos := by decide
  enc := Tri.l
  len := fun _ => rfl
  one := fun x v hv => by
    rcases List.mem_cons.1 hv with rfl | hv
    · rfl
    · rcases List.mem_cons.1 hv with rfl | hv
      · rfl
      · rw [List.mem_singleton.1 hv]; rfl
  z := .agg #[.int .i64 0, .int .i64 0, .int .i64 0]
  bytes := 24
  zs := rfl
  small := by decide
  info := by kernel_rfl
  und := Tryz.underlying46
def Duet.l (x : Int × Int) : List Value := [.int .i64 x.1, .int .i64 x.2]
def Rn : RowK where
  α := Int × Int
  e := 92
  t := 42
  k := 2
  kpos := by decide
  enc := Duet.l
  len := fun _ => rfl
  one := fun x v hv => by
    rcases List.mem_cons.1 hv with rfl | hv
    · rfl
    · rw [List.mem_singleton.1 hv]; rfl
  z := .agg #[.int .i64 0, .int .i64 0]
  bytes := 16
  zs := rfl
  small := by decide
  info := by kernel_rfl
  und := Tryz.underlying42
theorem seen_tri {K : RowK} {w : World} {A : Option Addr} {l : List K.α} (h : Seen K w A l) {i : Nat} {x : K.α} (hx : l[i]? = some x) {v0 v1 v2 : Value} (he : K.enc x = [v0, v1, v2]) : ∃ g f, A = some ⟨g, f, none⟩ ∧ g < w.heap.size ∧ w.cell? ⟨g, f + i * K.k, none⟩ = some v0 ∧ w.cell? ⟨g, f + i * K.k + 1, none⟩ = some v1 ∧ w.cell? ⟨g, f + i * K.k + 2, none⟩ = some v2 := by
  obtain ⟨g, f, e, hg, hc⟩ := h.at hx
  rw [he] at hc
  exact ⟨g, f, e, hg, hc 0 _ rfl, hc 1 _ rfl, hc 2 _ rfl⟩
theorem seen_duet {K : RowK} {w : World} {A : Option Addr} {l : List K.α} (h : Seen K w A l) {i : Nat} {x : K.α} (hx : l[i]? = some x) {v0 v1 : Value} (he : K.enc x = [v0, v1]) : ∃ g f, A = some ⟨g, f, none⟩ ∧ g < w.heap.size ∧ w.cell? ⟨g, f + i * K.k, none⟩ = some v0 ∧ w.cell? ⟨g, f + i * K.k + 1, none⟩ = some v1 := by
  obtain ⟨g, f, e, hg, hc⟩ := h.at hx
  rw [he] at hc
  exact ⟨g, f, e, hg, hc 0 _ rfl, hc 1 _ rfl⟩
end Go.Proofs.YtagmmbkgjomdlaaGreatDoor.Wk
