/-
  Several texts in one: Mem, OwnRow, LoopKit, WordRow, TyRow, RoundKit, RoundStore, RoundAny, Wf, OpenWords.
-/
import Derived.WalkKit
import Derived.Lib.Hide
import Derived.Laws.OwnMore
import Derived.Laws.Rows
import Derived.Deep.Draws
import Derived.Test.YtfdombfdgpclcaaGreatDoorProg
import Derived.Laws.MakeOwn
import Derived.Maps.AppendAt
import Derived.Laws.AppendOwnNone
import Derived.OwnWalk
import Derived.RangeFuncNested
import Derived.RangeFuncLeaves
import Derived.RangeFuncBound
import Derived.RangeFuncCalls
import Derived.Deep.AppendLies
import Derived.StillTail
import Derived.Deep.QuietTactic
import Derived.OrdersIn
import Derived.TacticsIn
import Derived.BigQuiet
import Derived.ProofKit
import Derived.OpenShut
import Derived.ChangeOld
/-
  Memory told by blocks: which blocks may have turned, what a block holds; and small plain facts.
-/
namespace Go.Proofs.YtfdombfdgpclcaaGreatDoor.Ar
open Go.RowKit

/-- Of what w had, only the blocks in S may hold something else in w'. -/
structure Kept (S : List Nat) (w w' : World) : Prop where
  os : w'.os = w.os
  tape : w'.tape = w.tape
  out : w'.output = w.output
  more : w.heap.size ≤ w'.heap.size
  old : ∀ i, i < w.heap.size → i ∉ S → w'.heap[i]? = w.heap[i]?
namespace Kept
theorem refl (S : List Nat) (w : World) : Kept S w w := ⟨rfl, rfl, rfl, Nat.le_refl _, fun _ _ _ => rfl⟩
theorem trans {S : List Nat} {a b c : World} (h : Kept S a b) (k : Kept S b c) : Kept S a c :=
  ⟨k.os.trans h.os, k.tape.trans h.tape, k.out.trans h.out, Nat.le_trans h.more k.more,
    fun i hi hS => (k.old i (Nat.lt_of_lt_of_le hi h.more) hS).trans (h.old i hi hS)⟩
theorem mono {S T : List Nat} {a b : World} (h : Kept S a b) (hS : ∀ i ∈ S, i ∈ T) : Kept T a b :=
  ⟨h.os, h.tape, h.out, h.more, fun i hi hT => h.old i hi fun hs => hT (hS i hs)⟩
theorem none {a b : World} (h : Kept [] a b) (T : List Nat) : Kept T a b := h.mono fun _ hi => by cases hi
theorem drewN {S : List Nat} {a b : World} (h : Kept S a b) (n : Nat) : Kept S a (b.drewN n) := ⟨h.os, h.tape, h.out, h.more, h.old⟩
theorem drew {S : List Nat} {a b : World} (h : Kept S a b) : Kept S a b.drew := ⟨h.os, h.tape, h.out, h.more, h.old⟩
theorem alloc {S : List Nat} {a b : World} (h : Kept S a b) (o : Obj) : Kept S a (b.alloc o) :=
  h.trans ⟨rfl, rfl, rfl, by simp, fun i hi _ => heap_alloc_old b o hi⟩
theorem setCell {S : List Nat} {a b : World} (h : Kept S a b) (p : Addr) (u : Value) (hp : p.block ∈ S ∨ a.heap.size ≤ p.block) : Kept S a (b.setCell p u) := by
  refine ⟨h.os, h.tape, h.out, by simpa [World.setCell] using h.more, fun i hi hS => ?_⟩
  rw [heap_setCell_other b p i u (by
    rintro rfl
    rcases hp with hp | hp
    · exact hS hp
    · omega)]
  exact h.old i hi hS
theorem setRow {S : List Nat} {a b : World} (h : Kept S a b) (g : Nat) (cs : Array Value) (hp : g ∈ S ∨ a.heap.size ≤ g) : Kept S a (b.setRow g cs) := by
  refine ⟨h.os, h.tape, h.out, by simpa using h.more, fun i hi hS => ?_⟩
  rw [setRow_other b g i cs (by
    rintro rfl
    rcases hp with hp | hp
    · exact hS hp
    · omega)]
  exact h.old i hi hS
theorem grown {S : List Nat} {a b c : World} {row : Option Nat} (h : Kept S a b) (hg : b.grownBy c row) (hr : ∀ g, row = some g → g ∈ S ∨ a.heap.size ≤ g) : Kept S a c := by
  refine ⟨hg.os.trans h.os, hg.tape.trans h.tape, hg.output.trans h.out, Nat.le_trans h.more hg.size, fun i hi hS => ?_⟩
  refine (hg.block i (Nat.lt_of_lt_of_le hi h.more) fun e => ?_).trans (h.old i hi hS)
  rcases hr i e.symm with hp | hp
  · exact hS hp
  · omega
theorem below {S : List Nat} {a b : World} (h : Kept S a b) {B : Nat} (hB : B ≤ a.heap.size) (hS : ∀ i ∈ S, B ≤ i) : Below B a b :=
  ⟨h.os, h.tape, h.out, h.more, fun i hi => h.old i (by omega) fun hs => by have := hS i hs; omega⟩
theorem ofBelow {a b : World} (h : Below a.heap.size a b) (S : List Nat) : Kept S a b := ⟨h.os, h.tape, h.output, h.size, fun i hi _ => h.block i hi⟩
end Kept
/-- What is told of the blocks that a call made itself is nothing to its caller. -/
theorem Kept.forget {S : List Nat} {a b c : World} (h : Kept [] a b) (k : Kept S b c) (hS : ∀ i ∈ S, a.heap.size ≤ i) : Kept [] a c :=
  ⟨k.os.trans h.os, k.tape.trans h.tape, k.out.trans h.out, Nat.le_trans h.more k.more,
    fun i hi _ => (k.old i (Nat.lt_of_lt_of_le hi h.more) fun hs => by have := hS i hs; omega).trans (h.old i hi (by simp))⟩
/-- Block b holds just these cells, of elements of type t; none is frozen. -/
def Has (w : World) (b : Nat) (t : TypeId) (cs : List Value) : Prop := w.heap[b]? = some (.cells cs.toArray t (0, 0))
namespace Has
variable {w w' : World} {b : Nat} {t : TypeId} {cs : List Value}
theorem lt (h : Has w b t cs) : b < w.heap.size := by
  rcases Nat.lt_or_ge b w.heap.size with hlt | hge
  · exact hlt
  · unfold Has at h
    rw [Array.getElem?_eq_none hge] at h
    cases h
theorem cell (h : Has w b t cs) (i : Nat) : w.cell? ⟨b, i, none⟩ = cs[i]? := by
  rw [cell_of_row w b i cs.toArray t (0, 0) h, List.getElem?_toArray]
theorem free (h : Has w b t cs) (i : Nat) : w.frozen? ⟨b, i, none⟩ = false := frozen_of_row w b i cs.toArray t h
theorem new (w : World) (t : TypeId) (cs : List Value) : Has (w.alloc (.cells cs.toArray t)) w.heap.size t cs := heap_alloc_new w _
theorem kept {S : List Nat} (h : Has w b t cs) (k : Kept S w w') (hb : b ∉ S) : Has w' b t cs := (k.old b h.lt hb).trans h
theorem keep0 (h : Has w b t cs) (k : Kept [] w w') : Has w' b t cs := h.kept k (by simp)
theorem drew (h : Has w b t cs) : Has w.drew b t cs := h
theorem drewN (h : Has w b t cs) (n : Nat) : Has (w.drewN n) b t cs := h
theorem alloc (h : Has w b t cs) (o : Obj) : Has (w.alloc o) b t cs := h.keep0 ((Kept.refl [] w).alloc o)
theorem put (h : Has w b t cs) (i : Nat) (u : Value) : Has (w.setCell ⟨b, i, none⟩ u) b t (cs.set i u) := by
  have e := heap_setCell_same w b i cs.toArray t u h
  unfold Has
  rw [e]
  simp
theorem beside (h : Has w b t cs) (p : Addr) (hp : b ≠ p.block) (u : Value) : Has (w.setCell p u) b t cs := (heap_setCell_other w p b u hp).trans h
theorem row (h : Has w b t cs) (ds : List Value) : Has (w.setRow b ds.toArray) b t ds := setRow_heap w b cs.toArray ds.toArray t (0, 0) h
theorem otherRow (h : Has w b t cs) (g : Nat) (hp : b ≠ g) (ds : Array Value) : Has (w.setRow g ds) b t cs := (setRow_other w g b ds hp).trans h
end Has
theorem Has.block_type {w : World} {b b' : Nat} {t t' : TypeId} {cs cs' : List Value} (h : Has w b t cs) (h' : Has w b' t' cs') (ht : t ≠ t') : b ≠ b' := by
  rintro rfl
  have e := h.symm.trans h'
  injection e with e
  injection e with _ e
  exact ht e
theorem add_at (q f j : Nat) : (⟨q, f, none⟩ : Addr).add j = ⟨q, f + j, none⟩ := by
  unfold Addr.add
  by_cases h : j = 0
  · subst h; simp
  · simp [h]
theorem ret_bool {a b : Bool} (h : a = b) : Ending.returned (.bool a) = .returned (.bool b) := by rw [h]
theorem ret_int {k : IntKind} {a b : Int} (h : a = b) : Ending.returned (.int k a) = .returned (.int k b) := by rw [h]
/-- The sum of two counts, as a uint64 has it. -/
def addU (n k : Int) : Int := IntKind.u64.wrap (n + k)
theorem addU_small (n k : Int) (h : 0 ≤ n + k) (h2 : n + k < 18446744073709551616) : addU n k = n + k := by
  unfold addU
  rw [IntKind.wrap_u64]
  omega
theorem list_ext (a b : List Int) (h : a.length = b.length) (e : ∀ j, j < a.length → a.getD j 0 = b.getD j 0) : a = b := by
  apply List.ext_getElem h
  intro j h1 h2
  have := e j h1
  rw [List.getD, List.getD, List.getElem?_eq_getElem h1, List.getElem?_eq_getElem h2] at this
  exact this
theorem cut_get (ws : List Int) (f k j : Nat) (h : j < k) : ((ws.drop f).take k).getD j 0 = ws.getD (f + j) 0 := by
  rw [List.getD, List.getD, List.getElem?_take_of_lt h, List.getElem?_drop]
end Go.Proofs.YtfdombfdgpclcaaGreatDoor.Ar

/-
  A slice of the call's own that grows: what its owner keeps.
-/
namespace Go.Proofs.YtfdombfdgpclcaaGreatDoor.Ar
open Go.RowKit

theorem own_grown {w w1 w2 : World} {v : Value} (hk : Kept [] w w1) (hv : v.ownBlock = none ∨ ∃ b, v.ownBlock = some b ∧ w.heap.size ≤ b) (hg : w1.grownBy w2 v.ownBlock) : Kept [] w w2 :=
  hk.grown hg fun b hb => .inr (by
    rcases hv with h | ⟨b', h, hle⟩
    · rw [h] at hb; cases hb
    · rw [h] at hb; injection hb with hb; subst hb; exact hle)
theorem own_fresh {w w1 : World} {v v' : Value} (hk : Kept [] w w1) (hv : v.ownBlock = none ∨ ∃ b, v.ownBlock = some b ∧ w.heap.size ≤ b) (h : v'.ownBlock = v.ownBlock ∨ v'.ownBlock = some w1.heap.size) : v'.ownBlock = none ∨ ∃ b, v'.ownBlock = some b ∧ w.heap.size ≤ b := by
  rcases h with h | h
  · rw [h]; exact hv
  · exact .inr ⟨_, h, hk.more⟩
end Go.Proofs.YtfdombfdgpclcaaGreatDoor.Ar

/-
  What a caller's word on its memory needs to abide a range over a function.
-/
namespace Go.Proofs.YtfdombfdgpclcaaGreatDoor.Lk
open Go.RowKit Go.Proofs.YtfdombfdgpclcaaGreatDoor.Ar
set_option linter.unusedVariables false

theorem own_kept {β : Type} {S : List Nat} {w0 : World} {B : Nat} (hB : w0.heap.size ≤ B) : OwnFrom B (fun (_ : β) W => Kept S w0 W) :=
  fun _ X Y row hs hg hr => hs.grown hg fun g e => .inr (Nat.le_trans hB (hr g e).1)
theorem own_has {β : Type} {B b : Nat} {t : TypeId} {f : β → List Value} : OwnFrom B (fun s W => Has W b t (f s)) :=
  fun s X Y row hs hg hr => (hg.block b (Has.lt hs) fun e => by
    obtain ⟨_, o, ho, hc⟩ := hr b e.symm
    have hs' : X.heap[b]? = some (.cells (f s).toArray t (0, 0)) := hs
    rw [ho] at hs'
    injection hs' with hs'
    subst hs'
    cases hc).trans hs
theorem keepsFrom_of {S : List Nat} {B : Nat} {W W' : World} (h : Kept S W W') (hS : ∀ b ∈ S, ∃ t cs, Has W b t cs) : KeepsFrom B W W' :=
  ⟨h.more, fun k o _ ho hc => (h.old k (Array.getElem?_eq_some_iff.1 ho).1 fun hk => by
    obtain ⟨t, cs, hh⟩ := hS k hk
    unfold Has at hh
    rw [ho] at hh
    injection hh with hh
    subst hh
    cases hc).trans ho⟩
theorem kept_put {w W : World} (h : Kept [] w W) (D : Nat) (o : Obj) (hD : w.heap.size ≤ D) : Kept [] w (W.putObj D o) :=
  h.grown (grownBy_putObj' W D o) fun g e => .inr (by injection e with e; omega)
theorem has_put {W : World} {b : Nat} {t : TypeId} {cs : List Value} (h : Has W b t cs) (D : Nat) (o o' : Obj) (hD : W.heap[D]? = some o) (hc : o.isCells = false) : Has (W.putObj D o') b t cs := by
  have hne : b ≠ D := by
    rintro rfl
    unfold Has at h
    rw [hD] at h
    injection h with h
    subst h
    cases hc
  exact ((grownBy_putObj' W D o').block b h.lt (fun e => hne (by injection e))).trans h
theorem put_other {W : World} {p : Addr} {u : Value} {D : Nat} (hD : p.block ≠ D) : (W.setCell p u).heap[D]? = W.heap[D]? := heap_setCell_other W p D u (fun e => hD e.symm)
end Go.Proofs.YtfdombfdgpclcaaGreatDoor.Lk

/-
  Rows of words ([]uint64): as cells of a block, as a slice that is seen, as one that was made by appends; make and append as laws.
-/
namespace Go.Proofs.YtfdombfdgpclcaaGreatDoor.Ar
open Go.RowKit

/-- A list of words as cells. -/
def ints (ws : List Int) : List Value := ws.map (Value.int .u64)
theorem ints_length (ws : List Int) : (ints ws).length = ws.length := List.length_map _
theorem ints_get (ws : List Int) (i : Nat) (h : i < ws.length) : (ints ws)[i]? = some (.int .u64 (ws.getD i 0)) := by
  unfold ints
  rw [List.getElem?_map, List.getElem?_eq_getElem h]
  simp [List.getD, List.getElem?_eq_getElem h]
theorem ints_set (ws : List Int) (i : Nat) (v : Int) : (ints ws).set i (.int .u64 v) = ints (ws.set i v) := by
  unfold ints
  rw [List.map_set]
theorem ints_one (ws : List Int) : ∀ v ∈ ints ws, v.oneCell' = true := by
  intro v hv
  unfold ints at hv
  obtain ⟨x, _, rfl⟩ := List.mem_map.1 hv
  rfl
theorem ints_cut (ws : List Int) (f k j : Nat) (v : Value) (h : (ints ((ws.drop f).take k))[j]? = some v) : (ints ws)[f + j]? = some v := by
  unfold ints at *
  rw [List.getElem?_map, List.getElem?_take] at h
  split at h
  · rw [List.getElem?_drop] at h
    rw [List.getElem?_map]
    exact h
  · simp at h
theorem size_u64 : (Tryz.prog.info? 34).map (·.size) = some 1 := by kernel_rfl
theorem info_u64 : (Tryz.prog.info? 34).map (fun i => (i.zero, i.size, i.bytes)) = some (some (.int .u64 0), 1, 8) := by kernel_rfl
/-- A slice of words that reads as a list: an empty one has whatever address. -/
def Seen (w : World) (A : Option Addr) (l : List Int) : Prop := l ≠ [] → ∃ g f, A = some ⟨g, f, none⟩ ∧ g < w.heap.size ∧ ∀ j v, (ints l)[j]? = some v → w.cell? ⟨g, f + j, none⟩ = some v
theorem Seen.keep {w w' : World} {A : Option Addr} {l : List Int} (h : Seen w A l) (hk : ∀ g f, A = some ⟨g, f, none⟩ → g < w.heap.size → w'.heap[g]? = w.heap[g]?) (hs : w.heap.size ≤ w'.heap.size) : Seen w' A l := by
  intro hl
  obtain ⟨g, f, e, hg, hc⟩ := h hl
  exact ⟨g, f, e, by omega, fun j v hv => (World.cell?_of_block (w := w) (hk g f e hg)).trans (hc j v hv)⟩
theorem Seen.keep0 {w w' : World} {A : Option Addr} {l : List Int} (h : Seen w A l) (k : Kept [] w w') : Seen w' A l :=
  h.keep (fun g _ _ hg => k.old g hg (by simp)) k.more
theorem Seen.cells {w : World} {A : Option Addr} {l : List Int} (h : Seen w A l) (hl : l ≠ []) : ∃ g f, A = some ⟨g, f, none⟩ ∧ ∀ j, j < l.length → w.cell? ⟨g, f + j, none⟩ = some (.int .u64 (l.getD j 0)) := by
  obtain ⟨g, f, e, _, hc⟩ := h hl
  exact ⟨g, f, e, fun j hj => hc j _ (ints_get l j hj)⟩
/-- A word of a row that came in, read in a later world. -/
theorem Seen.later {w : World} {A : Option Addr} {l : List Int} (h : Seen w A l) (hl : l ≠ []) : ∃ g f, A = some ⟨g, f, none⟩ ∧ ∀ x, Kept [] w x → ∀ j, j < l.length → x.cell? ⟨g, f + j, none⟩ = some (.int .u64 (l.getD j 0)) := by
  obtain ⟨g, f, e, hg, hc⟩ := h hl
  exact ⟨g, f, e, fun x hx j hj => (World.cell?_of_block (w := w) (hx.old g hg (by simp))).trans (hc j _ (ints_get l j hj))⟩
theorem seen_sub {y : World} {g f : Nat} {l : List Int} (h : Seen y (some ⟨g, f, none⟩) l) (r k : Nat) : Seen y (some ⟨g, f + r, none⟩) ((l.drop r).take k) := by
  intro hne
  obtain ⟨g', f', e, hg, hc⟩ := h (fun h0 => hne (by rw [h0]; simp))
  injection e with e
  injection e with e1 e2
  subst e1 e2
  exact ⟨g, f + r, rfl, hg, fun j v hv => by rw [Nat.add_assoc]; exact hc (r + j) v (ints_cut l r k j v hv)⟩
theorem seen_take {y : World} {g : Nat} {l : List Int} (h : Seen y (some ⟨g, 0, none⟩) l) (k : Nat) : Seen y (some ⟨g, 0, none⟩) (l.take k) := by
  intro hne
  obtain ⟨g', f', e, hg, hc⟩ := h (fun h0 => hne (by rw [h0]; simp))
  refine ⟨g', f', e, hg, fun j v hv => hc j v ?_⟩
  unfold ints at *
  rw [List.map_take, List.getElem?_take] at hv
  split at hv
  · exact hv
  · cases hv
/-- What is left behind a cut of a row, at whatever address an empty rest has. -/
theorem seen_rest {y : World} {g : Nat} {l : List Int} (h : Seen y (some ⟨g, 0, none⟩) l) (r cap : Nat) (hr : r ≤ l.length) (hc : l.length ≤ cap) : Seen y (if cap = r then some ⟨g, 0, none⟩ else some ⟨g, r, none⟩) (l.drop r) := by
  by_cases e : cap = r
  · intro hne
    exact absurd (List.drop_eq_nil_of_le (by omega)) hne
  · rw [if_neg e]
    have hs := seen_sub h r (l.length - r)
    rw [Nat.zero_add, List.take_of_length_le (by rw [List.length_drop]; omega)] at hs
    exact hs
/-- A row of words of the call's own. -/
def Row (w : World) (g : Nat) (l : List Int) : Prop := Has w g 34 (ints l)
theorem Row.seen {w : World} {g : Nat} {l : List Int} (h : Row w g l) : Seen w (some ⟨g, 0, none⟩) l :=
  fun _ => ⟨g, 0, rfl, Has.lt h, fun j v hv => by rw [Has.cell h, Nat.zero_add]; exact hv⟩
theorem made_words (c : Nat) : (madeCells (Value.int .u64 0).cells c) = (ints (List.replicate c 0)).toArray := by
  apply Array.ext
  · simp [madeCells, ints]
  · intro i h1 h2
    simp [madeCells, ints, Value.cells, Nat.mod_one]
theorem run_make_words (c : Nat) (hc : c ≤ 1099511627776) (w : World) :
    (Instr.makeSlice 91 (.int .i64 (c : Int)) (.int .i64 (c : Int))).run Tryz.prog w = .ok (.slice (some ⟨w.heap.size, 0, none⟩) c c) (w.alloc (.cells (ints (List.replicate c 0)).toArray 34)) := by
  obtain ⟨i0, hi, hz0, hz1, hz2⟩ := info_parts info_u64
  have h := run_make (P := Tryz.prog) w 91 34 i0 (.int .u64 0) Tryz.underlying91 hi hz0 .i64 .i64 c c (by omega) (by omega) (by rw [hz2]; omega) (by omega)
  rw [Int.toNat_natCast, hz1, Nat.mul_one, made_words] at h
  exact h
/-- A slice value that was made by appends alone, with these words. -/
def Own (w : World) (v : Value) (l : List Int) : Prop := w.ownsRow 0 34 1 v l.length (ints l)
theorem Own.nil (w : World) : Own w (.slice none 0 0) [] := World.ownsRow_nil w 0 _ 1
/-- It is nil and empty, or lies at the head of a block. -/
theorem Own.form {w : World} {v : Value} {l : List Int} (h : Own w v l) : (v = .slice none 0 0 ∧ l = []) ∨ ∃ g cap, v = .slice (some ⟨g, 0, none⟩) l.length cap ∧ g < w.heap.size ∧ l.length ≤ cap ∧ cap ≤ maxLen := by
  rcases h.2 with ⟨rfl, h0⟩ | ⟨g, cap, cur, rfl, _, hg, hc, hm, _⟩
  · exact .inl ⟨rfl, List.eq_nil_of_length_eq_zero h0⟩
  · exact .inr ⟨g, cap, rfl, (Array.getElem?_eq_some_iff.1 hg).1, hc, hm⟩
theorem Own.cell {w : World} {g n cap : Nat} {l : List Int} (h : Own w (.slice (some ⟨g, 0, none⟩) n cap) l) : ∀ j v, (ints l)[j]? = some v → w.cell? ⟨g, j, none⟩ = some v := by
  intro j v hv
  rcases h.2 with ⟨h1, _⟩ | ⟨g', cap', cur, h1, _, hg, _, _, _, ht⟩
  · cases h1
  · injection h1 with h1 h2 h3
    injection h1 with h1
    injection h1 with h1
    subst h1
    rw [cell_of_row w g j cur _ (0, 0) hg, ← Array.getElem?_toList]
    rw [← ht, List.getElem?_take] at hv
    split at hv
    · exact hv
    · cases hv
theorem Own.seen {w : World} {g n cap : Nat} {l : List Int} (h : Own w (.slice (some ⟨g, 0, none⟩) n cap) l) (hg : g < w.heap.size) : Seen w (some ⟨g, 0, none⟩) l :=
  fun _ => ⟨g, 0, rfl, hg, fun j v hv => by rw [Nat.zero_add]; exact h.cell j v hv⟩
theorem Own.keep {w w' : World} {v : Value} {l : List Int} {row : Option Nat} (h : Own w v l) (hg : w.grownBy w' row) (hne : v.ownBlock = none ∨ v.ownBlock ≠ row) : Own w' v l := World.ownsRow.kept h hg hne
theorem Own.kept {w w' : World} {v : Value} {l : List Int} {S : List Nat} (h : Own w v l) (k : Kept S w w') (hS : ∀ g ∈ S, v.ownBlock ≠ some g) : Own w' v l := by
  refine ⟨h.1, ?_⟩
  rcases h.2 with hn | ⟨g, cap, cur, rfl, hb, hg, rest⟩
  · exact .inl hn
  · refine .inr ⟨g, cap, cur, rfl, hb, ?_, rest⟩
    rw [k.old g (Array.getElem?_eq_some_iff.1 hg).1 fun hs => hS g hs rfl]
    exact hg
theorem Own.keep0 {w w' : World} {v : Value} {l : List Int} (h : Own w v l) (k : Kept [] w w') : Own w' v l := h.kept k fun _ hi => by cases hi
/-- append, where what is appended is a row of words that is seen (nil, empty or not). -/
theorem append_words {w : World} {ops : Array Oper} {rest : List Oper} {o : Oper} {a : Act} {Q : Exit → Act → World → Prop} (hgd : o.guard = none) (s x : Operand)
    (ho : o.op = .call { callee := .builtin .append, args := #[s, x], argTypes := #[91, 91] })
    (v : Value) (l : List Int) (hs : a.eval s = v) (hown : Own w v l) (A : Option Addr) (m c : Nat) (news : List Int) (hx : a.eval x = .slice A m c) (hm : news.length = m) (hnil : A = none → c = 0) (hseen : Seen w A news)
    (hb : l.length + m ≤ 1073741824)
    (h : ∀ v' w', Own w' v' (l ++ news) → w.grownBy w' v.ownBlock → (v'.ownBlock = v.ownBlock ∨ v'.ownBlock = some w.heap.size) → wpList Tryz.prog ops Q rest (a.put o.dst v') w') : wpList Tryz.prog ops Q (o :: rest) a w := by
  obtain ⟨i0, hi, hz0, hz1, hz2⟩ := info_parts info_u64
  subst hm
  cases A with
  | none =>
    have hn : news = [] := by
      cases news with
      | nil => rfl
      | cons y ys =>
        obtain ⟨g, f, e, _⟩ := hseen (by simp)
        cases e
    subst hn
    obtain rfl := hnil rfl
    refine wpList_append_own_none hgd s x 91 ho 0 34 i0 1 Tryz.underlying91 hi v l.length (ints l) hs hown hx ?_
    exact h v w (by rw [List.append_nil]; exact hown) (World.grownBy.refl w _) (.inl rfl)
  | some ad =>
    refine wpList_append_own_at w hgd s x 91 ho 0 34 i0 (.int .u64 0) 1 8 Tryz.underlying91 hi hz0 hz1 hz2 rfl (by decide) v l.length (ints l) hs hown ad news.length c (ints news) hx (by rw [ints_length, Nat.mul_one]) ?_ (ints_one news) (by unfold maxLen; omega) (by omega) (Nat.zero_le _) ?_
    · intro j u hu
      by_cases hne : news = []
      · subst hne; cases hu
      · obtain ⟨g, f, e, _, hc⟩ := hseen hne
        obtain rfl := Option.some.inj e
        rw [add_at]
        exact hc j u hu
    · intro v' w' h1 h2 _ h4
      refine h v' w' ?_ h2 h4
      unfold Own ints at *
      rw [List.length_append, List.map_append]
      exact h1
theorem Own.block_type {w : World} {g n cap b : Nat} {l : List Int} {t : TypeId} {cs : List Value} (h : Own w (.slice (some ⟨g, 0, none⟩) n cap) l) (h' : Has w b t cs) (ht : t ≠ 34) : b ≠ g := by
  rintro rfl
  rcases h.2 with ⟨h1, _⟩ | ⟨g', cap', cur, h1, _, hg, _⟩
  · cases h1
  · injection h1 with h1
    injection h1 with h1
    injection h1 with h1
    subst h1
    have e := h'.symm.trans hg
    injection e with e
    injection e with _ e
    exact ht e
/-- A slice that a call hands back, as a row of words. -/
def Back (w x : World) (A : Option Addr) (c : Nat) (l : List Int) : Prop := (A = none → c = 0) ∧ Seen x A l ∧ Kept [] w x
theorem back_own {w y : World} {v : Value} {l : List Int} (hk : Kept [] w y) (hO : Own y v l) : ∃ A c, v = .slice A l.length c ∧ Back w y A c l := by
  rcases hO.form with ⟨rfl, rfl⟩ | ⟨g', cap', rfl, hlt, _, _⟩
  · exact ⟨none, 0, rfl, (fun _ => rfl), (fun h => absurd rfl h), hk⟩
  · exact ⟨_, _, rfl, (fun h => by cases h), hO.seen hlt, hk⟩
end Go.Proofs.YtfdombfdgpclcaaGreatDoor.Ar

/-
  Rows of types ([]api.Type): as cells of a block, as a slice that is seen, as one that was made by appends; append as a law, in a plain region and in one that draws its order.
-/
namespace Go.Proofs.YtfdombfdgpclcaaGreatDoor.Tb
open Go.RowKit Go.Proofs.YtfdombfdgpclcaaGreatDoor.Ar
set_option linter.unusedVariables false

/-- A type: Kind, Words, Mask. -/
structure Ty where
  k : Nat
  wd : Int
  ms : Nat
theorem Ty.ext {a b : Ty} (h0 : a.k = b.k) (h1 : a.wd = b.wd) (h2 : a.ms = b.ms) : a = b := by
  cases a; cases b; simp only at h0 h1 h2; subst h0 h1 h2; rfl
instance : DecidableEq Ty := fun a b => decidable_of_iff (a.k = b.k ∧ a.wd = b.wd ∧ a.ms = b.ms) ⟨fun ⟨h0, h1, h2⟩ => Ty.ext h0 h1 h2, fun h => by subst h; exact ⟨rfl, rfl, rfl⟩⟩
def Ty.ok (x : Ty) : Prop := x.k < 256 ∧ x.ms < 18446744073709551616
def Ty.val (x : Ty) : Value := .agg #[.int .u8 (x.k : Int), .int .i64 x.wd, .int .u64 (x.ms : Int)]
def Ty.zero : Ty := ⟨0, 0, 0⟩
/-- A list of types as cells: three each. -/
def tyCells : List Ty → List Value
  | [] => []
  | x :: l => .int .u8 (x.k : Int) :: .int .i64 x.wd :: .int .u64 (x.ms : Int) :: tyCells l
theorem tyCells_length : ∀ l : List Ty, (tyCells l).length = l.length * 3
  | [] => rfl
  | x :: l => by
    show (tyCells l).length + 1 + 1 + 1 = (l.length + 1) * 3
    rw [tyCells_length l]
    omega
theorem tyCells_append : ∀ (a b : List Ty), tyCells (a ++ b) = tyCells a ++ tyCells b
  | [], b => rfl
  | x :: a, b => by
    show _ :: _ :: _ :: tyCells (a ++ b) = _ :: _ :: _ :: (tyCells a ++ tyCells b)
    rw [tyCells_append a b]
theorem tyCells_get : ∀ (l : List Ty) (i : Nat), i < l.length → (tyCells l)[i * 3]? = some (.int .u8 ((l.getD i Ty.zero).k : Int)) ∧ (tyCells l)[i * 3 + 1]? = some (.int .i64 (l.getD i Ty.zero).wd) ∧ (tyCells l)[i * 3 + 2]? = some (.int .u64 ((l.getD i Ty.zero).ms : Int))
  | [], i, h => absurd h (by simp)
  | x :: l, 0, _ => ⟨rfl, rfl, rfl⟩
  | x :: l, i + 1, h => by
    have := tyCells_get l i (by simpa using h)
    rw [show (i + 1) * 3 = i * 3 + 1 + 1 + 1 by omega]
    exact this
theorem tyCells_one (l : List Ty) : ∀ v ∈ tyCells l, v.oneCell' = true := by
  induction l with
  | nil => intro v hv; cases hv
  | cons x l ih =>
    intro v hv
    rcases List.mem_cons.1 hv with rfl | hv
    · rfl
    · rcases List.mem_cons.1 hv with rfl | hv
      · rfl
      · rcases List.mem_cons.1 hv with rfl | hv
        · rfl
        · exact ih v hv
theorem info_type : (Tryz.prog.info? 54).map (fun i => (i.zero, i.size, i.bytes)) = some (some (.agg #[.int .u8 0, .int .i64 0, .int .u64 0]), 3, 24) := by kernel_rfl
/-- A slice of types that reads as a list: an empty one has whatever address. -/
def Seen (w : World) (A : Option Addr) (l : List Ty) : Prop := l ≠ [] → ∃ g f, A = some ⟨g, f, none⟩ ∧ g < w.heap.size ∧ ∀ j v, (tyCells l)[j]? = some v → w.cell? ⟨g, f + j, none⟩ = some v
theorem Seen.nil (w : World) (A : Option Addr) : Seen w A [] := fun h => absurd rfl h
theorem Seen.keep {w w' : World} {A : Option Addr} {l : List Ty} (h : Seen w A l) (hk : ∀ g f, A = some ⟨g, f, none⟩ → g < w.heap.size → w'.heap[g]? = w.heap[g]?) (hs : w.heap.size ≤ w'.heap.size) : Seen w' A l := by
  intro hl
  obtain ⟨g, f, e, hg, hc⟩ := h hl
  exact ⟨g, f, e, by omega, fun j v hv => (World.cell?_of_block (w := w) (hk g f e hg)).trans (hc j v hv)⟩
theorem Seen.keep0 {w w' : World} {A : Option Addr} {l : List Ty} (h : Seen w A l) (k : Kept [] w w') : Seen w' A l :=
  h.keep (fun g f _ hg => k.old g hg (by simp)) k.more
/-- The three cells of a type in the row, in whatever later world. -/
theorem Seen.at {w : World} {A : Option Addr} {l : List Ty} (h : Seen w A l) (i : Nat) (hi : i < l.length) (x : Ty) (hx : x = l.getD i Ty.zero) : ∃ g f, A = some ⟨g, f, none⟩ ∧ g < w.heap.size ∧
    ∀ y, Kept [] w y → y.cell? ⟨g, f + i * 3, none⟩ = some (.int .u8 (x.k : Int)) ∧ y.cell? ⟨g, f + i * 3 + 1, none⟩ = some (.int .i64 x.wd) ∧ y.cell? ⟨g, f + i * 3 + 2, none⟩ = some (.int .u64 (x.ms : Int)) := by
  obtain ⟨g, f, e, hg, hc⟩ := h (by rintro rfl; simp at hi)
  refine ⟨g, f, e, hg, fun y k => ?_⟩
  obtain ⟨c0, c1, c2⟩ := tyCells_get l i hi
  have hb : y.heap[g]? = w.heap[g]? := k.old g hg (by simp)
  subst hx
  exact ⟨(World.cell?_of_block (w := w) hb).trans (hc _ _ c0), (World.cell?_of_block (w := w) hb).trans (hc _ _ c1), (World.cell?_of_block (w := w) hb).trans (hc _ _ c2)⟩
theorem seen_one {w : World} {b : Nat} {t : TypeId} {x : Ty} (h : Has w b t [.int .u8 (x.k : Int), .int .i64 x.wd, .int .u64 (x.ms : Int)]) : Seen w (some ⟨b, 0, none⟩) [x] :=
  fun _ => ⟨b, 0, rfl, h.lt, fun j v hv => by rw [h.cell, Nat.zero_add]; exact hv⟩
/-- A slice value that was made by appends alone, with these types. -/
def Own (w : World) (v : Value) (l : List Ty) : Prop := w.ownsRow 0 54 3 v l.length (tyCells l)
theorem Own.nil (w : World) : Own w (.slice none 0 0) [] := World.ownsRow_nil w 0 _ 3
theorem Own.form {w : World} {v : Value} {l : List Ty} (h : Own w v l) : (v = .slice none 0 0 ∧ l = []) ∨ ∃ g cap, v = .slice (some ⟨g, 0, none⟩) l.length cap ∧ g < w.heap.size ∧ l.length ≤ cap ∧ cap ≤ maxLen := by
  rcases h.2 with ⟨rfl, h0⟩ | ⟨g, cap, cur, rfl, _, hg, hc, hm, _⟩
  · exact .inl ⟨rfl, List.eq_nil_of_length_eq_zero h0⟩
  · exact .inr ⟨g, cap, rfl, (Array.getElem?_eq_some_iff.1 hg).1, hc, hm⟩
theorem Own.cell {w : World} {g n cap : Nat} {l : List Ty} (h : Own w (.slice (some ⟨g, 0, none⟩) n cap) l) : ∀ j v, (tyCells l)[j]? = some v → w.cell? ⟨g, j, none⟩ = some v := by
  intro j v hv
  rcases h.2 with ⟨h1, _⟩ | ⟨g', cap', cur, h1, _, hg, _, _, _, ht⟩
  · cases h1
  · injection h1 with h1 h2 h3
    injection h1 with h1
    injection h1 with h1
    subst h1
    rw [cell_of_row w g j cur _ (0, 0) hg, ← Array.getElem?_toList]
    rw [← ht, List.getElem?_take] at hv
    split at hv
    · exact hv
    · cases hv
theorem Own.seen {w : World} {A : Option Addr} {n cap : Nat} {l : List Ty} (h : Own w (.slice A n cap) l) : Seen w A l := by
  intro hl
  rcases h.form with ⟨_, e⟩ | ⟨g, c, e, hg, _⟩
  · exact absurd e hl
  · injection e with e1 e2 e3
    subst e1
    exact ⟨g, 0, rfl, hg, fun j v hv => by rw [Nat.zero_add]; exact Own.cell h j v hv⟩
theorem Own.keep {w w' : World} {v : Value} {l : List Ty} {row : Option Nat} (h : Own w v l) (hg : w.grownBy w' row) (hne : v.ownBlock = none ∨ v.ownBlock ≠ row) : Own w' v l := World.ownsRow.kept h hg hne
theorem Own.kept {w w' : World} {v : Value} {l : List Ty} {S : List Nat} (h : Own w v l) (k : Kept S w w') (hS : ∀ g ∈ S, v.ownBlock ≠ some g) : Own w' v l := by
  refine ⟨h.1, ?_⟩
  rcases h.2 with hn | ⟨g, cap, cur, rfl, hb, hg, rest⟩
  · exact .inl hn
  · refine .inr ⟨g, cap, cur, rfl, hb, ?_, rest⟩
    rw [k.old g (Array.getElem?_eq_some_iff.1 hg).1 fun hs => hS g hs rfl]
    exact hg
theorem Own.keep0 {w w' : World} {v : Value} {l : List Ty} (h : Own w v l) (k : Kept [] w w') : Own w' v l := h.kept k fun _ hi => by cases hi
theorem Own.lt {w : World} {v : Value} {l : List Ty} (h : Own w v l) : ∀ g, v.ownBlock = some g → g < w.heap.size := fun g hg => (World.ownsRow.lt h g hg).2
theorem Own.block_type {w : World} {v : Value} {b : Nat} {l : List Ty} {t : TypeId} {cs : List Value} (h : Own w v l) (h' : Has w b t cs) (ht : t ≠ 54) : v.ownBlock ≠ some b := by
  rcases h.2 with ⟨rfl, _⟩ | ⟨g', cap', cur, rfl, _, hg, _⟩
  · intro e; cases e
  · intro e
    have e : g' = b := by simpa [Value.ownBlock] using e
    subst e
    have e := h'.symm.trans hg
    injection e with e
    injection e with _ e
    exact ht e
/-- append, where what is appended is a row of types that is seen (nil, empty or not). -/
theorem append_types {w : World} {ops : Array Oper} {rest : List Oper} {o : Oper} {a : Act} {Q : Exit → Act → World → Prop} (hgd : o.guard = none) (s x : Operand)
    (ho : o.op = .call { callee := .builtin .append, args := #[s, x], argTypes := #[22, 22] })
    (v : Value) (l : List Ty) (hs : a.eval s = v) (hown : Own w v l) (A : Option Addr) (c : Nat) (news : List Ty) (hx : a.eval x = .slice A news.length c) (hnil : A = none → c = 0) (hseen : Seen w A news)
    (hb : l.length + news.length ≤ 1073741824)
    (h : ∀ v' w', Own w' v' (l ++ news) → w.grownBy w' v.ownBlock → (v'.ownBlock = v.ownBlock ∨ v'.ownBlock = some w.heap.size) → (v' = .slice none 0 0 ↔ v = .slice none 0 0 ∧ news = []) → wpList Tryz.prog ops Q rest (a.put o.dst v') w') : wpList Tryz.prog ops Q (o :: rest) a w := by
  obtain ⟨i0, hi, hz0, hz1, hz2⟩ := info_parts info_type
  cases A with
  | none =>
    have hn : news = [] := by
      cases news with
      | nil => rfl
      | cons y ys =>
        obtain ⟨g, f, e, _⟩ := hseen (by simp)
        cases e
    subst hn
    obtain rfl := hnil rfl
    refine wpList_append_own_none hgd s x 22 ho 0 54 i0 3 Tryz.underlying22 hi v l.length (tyCells l) hs hown hx ?_
    exact h v w (by rw [List.append_nil]; exact hown) (World.grownBy.refl w _) (.inl rfl) ⟨fun e => ⟨e, rfl⟩, fun e => e.1⟩
  | some ad =>
    refine wpList_append_own_at w hgd s x 22 ho 0 54 i0 _ 3 24 Tryz.underlying22 hi hz0 hz1 hz2 rfl (by decide) v l.length (tyCells l) hs hown ad news.length c (tyCells news) hx (tyCells_length news) ?_ (tyCells_one news) (by unfold maxLen; omega) (by omega) (Nat.zero_le _) ?_
    · intro j u hu
      by_cases hne : news = []
      · subst hne; cases hu
      · obtain ⟨g, f, e, _, hc⟩ := hseen hne
        obtain rfl := Option.some.inj e
        rw [add_at]
        exact hc j u hu
    · intro v' w' h1 h2 h3 h4
      refine h v' w' ?_ h2 h4 (h3.trans (and_congr_right fun _ => List.length_eq_zero_iff))
      unfold Own
      rw [List.length_append, tyCells_append]
      exact h1
/-- append of one type, at a step of a region that draws its order. -/
theorem step_append_type {w : World} {ops : Array Oper} {o : Oper} {a : Act} {K : Act → World → Prop} {Q : Exit → Act → World → Prop} {E : Prop} (hgd : o.guard = none) (s x : Operand)
    (ho : o.op = .call { callee := .builtin .append, args := #[s, x], argTypes := #[22, 22] })
    (v : Value) (l : List Ty) (hs : a.eval s = v) (hown : Own w v l) (b c : Nat) (y : Ty) (hx : a.eval x = .slice (some ⟨b, 0, none⟩) 1 c)
    (hb : Has w b 54 [.int .u8 (y.k : Int), .int .i64 y.wd, .int .u64 (y.ms : Int)]) (hlen : l.length + 1 ≤ 1073741824) (H : Nat) (hH : w.heap.size = H)
    (h : ∀ g cap w', Own w' (.slice (some ⟨g, 0, none⟩) (l.length + 1) cap) (l ++ [y]) → w.grownBy w' v.ownBlock → (v.ownBlock = some g ∨ g = H) → g < w'.heap.size → K (a.put o.dst (.slice (some ⟨g, 0, none⟩) (l.length + 1) cap)) w') :
    if Region.wanted o (yielded ops a.tmps) = true then Oper.wp Tryz.prog o a w K Q else E := by
  obtain ⟨i0, hi, hz0, hz1, hz2⟩ := info_parts info_type
  refine step_append_lies w hgd s x 22 ho 0 54 i0 _ 3 24 Tryz.underlying22 hi hz0 hz1 hz2 rfl (by decide) v l.length (tyCells l) hs hown ⟨b, 0, none⟩ 1 c (tyCells [y]) hx rfl ?_ (tyCells_one _) (by decide) (by unfold maxLen; omega) (by omega) (Nat.zero_le _) H hH ?_
  · intro j u hu
    rw [add_at, Nat.zero_add, hb.cell]
    exact hu
  · intro g cap w' h1 h2 h3 h4
    refine h g cap w' ?_ h2 h3 h4
    unfold Own
    rw [List.length_append, tyCells_append]
    exact h1
/-- A slice that a call hands back, as a row of types. -/
def Back (w x : World) (A : Option Addr) (c : Nat) (l : List Ty) : Prop := (A = none → c = 0) ∧ Seen x A l ∧ Kept [] w x
theorem back_own {w y : World} {v : Value} {l : List Ty} (hk : Kept [] w y) (hO : Own y v l) : ∃ A c, v = .slice A l.length c ∧ Back w y A c l := by
  rcases hO.form with ⟨rfl, rfl⟩ | ⟨g', cap', rfl, hlt, _, _⟩
  · exact ⟨none, 0, rfl, (fun _ => rfl), (fun h => absurd rfl h), hk⟩
  · exact ⟨_, _, rfl, (fun h => by cases h), Own.seen hO, hk⟩
end Go.Proofs.YtfdombfdgpclcaaGreatDoor.Tb

/-
  A region that draws its order, whose first k operations only read (callees may make memory of their own) and all come ahead of the rest, which come one behind the other: one walk of the text's order serves every order, also in a round of a range over a function. No program is named here.
-/
namespace Go.Proofs.YtfdombfdgpclcaaGreatDoor.Rk

/-- No bounds; in a round, or in none. -/
def fence (r : Option Nat) : Fence := { Fence.wide with round := r }
theorem fence_none : fence none = Fence.wide := rfl
theorem fence_round (l : Nat) : Fence.wide.inRound l = fence (some l) := rfl

def plainB (o : Oper) : Bool := o.guard.isNone && (match o.op with | .defer _ => false | _ => true)
theorem plainB_guard {o : Oper} (h : plainB o = true) : o.guard = none := by
  unfold plainB at h
  rw [Bool.and_eq_true] at h
  exact Option.isNone_iff_eq_none.1 h.1
theorem plainB_defer {o : Oper} (h : plainB o = true) : ∀ c, o.op ≠ .defer c := by
  intro c e
  unfold plainB at h
  rw [e] at h
  simp at h
theorem wanted_of {o : Oper} (h : o.guard = none) (y : Nat → Option Bool) : Region.wanted o y = true := by
  unfold Region.wanted
  rw [h]

section
variable {P : Program} {C : World → Prop} {md : Region.Mode} {r : Option Nat} {m : Nat}

theorem wpIn_of_quiet {o : Oper} {a : Act} {K : Act → Prop} {K' : Act → World → Prop} {Q' : Exit → Act → World → Prop} {w : World} (hp : plainB o = true) (hw : C w)
    (h : ∀ a w', C w' → K a → K' a w') (hh : o.quiet P a C K) : o.wpIn (fence r) m P a w K' Q' := by
  refine ⟨fun _ _ => trivial, ?_⟩
  rw [Oper.semAt_eq _ _ _ (plainB_defer hp)]
  obtain ⟨v, hv, hK⟩ := hh
  have hx := hv w hw
  unfold Oper.quietAt at hx
  generalize (execOp a.eval o).run P w = res at hx ⊢
  match res, hx with
  | .ok (.value u) w', hx =>
    obtain ⟨rfl, rfl⟩ := hx
    exact h _ _ hw hK
  | .ok .skip w', hx =>
    obtain ⟨rfl, rfl⟩ := hx
    exact h _ _ hw hK
  | .ok (.enter f args) w', hx =>
    obtain ⟨rfl, hc⟩ := hx
    refine ⟨fun hd => (by cases hd), ?_⟩
    have hc' : CallsIn (fence r) (m - 1) P f args w' fun e w'' => e = .returned v ∧ C w'' := callsIn_wide (n := m - 1) |>.2 hc
    exact hc'.mono fun e w'' he => by
      obtain ⟨rfl, hC⟩ := he
      exact h _ _ hC hK

/-- In the place of an operation that comes late: nothing. -/
def nop (o : Oper) : Oper := { o with dst := none, op := .assign (.const undef), guard := none }
def nopped (k : Nat) (l : List Oper) : List Oper := l.take k ++ (l.drop k).map nop
theorem nopped_length (k : Nat) (l : List Oper) : (nopped k l).length = l.length := by
  unfold nopped
  rw [List.length_append, List.length_map, ← List.length_append, List.take_append_drop]
theorem nopped_low (k : Nat) (l : List Oper) (j : Nat) (h : j < k) : (nopped k l)[j]? = l[j]? := by
  unfold nopped
  by_cases hj : j < l.length
  · rw [List.getElem?_append_left (by rw [List.length_take]; omega), List.getElem?_take_of_lt h]
  · rw [List.getElem?_eq_none (by simp; omega), List.getElem?_eq_none (by omega)]
theorem nopped_high (k : Nat) (l : List Oper) (j : Nat) (h : k ≤ j) : (nopped k l)[j]? = l[j]?.map nop := by
  unfold nopped
  by_cases hk : k ≤ l.length
  · rw [List.getElem?_append_right (by rw [List.length_take]; omega), List.length_take, Nat.min_eq_left hk, List.getElem?_map, List.getElem?_drop]
    congr 2
    omega
  · rw [List.getElem?_eq_none (by simp; omega), List.getElem?_eq_none (by omega)]
    rfl
theorem nopped_after (k : Nat) (l : List Oper) (j : Nat) : (nopped k l)[j]?.map (·.after) = l[j]?.map (·.after) := by
  rcases Nat.lt_or_ge j k with h | h
  · rw [nopped_low k l j h]
  · rw [nopped_high k l j h, Option.map_map]
    rfl
theorem ready_nopped (k : Nat) (l : List Oper) (listed : Array Bool) (j : Nat) :
    j ∈ Region.ready md (nopped k l).toArray listed ↔ j ∈ Region.ready md l.toArray listed := by
  rw [mem_ready, mem_ready]
  have e := nopped_after k l j
  simp only [List.getElem?_toArray]
  refine and_congr_right fun _ => ?_
  constructor
  · rintro ⟨o, ho, hall⟩
    rw [ho] at e
    cases h : l[j]? with
    | none => rw [h] at e; cases e
    | some o' =>
      rw [h] at e
      injection e with e
      replace e : o.after = o'.after := e
      exact ⟨o', rfl, by rw [← e]; exact hall⟩
  · rintro ⟨o, ho, hall⟩
    rw [ho] at e
    cases h : (nopped k l)[j]? with
    | none => rw [h] at e; cases e
    | some o' =>
      rw [h] at e
      injection e with e
      replace e : o'.after = o.after := e
      exact ⟨o', rfl, by rw [e]; exact hall⟩
theorem ready_nil {k : Nat} {l : List Oper} {listed : Array Bool} (h : Region.ready md l.toArray listed = []) : Region.ready md (nopped k l).toArray listed = [] := by
  refine List.eq_nil_iff_forall_not_mem.2 fun j hj => ?_
  rw [ready_nopped, h] at hj
  cases hj

/-- The rest comes in its order, whatever fuel there is. -/
theorem run_rest {ops : Array Oper} {Q : Exit → Act → World → Prop} : ∀ (rest : List Oper) (j : Nat) (listed : Array Bool) (a : Act) (w : World) (fuel : Nat), (∀ t, rest[t]? = ops[j + t]?) → rest.length ≤ fuel →
    Region.seqB md ops rest.length j listed = true → wpListIn (fence r) m P ops Q rest a w → wpAnyIn (fence r) m P md ops Q fuel listed a w
  | [], j, listed, a, w, fuel, _, _, hB, h => by
    have h0 : Region.ready md ops listed = [] := List.isEmpty_iff.1 hB
    cases fuel with
    | zero => exact ⟨h0, h⟩
    | succ f => exact ⟨fun _ => h, fun i hi => (by rw [h0] at hi; cases hi)⟩
  | o :: rest, j, listed, a, w, fuel, hl, hf, hB, h => by
    obtain ⟨f, rfl⟩ : ∃ f, fuel = f + 1 := ⟨fuel - 1, by simp at hf; omega⟩
    rw [List.length_cons, Region.seqB, Bool.and_eq_true, decide_eq_true_eq] at hB
    have h0 := hl 0
    rw [Nat.add_zero] at h0
    refine ⟨fun hr => (by rw [hB.1] at hr; cases hr), fun i hi => ?_⟩
    rw [hB.1] at hi
    obtain rfl : i = j := by simpa using hi
    have hw : wpOpIn (fence r) m P ops Q i (wpListIn (fence r) m P ops Q rest) a w := by
      unfold wpOpIn
      rw [← h0]
      exact h
    refine wpOpIn_mono (fun a' w' h' => run_rest rest (i + 1) _ a' w' f (fun t => ?_) (by simp at hf; omega) hB.2 h') hw
    have := hl (t + 1)
    rw [show i + 1 + t = i + (t + 1) by omega, ← this]
    rfl

/-- What the quiet walk says of the end, once nothing but the rest is to come. -/
theorem quiet_end {k : Nat} {l : List Oper} {Q : Act → Prop} : ∀ (g j : Nat) (listed : Array Bool) (a : Act) (fuel : Nat), g ≤ fuel → k ≤ j → Region.seqB md l.toArray g j listed = true →
    wpAnyQ P md (nopped k l).toArray C Q fuel listed a → Q a
  | 0, j, listed, a, fuel, _, _, hB, h => by
    have h0 := ready_nil (k := k) (List.isEmpty_iff.1 hB)
    cases fuel with
    | zero => exact h.2
    | succ f => exact h.1 h0
  | g + 1, j, listed, a, fuel, hf, hj, hB, h => by
    obtain ⟨f, rfl⟩ : ∃ f, fuel = f + 1 := ⟨fuel - 1, by omega⟩
    rw [Region.seqB, Bool.and_eq_true, decide_eq_true_eq] at hB
    have hm : j ∈ Region.ready md l.toArray listed := by rw [hB.1]; simp
    obtain ⟨_, o, ho, _⟩ := mem_ready.1 hm
    rw [List.getElem?_toArray] at ho
    have hq := h.2 j ((ready_nopped k l listed j).2 hm)
    unfold qOp at hq
    rw [List.getElem?_toArray, nopped_high k l j hj, ho] at hq
    have hw : Region.wanted (nop o) (yielded (nopped k l).toArray a.tmps) = true := wanted_of rfl _
    simp only [Option.map_some] at hq
    rw [if_pos hw] at hq
    obtain ⟨v, _, hn⟩ := hq
    exact quiet_end g (j + 1) _ a f (by omega) (by omega) hB.2 hn

/-- The first k have come, and nothing else. -/
def front (k N : Nat) : Array Bool := (List.replicate k true ++ List.replicate (N - k) false).toArray
theorem front_of {k : Nat} {ops : Array Oper} {listed : Array Bool} (hk : k ≤ ops.size) (inv : HeadInv md ops k listed) (h : ¬ ∃ i, i < k ∧ listed.getD i true = false) : listed = front k ops.size := by
  have hs := inv.size
  apply Array.ext
  · rw [hs]
    simp [front]
    omega
  · intro i h1 h2
    have e : listed.getD i true = listed[i] := by simp [h1]
    rcases Nat.lt_or_ge i k with hi | hi
    · have hx : listed.getD i true ≠ false := fun hh => h ⟨i, hi, hh⟩
      rw [e] at hx
      simp [front, hi]
      simpa using hx
    · have hx := inv.tail i hi (by omega)
      rw [e] at hx
      have hi' : ¬ i < k := by omega
      simp [front, List.getElem_append, hi']
      exact hx

def earlierB (l : List Oper) : Bool := (List.range l.length).all fun j => match l[j]? with | some o => o.after.all fun e => decide (e.on < j) | none => true
theorem ready_some {k : Nat} {l : List Oper} {listed : Array Bool} (hk : k ≤ l.length) (hE : earlierB l = true) (inv : HeadInv md l.toArray k listed) (h : ∃ i, i < k ∧ listed.getD i true = false) : Region.ready md l.toArray listed ≠ [] := by
  obtain ⟨i, hi, hu⟩ := h
  induction i using Nat.strongRecOn with
  | _ i ih =>
    have hil : i < l.length := by omega
    by_cases hall : ∀ e ∈ l[i].after, Region.binds md e = true → listed.getD e.on false = true
    · intro h0
      have hm : i ∈ Region.ready md l.toArray listed := mem_ready.2 ⟨hu, l[i], by simp [hil], hall⟩
      rw [h0] at hm
      cases hm
    · simp only [Classical.not_forall] at hall
      obtain ⟨e, he, _, hne⟩ := hall
      have h1 := List.all_eq_true.1 hE i (List.mem_range.2 hil)
      rw [List.getElem?_eq_getElem hil] at h1
      have h2 : e.on < i := by
        have := Array.all_eq_true_iff_forall_mem.1 h1 e he
        simpa using this
      refine ih e.on h2 (by omega) ?_
      have hsz := inv.size
      refine getD_in (by rw [hsz]; simp; omega) ?_
      simpa using hne

theorem any_of_quiet {k : Nat} {l : List Oper} {Qh : Act → Prop} {Q : Exit → Act → World → Prop} (hk : k < l.length) (hE : earlierB l = true) (hP : (l.take k).all plainB = true)
    (hs : Region.sinkB md l.toArray k = true) (hc : Region.chainB md l.toArray k = true) (hB : Region.seqB md l.toArray (l.length - k) k (front k l.length) = true)
    (hQ : ∀ a w, C w → Qh a → wpListIn (fence r) m P l.toArray Q (l.drop k) a w) :
    ∀ (fuel : Nat) (listed : Array Bool) (a : Act) (w : World) (U : List Nat), HeadInv md l.toArray k listed → (∀ i, i < k → listed.getD i true = false → i ∈ U) → U.length + (l.length - k) ≤ fuel → C w →
      wpAnyQ P md (nopped k l).toArray C Qh fuel listed a → wpAnyIn (fence r) m P md l.toArray Q fuel listed a w := by
  intro fuel
  induction fuel with
  | zero => intro listed a w U _ _ hf; omega
  | succ f ih =>
    intro listed a w U inv hU hf hC h
    by_cases hex : ∃ i, i < k ∧ listed.getD i true = false
    · refine ⟨fun h0 => absurd h0 (ready_some (by omega) hE inv hex), fun i hi => ?_⟩
      obtain ⟨i0, hi0, hu0⟩ := hex
      have hik : i < k := by
        rcases Nat.lt_or_ge i k with hlt | hge
        · exact hlt
        · exact absurd hi (tail_waits hs hc (by simpa using hk) inv _ i0 rfl hi0 hu0 i hge)
      have hq := h.2 i ((ready_nopped k l listed i).2 hi)
      have hui := (mem_ready.1 hi).1
      have hil : i < l.length := by omega
      have hp : plainB l[i] = true := List.all_eq_true.1 hP _ (List.mem_iff_getElem?.2 ⟨i, by rw [List.getElem?_take_of_lt hik, List.getElem?_eq_getElem hil]⟩)
      unfold qOp at hq
      rw [List.getElem?_toArray, nopped_low k l i hik, List.getElem?_eq_getElem hil] at hq
      unfold wpOpIn
      rw [List.getElem?_toArray, List.getElem?_eq_getElem hil]
      simp only at hq ⊢
      rw [if_pos (wanted_of (plainB_guard hp) _)] at hq ⊢
      refine wpIn_of_quiet hp hC (fun a' w' hC' hn => ?_) hq
      have hiU := hU i hik hui
      have hlen := List.length_erase_of_mem hiU
      have hpos := List.length_pos_of_mem hiU
      refine ih (listed.setIfInBounds i true) a' w' (U.erase i) (inv.set hi hik) (fun j hj hju => ?_) (by omega) hC' hn
      have hji : j ≠ i := by
        rintro rfl
        have hlt : j < listed.size := by rw [inv.size]; simpa using hil
        simp [hlt] at hju
      rw [getD_set_ne true (Ne.symm hji)] at hju
      exact (List.mem_erase_of_ne hji).2 (hU j hj hju)
    · have he := front_of (by simp; omega) inv hex
      have he' : listed = front k l.length := by simpa using he
      subst he'
      have hg := quiet_end (k := k) (l.length - k) k _ a (f + 1) (by omega) (Nat.le_refl _) hB h
      refine run_rest (l.drop k) k _ a w (f + 1) (fun t => by simp) (by simp; omega) (by simpa using hB) (hQ a w hC hg)

theorem quiet_nops {ops ops' : Array Oper} {Q : Act → Prop} (ns : List Oper) : ∀ (xs : List Oper) (a : Act), xs.all plainB = true → wpQuiet P ops C Q xs a → wpQuiet P ops' C Q (xs ++ ns.map nop) a
  | [], a, _, h => by
    rw [List.nil_append]
    induction ns with
    | nil => exact h
    | cons o ns ih =>
      show wpQuiet P ops' C Q (nop o :: ns.map nop) a
      unfold wpQuiet
      rw [if_pos (wanted_of rfl _)]
      exact BigFrame.quiet_assign (.const undef) rfl ih
  | o :: xs, a, hp, h => by
    rw [List.all_cons, Bool.and_eq_true] at hp
    show wpQuiet P ops' C Q (o :: (xs ++ ns.map nop)) a
    unfold wpQuiet at h ⊢
    rw [if_pos (wanted_of (plainB_guard hp.1) _)] at h ⊢
    exact Oper.quiet_mono (fun a' h' => quiet_nops ns xs a' hp.2 h') h

def headB (k : Nat) (l : List Oper) : Bool :=
  decide (k < l.length) && earlierB l && (l.take k).all plainB && Region.sinkB .any l.toArray k && Region.chainB .any l.toArray k && Region.seqB .any l.toArray (l.length - k) k (front k l.length) && Region.lexB .any (nopped k l).toArray

/-- **The head in the text's order, in any world of the class; then the rest.** -/
theorem wpIn_head {id : Nat} {Q : Exit → Act → World → Prop} {a : Act} {w : World} {l : List Oper} (k : Nat) (hm : P.follows .mixedOrders = true) (hB : headB k l = true) (hC : C { w with drawn := w.drawn + 1 })
    (h : wpQuiet P l.toArray C (fun a' => ∀ w', C w' → wpListIn (fence r) m P l.toArray Q (l.drop k) a' w') (l.take k) a) : (Code.region id l.toArray true).wpIn (fence r) m P Q a w := by
  unfold headB at hB
  simp only [Bool.and_eq_true, decide_eq_true_eq] at hB
  obtain ⟨⟨⟨⟨⟨⟨hk, hE⟩, hP⟩, hs⟩, hc⟩, hsq⟩, hlex⟩ := hB
  unfold Region.lexB at hlex
  rw [Bool.and_eq_true] at hlex
  refine wpIn_region_any hm ?_
  have hq : wpQuiet P (nopped k l).toArray C (fun a' => ∀ w', C w' → wpListIn (fence r) m P l.toArray Q (l.drop k) a' w') (nopped k l) a := quiet_nops (l.drop k) (l.take k) a hP h
  have hlen := nopped_length k l
  have hx := wpAnyQ_lex (C := C) (md := .any) hlex.1 (nopped k l) 0 (Array.replicate (nopped k l).toArray.size false) a (by simp) (by simpa using hlex.2) hq
  refine any_of_quiet (Qh := fun a' => ∀ w', C w' → wpListIn (fence r) m P l.toArray Q (l.drop k) a' w') hk hE hP hs hc hsq (fun a' w' hw' hh => hh w' hw') _ _ _ _ (List.range k)
    ⟨by simp, fun j oj _ hl => (by rw [getD_replicate_false] at hl; cases hl), fun t _ ht => getD_in (by simpa using ht) (getD_replicate_false _ _)⟩ (fun i hi _ => List.mem_range.2 hi) (by rw [List.length_range]; simp; omega) hC ?_
  rw [List.size_toArray, hlen] at hx
  simpa using hx
end
end Go.Proofs.YtfdombfdgpclcaaGreatDoor.Rk

/-
  The same where the rest is one store, and one operation that only computes (its value is asked by none) may come behind it.
-/
namespace Go.Proofs.YtfdombfdgpclcaaGreatDoor.Rk
set_option linter.unusedVariables false
section
variable {P : Program} {C : World → Prop} {r : Option Nat} {m : Nat}

def earlyB (l : List Oper) : Bool := (List.range l.length).all fun j => match l[j]? with | some o => o.after.all fun e => !Region.binds .any e || decide (e.on < j) | none => true
theorem early_spec {l : List Oper} (h : earlyB l = true) {j : Nat} {o : Oper} (ho : l[j]? = some o) (e : Edge) (he : e ∈ o.after) (hb : Region.binds .any e = true) : e.on < j := by
  have hj : j < l.length := (List.getElem?_eq_some_iff.1 ho).1
  have h1 := List.all_eq_true.1 h j (List.mem_range.2 hj)
  rw [ho] at h1
  have := Array.all_eq_true_iff_forall_mem.1 h1 e he
  rw [hb] at this
  simpa using this
/-- Each of the first k, but f, is waited for by one behind it, up to the store. -/
def sinkF (l : List Oper) (k f : Nat) : Bool := (List.range k).all fun i => decide (i = f) || (List.range (k + 1)).any fun j => decide (i < j) && decide (j ≠ f) && Region.waitsFor .any l.toArray j i
def noneB (l : List Oper) (f : Nat) : Bool := (List.range l.length).all fun j => !Region.waitsFor .any l.toArray j f

structure Inv (l : List Oper) (k : Nat) (listed : Array Bool) : Prop where
  size : listed.size = l.length
  closed : ∀ j oj, l[j]? = some oj → listed.getD j false = true → ∀ e ∈ oj.after, Region.binds .any e = true → listed.getD e.on false = true
theorem Inv.set {l : List Oper} {k i : Nat} {listed : Array Bool} (inv : Inv l k listed) (hi : i ∈ Region.ready .any l.toArray listed) : Inv l k (listed.setIfInBounds i true) := by
  obtain ⟨_, oi, hoi, hall⟩ := mem_ready.1 hi
  rw [List.getElem?_toArray] at hoi
  refine ⟨by simp [inv.size], fun j oj hj hl e he hb => ?_⟩
  by_cases hij : i = j
  · subst hij
    have : oj = oi := Option.some.inj (hj.symm.trans hoi)
    subst this
    exact getD_set_true (hall e he hb)
  · rw [getD_set_ne false hij] at hl
    exact getD_set_true (inv.closed j oj hj hl e he hb)
theorem Inv.no {l : List Oper} {k i : Nat} {listed : Array Bool} (inv : Inv l k listed) (h : listed.getD i true = false) : listed.getD i false = false := getD_both h
theorem Inv.yes {l : List Oper} {k i : Nat} {listed : Array Bool} (inv : Inv l k listed) (hi : i < l.length) (h : ¬ listed.getD i true = false) : listed.getD i false = true := by
  have hs : i < listed.size := by rw [inv.size]; exact hi
  have e : listed.getD i true = listed.getD i false := by simp [hs]
  rw [e] at h
  simpa using h
theorem store_waits {l : List Oper} {k f : Nat} {listed : Array Bool} (hk : k < l.length) (hs : sinkF l k f = true) (inv : Inv l k listed) :
    ∀ (d i : Nat), k - i = d → i < k → i ≠ f → listed.getD i true = false → k ∉ Region.ready .any l.toArray listed := by
  intro d
  induction d using Nat.strongRecOn with
  | _ d ih =>
    intro i hd hi hf hun hr
    obtain ⟨_, ok, hok, hall⟩ := mem_ready.1 hr
    have h1 := List.all_eq_true.1 hs i (List.mem_range.2 hi)
    rw [Bool.or_eq_true] at h1
    rcases h1 with h1 | h1
    · exact hf (by simpa using h1)
    · obtain ⟨j, hj, hj2⟩ := List.any_eq_true.1 h1
      simp only [Bool.and_eq_true, decide_eq_true_eq] at hj2
      obtain ⟨⟨hij, hjf⟩, hw⟩ := hj2
      obtain ⟨oj, hoj, e, he, hb, hon⟩ := Region.waitsFor_spec hw
      have hjk : j ≤ k := by have := List.mem_range.1 hj; omega
      by_cases hjk' : j = k
      · subst hjk'
        have : oj = ok := Option.some.inj (hoj.symm.trans hok)
        subst this
        have h2 := hall e he hb
        rw [hon, inv.no hun] at h2
        cases h2
      · by_cases hl : listed.getD j true = false
        · exact ih (k - j) (by omega) j rfl (by omega) hjf hl hr
        · have h2 := inv.closed j oj (by simpa using hoj) (inv.yes (by omega) hl) e he hb
          rw [hon, inv.no hun] at h2
          cases h2
theorem ready_least {l : List Oper} {k : Nat} {listed : Array Bool} (hE : earlyB l = true) (inv : Inv l k listed) (h : ∃ i, i < l.length ∧ listed.getD i true = false) : Region.ready .any l.toArray listed ≠ [] := by
  obtain ⟨i, hi, hu⟩ := h
  induction i using Nat.strongRecOn with
  | _ i ih =>
    by_cases hall : ∀ e ∈ l[i].after, Region.binds .any e = true → listed.getD e.on false = true
    · intro h0
      have hm : i ∈ Region.ready .any l.toArray listed := mem_ready.2 ⟨hu, l[i], by simp [hi], hall⟩
      rw [h0] at hm
      cases hm
    · simp only [Classical.not_forall] at hall
      obtain ⟨e, he, hb, hne⟩ := hall
      have h2 := early_spec hE (List.getElem?_eq_getElem hi) e he hb
      refine ih e.on h2 (by omega) ?_
      refine getD_in (by rw [inv.size]; omega) ?_
      simpa using hne
theorem ready_all {l : List Oper} {listed : Array Bool} (h : ∀ i, i < l.length → ¬ listed.getD i true = false) : Region.ready .any l.toArray listed = [] := by
  refine List.eq_nil_iff_forall_not_mem.2 fun j hj => ?_
  obtain ⟨hu, o, ho, _⟩ := mem_ready.1 hj
  rw [List.getElem?_toArray] at ho
  exact h j (List.getElem?_eq_some_iff.1 ho).1 hu
theorem any_done {ops : Array Oper} {Q : Exit → Act → World → Prop} {listed : Array Bool} {a : Act} {w : World} (h0 : Region.ready .any ops listed = []) (h : Q .normal a w) (fuel : Nat) : wpAnyIn (fence r) m P .any ops Q fuel listed a w := by
  cases fuel with
  | zero => exact ⟨h0, h⟩
  | succ f => exact ⟨fun _ => h, fun i hi => (by rw [h0] at hi; cases hi)⟩
theorem quiet_done {ops : Array Oper} {Q : Act → Prop} {listed : Array Bool} {a : Act} {fuel : Nat} (h0 : Region.ready .any ops listed = []) (h : wpAnyQ P .any ops C Q fuel listed a) : Q a := by
  cases fuel with
  | zero => exact h.2
  | succ f => exact h.1 h0
theorem set_listed {l : List Oper} {k i j : Nat} {listed : Array Bool} (inv : Inv l k listed) (hi : i < l.length) : (listed.setIfInBounds i true).getD j true = false ↔ j ≠ i ∧ listed.getD j true = false := by
  by_cases hij : i = j
  · subst hij
    have hlt : i < listed.size := by rw [inv.size]; exact hi
    simp [hlt]
  · rw [getD_set_ne true hij]
    exact ⟨fun h => ⟨Ne.symm hij, h⟩, fun h => h.2⟩
theorem extract_any {o : Oper} {x : Operand} {n : Nat} (ho : o.op = .extract x n) (a : Act) : (∃ v, ∀ w, (execOp a.eval o).run P w = .ok (.value v) w) ∨ (∀ w, ∃ h w', (execOp a.eval o).run P w = .halt h w') := by
  unfold execOp
  rw [ho]
  simp only [Instr.extract]
  cases a.eval x with
  | tuple vs =>
    cases h : vs[n]? with
    | some v => exact .inl ⟨v, fun w => by simp [h, go_sem]⟩
    | none => exact .inr fun w => ⟨_, _, by simp [h, go_sem]; exact ⟨rfl, rfl⟩⟩
  | _ => exact .inr fun w => ⟨_, _, by simp [go_sem]; exact ⟨rfl, rfl⟩⟩
theorem extract_pure {o : Oper} {x : Operand} {n : Nat} (ho : o.op = .extract x n) (a : Act) {v : Value} {w : World} (h : o.quietAt P a C w v) : ∀ w', (execOp a.eval o).run P w' = .ok (.value v) w' := by
  unfold Oper.quietAt at h
  rcases extract_any (P := P) ho a with ⟨u, hu⟩ | hu
  · rw [hu w] at h
    obtain ⟨_, rfl⟩ := h
    exact hu
  · obtain ⟨hl, w', e⟩ := hu w
    rw [e] at h
    exact h.elim
theorem wpIn_skip_op {o : Oper} {a : Act} {K : Act → World → Prop} {Q : Exit → Act → World → Prop} {w w2 : World} (hp : plainB o = true) (hd : o.dst = none) (hr : (execOp a.eval o).run P w = .ok .skip w2) (h : K a w2) : o.wpIn (fence r) m P a w K Q := by
  refine ⟨fun _ _ => trivial, ?_⟩
  rw [Oper.semAt_eq _ _ _ (plainB_defer hp), hr]
  show K (a.put o.dst undef) w2
  rw [hd]
  exact h
theorem wpIn_value_op {o : Oper} {a : Act} {K : Act → World → Prop} {Q : Exit → Act → World → Prop} {w : World} {v : Value} (hp : plainB o = true) (hr : (execOp a.eval o).run P w = .ok (.value v) w) (h : K (a.put o.dst v) w) : o.wpIn (fence r) m P a w K Q := by
  refine ⟨fun _ _ => trivial, ?_⟩
  rw [Oper.semAt_eq _ _ _ (plainB_defer hp), hr]
  exact h

theorem any_store {l : List Oper} {k f : Nat} {ost ofl : Oper} {x : Operand} {n : Nat} {Qh : Act → Prop} {Q : Exit → Act → World → Prop} (hk : k + 1 = l.length) (hst : l[k]? = some ost) (hfl : l[f]? = some ofl) (hfk : f < k) (hfx : ofl.op = .extract x n) (hdst : ost.dst = none)
    (hP : l.all plainB = true) (hE : earlyB l = true) (hs : sinkF l k f = true) (hsel : Region.noSelect l.toArray = true) (hap : ofl.apart l.toArray ost = true)
    (hQ : ∀ a, Qh a → ∀ w, C w → ∃ w2, (execOp a.eval ost).run P w = .ok .skip w2 ∧ Q .normal a w2) :
    ∀ (fuel : Nat) (listed : Array Bool) (a : Act) (w : World) (U : List Nat), Inv l k listed → listed.getD k true = false → (∀ i, i < k → listed.getD i true = false → i ∈ U) → U.length + 1 ≤ fuel → C w →
      wpAnyQ P .any (nopped k l).toArray C Qh fuel listed a → wpAnyIn (fence r) m P .any l.toArray Q fuel listed a w := by
  intro fuel
  induction fuel with
  | zero => intro listed a w U _ _ _ hf; omega
  | succ g ih =>
    intro listed a w U inv hku hU hf hC h
    have hpl : ∀ i o, l[i]? = some o → plainB o = true := fun i o ho => List.all_eq_true.1 hP o (List.mem_of_getElem? ho)
    refine ⟨fun h0 => absurd h0 (ready_least hE inv ⟨k, by omega, hku⟩), fun i hi => ?_⟩
    obtain ⟨hui, oi, hoi, hdeps⟩ := mem_ready.1 hi
    rw [List.getElem?_toArray] at hoi
    have hil : i < l.length := (List.getElem?_eq_some_iff.1 hoi).1
    have hq := h.2 i ((ready_nopped k l listed i).2 hi)
    by_cases hik : i < k
    · unfold qOp at hq
      rw [List.getElem?_toArray, nopped_low k l i hik, hoi] at hq
      unfold wpOpIn
      rw [List.getElem?_toArray, hoi]
      simp only at hq ⊢
      rw [if_pos (wanted_of (plainB_guard (hpl i oi hoi)) _)] at hq ⊢
      refine wpIn_of_quiet (hpl i oi hoi) hC (fun a' w' hC' hn => ?_) hq
      have hiU := hU i hik hui
      have hlen := List.length_erase_of_mem hiU
      have hpos := List.length_pos_of_mem hiU
      refine ih (listed.setIfInBounds i true) a' w' (U.erase i) (inv.set hi) ((set_listed inv hil).2 ⟨by omega, hku⟩) (fun j hj hju => ?_) (by omega) hC' hn
      obtain ⟨hji, hju'⟩ := (set_listed inv hil).1 hju
      exact (List.mem_erase_of_ne hji).2 (hU j hj hju')
    · obtain rfl : i = k := by omega
      have hoe : oi = ost := Option.some.inj (hoi.symm.trans hst)
      subst hoe
      have hheads : ∀ j, j < i → j ≠ f → ¬ listed.getD j true = false := fun j hj hjf hju => store_waits hil hs inv _ j rfl hj hjf hju hi
      have inv1 := inv.set hi
      have hps := hpl i oi hoi
      -- the nop in the store's place
      unfold qOp at hq
      rw [List.getElem?_toArray, nopped_high i l i (Nat.le_refl _), hoi] at hq
      simp only [Option.map_some] at hq
      rw [if_pos (wanted_of rfl _)] at hq
      obtain ⟨_, _, hn⟩ := hq
      have hn : wpAnyQ P .any (nopped i l).toArray C Qh g (listed.setIfInBounds i true) a := hn
      unfold wpOpIn
      rw [List.getElem?_toArray, hoi]
      simp only
      rw [if_pos (wanted_of (plainB_guard hps) _)]
      by_cases hfu : listed.getD f true = false
      · have hfU := List.length_pos_of_mem (hU f hfk hfu)
        obtain ⟨g', rfl⟩ : ∃ g', g = g' + 1 := ⟨g - 1, by omega⟩
        have hpf := hpl f ofl hfl
        have hfr : f ∈ Region.ready .any l.toArray (listed.setIfInBounds i true) := by
          refine mem_ready.2 ⟨(set_listed inv hil).2 ⟨by omega, hfu⟩, ofl, by simpa using hfl, fun e he hb => ?_⟩
          have hlt := early_spec hE hfl e he hb
          exact getD_set_true (inv.yes (by omega) (hheads e.on (by omega) (by omega)))
        have hqf := hn.2 f ((ready_nopped i l _ f).2 hfr)
        unfold qOp at hqf
        rw [List.getElem?_toArray, nopped_low i l f hfk, hfl] at hqf
        simp only at hqf
        rw [if_pos (wanted_of (plainB_guard hpf) _)] at hqf
        obtain ⟨v, hv, hn2⟩ := hqf
        have hfl2 : f < l.length := by omega
        have inv2 := inv1.set hfr
        have hall : ∀ j, j < l.length → ¬ ((listed.setIfInBounds i true).setIfInBounds f true).getD j true = false := fun j hj hju => by
          obtain ⟨h1, h2⟩ := (set_listed inv1 hfl2).1 hju
          obtain ⟨h3, h4⟩ := (set_listed inv hil).1 h2
          exact hheads j (by omega) h1 h4
        have hready := ready_all hall
        have hQh := quiet_done (ready_nil (k := i) hready) hn2
        obtain ⟨w2, hr, hend⟩ := hQ _ hQh w hC
        obtain ⟨ap1, _, _⟩ := Oper.apart_spec hap
        rw [execOp_put oi (fun cs b => Region.noSelect_spec hsel i oi cs b (by simpa using hoi)) a ofl.dst v ap1] at hr
        refine wpIn_skip_op hps hdst hr ?_
        refine ⟨fun h0 => (by rw [h0] at hfr; cases hfr), fun j hj => ?_⟩
        obtain ⟨hju, oj, hoj, _⟩ := mem_ready.1 hj
        rw [List.getElem?_toArray] at hoj
        have hjl : j < l.length := (List.getElem?_eq_some_iff.1 hoj).1
        obtain ⟨h3, h4⟩ := (set_listed inv hil).1 hju
        obtain rfl : j = f := by
          by_cases hjf : j = f
          · exact hjf
          · exact absurd h4 (hheads j (by omega) hjf)
        have : oj = ofl := Option.some.inj (hoj.symm.trans hfl)
        subst this
        unfold wpOpIn
        rw [List.getElem?_toArray, hoj]
        simp only
        rw [if_pos (wanted_of (plainB_guard hpf) _)]
        exact wpIn_value_op hpf (extract_pure hfx a (hv w hC) w2) (any_done hready hend g')
      · have hall : ∀ j, j < l.length → ¬ (listed.setIfInBounds i true).getD j true = false := fun j hj hju => by
          obtain ⟨h3, h4⟩ := (set_listed inv hil).1 hju
          by_cases hjf : j = f
          · subst hjf; exact hfu h4
          · exact hheads j (by omega) hjf h4
        have hready := ready_all hall
        have hQh := quiet_done (ready_nil (k := i) hready) hn
        obtain ⟨w2, hr, hend⟩ := hQ _ hQh w hC
        exact wpIn_skip_op hps hdst hr (any_done hready hend g)

def storeB (k f : Nat) (l : List Oper) : Bool :=
  decide (k + 1 = l.length) && decide (f < k) && l.all plainB && earlyB l && sinkF l k f && Region.noSelect l.toArray && Region.lexB .any (nopped k l).toArray
/-- **The head in the text's order, in any world of the class; then the store; the operation f, which only computes, whenever.** -/
theorem wpIn_store {id : Nat} {Q : Exit → Act → World → Prop} {a : Act} {w : World} {l : List Oper} (k f : Nat) (ost ofl : Oper) (x : Operand) (n : Nat) (hm : P.follows .mixedOrders = true) (hB : storeB k f l = true)
    (hst : l[k]? = some ost) (hfl : l[f]? = some ofl) (hfx : ofl.op = .extract x n) (hdst : ost.dst = none) (hap : ofl.apart l.toArray ost = true) (hC : C { w with drawn := w.drawn + 1 })
    (h : wpQuiet P l.toArray C (fun a' => ∀ w', C w' → ∃ w2, (execOp a'.eval ost).run P w' = .ok .skip w2 ∧ Q .normal a' w2) (l.take k) a) : (Code.region id l.toArray true).wpIn (fence r) m P Q a w := by
  unfold storeB at hB
  simp only [Bool.and_eq_true, decide_eq_true_eq] at hB
  obtain ⟨⟨⟨⟨⟨⟨hk, hfk⟩, hP⟩, hE⟩, hs⟩, hsel⟩, hlex⟩ := hB
  unfold Region.lexB at hlex
  rw [Bool.and_eq_true] at hlex
  refine wpIn_region_any hm ?_
  have hPk : (l.take k).all plainB = true := List.all_eq_true.2 fun o ho => List.all_eq_true.1 hP o (List.mem_of_mem_take ho)
  have hq := quiet_nops (ops' := (nopped k l).toArray) (l.drop k) (l.take k) a hPk h
  have hlen := nopped_length k l
  have hx := wpAnyQ_lex (C := C) (md := .any) hlex.1 (nopped k l) 0 (Array.replicate (nopped k l).toArray.size false) a (by simp) (by simpa using hlex.2) hq
  rw [List.size_toArray, hlen] at hx
  have hz : ∀ i, i < l.length → (Array.replicate l.toArray.size false).getD i true = false := fun i hi => getD_in (by simpa using hi) (getD_replicate_false _ _)
  refine any_store (Qh := fun a' => ∀ w', C w' → ∃ w2, (execOp a'.eval ost).run P w' = .ok .skip w2 ∧ Q .normal a' w2) hk hst hfl hfk hfx hdst hP hE hs hsel hap (fun a' hh w' hw' => hh w' hw') _ _ _ _ (List.range k)
    ⟨by simp, fun j oj _ hl => (by rw [getD_replicate_false] at hl; cases hl)⟩ (hz k (by omega)) (fun i hi _ => List.mem_range.2 hi) (by rw [List.length_range]; simp; omega) hC ?_
  simpa using hx
end
end Go.Proofs.YtfdombfdgpclcaaGreatDoor.Rk

/-
  A region that draws its order, whose first k operations only read and all come ahead of the rest: the head in the text's order, then the rest in whatever order is left. No program is named here.
-/
namespace Go.Proofs.YtfdombfdgpclcaaGreatDoor.Rk

section
variable {P : Program} {C : World → Prop} {md : Region.Mode} {r : Option Nat} {m : Nat}

/-- Each of the rest but its first waits for one of the rest. -/
def tailB (md : Region.Mode) (ops : Array Oper) (n : Nat) : Bool :=
  (List.range ops.size).all fun t => decide (t ≤ n) || (List.range t).any fun s => decide (n ≤ s) && Region.waitsFor md ops t s
theorem tail_waits' {ops : Array Oper} {n : Nat} {listed : Array Bool} (hs : Region.sinkB md ops n = true) (hc : tailB md ops n = true) (hn : n < ops.size) (inv : HeadInv md ops n listed) :
    ∀ (d i : Nat), n - i = d → i < n → listed.getD i true = false → ∀ t, n ≤ t → t ∉ Region.ready md ops listed := by
  intro d
  induction d using Nat.strongRecOn with
  | _ d ih =>
    intro i hd hi hun t ht hr
    obtain ⟨_, ot, hot, hall⟩ := mem_ready.1 hr
    have htlt : t < ops.size := (Array.getElem?_eq_some_iff.1 hot).1
    by_cases htn : t = n
    · subst htn
      have h1 := List.all_eq_true.1 hs i (List.mem_range.2 hi)
      obtain ⟨j, hj, hj2⟩ := List.any_eq_true.1 h1
      simp only [Bool.and_eq_true, decide_eq_true_eq] at hj2
      obtain ⟨oj, hoj, e, he, hb, hon⟩ := Region.waitsFor_spec hj2.2
      have hjle : j ≤ t := by have := List.mem_range.1 hj; omega
      by_cases hjt : j = t
      · subst hjt
        have : oj = ot := Option.some.inj (hoj.symm.trans hot)
        subst this
        have h2 := hall e he hb
        rw [hon, getD_both hun] at h2
        cases h2
      · cases hl : listed.getD j false with
        | true =>
          have h2 := inv.closed j oj hoj hl e he hb
          rw [hon, getD_both hun] at h2
          cases h2
        | false =>
          have hjs : j < listed.size := by rw [inv.size]; omega
          exact ih (t - j) (by omega) j rfl (by omega) (getD_in hjs hl) t (Nat.le_refl _) hr
    · have h1 := List.all_eq_true.1 hc t (List.mem_range.2 htlt)
      simp only [Bool.or_eq_true, decide_eq_true_eq] at h1
      rcases h1 with h1 | h1
      · omega
      · obtain ⟨s, hs1, hs2⟩ := List.any_eq_true.1 h1
        simp only [Bool.and_eq_true, decide_eq_true_eq] at hs2
        obtain ⟨o', ho', e, he, hb, hon⟩ := Region.waitsFor_spec hs2.2
        have hst := List.mem_range.1 hs1
        have : o' = ot := Option.some.inj (ho'.symm.trans hot)
        subst this
        have h2 := hall e he hb
        rw [hon, getD_both (inv.tail s hs2.1 (by omega))] at h2
        cases h2
def earlierK (k : Nat) (l : List Oper) : Bool := (List.range k).all fun j => match l[j]? with | some o => o.after.all fun e => decide (e.on < j) | none => true
theorem ready_some' {k : Nat} {l : List Oper} {listed : Array Bool} (hk : k ≤ l.length) (hE : earlierK k l = true) (inv : HeadInv md l.toArray k listed) (h : ∃ i, i < k ∧ listed.getD i true = false) : Region.ready md l.toArray listed ≠ [] := by
  obtain ⟨i, hi, hu⟩ := h
  induction i using Nat.strongRecOn with
  | _ i ih =>
    have hil : i < l.length := by omega
    by_cases hall : ∀ e ∈ l[i].after, Region.binds md e = true → listed.getD e.on false = true
    · intro h0
      have hm : i ∈ Region.ready md l.toArray listed := mem_ready.2 ⟨hu, l[i], by simp [hil], hall⟩
      rw [h0] at hm
      cases hm
    · simp only [Classical.not_forall] at hall
      obtain ⟨e, he, _, hne⟩ := hall
      have h1 := List.all_eq_true.1 hE i (List.mem_range.2 hi)
      rw [List.getElem?_eq_getElem hil] at h1
      have h2 : e.on < i := by
        have := Array.all_eq_true_iff_forall_mem.1 h1 e he
        simpa using this
      refine ih e.on h2 (by omega) ?_
      have hsz := inv.size
      refine getD_in (by rw [hsz]; simp; omega) ?_
      simpa using hne
/-- What the quiet walk says of the end, once the head is over. -/
theorem quiet_end' {k : Nat} {l : List Oper} {Q : Act → Prop} : ∀ (fuel : Nat) (listed : Array Bool) (a : Act), (∀ i, i < k → listed.getD i true = true) →
    wpAnyQ P md (nopped k l).toArray C Q fuel listed a → Q a
  | 0, _, _, _, h => h.2
  | f + 1, listed, a, hf, h => by
    cases hr : Region.ready md (nopped k l).toArray listed with
    | nil => exact h.1 hr
    | cons i rest =>
      have hi : i ∈ Region.ready md (nopped k l).toArray listed := by rw [hr]; simp
      obtain ⟨hun, o, ho, _⟩ := mem_ready.1 hi
      have hki : k ≤ i := by
        rcases Nat.lt_or_ge i k with hlt | hge
        · rw [hf i hlt] at hun; cases hun
        · exact hge
      have hq := h.2 i hi
      unfold qOp at hq
      rw [ho] at hq
      rw [List.getElem?_toArray, nopped_high k l i hki] at ho
      cases hl : l[i]? with
      | none => rw [hl] at ho; cases ho
      | some o' =>
        rw [hl] at ho
        injection ho with ho
        subst ho
        have hw : Region.wanted (nop o') (yielded (nopped k l).toArray a.tmps) = true := wanted_of rfl _
        simp only at hq
        rw [if_pos hw] at hq
        obtain ⟨v, _, hn⟩ := hq
        refine quiet_end' f _ a (fun j hj => ?_) hn
        by_cases e : i = j
        · subst e; omega
        · rw [getD_set_ne true e]; exact hf j hj
theorem any_of_quiet' {k : Nat} {l : List Oper} {Qh : Act → Prop} {Q : Exit → Act → World → Prop} (hk : k < l.length) (hE : earlierK k l = true) (hP : (l.take k).all plainB = true)
    (hs : Region.sinkB md l.toArray k = true) (hc : tailB md l.toArray k = true)
    (hQ : ∀ a w fuel, C w → Qh a → l.length - k ≤ fuel → wpAnyIn (fence r) m P md l.toArray Q fuel (front k l.length) a w) :
    ∀ (fuel : Nat) (listed : Array Bool) (a : Act) (w : World) (U : List Nat), HeadInv md l.toArray k listed → (∀ i, i < k → listed.getD i true = false → i ∈ U) → U.length + (l.length - k) ≤ fuel → C w →
      wpAnyQ P md (nopped k l).toArray C Qh fuel listed a → wpAnyIn (fence r) m P md l.toArray Q fuel listed a w := by
  intro fuel
  induction fuel with
  | zero => intro listed a w U _ _ hf; omega
  | succ f ih =>
    intro listed a w U inv hU hf hC h
    by_cases hex : ∃ i, i < k ∧ listed.getD i true = false
    · refine ⟨fun h0 => absurd h0 (ready_some' (by omega) hE inv hex), fun i hi => ?_⟩
      obtain ⟨i0, hi0, hu0⟩ := hex
      have hik : i < k := by
        rcases Nat.lt_or_ge i k with hlt | hge
        · exact hlt
        · exact absurd hi (tail_waits' hs hc (by simpa using hk) inv _ i0 rfl hi0 hu0 i hge)
      have hq := h.2 i ((ready_nopped k l listed i).2 hi)
      have hui := (mem_ready.1 hi).1
      have hil : i < l.length := by omega
      have hp : plainB l[i] = true := List.all_eq_true.1 hP _ (List.mem_iff_getElem?.2 ⟨i, by rw [List.getElem?_take_of_lt hik, List.getElem?_eq_getElem hil]⟩)
      unfold qOp at hq
      rw [List.getElem?_toArray, nopped_low k l i hik, List.getElem?_eq_getElem hil] at hq
      unfold wpOpIn
      rw [List.getElem?_toArray, List.getElem?_eq_getElem hil]
      simp only at hq ⊢
      rw [if_pos (wanted_of (plainB_guard hp) _)] at hq ⊢
      refine wpIn_of_quiet hp hC (fun a' w' hC' hn => ?_) hq
      have hiU := hU i hik hui
      have hlen := List.length_erase_of_mem hiU
      have hpos := List.length_pos_of_mem hiU
      refine ih (listed.setIfInBounds i true) a' w' (U.erase i) (inv.set hi hik) (fun j hj hju => ?_) (by omega) hC' hn
      have hji : j ≠ i := by
        rintro rfl
        have hlt : j < listed.size := by rw [inv.size]; simpa using hil
        simp [hlt] at hju
      rw [getD_set_ne true (Ne.symm hji)] at hju
      exact (List.mem_erase_of_ne hji).2 (hU j hj hju)
    · have he := front_of (by simp; omega) inv hex
      have he' : listed = front k l.length := by simpa using he
      have hfull : ∀ i, i < k → listed.getD i true = true := fun i hi => by
        cases hx : listed.getD i true with
        | true => rfl
        | false => exact absurd ⟨i, hi, hx⟩ hex
      have hg := quiet_end' (k := k) (f + 1) listed a hfull h
      subst he'
      exact hQ a w (f + 1) hC hg (by omega)
def headAnyB (k : Nat) (l : List Oper) : Bool :=
  decide (k < l.length) && earlierK k l && (l.take k).all plainB && Region.sinkB .any l.toArray k && tailB .any l.toArray k && Region.lexB .any (nopped k l).toArray

/-- **The head in the text's order, in any world of the class; then the rest, in whatever order.** -/
theorem wpIn_headAny {id : Nat} {Q : Exit → Act → World → Prop} {a : Act} {w : World} {l : List Oper} (k : Nat) (hm : P.follows .mixedOrders = true) (hB : headAnyB k l = true) (hC : C { w with drawn := w.drawn + 1 })
    (h : wpQuiet P l.toArray C (fun a' => ∀ w', C w' → ∀ fuel, l.length - k ≤ fuel → wpAnyIn (fence r) m P .any l.toArray Q fuel (front k l.length) a' w') (l.take k) a) : (Code.region id l.toArray true).wpIn (fence r) m P Q a w := by
  unfold headAnyB at hB
  simp only [Bool.and_eq_true, decide_eq_true_eq] at hB
  obtain ⟨⟨⟨⟨⟨hk, hE⟩, hP⟩, hs⟩, hc⟩, hlex⟩ := hB
  unfold Region.lexB at hlex
  rw [Bool.and_eq_true] at hlex
  refine wpIn_region_any hm ?_
  have hq : wpQuiet P (nopped k l).toArray C (fun a' => ∀ w', C w' → ∀ fuel, l.length - k ≤ fuel → wpAnyIn (fence r) m P .any l.toArray Q fuel (front k l.length) a' w') (nopped k l) a := quiet_nops (l.drop k) (l.take k) a hP h
  have hlen := nopped_length k l
  have hx := wpAnyQ_lex (C := C) (md := .any) hlex.1 (nopped k l) 0 (Array.replicate (nopped k l).toArray.size false) a (by simp) (by simpa using hlex.2) hq
  refine any_of_quiet' (Qh := fun a' => ∀ w', C w' → ∀ fuel, l.length - k ≤ fuel → wpAnyIn (fence r) m P .any l.toArray Q fuel (front k l.length) a' w') hk hE hP hs hc (fun a' w' fuel hw' hh hf => hh w' hw' fuel hf) _ _ _ _ (List.range k)
    ⟨by simp, fun j oj _ hl => (by rw [getD_replicate_false] at hl; cases hl), fun t _ ht => getD_in (by simpa using ht) (getD_replicate_false _ _)⟩ (fun i hi _ => List.mem_range.2 hi) (by rw [List.length_range]; simp; omega) hC ?_
  rw [List.size_toArray, hlen] at hx
  simpa using hx
end
end Go.Proofs.YtfdombfdgpclcaaGreatDoor.Rk

/-
  The bounds of numbers that came in.
-/
namespace Go.Proofs.YtfdombfdgpclcaaGreatDoor.Ar
open Go.RowKit

theorem u64_of_wf {n : Int} (h : (Lit.int .u64 n).wf = true) : 0 ≤ n ∧ n < 18446744073709551616 := by
  simp [Lit.wf, IntKind.min, IntKind.max, IntKind.signed, IntKind.bits] at h
  omega
theorem i64_of_wf {n : Int} (h : (Lit.int .i64 n).wf = true) : -9223372036854775808 ≤ n ∧ n ≤ 9223372036854775807 := by
  simp [Lit.wf, IntKind.min, IntKind.max, IntKind.signed, IntKind.bits] at h
  omega
end Go.Proofs.YtfdombfdgpclcaaGreatDoor.Ar

/-
  How an argument that is a row of words reads.
-/
namespace Go.Proofs.YtfdombfdgpclcaaGreatDoor.Ar
open Go.RowKit Go.ChangeShapes Go.WideShapes

section
variable {H : Type} {enc : TypeId × Value → H} {w : World} {base : Nat} {spare : Nat → Bool} {held : Bool} {fuel : Nat}
/-- A row of words that came in. -/
theorem words_of {A : Option Addr} {len cap : Nat} {x : DataW H × List MemPlace} (h : DataW.trod enc Tryz.prog w base spare held fuel 91 (Value.cells (.slice A len cap)).toList = some x) :
    ∃ l : List Int, l.length = len ∧ len ≤ cap ∧ cap ≤ maxLen ∧ Seen w A l ∧ ∀ v ∈ l, 0 ≤ v ∧ v < 18446744073709551616 := by
  rcases open_ints Tryz.underlying91 Tryz.underlying34 (by kernel_rfl) h with ⟨hcs, _⟩ | ⟨a, l, c, zs, hcs, _, hl, hm, hz, _, hcell, hwz⟩
  · simp [Value.cells] at hcs
    obtain ⟨rfl, rfl, rfl⟩ := hcs
    exact ⟨[], rfl, Nat.le_refl _, by unfold maxLen; omega, fun hne => absurd rfl hne, fun v hv => by cases hv⟩
  · simp [Value.cells] at hcs
    obtain ⟨rfl, rfl, rfl⟩ := hcs
    have hzl : len ≤ zs.length := by rw [hz]; split <;> omega
    refine ⟨zs.take len, by rw [List.length_take]; omega, hl, hm, fun hne => ?_, fun v hv => u64_of_wf (hwz v (List.mem_of_mem_take hv))⟩
    have h0 : 0 < len := by
      rcases Nat.eq_zero_or_pos len with h | h
      · subst h; exact absurd (by simp) hne
      · exact h
    have hc := hcell 0 (by omega)
    obtain ⟨g, f, s⟩ := a
    have hs : s = none := by simpa [Addr.add] using World.cell?_spot hc
    subst hs
    refine ⟨g, f, rfl, by simpa [Addr.add] using World.block_lt_of_cell? w _ hc, fun j v hv => ?_⟩
    unfold ints at hv
    rw [List.getElem?_map, List.getElem?_take] at hv
    by_cases hj : j < len
    · rw [if_pos hj, List.getElem?_eq_getElem (by omega)] at hv
      have hcj := hcell j (by omega)
      rw [add_at] at hcj
      rw [hcj]
      simpa [List.getD, List.getElem?_eq_getElem (show j < zs.length by omega)] using hv
    · rw [if_neg hj] at hv
      cases hv
end
end Go.Proofs.YtfdombfdgpclcaaGreatDoor.Ar
