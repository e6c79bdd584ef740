/-
  What a round of a loop over a vector's pieces keeps, and which pieces come.
-/
import Derived.Test.YtijlaganpnoefaaDoorBtMem
import Derived.Test.YtijlaganpnoefaaDoorRoundKit
import Derived.RangeFuncNested
import Derived.RangeFuncLeaves
import Derived.RangeFuncBound
import Derived.RangeFuncCalls
namespace Go.Proofs.YtijlaganpnoefaaDoor.Bt
open Go.RowKit Go.Proofs.YtijlaganpnoefaaDoor.Ar Go.Proofs.YtijlaganpnoefaaDoor.Wd
set_option linter.unusedVariables false

/-- Whatever is cells, and not in S, lies as it lay. -/
structure CellsKept (S : List Nat) (W W' : World) : Prop where
  size : W.heap.size ≤ W'.heap.size
  same : ∀ k o, k ∉ S → W.heap[k]? = some o → o.isCells = true → W'.heap[k]? = some o
namespace CellsKept
theorem trans {S : List Nat} {A B C : World} (h : CellsKept S A B) (k : CellsKept S B C) : CellsKept S A C :=
  ⟨Nat.le_trans h.size k.size, fun i o hi ho hc => k.same i o hi (h.same i o hi ho hc) hc⟩
theorem of_kept {S : List Nat} {A B : World} (h : Kept S A B) : CellsKept S A B :=
  ⟨h.more, fun i o hi ho _ => (h.old i (Array.getElem?_eq_some_iff.1 ho).1 hi).trans ho⟩
theorem put {S : List Nat} (W : World) (l : Nat) (o o' : Obj) (h : W.heap[l]? = some o) (hc : o.isCells = false) : CellsKept S W (W.putObj l o') :=
  ⟨(grownBy_putObj' W l o').size, fun i x _ hx hxc => by
    have hne : i ≠ l := by rintro rfl; rw [h] at hx; injection hx with hx; rw [hx, hxc] at hc; cases hc
    exact ((grownBy_putObj' W l o').block i (Array.getElem?_eq_some_iff.1 hx).1 (fun e => hne (by injection e))).trans hx⟩
theorem has {S : List Nat} {W W' : World} (h : CellsKept S W W') {b : Nat} {t : TypeId} {cs : List Value} (hb : b ∉ S) (hh : Has W b t cs) : Has W' b t cs := h.same b _ hb hh rfl
end CellsKept
/-- What a round that goes on keeps: cells that are not in S; the words' block is words still. -/
def Keeps (G : List Int → Prop) (S : List Nat) (q : Nat) (W W' : World) : Prop :=
  CellsKept S W W' ∧ ((∃ ws, G ws ∧ Has W q 81 (ints ws)) → ∃ ws, G ws ∧ Has W' q 81 (ints ws))
theorem Keeps.trans {G : List Int → Prop} {S : List Nat} {q : Nat} {A B C : World} (h : Keeps G S q A B) (k : Keeps G S q B C) : Keeps G S q A C := ⟨h.1.trans k.1, fun x => k.2 (h.2 x)⟩
theorem Keeps.put {G : List Int → Prop} {S : List Nat} {q : Nat} (W : World) (l : Nat) (o o' : Obj) (h : W.heap[l]? = some o) (hc : o.isCells = false) : Keeps G S q W (W.putObj l o') :=
  ⟨CellsKept.put W l o o' h hc, fun ⟨ws, hG, hq⟩ => ⟨ws, hG, (CellsKept.put (S := []) W l o o' h hc).has (by simp) hq⟩⟩
/-- Where the words' block is not in S. -/
theorem Keeps.of {G : List Int → Prop} {S : List Nat} {q : Nat} {W W' : World} (h : CellsKept S W W') (hq : q ∉ S) : Keeps G S q W W' := ⟨h, fun ⟨ws, hG, hh⟩ => ⟨ws, hG, h.has hq hh⟩⟩
/-- A caller's word on what it has kept abides the loop's book-keeping. -/
theorem own_kept {β : Type} {S : List Nat} {w0 : World} {B : Nat} (hB : w0.heap.size ≤ B) : OwnFrom B (fun (_ : β) W => Kept S w0 W) :=
  fun _ X Y row hs hg hr => hs.grown hg fun g e => .inr (Nat.le_trans hB (hr g e).1)
theorem own_has {β : Type} {B b : Nat} {t : TypeId} {f : β → List Value} : OwnFrom B (fun s W => Has W b t (f s)) :=
  fun s X Y row hs hg hr => (hg.block b (Has.lt hs) fun e => by
    obtain ⟨_, o, ho, hc⟩ := hr b e.symm
    have hs' : X.heap[b]? = some (.cells (f s).toArray t (0, 0)) := hs
    rw [ho] at hs'
    injection hs' with hs'
    subst hs'
    cases hc).trans hs
theorem keepsFrom_of {S : List Nat} {B : Nat} {W W' : World} (h : Kept S W W') (hS : ∀ b ∈ S, ∃ t cs, Has W b t cs) : KeepsFrom B W W' :=
  ⟨h.more, fun k o _ ho hc => (h.old k (Array.getElem?_eq_some_iff.1 ho).1 fun hk => by
    obtain ⟨t, cs, hh⟩ := hS k hk
    unfold Has at hh
    rw [ho] at hh
    injection hh with hh
    subst hh
    cases hc).trans ho⟩

/-- A piece: which word, from which bit on, how many; and its bits. -/
structure Pc where
  k : Nat
  a : Nat
  n : Nat
  v : Nat
def Pc.ok (nw : Nat) (x : Pc) : Prop := 1 ≤ x.n ∧ x.a + x.n ≤ 64 ∧ x.k < nw ∧ x.v < 18446744073709551616
abbrev Pcs (nw : Nat) := { x : Pc // x.ok nw }
def encs {nw : Nat} (x : Pcs nw) : Array Value := #[pieceV x.1.k x.1.a x.1.n, .int .u64 ((x.1.v : Nat) : Int)]
/-- The piece from the bit s on, below e. -/
def isAt (G : List Int → Prop) (e s : Nat) (x : Pc) : Prop :=
  x.k = s / 64 ∧ x.a = s % 64 ∧ x.n = min (64 - s % 64) (e - s) ∧ ∃ ws, G ws ∧ x.v = fld (ws.getD (s / 64) 0).toNat x.a x.n
def Goes (G : List Int → Prop) (e : Nat) {nw : Nat} : Nat → List (Pcs nw) → Nat → Prop
  | s, [], t => t = s
  | s, x :: xs, t => s < e ∧ isAt G e s x.1 ∧ Goes G e (s + x.1.n) xs t
theorem Goes.snoc {G : List Int → Prop} {e nw : Nat} {x : Pcs nw} : ∀ {xs : List (Pcs nw)} {s t : Nat}, Goes G e s xs t → t < e → isAt G e t x.1 → Goes G e s (xs ++ [x]) (t + x.1.n)
  | [], s, t, h, ht, hx => by
    have h' : t = s := h
    subst h'
    exact ⟨ht, hx, rfl⟩
  | y :: ys, s, t, ⟨h1, h2, h3⟩, ht, hx => ⟨h1, h2, Goes.snoc h3 ht hx⟩
theorem Goes.length {G : List Int → Prop} {e nw : Nat} : ∀ {xs : List (Pcs nw)} {s t : Nat}, Goes G e s xs t → xs.length + s ≤ t
  | [], s, t, h => by
    have h' : t = s := h
    simp
    omega
  | y :: ys, s, t, ⟨h1, h2, h3⟩ => by
    have := Goes.length h3
    have := y.2.1
    rw [List.length_cons]
    omega
theorem Goes.le {G : List Int → Prop} {e nw : Nat} : ∀ {xs : List (Pcs nw)} {s t : Nat}, Goes G e s xs t → s ≤ e → t ≤ e
  | [], s, t, h, hs => by
    have h' : t = s := h
    omega
  | y :: ys, s, t, ⟨h1, ⟨_, _, h4, _⟩, h3⟩, hs => Goes.le h3 (by omega)

/-- What the loop reads: the vector, and the boxes that its function has captured. -/
structure Reads (G : List Int → Prop) (W : World) (p q N bi be bb i e : Nat) : Prop where
  head : Has W p 68 [.int .i64 (N : Int), .slice (some ⟨q, 0, none⟩) ((N + 63) / 64) 1024]
  row : ∃ ws, G ws ∧ Has W q 81 (ints ws)
  from' : Has W bi 3 [.int .i64 (i : Int)]
  below : Has W be 3 [.int .i64 (e : Int)]
  vec : Has W bb 47 [.pointer (some ⟨p, 0, none⟩)]
theorem Reads.keep0 {G : List Int → Prop} {W W' : World} {p q N bi be bb i e : Nat} (h : Reads G W p q N bi be bb i e) (k : Kept [] W W') : Reads G W' p q N bi be bb i e :=
  ⟨h.head.keep0 k, let ⟨ws, hG, hq⟩ := h.row; ⟨ws, hG, hq.keep0 k⟩, h.from'.keep0 k, h.below.keep0 k, h.vec.keep0 k⟩
theorem Reads.kept {G : List Int → Prop} {S : List Nat} {W W' : World} {p q N bi be bb i e : Nat} (h : Reads G W p q N bi be bb i e) (k : Keeps G S q W W') (h1 : p ∉ S) (h2 : bi ∉ S) (h3 : be ∉ S) (h4 : bb ∉ S) : Reads G W' p q N bi be bb i e :=
  ⟨k.1.has h1 h.head, k.2 h.row, k.1.has h2 h.from', k.1.has h3 h.below, k.1.has h4 h.vec⟩
def Good (G : List Int → Prop) : Prop := ∀ ws, G ws → ws.length = 1024 ∧ ∀ j, 0 ≤ ws.getD j 0 ∧ ws.getD j 0 < 18446744073709551616
end Go.Proofs.YtijlaganpnoefaaDoor.Bt
