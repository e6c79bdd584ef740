/-
  Rows of types ([]api.Type): as cells of a block, as a slice that is seen, as one that was made by appends; append as a law, in a plain region and in one that draws its order.
-/
import Derived.Test.YtflcnpmampaamaaDoorProg
import Derived.Test.YtflcnpmampaamaaDoorMem
import Derived.Test.YtflcnpmampaamaaDoorOwnRow
import Derived.WalkKit
import Derived.Maps.AppendAt
import Derived.Laws.AppendOwnNone
import Derived.OwnWalk
import Derived.Deep.AppendLies
namespace Go.Proofs.YtflcnpmampaamaaDoor.Tb
open Go.RowKit Go.Proofs.YtflcnpmampaamaaDoor.Ar
set_option linter.unusedVariables false

/-- A type: Kind, Words, Mask. -/
structure Ty where
  k : Nat
  wd : Int
  ms : Nat
theorem Ty.ext {a b : Ty} (h0 : a.k = b.k) (h1 : a.wd = b.wd) (h2 : a.ms = b.ms) : a = b := by
  cases a; cases b; simp only at h0 h1 h2; subst h0 h1 h2; rfl
instance : DecidableEq Ty := fun a b => decidable_of_iff (a.k = b.k ∧ a.wd = b.wd ∧ a.ms = b.ms) ⟨fun ⟨h0, h1, h2⟩ => Ty.ext h0 h1 h2, fun h => by subst h; exact ⟨rfl, rfl, rfl⟩⟩
def Ty.ok (x : Ty) : Prop := x.k < 256 ∧ x.ms < 18446744073709551616
def Ty.val (x : Ty) : Value := .agg #[.int .u8 (x.k : Int), .int .i64 x.wd, .int .u64 (x.ms : Int)]
def Ty.zero : Ty := ⟨0, 0, 0⟩
/-- A list of types as cells: three each. -/
def tyCells : List Ty → List Value
  | [] => []
  | x :: l => .int .u8 (x.k : Int) :: .int .i64 x.wd :: .int .u64 (x.ms : Int) :: tyCells l
theorem tyCells_length : ∀ l : List Ty, (tyCells l).length = l.length * 3
  | [] => rfl
  | x :: l => by
    show (tyCells l).length + 1 + 1 + 1 = (l.length + 1) * 3
    rw [tyCells_length l]
    omega
theorem tyCells_append : ∀ (a b : List Ty), tyCells (a ++ b) = tyCells a ++ tyCells b
  | [], b => rfl
  | x :: a, b => by
    show _ :: _ :: _ :: tyCells (a ++ b) = _ :: _ :: _ :: (tyCells a ++ tyCells b)
    rw [tyCells_append a b]
theorem tyCells_get : ∀ (l : List Ty) (i : Nat), i < l.length → (tyCells l)[i * 3]? = some (.int .u8 ((l.getD i Ty.zero).k : Int)) ∧ (tyCells l)[i * 3 + 1]? = some (.int .i64 (l.getD i Ty.zero).wd) ∧ (tyCells l)[i * 3 + 2]? = some (.int .u64 ((l.getD i Ty.zero).ms : Int))
  | [], i, h => absurd h (by simp)
  | x :: l, 0, _ => ⟨rfl, rfl, rfl⟩
  | x :: l, i + 1, h => by
    have := tyCells_get l i (by simpa using h)
    rw [show (i + 1) * 3 = i * 3 + 1 + 1 + 1 by omega]
    exact this
theorem tyCells_one (l : List Ty) : ∀ v ∈ tyCells l, v.oneCell' = true := by
  induction l with
  | nil => intro v hv; cases hv
  | cons x l ih =>
    intro v hv
    rcases List.mem_cons.1 hv with rfl | hv
    · rfl
    · rcases List.mem_cons.1 hv with rfl | hv
      · rfl
      · rcases List.mem_cons.1 hv with rfl | hv
        · rfl
        · exact ih v hv
theorem info_type : (Tryd.prog.info? 58).map (fun i => (i.zero, i.size, i.bytes)) = some (some (.agg #[.int .u8 0, .int .i64 0, .int .u64 0]), 3, 24) := by kernel_rfl
/-- A slice of types that reads as a list: an empty one has whatever address. -/
def Seen (w : World) (A : Option Addr) (l : List Ty) : Prop := l ≠ [] → ∃ g f, A = some ⟨g, f, none⟩ ∧ g < w.heap.size ∧ ∀ j v, (tyCells l)[j]? = some v → w.cell? ⟨g, f + j, none⟩ = some v
theorem Seen.nil (w : World) (A : Option Addr) : Seen w A [] := fun h => absurd rfl h
theorem Seen.keep {w w' : World} {A : Option Addr} {l : List Ty} (h : Seen w A l) (hk : ∀ g f, A = some ⟨g, f, none⟩ → g < w.heap.size → w'.heap[g]? = w.heap[g]?) (hs : w.heap.size ≤ w'.heap.size) : Seen w' A l := by
  intro hl
  obtain ⟨g, f, e, hg, hc⟩ := h hl
  exact ⟨g, f, e, by omega, fun j v hv => (World.cell?_of_block (w := w) (hk g f e hg)).trans (hc j v hv)⟩
theorem Seen.keep0 {w w' : World} {A : Option Addr} {l : List Ty} (h : Seen w A l) (k : Kept [] w w') : Seen w' A l :=
  h.keep (fun g f _ hg => k.old g hg (by simp)) k.more
/-- The three cells of a type in the row, in whatever later world. -/
theorem Seen.at {w : World} {A : Option Addr} {l : List Ty} (h : Seen w A l) (i : Nat) (hi : i < l.length) (x : Ty) (hx : x = l.getD i Ty.zero) : ∃ g f, A = some ⟨g, f, none⟩ ∧ g < w.heap.size ∧
    ∀ y, Kept [] w y → y.cell? ⟨g, f + i * 3, none⟩ = some (.int .u8 (x.k : Int)) ∧ y.cell? ⟨g, f + i * 3 + 1, none⟩ = some (.int .i64 x.wd) ∧ y.cell? ⟨g, f + i * 3 + 2, none⟩ = some (.int .u64 (x.ms : Int)) := by
  obtain ⟨g, f, e, hg, hc⟩ := h (by rintro rfl; simp at hi)
  refine ⟨g, f, e, hg, fun y k => ?_⟩
  obtain ⟨c0, c1, c2⟩ := tyCells_get l i hi
  have hb : y.heap[g]? = w.heap[g]? := k.old g hg (by simp)
  subst hx
  exact ⟨(World.cell?_of_block (w := w) hb).trans (hc _ _ c0), (World.cell?_of_block (w := w) hb).trans (hc _ _ c1), (World.cell?_of_block (w := w) hb).trans (hc _ _ c2)⟩
theorem seen_one {w : World} {b : Nat} {t : TypeId} {x : Ty} (h : Has w b t [.int .u8 (x.k : Int), .int .i64 x.wd, .int .u64 (x.ms : Int)]) : Seen w (some ⟨b, 0, none⟩) [x] :=
  fun _ => ⟨b, 0, rfl, h.lt, fun j v hv => by rw [h.cell, Nat.zero_add]; exact hv⟩
/-- A slice value that was made by appends alone, with these types. -/
def Own (w : World) (v : Value) (l : List Ty) : Prop := w.ownsRow 0 58 3 v l.length (tyCells l)
theorem Own.nil (w : World) : Own w (.slice none 0 0) [] := World.ownsRow_nil w 0 _ 3
theorem Own.form {w : World} {v : Value} {l : List Ty} (h : Own w v l) : (v = .slice none 0 0 ∧ l = []) ∨ ∃ g cap, v = .slice (some ⟨g, 0, none⟩) l.length cap ∧ g < w.heap.size ∧ l.length ≤ cap ∧ cap ≤ maxLen := by
  rcases h.2 with ⟨rfl, h0⟩ | ⟨g, cap, cur, rfl, _, hg, hc, hm, _⟩
  · exact .inl ⟨rfl, List.eq_nil_of_length_eq_zero h0⟩
  · exact .inr ⟨g, cap, rfl, (Array.getElem?_eq_some_iff.1 hg).1, hc, hm⟩
theorem Own.cell {w : World} {g n cap : Nat} {l : List Ty} (h : Own w (.slice (some ⟨g, 0, none⟩) n cap) l) : ∀ j v, (tyCells l)[j]? = some v → w.cell? ⟨g, j, none⟩ = some v := by
  intro j v hv
  rcases h.2 with ⟨h1, _⟩ | ⟨g', cap', cur, h1, _, hg, _, _, _, ht⟩
  · cases h1
  · injection h1 with h1 h2 h3
    injection h1 with h1
    injection h1 with h1
    subst h1
    rw [cell_of_row w g j cur _ (0, 0) hg, ← Array.getElem?_toList]
    rw [← ht, List.getElem?_take] at hv
    split at hv
    · exact hv
    · cases hv
theorem Own.seen {w : World} {A : Option Addr} {n cap : Nat} {l : List Ty} (h : Own w (.slice A n cap) l) : Seen w A l := by
  intro hl
  rcases h.form with ⟨_, e⟩ | ⟨g, c, e, hg, _⟩
  · exact absurd e hl
  · injection e with e1 e2 e3
    subst e1
    exact ⟨g, 0, rfl, hg, fun j v hv => by rw [Nat.zero_add]; exact Own.cell h j v hv⟩
theorem Own.keep {w w' : World} {v : Value} {l : List Ty} {row : Option Nat} (h : Own w v l) (hg : w.grownBy w' row) (hne : v.ownBlock = none ∨ v.ownBlock ≠ row) : Own w' v l := World.ownsRow.kept h hg hne
theorem Own.kept {w w' : World} {v : Value} {l : List Ty} {S : List Nat} (h : Own w v l) (k : Kept S w w') (hS : ∀ g ∈ S, v.ownBlock ≠ some g) : Own w' v l := by
  refine ⟨h.1, ?_⟩
  rcases h.2 with hn | ⟨g, cap, cur, rfl, hb, hg, rest⟩
  · exact .inl hn
  · refine .inr ⟨g, cap, cur, rfl, hb, ?_, rest⟩
    rw [k.old g (Array.getElem?_eq_some_iff.1 hg).1 fun hs => hS g hs rfl]
    exact hg
theorem Own.keep0 {w w' : World} {v : Value} {l : List Ty} (h : Own w v l) (k : Kept [] w w') : Own w' v l := h.kept k fun _ hi => by cases hi
theorem Own.lt {w : World} {v : Value} {l : List Ty} (h : Own w v l) : ∀ g, v.ownBlock = some g → g < w.heap.size := fun g hg => (World.ownsRow.lt h g hg).2
theorem Own.block_type {w : World} {v : Value} {b : Nat} {l : List Ty} {t : TypeId} {cs : List Value} (h : Own w v l) (h' : Has w b t cs) (ht : t ≠ 58) : v.ownBlock ≠ some b := by
  rcases h.2 with ⟨rfl, _⟩ | ⟨g', cap', cur, rfl, _, hg, _⟩
  · intro e; cases e
  · intro e
    have e : g' = b := by simpa [Value.ownBlock] using e
    subst e
    have e := h'.symm.trans hg
    injection e with e
    injection e with _ e
    exact ht e
/-- append, where what is appended is a row of types that is seen (nil, empty or not). -/
theorem append_types {w : World} {ops : Array Oper} {rest : List Oper} {o : Oper} {a : Act} {Q : Exit → Act → World → Prop} (hgd : o.guard = none) (s x : Operand)
    (ho : o.op = .call { callee := .builtin .append, args := #[s, x], argTypes := #[33, 33] })
    (v : Value) (l : List Ty) (hs : a.eval s = v) (hown : Own w v l) (A : Option Addr) (c : Nat) (news : List Ty) (hx : a.eval x = .slice A news.length c) (hnil : A = none → c = 0) (hseen : Seen w A news)
    (hb : l.length + news.length ≤ 1073741824)
    (h : ∀ v' w', Own w' v' (l ++ news) → w.grownBy w' v.ownBlock → (v'.ownBlock = v.ownBlock ∨ v'.ownBlock = some w.heap.size) → (v' = .slice none 0 0 ↔ v = .slice none 0 0 ∧ news = []) → wpList Tryd.prog ops Q rest (a.put o.dst v') w') : wpList Tryd.prog ops Q (o :: rest) a w := by
  obtain ⟨i0, hi, hz0, hz1, hz2⟩ := info_parts info_type
  cases A with
  | none =>
    have hn : news = [] := by
      cases news with
      | nil => rfl
      | cons y ys =>
        obtain ⟨g, f, e, _⟩ := hseen (by simp)
        cases e
    subst hn
    obtain rfl := hnil rfl
    refine wpList_append_own_none hgd s x 33 ho 0 58 i0 3 Tryd.underlying33 hi v l.length (tyCells l) hs hown hx ?_
    exact h v w (by rw [List.append_nil]; exact hown) (World.grownBy.refl w _) (.inl rfl) ⟨fun e => ⟨e, rfl⟩, fun e => e.1⟩
  | some ad =>
    refine wpList_append_own_at w hgd s x 33 ho 0 58 i0 _ 3 24 Tryd.underlying33 hi hz0 hz1 hz2 rfl (by decide) v l.length (tyCells l) hs hown ad news.length c (tyCells news) hx (tyCells_length news) ?_ (tyCells_one news) (by unfold maxLen; omega) (by omega) (Nat.zero_le _) ?_
    · intro j u hu
      by_cases hne : news = []
      · subst hne; cases hu
      · obtain ⟨g, f, e, _, hc⟩ := hseen hne
        injection e with e
        subst e
        rw [add_at]
        exact hc j u hu
    · intro v' w' h1 h2 h3 h4
      refine h v' w' ?_ h2 h4 (h3.trans (and_congr_right fun _ => List.length_eq_zero_iff))
      unfold Own
      rw [List.length_append, tyCells_append]
      exact h1
/-- append of one type, at a step of a region that draws its order. -/
theorem step_append_type {w : World} {ops : Array Oper} {o : Oper} {a : Act} {K : Act → World → Prop} {Q : Exit → Act → World → Prop} {E : Prop} (hgd : o.guard = none) (s x : Operand)
    (ho : o.op = .call { callee := .builtin .append, args := #[s, x], argTypes := #[33, 33] })
    (v : Value) (l : List Ty) (hs : a.eval s = v) (hown : Own w v l) (b c : Nat) (y : Ty) (hx : a.eval x = .slice (some ⟨b, 0, none⟩) 1 c)
    (hb : Has w b 58 [.int .u8 (y.k : Int), .int .i64 y.wd, .int .u64 (y.ms : Int)]) (hlen : l.length + 1 ≤ 1073741824) (H : Nat) (hH : w.heap.size = H)
    (h : ∀ g cap w', Own w' (.slice (some ⟨g, 0, none⟩) (l.length + 1) cap) (l ++ [y]) → w.grownBy w' v.ownBlock → (v.ownBlock = some g ∨ g = H) → g < w'.heap.size → K (a.put o.dst (.slice (some ⟨g, 0, none⟩) (l.length + 1) cap)) w') :
    if Region.wanted o (yielded ops a.tmps) = true then Oper.wp Tryd.prog o a w K Q else E := by
  obtain ⟨i0, hi, hz0, hz1, hz2⟩ := info_parts info_type
  refine step_append_lies w hgd s x 33 ho 0 58 i0 _ 3 24 Tryd.underlying33 hi hz0 hz1 hz2 rfl (by decide) v l.length (tyCells l) hs hown ⟨b, 0, none⟩ 1 c (tyCells [y]) hx rfl ?_ (tyCells_one _) (by decide) (by unfold maxLen; omega) (by omega) (Nat.zero_le _) H hH ?_
  · intro j u hu
    rw [add_at, Nat.zero_add, hb.cell]
    exact hu
  · intro g cap w' h1 h2 h3 h4
    refine h g cap w' ?_ h2 h3 h4
    unfold Own
    rw [List.length_append, tyCells_append]
    exact h1
/-- A slice that a call hands back, as a row of types. -/
def Back (w x : World) (A : Option Addr) (c : Nat) (l : List Ty) : Prop := (A = none → c = 0) ∧ Seen x A l ∧ Kept [] w x
theorem back_own {w y : World} {v : Value} {l : List Ty} (hk : Kept [] w y) (hO : Own y v l) : ∃ A c, v = .slice A l.length c ∧ Back w y A c l := by
  rcases hO.form with ⟨rfl, rfl⟩ | ⟨g', cap', rfl, hlt, _, _⟩
  · exact ⟨none, 0, rfl, (fun _ => rfl), (fun h => absurd rfl h), hk⟩
  · exact ⟨_, _, rfl, (fun h => by cases h), Own.seen hO, hk⟩
end Go.Proofs.YtflcnpmampaamaaDoor.Tb
