/-
  Several texts in one: TyRow, TbRow, TbOps, TbAdd.
-/
import Derived.Test.YtdfnphgjjodfoaaGreatDoorProg
import Derived.Test.YtdfnphgjjodfoaaGreatDoorG02
import Derived.WalkKit
import Derived.Maps.AppendAt
import Derived.Laws.AppendOwnNone
import Derived.OwnWalk
import Derived.Deep.AppendLies
import Derived.Test.YtdfnphgjjodfoaaGreatDoorG09
import Derived.Deep.RegionHeldLaw
import Derived.Deep.RegionLaw
import Derived.WalkSpells
/-
  Rows of types ([]api.Type): as cells of a block, as a slice that is seen, as one that was made by appends; append as a law, in a plain region and in one that draws its order.
-/
namespace Go.Proofs.YtdfnphgjjodfoaaGreatDoor.Tb
open Go.RowKit Go.Proofs.YtdfnphgjjodfoaaGreatDoor.Ar
set_option linter.unusedVariables false

/-- A type: Kind, Words, Mask. -/
structure Ty where
  k : Nat
  wd : Int
  ms : Nat
theorem Ty.ext {a b : Ty} (h0 : a.k = b.k) (h1 : a.wd = b.wd) (h2 : a.ms = b.ms) : a = b := by
  cases a; cases b; simp only at h0 h1 h2; subst h0 h1 h2; rfl
instance : DecidableEq Ty := fun a b => decidable_of_iff (a.k = b.k ∧ a.wd = b.wd ∧ a.ms = b.ms) ⟨fun ⟨h0, h1, h2⟩ => Ty.ext h0 h1 h2, fun h => by subst h; exact ⟨rfl, rfl, rfl⟩⟩
def Ty.ok (x : Ty) : Prop := x.k < 256 ∧ x.ms < 18446744073709551616
def Ty.val (x : Ty) : Value := .agg #[.int .u8 (x.k : Int), .int .i64 x.wd, .int .u64 (x.ms : Int)]
def Ty.zero : Ty := ⟨0, 0, 0⟩
/-- A list of types as cells: three each. -/
def tyCells : List Ty → List Value
  | [] => []
  | x :: l => .int .u8 (x.k : Int) :: .int .i64 x.wd :: .int .u64 (x.ms : Int) :: tyCells l
theorem tyCells_append : ∀ (a b : List Ty), tyCells (a ++ b) = tyCells a ++ tyCells b
  | [], b => rfl
  | x :: a, b => by
    show _ :: _ :: _ :: tyCells (a ++ b) = _ :: _ :: _ :: (tyCells a ++ tyCells b)
    rw [tyCells_append a b]
theorem tyCells_get : ∀ (l : List Ty) (i : Nat), i < l.length → (tyCells l)[i * 3]? = some (.int .u8 ((l.getD i Ty.zero).k : Int)) ∧ (tyCells l)[i * 3 + 1]? = some (.int .i64 (l.getD i Ty.zero).wd) ∧ (tyCells l)[i * 3 + 2]? = some (.int .u64 ((l.getD i Ty.zero).ms : Int))
  | [], i, h => absurd h (by simp)
  | x :: l, 0, _ => ⟨rfl, rfl, rfl⟩
  | x :: l, i + 1, h => by
    have := tyCells_get l i (by simpa using h)
    rw [show (i + 1) * 3 = i * 3 + 1 + 1 + 1 by omega]
    exact this
theorem tyCells_one (l : List Ty) : ∀ v ∈ tyCells l, v.oneCell' = true := by
  induction l with
  | nil => intro v hv; cases hv
  | cons x l ih =>
    intro v hv
    rcases List.mem_cons.1 hv with rfl | hv
    · rfl
    · rcases List.mem_cons.1 hv with rfl | hv
      · rfl
      · rcases List.mem_cons.1 hv with rfl | hv
        · rfl
        · exact ih v hv
theorem info_type : (Tryz.prog.info? 68).map (fun i => (i.zero, i.size, i.bytes)) = some (some (.agg #[.int .u8 0, .int .i64 0, .int .u64 0]), 3, 24) := by kernel_rfl
/-- A slice of types that reads as a list: an empty one has whatever address. -/
def Seen (w : World) (A : Option Addr) (l : List Ty) : Prop := l ≠ [] → ∃ g f, A = some ⟨g, f, none⟩ ∧ g < w.heap.size ∧ ∀ j v, (tyCells l)[j]? = some v → w.cell? ⟨g, f + j, none⟩ = some v
theorem Seen.nil (w : World) (A : Option Addr) : Seen w A [] := fun h => absurd rfl h
theorem Seen.keep {w w' : World} {A : Option Addr} {l : List Ty} (h : Seen w A l) (hk : ∀ g f, A = some ⟨g, f, none⟩ → g < w.heap.size → w'.heap[g]? = w.heap[g]?) (hs : w.heap.size ≤ w'.heap.size) : Seen w' A l := by
  intro hl
  obtain ⟨g, f, e, hg, hc⟩ := h hl
  exact ⟨g, f, e, by omega, fun j v hv => (World.cell?_of_block (w := w) (hk g f e hg)).trans (hc j v hv)⟩
theorem Seen.keep0 {w w' : World} {A : Option Addr} {l : List Ty} (h : Seen w A l) (k : Kept [] w w') : Seen w' A l :=
  h.keep (fun g f _ hg => k.old g hg (by simp)) k.more
/-- The three cells of a type in the row, in whatever later world. -/
theorem Seen.at {w : World} {A : Option Addr} {l : List Ty} (h : Seen w A l) (i : Nat) (hi : i < l.length) (x : Ty) (hx : x = l.getD i Ty.zero) : ∃ g f, A = some ⟨g, f, none⟩ ∧ g < w.heap.size ∧
    ∀ y, Kept [] w y → y.cell? ⟨g, f + i * 3, none⟩ = some (.int .u8 (x.k : Int)) ∧ y.cell? ⟨g, f + i * 3 + 1, none⟩ = some (.int .i64 x.wd) ∧ y.cell? ⟨g, f + i * 3 + 2, none⟩ = some (.int .u64 (x.ms : Int)) := by
  obtain ⟨g, f, e, hg, hc⟩ := h (by rintro rfl; simp at hi)
  refine ⟨g, f, e, hg, fun y k => ?_⟩
  obtain ⟨c0, c1, c2⟩ := tyCells_get l i hi
  have hb : y.heap[g]? = w.heap[g]? := k.old g hg (by simp)
  subst hx
  exact ⟨(World.cell?_of_block (w := w) hb).trans (hc _ _ c0), (World.cell?_of_block (w := w) hb).trans (hc _ _ c1), (World.cell?_of_block (w := w) hb).trans (hc _ _ c2)⟩
theorem seen_one {w : World} {b : Nat} {t : TypeId} {x : Ty} (h : Has w b t [.int .u8 (x.k : Int), .int .i64 x.wd, .int .u64 (x.ms : Int)]) : Seen w (some ⟨b, 0, none⟩) [x] :=
  fun _ => ⟨b, 0, rfl, h.lt, fun j v hv => by rw [h.cell, Nat.zero_add]; exact hv⟩
/-- A slice value that was made by appends alone, with these types. -/
def Own (w : World) (v : Value) (l : List Ty) : Prop := w.ownsRow 0 68 3 v l.length (tyCells l)
theorem Own.nil (w : World) : Own w (.slice none 0 0) [] := World.ownsRow_nil w 0 _ 3
theorem Own.form {w : World} {v : Value} {l : List Ty} (h : Own w v l) : (v = .slice none 0 0 ∧ l = []) ∨ ∃ g cap, v = .slice (some ⟨g, 0, none⟩) l.length cap ∧ g < w.heap.size ∧ l.length ≤ cap ∧ cap ≤ maxLen := by
  rcases h.2 with ⟨rfl, h0⟩ | ⟨g, cap, cur, rfl, _, hg, hc, hm, _⟩
  · exact .inl ⟨rfl, List.eq_nil_of_length_eq_zero h0⟩
  · exact .inr ⟨g, cap, rfl, (Array.getElem?_eq_some_iff.1 hg).1, hc, hm⟩
theorem Own.cell {w : World} {g n cap : Nat} {l : List Ty} (h : Own w (.slice (some ⟨g, 0, none⟩) n cap) l) : ∀ j v, (tyCells l)[j]? = some v → w.cell? ⟨g, j, none⟩ = some v := by
  intro j v hv
  rcases h.2 with ⟨h1, _⟩ | ⟨g', cap', cur, h1, _, hg, _, _, _, ht⟩
  · cases h1
  · injection h1 with h1 h2 h3
    injection h1 with h1
    injection h1 with h1
    subst h1
    rw [cell_of_row w g j cur _ (0, 0) hg, ← Array.getElem?_toList]
    rw [← ht, List.getElem?_take] at hv
    split at hv
    · exact hv
    · cases hv
theorem Own.seen {w : World} {A : Option Addr} {n cap : Nat} {l : List Ty} (h : Own w (.slice A n cap) l) : Seen w A l := by
  intro hl
  rcases h.form with ⟨_, e⟩ | ⟨g, c, e, hg, _⟩
  · exact absurd e hl
  · injection e with e1 e2 e3
    subst e1
    exact ⟨g, 0, rfl, hg, fun j v hv => by rw [Nat.zero_add]; exact Own.cell h j v hv⟩
theorem Own.keep {w w' : World} {v : Value} {l : List Ty} {row : Option Nat} (h : Own w v l) (hg : w.grownBy w' row) (hne : v.ownBlock = none ∨ v.ownBlock ≠ row) : Own w' v l := World.ownsRow.kept h hg hne
theorem Own.kept {w w' : World} {v : Value} {l : List Ty} {S : List Nat} (h : Own w v l) (k : Kept S w w') (hS : ∀ g ∈ S, v.ownBlock ≠ some g) : Own w' v l := by
  refine ⟨h.1, ?_⟩
  rcases h.2 with hn | ⟨g, cap, cur, rfl, hb, hg, rest⟩
  · exact .inl hn
  · refine .inr ⟨g, cap, cur, rfl, hb, ?_, rest⟩
    rw [k.old g (Array.getElem?_eq_some_iff.1 hg).1 fun hs => hS g hs rfl]
    exact hg
theorem Own.keep0 {w w' : World} {v : Value} {l : List Ty} (h : Own w v l) (k : Kept [] w w') : Own w' v l := h.kept k fun _ hi => by cases hi
theorem Own.lt {w : World} {v : Value} {l : List Ty} (h : Own w v l) : ∀ g, v.ownBlock = some g → g < w.heap.size := fun g hg => (World.ownsRow.lt h g hg).2
theorem Own.block_type {w : World} {v : Value} {b : Nat} {l : List Ty} {t : TypeId} {cs : List Value} (h : Own w v l) (h' : Has w b t cs) (ht : t ≠ 68) : v.ownBlock ≠ some b := by
  rcases h.2 with ⟨rfl, _⟩ | ⟨g', cap', cur, rfl, _, hg, _⟩
  · intro e; cases e
  · intro e
    have e : g' = b := by simpa [Value.ownBlock] using e
    subst e
    have e := h'.symm.trans hg
    injection e with e
    injection e with _ e
    exact ht e
/-- append of one type, at a step of a region that draws its order. -/
theorem step_append_type {w : World} {ops : Array Oper} {o : Oper} {a : Act} {K : Act → World → Prop} {Q : Exit → Act → World → Prop} {E : Prop} (hgd : o.guard = none) (s x : Operand)
    (ho : o.op = .call { callee := .builtin .append, args := #[s, x], argTypes := #[22, 22] })
    (v : Value) (l : List Ty) (hs : a.eval s = v) (hown : Own w v l) (b c : Nat) (y : Ty) (hx : a.eval x = .slice (some ⟨b, 0, none⟩) 1 c)
    (hb : Has w b 68 [.int .u8 (y.k : Int), .int .i64 y.wd, .int .u64 (y.ms : Int)]) (hlen : l.length + 1 ≤ 1073741824) (H : Nat) (hH : w.heap.size = H)
    (h : ∀ g cap w', Own w' (.slice (some ⟨g, 0, none⟩) (l.length + 1) cap) (l ++ [y]) → w.grownBy w' v.ownBlock → (v.ownBlock = some g ∨ g = H) → g < w'.heap.size → K (a.put o.dst (.slice (some ⟨g, 0, none⟩) (l.length + 1) cap)) w') :
    if Region.wanted o (yielded ops a.tmps) = true then Oper.wp Tryz.prog o a w K Q else E := by
  obtain ⟨i0, hi, hz0, hz1, hz2⟩ := info_parts info_type
  refine step_append_lies w hgd s x 22 ho 0 68 i0 _ 3 24 Tryz.underlying22 hi hz0 hz1 hz2 rfl (by decide) v l.length (tyCells l) hs hown ⟨b, 0, none⟩ 1 c (tyCells [y]) hx rfl ?_ (tyCells_one _) (by decide) (by unfold maxLen; omega) (by omega) (Nat.zero_le _) H hH ?_
  · intro j u hu
    rw [add_at, Nat.zero_add, hb.cell]
    exact hu
  · intro g cap w' h1 h2 h3 h4
    refine h g cap w' ?_ h2 h3 h4
    unfold Own
    rw [List.length_append, tyCells_append]
    exact h1
/-- A slice that a call hands back, as a row of types. -/
def Back (w x : World) (A : Option Addr) (c : Nat) (l : List Ty) : Prop := (A = none → c = 0) ∧ Seen x A l ∧ Kept [] w x
theorem back_own {w y : World} {v : Value} {l : List Ty} (hk : Kept [] w y) (hO : Own y v l) : ∃ A c, v = .slice A l.length c ∧ Back w y A c l := by
  rcases hO.form with ⟨rfl, rfl⟩ | ⟨g', cap', rfl, hlt, _, _⟩
  · exact ⟨none, 0, rfl, (fun _ => rfl), (fun h => absurd rfl h), hk⟩
  · exact ⟨_, _, rfl, (fun h => by cases h), Own.seen hO, hk⟩
end Go.Proofs.YtdfnphgjjodfoaaGreatDoor.Tb

/-
  The contracts of a row's methods: count, item, push.
-/
namespace Go.Proofs.YtdfnphgjjodfoaaGreatDoor.Tb
open Go.RowKit Go.Proofs.YtdfnphgjjodfoaaGreatDoor.Ar Go.Maps
set_option linter.unusedVariables false

/-- The numbers of a type are those of one that may be. -/
def Ty.fit (x : Ty) : Prop := Kd.may x.k x.wd x.ms
instance (x : Ty) : Decidable x.fit := by unfold Ty.fit; infer_instance
def Fresh (w : World) (v : Value) : Prop := v.ownBlock = none ∨ ∃ b, v.ownBlock = some b ∧ w.heap.size ≤ b
/-- A table: its block, the slice of its types. -/
structure Tab (w : World) (p : Nat) (A : Option Addr) (c : Nat) (l : List Ty) : Prop where
  head : Has w p 133 [.slice A l.length c]
  own : Own w (.slice A l.length c) l
  nil : A = none ↔ l = []
  len : l.length ≤ 64
  all : ∀ x ∈ l, x.ok ∧ x.fit
theorem Tab.kept {w w' : World} {p : Nat} {A : Option Addr} {c : Nat} {l : List Ty} {S : List Nat} (h : Tab w p A c l) (k : Kept S w w') (hp : p ∉ S) (hS : ∀ g ∈ S, (Value.slice A l.length c).ownBlock ≠ some g) : Tab w' p A c l :=
  ⟨h.head.kept k hp, h.own.kept k hS, h.nil, h.len, h.all⟩
theorem Tab.keep0 {w w' : World} {p : Nat} {A : Option Addr} {c : Nat} {l : List Ty} (h : Tab w p A c l) (k : Kept [] w w') : Tab w' p A c l := h.kept k (by simp) (by simp)
theorem Tab.form {w : World} {p : Nat} {A : Option Addr} {c : Nat} {l : List Ty} (h : Tab w p A c l) : (A = none ∧ c = 0 ∧ l = []) ∨ ∃ g, A = some ⟨g, 0, none⟩ ∧ g < w.heap.size ∧ l ≠ [] := by
  rcases h.own.form with ⟨e, e2⟩ | ⟨g, cap, e, hg, _⟩
  · injection e with e1 _ e3
    exact .inl ⟨e1, e3, e2⟩
  · injection e with e1 _ e3
    refine .inr ⟨g, e1, hg, fun e4 => ?_⟩
    have := h.nil.2 e4
    rw [e1] at this
    cases this
theorem cell1 {w : World} {b : Nat} {t : TypeId} {v0 : Value} (h : Has w b t [v0]) : w.cell? ⟨b, 0, none⟩ = some v0 := by rw [h.cell]; rfl
set_option maxRecDepth 100000 in
theorem count_ok {w : World} {p : Nat} {A : Option Addr} {c : Nat} {l : List Ty} (h : Tab w p A c l) :
    Calls Tryz.prog 123 #[.pointer (some ⟨p, 0, none⟩)] w fun e w' => e = .returned (.int .i64 l.length) ∧ Kept [] w w' := by
  have c0 := cell1 h.head
  clear h
  go_enter Tryz.func123, Tryz.ntmps123
  go_wp2_with fail
  go_ret
  exact ⟨rfl, Kept.refl [] w⟩
theorem cells3 {w : World} {b : Nat} {t : TypeId} {v0 v1 v2 : Value} (h : Has w b t [v0, v1, v2]) : w.cell? ⟨b, 0, none⟩ = some v0 ∧ w.cell? ⟨b, 1, none⟩ = some v1 ∧ w.cell? ⟨b, 2, none⟩ = some v2 :=
  ⟨h.cell 0, h.cell 1, h.cell 2⟩
theorem free3 {w : World} {b : Nat} {t : TypeId} {cs : List Value} (h : Has w b t cs) : w.frozen? ⟨b, 0, none⟩ = false ∧ w.frozen? ⟨b, 1, none⟩ = false ∧ w.frozen? ⟨b, 2, none⟩ = false :=
  ⟨h.free 0, h.free 1, h.free 2⟩
def put3 (b : Nat) (v0 v1 v2 : Value) (w : World) : World := ((w.setCell ⟨b, 0, none⟩ v0).setCell ⟨b, 1, none⟩ v1).setCell ⟨b, 2, none⟩ v2
theorem put3_has {b : Nat} {t : TypeId} {w : World} {a0 a1 a2 : Value} (h : Has w b t [a0, a1, a2]) (v0 v1 v2 : Value) : Has (put3 b v0 v1 v2 w) b t [v0, v1, v2] := ((h.put 0 v0).put 1 v1).put 2 v2
theorem put3_kept {b : Nat} {S : List Nat} {w0 w : World} (h : Kept S w0 w) (hb : b ∈ S ∨ w0.heap.size ≤ b) (v0 v1 v2 : Value) : Kept S w0 (put3 b v0 v1 v2 w) :=
  ((h.setCell ⟨b, 0, none⟩ v0 hb).setCell ⟨b, 1, none⟩ v1 hb).setCell ⟨b, 2, none⟩ v2 hb
theorem size_type : (Tryz.prog.info? 68).map (·.size) = some 3 := by kernel_rfl
/-- The end of a function whose first result is a type that lies in memory: three stores, then it is read. -/
theorem ret_ty {f : Func} {p u : Tmp} (h : f.results = #[.cell p 68, .tmp u]) {a : Act} {w0 w : World} {g : Nat} {a0 a1 a2 v0 v1 v2 : Value} (hp : a.tmps.getD p undef = .pointer (some ⟨g, 0, none⟩)) (hH : Has w g 68 [a0, a1, a2]) (hk : Kept [] w0 w) (hg : w0.heap.size ≤ g)
    (hdf : a.defers = []) {E : Value} (hE : a.tmps.getD u undef = E) {R : Ending → World → Prop}
    (hR : ∀ X, Kept [] w0 X → R (.returned (.tuple #[.agg #[v0, v1, v2], E])) X) : bodyPost Tryz.prog f R .ret a (put3 g v0 v1 v2 w) := by
  refine Kd.ret_row h _ hp (put3_has hH v0 v1 v2) rfl Tryz.underlying68 rfl size_type hdf ?_
  rw [hE]
  exact hR _ (put3_kept hk (.inr hg) _ _ _)
theorem ret_ty0 {f : Func} {p u : Tmp} (h : f.results = #[.cell p 68, .tmp u]) {a : Act} {X : World} {g : Nat} {v0 v1 v2 : Value} (hp : a.tmps.getD p undef = .pointer (some ⟨g, 0, none⟩)) (hH : Has X g 68 [v0, v1, v2])
    (hdf : a.defers = []) {E : Value} (hE : a.tmps.getD u undef = E) {R : Ending → World → Prop} (hR : R (.returned (.tuple #[.agg #[v0, v1, v2], E])) X) : bodyPost Tryz.prog f R .ret a X := by
  refine Kd.ret_row h _ hp hH rfl Tryz.underlying68 rfl size_type hdf ?_
  rw [hE]
  exact hR
def hasT (l : List Ty) (i : Int) : Bool := decide (1 ≤ i ∧ i ≤ (l.length : Int))
def getT (l : List Ty) (i : Int) : Ty := if 1 ≤ i ∧ i ≤ (l.length : Int) then l.getD (i - 1).toNat Ty.zero else Ty.zero
theorem hasT_no {l : List Ty} {i : Int} (h : ¬ (1 ≤ i ∧ i ≤ (l.length : Int))) : hasT l i = false ∧ getT l i = Ty.zero := ⟨decide_eq_false h, if_neg h⟩
theorem hasT_yes {l : List Ty} {i : Int} {t : Nat} (h : i - 1 = (t : Int)) (ht : t < l.length) : hasT l i = true ∧ getT l i = l.getD t Ty.zero := by
  have hc : 1 ≤ i ∧ i ≤ (l.length : Int) := by omega
  refine ⟨decide_eq_true hc, ?_⟩
  rw [getT, if_pos hc, h]
  rfl
set_option maxRecDepth 100000 in
set_option maxHeartbeats 1000000 in
theorem item_ok {w : World} {p : Nat} {A : Option Addr} {c : Nat} {l : List Ty} (h : Tab w p A c l) (i : Int) (hi0 : -9223372036854775808 ≤ i) (hi1 : i ≤ 9223372036854775807) :
    Calls Tryz.prog 83 #[.pointer (some ⟨p, 0, none⟩), .int .i64 i] w fun e w' => e = .returned (.tuple #[(getT l i).val, .bool (hasT l i)]) ∧ Kept [] w w' := by
  have HC := Lib.hid (fun x (k : Kept [] w x) => count_ok (h.keep0 k))
  have hk0 : ∀ o, Kept [] w (w.alloc o) := fun o => (Kept.refl [] w).alloc o
  have hlen := h.len
  have hb0 : Has (w.alloc (.cells #[.int .u8 0, .int .i64 0, .int .u64 0] 68)) w.heap.size 68 [.int .u8 0, .int .i64 0, .int .u64 0] := Has.new w _ _
  have hB : w.heap.size ≤ w.heap.size := Nat.le_refl _
  unfold Ty.val
  by_cases h1 : i < 1
  · obtain ⟨e1, e2⟩ := hasT_no (l := l) (i := i) (by omega)
    rw [e1, e2]
    unfold Ty.zero
    clear HC e1 e2 h
    go_enter Tryz.func83, Tryz.ntmps83
    go_wp2_with fail
    refine ret_ty0 rfl rfl (hb0.alloc _) rfl rfl ⟨rfl, (hk0 _).alloc _⟩
  · by_cases h2 : i > (l.length : Int)
    · obtain ⟨e1, e2⟩ := hasT_no (l := l) (i := i) (by omega)
      rw [e1, e2]
      unfold Ty.zero
      clear e1 e2 h
      have Hb := Lib.hid hb0
      have Hk := Lib.hid (hk0 (.cells #[.int .u8 0, .int .i64 0, .int .u64 0] 68))
      clear hb0 hk0 hB
      go_enter Tryz.func83, Tryz.ntmps83
      go_wp2_with fail
      refine (HC.out _ Hk.out).mono ?_
      rintro e w1 ⟨rfl, hk1⟩
      have hz := Hb.out.keep0 hk1
      have hk := Hk.out.trans hk1
      clear hk1 HC Hb Hk
      obtain ⟨d0, d1, d2⟩ : (∀ o, (w1.alloc o).cell? ⟨w.heap.size, 0, none⟩ = some (.int .u8 0)) ∧ (∀ o, (w1.alloc o).cell? ⟨w.heap.size, 1, none⟩ = some (.int .i64 0)) ∧ (∀ o, (w1.alloc o).cell? ⟨w.heap.size, 2, none⟩ = some (.int .u64 0)) := ⟨fun o => (cells3 (hz.alloc o)).1, fun o => (cells3 (hz.alloc o)).2.1, fun o => (cells3 (hz.alloc o)).2.2⟩
      obtain ⟨f0, f1, f2⟩ : (∀ o, (w1.alloc o).frozen? ⟨w.heap.size, 0, none⟩ = false) ∧ (∀ o, (w1.alloc o).frozen? ⟨w.heap.size, 1, none⟩ = false) ∧ (∀ o, (w1.alloc o).frozen? ⟨w.heap.size, 2, none⟩ = false) := ⟨fun o => (free3 (hz.alloc o)).1, fun o => (free3 (hz.alloc o)).2.1, fun o => (free3 (hz.alloc o)).2.2⟩
      have Hz := Lib.hid hz
      have HK := Lib.hid hk
      have HB := Lib.hid (Nat.le_refl w.heap.size)
      clear hz hk
      generalize hB0 : w.heap.size = B at *
      have HB2 : Hid (w.heap.size = B) := Lib.hid hB0
      clear hB0
      go_wp2_with fail
      (try simp only [Exit.inBlock, Exit.then])
      refine ret_ty (w0 := w) (w := w1.alloc _) rfl rfl (Hz.out.alloc _) (HK.out.alloc _) (HB2.out ▸ HB.out) rfl rfl ?_
      exact fun X hX => ⟨rfl, hX⟩
    · obtain ⟨t, ht⟩ : ∃ t : Nat, i - 1 = (t : Int) := ⟨(i - 1).toNat, by omega⟩
      have htl : t < l.length := by omega
      obtain ⟨e1, e2⟩ := hasT_yes ht htl
      rw [e1, e2]
      clear e1 e2
      obtain ⟨g, f, rfl, hg, hcells⟩ := (Own.seen h.own).at t htl _ rfl
      generalize l.getD t Ty.zero = x at *
      have hp := fun y (k : Kept [] w y) => cell1 (h.head.keep0 k)
      clear h
      have Hb := Lib.hid hb0
      have Hk := Lib.hid (hk0 (.cells #[.int .u8 0, .int .i64 0, .int .u64 0] 68))
      have Hc := Lib.hid hcells
      have Hp := Lib.hid hp
      clear hb0 hk0 hB hcells hp
      go_enter Tryz.func83, Tryz.ntmps83
      go_wp2_with fail
      refine (HC.out _ Hk.out).mono ?_
      rintro e w1 ⟨rfl, hk1⟩
      have hz := Hb.out.keep0 hk1
      have hk := Hk.out.trans hk1
      obtain ⟨c0, c1, c2⟩ := Hc.out w1 hk
      have cp := Hp.out w1 hk
      clear hk1 HC Hb Hk Hc Hp
      obtain ⟨f0, f1, f2⟩ := free3 hz
      obtain ⟨d0, d1, d2⟩ := cells3 hz
      have Hz := Lib.hid hz
      have HK := Lib.hid hk
      have HB := Lib.hid (Nat.le_refl w.heap.size)
      clear hz hk
      generalize hB0 : w.heap.size = B at *
      have HB2 : Hid (w.heap.size = B) := Lib.hid hB0
      clear hB0
      go_wp2_with fail
      (try simp only [Exit.inBlock, Exit.then])
      refine ret_ty (w0 := w) (w := w1) rfl rfl Hz.out HK.out (HB2.out ▸ HB.out) rfl rfl ?_
      exact fun X hX => ⟨rfl, hX⟩
def blk (A : Option Addr) : List Nat := match A with | some a => [a.block] | none => []
theorem own_blk (A : Option Addr) (n c : Nat) : ∀ g ∈ blk A, (Value.slice A n c).ownBlock = some g := by
  cases A with
  | none => intro g hg; cases hg
  | some a => intro g hg; simp only [blk, List.mem_singleton] at hg; subst hg; rfl
theorem blk_own {A : Option Addr} {n c g : Nat} (h : (Value.slice A n c).ownBlock = some g) : g ∈ blk A := by
  cases A with
  | none => cases h
  | some a => simp only [Value.ownBlock, Option.some.injEq] at h; subst h; exact List.mem_singleton.2 rfl
theorem pushed {w y w1 : World} {p : Nat} {A : Option Addr} {c : Nat} {l : List Ty} {x : Ty} {g cap : Nat} (h : Tab w p A c l) (hx : x.ok ∧ x.fit) (hl : l.length < 64) (k : Kept [] w y) (hgr : y.grownBy w1 (Value.slice A l.length c).ownBlock)
    (hO : Own w1 (.slice (some ⟨g, 0, none⟩) (l.length + 1) cap) (l ++ [x])) (hat : (Value.slice A l.length c).ownBlock = some g ∨ g = y.heap.size) :
    Tab (w1.setCell ⟨p, 0, none⟩ (.slice (some ⟨g, 0, none⟩) (l.length + 1) cap)) p (some ⟨g, 0, none⟩) cap (l ++ [x]) ∧ Kept (p :: blk A) w (w1.setCell ⟨p, 0, none⟩ (.slice (some ⟨g, 0, none⟩) (l.length + 1) cap)) ∧ ∀ g' ∈ blk (some ⟨g, 0, none⟩), g' ∈ blk A ∨ w.heap.size ≤ g' := by
  have kk : Kept (blk A) w w1 := (k.none (blk A)).grown hgr fun g e => .inl (blk_own e)
  have hp := h.head.kept kk fun hp => (h.own.block_type h.head (by decide)) (own_blk A _ c _ hp)
  have hlen : (l ++ [x]).length = l.length + 1 := by rw [List.length_append]; rfl
  have kp : Kept [p] w1 (w1.setCell ⟨p, 0, none⟩ (.slice (some ⟨g, 0, none⟩) (l.length + 1) cap)) := (Kept.refl [p] w1).setCell _ _ (.inl (by simp))
  refine ⟨⟨?_, ?_, ⟨(fun e => by cases e), (fun e => by simp at e)⟩, (by omega), ?_⟩, ?_, ?_⟩
  · rw [hlen]
    exact hp.put 0 _
  · rw [hlen]
    exact hO.kept kp fun g' hg' e => by
      obtain rfl := List.mem_singleton.1 hg'
      exact (hO.block_type hp (by decide)) e
  · intro z hz
    rcases List.mem_append.1 hz with hz | hz
    · exact h.all z hz
    · obtain rfl := List.mem_singleton.1 hz
      exact hx
  · exact (kk.mono fun i hi => List.mem_cons_of_mem _ hi).trans (kp.mono fun i hi => by rw [List.mem_singleton.1 hi]; simp)
  · intro g' hg'
    obtain rfl : g' = g := List.mem_singleton.1 hg'
    rcases hat with e | e
    · exact .inl (blk_own e)
    · exact .inr (by rw [e]; exact k.more)
set_option maxRecDepth 100000 in
set_option maxHeartbeats 1000000 in
theorem push_ok {w : World} {p : Nat} {A : Option Addr} {c : Nat} {l : List Ty} (h : Tab w p A c l) (x : Ty) (hx : x.ok ∧ x.fit) (hl : l.length < 64) :
    Calls Tryz.prog 127 #[.pointer (some ⟨p, 0, none⟩), x.val] w fun e w' => ∃ A' c', e = .returned (.int .i64 ((l.length : Int) + 1)) ∧ Tab w' p A' c' (l ++ [x]) ∧ Kept (p :: blk A) w w' ∧ ∀ g ∈ blk A', g ∈ blk A ∨ w.heap.size ≤ g := by
  have hk0 : Kept [] w (w.alloc (.cells #[.int .u8 (x.k : Int), .int .i64 x.wd, .int .u64 (x.ms : Int)] 68)) := (Kept.refl [] w).alloc _
  have hb0 : Has (w.alloc (.cells #[.int .u8 (x.k : Int), .int .i64 x.wd, .int .u64 (x.ms : Int)] 68)) w.heap.size 68 [.int .u8 (x.k : Int), .int .i64 x.wd, .int .u64 (x.ms : Int)] := Has.new w _ _
  unfold Ty.val
  go_enter Tryz.func127, Tryz.ntmps127
  go_wp2_with fail
  generalize w.alloc (.cells #[.int .u8 (x.k : Int), .int .i64 x.wd, .int .u64 (x.ms : Int)] 68) = W at *
  generalize hB : w.heap.size = B at *
  have cp := cell1 (h.head.keep0 hk0)
  have cpo := fun o => cell1 ((h.head.keep0 hk0).alloc o)
  obtain ⟨d0, d1, d2⟩ := cells3 hb0
  have HT := Lib.hid h
  have HK := Lib.hid hk0
  have HB := Lib.hid hb0
  have HO : Hid (∀ y, Kept [] W y → Own y (.slice A l.length c) l) := Lib.hid fun y k => (h.keep0 (hk0.trans k)).own
  have hlen : l.length + 1 ≤ 1073741824 := by omega
  have HF : Hid (∀ y z, Kept [] W y → y.grownBy z (Value.slice A l.length c).ownBlock → z.cell? ⟨p, 0, none⟩ = some (.slice A l.length c) ∧ z.cell? ⟨B, 0, none⟩ = some (.int .u8 (x.k : Int)) ∧ z.cell? ⟨B, 1, none⟩ = some (.int .i64 x.wd) ∧ z.cell? ⟨B, 2, none⟩ = some (.int .u64 (x.ms : Int)) ∧ z.frozen? ⟨p, 0, none⟩ = false) := Lib.hid fun y z k hg => by
    have kk : Kept (blk A) W z := (k.none (blk A)).grown hg fun g e => .inl (blk_own e)
    have hp := (h.head.keep0 hk0).kept kk fun hp => (h.own.block_type h.head (by decide)) (own_blk A _ c _ hp)
    have hb := hb0.kept kk fun hp => by
      have := h.own.lt _ (own_blk A l.length c _ hp)
      rw [hB] at this
      exact Nat.lt_irrefl _ this
    exact ⟨cell1 hp, (cells3 hb).1, (cells3 hb).2.1, (cells3 hb).2.2, hp.free 0⟩
  have HX := Lib.hid hx
  have HL := Lib.hid hl
  clear h hk0 hb0 hl hx hB
  go_region_law ((refine step_append_type (by rfl) (.tmp 9) (.tmp 11) (by rfl) (.slice A l.length c) l (by rfl) (HO.out _ (by first | exact (((Kept.refl [] W).alloc _).drew) | exact ((((Kept.refl [] W).drew).alloc _)))) _ 1 x (by rfl) (by first | exact (Has.new W _ _).drew | exact (Has.new W.drew _ _)) hlen _ rfl ?_; intro g cap w1 hO1 hgr hat hlt; obtain ⟨z0, z1, z2, z3, z4⟩ := HF.out _ _ (by first | exact (((Kept.refl [] W).alloc _).drew) | exact ((((Kept.refl [] W).drew).alloc _))) hgr; have HP := Lib.hid (pushed HT.out HX.out HL.out (HK.out.trans (by first | exact (((Kept.refl [] W).alloc _).drew) | exact ((((Kept.refl [] W).drew).alloc _)))) hgr hO1 hat); clear hgr hO1 hat hlt))
  all_goals
    go_wp2_with fail
    refine (count_ok HP.out.1).mono ?_
    rintro e w2 ⟨rfl, hk2⟩
    have HK2 := Lib.hid hk2
    clear hk2 z0 z1 z2 z3 z4
    go_wp2_with fail
    go_ret
    exact ⟨_, _, rfl, HP.out.1.keep0 HK2.out, HP.out.2.1.trans (HK2.out.none _), HP.out.2.2⟩
end Go.Proofs.YtdfnphgjjodfoaaGreatDoor.Tb

/-
  The contracts of a table's methods: Len, Get.
-/
namespace Go.Proofs.YtdfnphgjjodfoaaGreatDoor.Tb
open Go.RowKit Go.Proofs.YtdfnphgjjodfoaaGreatDoor.Ar Go.Maps
set_option linter.unusedVariables false

section
variable {w : World} {p : Nat} {A : Option Addr} {c : Nat} {l : List Ty}
def errT (b : Bool) : Int := if b then 0 else 3
set_option maxRecDepth 100000 in
set_option maxHeartbeats 1000000 in
theorem get_ok (h : Tab w p A c l) (i : Int) (hi0 : -9223372036854775808 ≤ i) (hi1 : i ≤ 9223372036854775807) :
    Calls Tryz.prog 46 #[.pointer (some ⟨p, 0, none⟩), .int .i64 i] w fun e w' => e = .returned (.tuple #[(getT l i).val, .int .i64 (errT (hasT l i))]) ∧ Kept [] w w' := by
  have HC := Lib.hid (fun x (k : Kept [] w x) => item_ok (h.keep0 k) i hi0 hi1)
  have hk0 : ∀ o, Kept [] w (w.alloc o) := fun o => (Kept.refl [] w).alloc o
  have hb0 : Has (w.alloc (.cells #[.int .u8 0, .int .i64 0, .int .u64 0] 68)) w.heap.size 68 [.int .u8 0, .int .i64 0, .int .u64 0] := Has.new w _ _
  clear h
  have hz0 : hasT l i = false → getT l i = Ty.zero := fun h => if_neg (of_decide_eq_false h)
  generalize hasT l i = b at *
  generalize getT l i = x at *
  unfold Ty.val at *
  have Hb := Lib.hid hb0
  have Hk := Lib.hid (hk0 (.cells #[.int .u8 0, .int .i64 0, .int .u64 0] 68))
  have Hz0 := Lib.hid hz0
  clear hb0 hk0 hz0
  go_enter Tryz.func46, Tryz.ntmps46
  go_wp2_with fail
  refine (HC.out _ Hk.out).mono ?_
  rintro e w1 ⟨rfl, hk1⟩
  have hz := Hb.out.keep0 hk1
  have hk := Hk.out.trans hk1
  clear hk1 HC Hb Hk
  have d0 := fun o => (cells3 (hz.alloc o)).1
  have d1 := fun o => (cells3 (hz.alloc o)).2.1
  have d2 := fun o => (cells3 (hz.alloc o)).2.2
  have f0 := fun o => (free3 (hz.alloc o)).1
  have f1 := fun o => (free3 (hz.alloc o)).2.1
  have f2 := fun o => (free3 (hz.alloc o)).2.2
  have Hz := Lib.hid hz
  have HK := Lib.hid hk
  have HB := Lib.hid (Nat.le_refl w.heap.size)
  clear hz hk
  generalize hB0 : w.heap.size = B at *
  have HB2 : Hid (w.heap.size = B) := Lib.hid hB0
  clear hB0
  cases b with
  | true =>
    go_wp2_with fail
    (try simp only [Exit.inBlock, Exit.then])
    refine ret_ty (w0 := w) (w := w1.alloc _) rfl rfl (Hz.out.alloc _) (HK.out.alloc _) (HB2.out ▸ HB.out) rfl rfl ?_
    exact fun X hX => ⟨rfl, hX⟩
  | false =>
    obtain rfl := Hz0.out rfl
    go_wp2_with fail
    (try simp only [Exit.inBlock, Exit.then])
    refine ret_ty (w0 := w) (w := w1.alloc _) rfl rfl (Hz.out.alloc _) (HK.out.alloc _) (HB2.out ▸ HB.out) rfl rfl ?_
    exact fun X hX => ⟨rfl, hX⟩
set_option maxRecDepth 100000 in
theorem get_nil (w : World) (i : Int) : Calls Tryz.prog 46 #[.pointer none, .int .i64 i] w fun e w' => e = .returned (.tuple #[Ty.zero.val, .int .i64 1]) ∧ Kept [] w w' := by
  have hb0 : Has (w.alloc (.cells #[.int .u8 0, .int .i64 0, .int .u64 0] 68)) w.heap.size 68 [.int .u8 0, .int .i64 0, .int .u64 0] := Has.new w _ _
  go_enter Tryz.func46, Tryz.ntmps46
  go_wp2_with fail
  refine ret_ty0 rfl rfl hb0 rfl rfl ⟨rfl, (Kept.refl [] w).alloc _⟩
end
end Go.Proofs.YtdfnphgjjodfoaaGreatDoor.Tb

/-
  The contracts of Size, Add, Copy.
-/
namespace Go.Proofs.YtdfnphgjjodfoaaGreatDoor.Tb
open Go.RowKit Go.Proofs.YtdfnphgjjodfoaaGreatDoor.Ar Go.Maps
set_option linter.unusedVariables false

/-- What Size answers. -/
def sizeT (l : List Ty) (i n : Int) : Int := if hasT l i then Kd.sizeR (getT l i).k (getT l i).wd (getT l i).ms n else 0
def sizeE (l : List Ty) (i n : Int) : Int := if hasT l i then Kd.err (getT l i).k (getT l i).wd (getT l i).ms n else 3
theorem getT_ok {l : List Ty} (h : ∀ x ∈ l, x.ok ∧ x.fit) (i : Int) : (getT l i).ok := by
  unfold getT
  split
  · rename_i hc
    have : (i - 1).toNat < l.length := by omega
    rw [List.getD_eq_getElem?_getD, List.getElem?_eq_getElem this]
    exact (h _ (List.getElem_mem this)).1
  · exact ⟨by decide, by decide⟩
section
variable {w : World} {p : Nat} {A : Option Addr} {c : Nat} {l : List Ty}
set_option maxRecDepth 100000 in
set_option maxHeartbeats 1000000 in
theorem size_ok (h : Tab w p A c l) (i n : Int) (hi0 : -9223372036854775808 ≤ i) (hi1 : i ≤ 9223372036854775807) :
    Calls Tryz.prog 89 #[.pointer (some ⟨p, 0, none⟩), .int .i64 i, .int .i64 n] w fun e w' => e = .returned (.tuple #[.int .i64 (sizeT l i n), .int .i64 (sizeE l i n)]) ∧ Kept [] w w' := by
  have HC := Lib.hid (get_ok h i hi0 hi1)
  have HS := Lib.hid (fun x => Kd.size_ok (getT l i).k (getT l i).wd (getT l i).ms n (getT_ok h.all i).1 (getT_ok h.all i).2 x)
  clear h
  unfold sizeT sizeE
  unfold Kd.typV at HS
  generalize hasT l i = b at *
  generalize getT l i = x at *
  unfold Ty.val at *
  generalize Kd.sizeR x.k x.wd x.ms n = s at *
  generalize Kd.err x.k x.wd x.ms n = er at *
  cases b with
  | true =>
    go_enter Tryz.func89, Tryz.ntmps89
    go_wp2_with fail
    refine HC.out.mono ?_
    rintro e w1 ⟨rfl, h1⟩
    have H1 := Lib.hid h1
    clear h1
    simp only [errT, if_true]
    go_wp2_with fail
    refine (HS.out _).mono ?_
    rintro e w2 ⟨rfl, h2⟩
    have H2 := Lib.hid ((H1.out.alloc _).trans h2)
    clear h2 HS HC
    go_wp2_with fail
    go_ret2
    exact ⟨rfl, H2.out⟩
  | false =>
    clear HS
    go_enter Tryz.func89, Tryz.ntmps89
    go_wp2_with fail
    refine HC.out.mono ?_
    rintro e w1 ⟨rfl, h1⟩
    have H1 := Lib.hid (h1.alloc (.cells #[.int .u8 x.k, .int .i64 x.wd, .int .u64 x.ms] 68))
    clear h1 HC
    simp only [errT, if_false, Bool.false_eq_true]
    go_wp2_with fail
    go_ret2
    exact ⟨rfl, H1.out⟩
set_option maxRecDepth 100000 in
theorem size_nil (w : World) (i n : Int) : Calls Tryz.prog 89 #[.pointer none, .int .i64 i, .int .i64 n] w fun e w' => e = .returned (.tuple #[.int .i64 0, .int .i64 1]) ∧ Kept [] w w' := by
  have HC := Lib.hid (get_nil w i)
  unfold Ty.val Ty.zero at HC
  go_enter Tryz.func89, Tryz.ntmps89
  go_wp2_with fail
  refine HC.out.mono ?_
  rintro e w1 ⟨rfl, h1⟩
  have H1 := Lib.hid h1
  clear h1 HC
  go_wp2_with fail
  go_ret2
  exact ⟨rfl, H1.out.alloc _⟩
end
/-- The error of an Add. -/
def addE (l : List Ty) (x : Ty) : Int := if ¬ x.fit then 2 else if 64 ≤ l.length then 4 else 0
theorem fit_err {x : Ty} (h : x.fit) : Kd.err x.k x.wd x.ms 0 = 0 := by
  unfold Kd.err
  rw [if_neg (by
    rintro (h1 | h1 | h1)
    · exact h1 h
    · omega
    · omega), if_neg (by omega)]
theorem nofit_err {x : Ty} (h : ¬ x.fit) : Kd.err x.k x.wd x.ms 0 = 2 := by
  unfold Kd.err
  rw [if_pos (.inl h)]
def addL (l : List Ty) (x : Ty) : List Ty := if addE l x = 0 then l ++ [x] else l
def addN (l : List Ty) (x : Ty) : Int := if addE l x = 0 then (l.length : Int) + 1 else 0
/-- What an Add leaves. -/
def AddPost (w : World) (p : Nat) (A : Option Addr) (l : List Ty) (x : Ty) (e : Ending) (w' : World) : Prop :=
  ∃ A' c', e = .returned (.tuple #[.int .i64 (addN l x), .int .i64 (addE l x)]) ∧ Tab w' p A' c' (addL l x) ∧ Kept (p :: blk A) w w' ∧ ∀ g ∈ blk A', g ∈ blk A ∨ w.heap.size ≤ g
set_option maxRecDepth 100000 in
set_option maxHeartbeats 1000000 in
theorem add_ok {w : World} {p : Nat} {A : Option Addr} {c : Nat} {l : List Ty} (h : Tab w p A c l) (x : Ty) (hx : x.ok) :
    Calls Tryz.prog 85 #[.pointer (some ⟨p, 0, none⟩), x.val] w (AddPost w p A l x) := by
  have HCh := Lib.hid (fun y => Kd.check_ok x.k x.wd x.ms hx.1 hx.2 y)
  unfold Kd.typV at HCh
  have hk0 : Kept [] w (w.alloc (.cells #[.int .u8 (x.k : Int), .int .i64 x.wd, .int .u64 (x.ms : Int)] 68)) := (Kept.refl [] w).alloc _
  have hb0 : Has (w.alloc (.cells #[.int .u8 (x.k : Int), .int .i64 x.wd, .int .u64 (x.ms : Int)] 68)) w.heap.size 68 [.int .u8 (x.k : Int), .int .i64 x.wd, .int .u64 (x.ms : Int)] := Has.new w _ _
  have HCo := Lib.hid (fun y (k : Kept [] w y) => count_ok (h.keep0 k))
  have HT := Lib.hid h
  have hlen := h.len
  by_cases hf : x.fit
  · rw [fit_err hf] at HCh
    by_cases hl : 64 ≤ l.length
    · have e0 : addE l x = 4 := by unfold addE; rw [if_neg (by simpa using hf), if_pos hl]
      have HP : Hid (∀ y, Kept [] w y → AddPost w p A l x (.returned (.tuple #[.int .i64 0, .int .i64 4])) y) := Lib.hid fun y k => by
        refine ⟨A, c, ?_, ?_, k.none _, fun g hg => .inl hg⟩
        · unfold addN
          rw [e0, if_neg (by decide)]
        · unfold addL
          rw [e0, if_neg (by decide)]
          exact h.keep0 k
      have hl2 : (64 : Int) ≤ (l.length : Int) := by omega
      clear e0 hf h hx hl HT
      unfold Ty.val
      go_enter Tryz.func85, Tryz.ntmps85
      go_wp2_with fail
      refine (HCh.out _).mono ?_
      rintro e w1 ⟨rfl, hk1⟩
      have HK := Lib.hid (hk0.trans hk1)
      clear hk1 hk0 hb0 HCh
      go_wp2_with fail
      refine (HCo.out _ HK.out).mono ?_
      rintro e w2 ⟨rfl, hk2⟩
      have HK2 := Lib.hid (HK.out.trans hk2)
      clear hk2 HK HCo
      go_wp2_with fail
      go_ret2
      exact HP.out _ HK2.out
    · have e0 : addE l x = 0 := by unfold addE; rw [if_neg (by simpa using hf), if_neg hl]
      have HP : Hid (∀ y, Kept [] w y → Calls Tryz.prog 127 #[.pointer (some ⟨p, 0, none⟩), .agg #[.int .u8 (x.k : Int), .int .i64 x.wd, .int .u64 (x.ms : Int)]] y fun e w' => e = .returned (.int .i64 ((l.length : Int) + 1)) ∧ AddPost w p A l x (.returned (.tuple #[.int .i64 ((l.length : Int) + 1), .int .i64 0])) w') := Lib.hid fun y k => by
        refine (push_ok (h.keep0 k) x ⟨hx, hf⟩ (by omega)).mono ?_
        rintro e w' ⟨A', c', rfl, h1, h2, h3⟩
        refine ⟨rfl, A', c', ?_, ?_, (k.none _).trans h2, fun g hg => (h3 g hg).imp id fun h => Nat.le_trans k.more h⟩
        · unfold addN
          rw [e0, if_pos rfl]
        · unfold addL
          rw [e0, if_pos rfl]
          exact h1
      have hl2 : ¬ (64 : Int) ≤ (l.length : Int) := by omega
      clear e0 hf h hx hl HT
      unfold Ty.val
      go_enter Tryz.func85, Tryz.ntmps85
      go_wp2_with fail
      refine (HCh.out _).mono ?_
      rintro e w1 ⟨rfl, hk1⟩
      have HK := Lib.hid (hk0.trans hk1)
      have HB := Lib.hid (hb0.keep0 hk1)
      clear hk1 hk0 hb0 HCh
      go_wp2_with fail
      refine (HCo.out _ HK.out).mono ?_
      rintro e w2 ⟨rfl, hk2⟩
      have HK2 := Lib.hid (HK.out.trans hk2)
      obtain ⟨b0, b1, b2⟩ := cells3 (HB.out.keep0 hk2)
      clear hk2 HK HCo HB
      go_wp2_with fail
      go_region_with ((refine (HP.out _ HK2.out.drew).mono ?_; rintro e w3 ⟨rfl, hap⟩; have HAP := Lib.hid hap; clear hap))
      go_wp2_with fail
      go_ret2
      exact HAP.out
  · have e0 : addE l x = 2 := by unfold addE; rw [if_pos hf]
    rw [nofit_err hf] at HCh
    have HP : Hid (∀ y, Kept [] w y → AddPost w p A l x (.returned (.tuple #[.int .i64 0, .int .i64 2])) y) := Lib.hid fun y k => by
      refine ⟨A, c, ?_, ?_, k.none _, fun g hg => .inl hg⟩
      · unfold addN
        rw [e0, if_neg (by decide)]
      · unfold addL
        rw [e0, if_neg (by decide)]
        exact h.keep0 k
    clear e0 hf h hx HT HCo hlen
    unfold Ty.val
    go_enter Tryz.func85, Tryz.ntmps85
    go_wp2_with fail
    refine (HCh.out _).mono ?_
    rintro e w1 ⟨rfl, hk1⟩
    have HK := Lib.hid (hk0.trans hk1)
    clear hk1 hk0 hb0 HCh
    go_wp2_with fail
    go_ret2
    exact HP.out _ HK.out
end Go.Proofs.YtdfnphgjjodfoaaGreatDoor.Tb
