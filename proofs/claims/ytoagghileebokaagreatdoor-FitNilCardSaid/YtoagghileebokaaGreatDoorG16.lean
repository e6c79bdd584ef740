/-
  Several texts in one: LoopKit, SpRow.
-/
import Derived.Test.YtoagghileebokaaGreatDoorG01
import Derived.RangeFuncNested
import Derived.RangeFuncLeaves
import Derived.RangeFuncBound
import Derived.RangeFuncCalls
import Derived.Test.YtoagghileebokaaGreatDoorG04
import Derived.Laws.OwnMore
import Derived.Laws.Rows
import Derived.Maps.OwnIn
/-
  What a caller's word on its memory needs to abide a range over a function.
-/
namespace Go.Proofs.YtoagghileebokaaGreatDoor.Lk
open Go.RowKit Go.Proofs.YtoagghileebokaaGreatDoor.Ar
set_option linter.unusedVariables false

theorem own_kept {β : Type} {S : List Nat} {w0 : World} {B : Nat} (hB : w0.heap.size ≤ B) : OwnFrom B (fun (_ : β) W => Kept S w0 W) :=
  fun _ X Y row hs hg hr => hs.grown hg fun g e => .inr (Nat.le_trans hB (hr g e).1)
theorem own_has {β : Type} {B b : Nat} {t : TypeId} {f : β → List Value} : OwnFrom B (fun s W => Has W b t (f s)) :=
  fun s X Y row hs hg hr => (hg.block b (Has.lt hs) fun e => by
    obtain ⟨_, o, ho, hc⟩ := hr b e.symm
    have hs' : X.heap[b]? = some (.cells (f s).toArray t (0, 0)) := hs
    rw [ho] at hs'
    injection hs' with hs'
    subst hs'
    cases hc).trans hs
theorem keepsFrom_of {S : List Nat} {B : Nat} {W W' : World} (h : Kept S W W') (hS : ∀ b ∈ S, ∃ t cs, Has W b t cs) : KeepsFrom B W W' :=
  ⟨h.more, fun k o _ ho hc => (h.old k (Array.getElem?_eq_some_iff.1 ho).1 fun hk => by
    obtain ⟨t, cs, hh⟩ := hS k hk
    unfold Has at hh
    rw [ho] at hh
    injection hh with hh
    subst hh
    cases hc).trans ho⟩
theorem kept_put {w W : World} (h : Kept [] w W) (D : Nat) (o : Obj) (hD : w.heap.size ≤ D) : Kept [] w (W.putObj D o) :=
  h.grown (grownBy_putObj' W D o) fun g e => .inr (by injection e with e; omega)
theorem has_put {W : World} {b : Nat} {t : TypeId} {cs : List Value} (h : Has W b t cs) (D : Nat) (o o' : Obj) (hD : W.heap[D]? = some o) (hc : o.isCells = false) : Has (W.putObj D o') b t cs := by
  have hne : b ≠ D := by
    rintro rfl
    unfold Has at h
    rw [hD] at h
    injection h with h
    subst h
    cases hc
  exact ((grownBy_putObj' W D o').block b h.lt (fun e => hne (by injection e))).trans h
theorem put_other {W : World} {p : Addr} {u : Value} {D : Nat} (hD : p.block ≠ D) : (W.setCell p u).heap[D]? = W.heap[D]? := heap_setCell_other W p D u (fun e => hD e.symm)
end Go.Proofs.YtoagghileebokaaGreatDoor.Lk

/-
  Rows of cells ([]api.Cell): as cells of a block, five each; append of one, of a row, in a walk and in a round; what is seen of such a row.
-/
namespace Go.Proofs.YtoagghileebokaaGreatDoor.Sp
open Go.RowKit Go.Proofs.YtoagghileebokaaGreatDoor.Ar Go.Proofs.YtoagghileebokaaGreatDoor.Lk
open Go.Proofs.YtoagghileebokaaGreatDoor.Hd (Hd)
set_option linter.unusedVariables false

/-- A cell: where it begins, and its header. -/
structure Cel where
  a : Int
  h : Hd
theorem Cel.eq {x y : Cel} (h1 : x.a = y.a) (h2 : x.h = y.h) : x = y := by
  cases x; cases y; simp at h1 h2; rw [h1, h2]
def Cel.zero : Cel := ⟨0, Hd.zero⟩
def Cel.l (c : Cel) : List Value := [.int .i64 c.a, .int .u8 c.h.tg, .int .i64 c.h.ty, .int .i64 c.h.ln, .int .i64 c.h.sz]
def Cel.val (c : Cel) : Value := .agg #[.int .i64 c.a, .int .u8 c.h.tg, .int .i64 c.h.ty, .int .i64 c.h.ln, .int .i64 c.h.sz]
/-- A list of cells as cells of memory. -/
def celCells : List Cel → List Value
  | [] => []
  | x :: xs => .int .i64 x.a :: .int .u8 x.h.tg :: .int .i64 x.h.ty :: .int .i64 x.h.ln :: .int .i64 x.h.sz :: celCells xs
theorem celCells_length : ∀ l : List Cel, (celCells l).length = l.length * 5
  | [] => rfl
  | x :: xs => by
    show (celCells xs).length + 1 + 1 + 1 + 1 + 1 = (xs.length + 1) * 5
    rw [celCells_length xs]
    omega
theorem celCells_append : ∀ (a b : List Cel), celCells (a ++ b) = celCells a ++ celCells b
  | [], b => rfl
  | x :: xs, b => by
    show _ :: _ :: _ :: _ :: _ :: celCells (xs ++ b) = _ :: _ :: _ :: _ :: _ :: (celCells xs ++ celCells b)
    rw [celCells_append xs b]
theorem celCells_get : ∀ (l : List Cel) (i : Nat), i < l.length → (celCells l)[i * 5]? = some (.int .i64 (l.getD i Cel.zero).a) ∧ (celCells l)[i * 5 + 1]? = some (.int .u8 (l.getD i Cel.zero).h.tg) ∧ (celCells l)[i * 5 + 2]? = some (.int .i64 (l.getD i Cel.zero).h.ty) ∧ (celCells l)[i * 5 + 3]? = some (.int .i64 (l.getD i Cel.zero).h.ln) ∧ (celCells l)[i * 5 + 4]? = some (.int .i64 (l.getD i Cel.zero).h.sz)
  | [], i, h => absurd h (by simp)
  | x :: xs, 0, _ => ⟨rfl, rfl, rfl, rfl, rfl⟩
  | x :: xs, i + 1, h => by
    have := celCells_get xs i (by simpa using h)
    rw [show (i + 1) * 5 = i * 5 + 1 + 1 + 1 + 1 + 1 by omega]
    exact this
theorem celCells_one (l : List Cel) : ∀ v ∈ celCells l, v.oneCell' = true := by
  induction l with
  | nil => intro v hv; cases hv
  | cons r rs ih =>
    intro v hv
    rcases List.mem_cons.1 hv with rfl | hv
    · rfl
    · rcases List.mem_cons.1 hv with rfl | hv
      · rfl
      · rcases List.mem_cons.1 hv with rfl | hv
        · rfl
        · rcases List.mem_cons.1 hv with rfl | hv
          · rfl
          · rcases List.mem_cons.1 hv with rfl | hv
            · rfl
            · exact ih v hv
theorem celCells_drop : ∀ (l : List Cel) (k : Nat), celCells (l.drop k) = (celCells l).drop (k * 5)
  | l, 0 => by simp
  | [], k + 1 => by simp [celCells]
  | x :: xs, k + 1 => by
    rw [List.drop_succ_cons, celCells_drop xs k, show (k + 1) * 5 = k * 5 + 1 + 1 + 1 + 1 + 1 by omega]
    rfl
theorem celCells_take : ∀ (l : List Cel) (k : Nat), celCells (l.take k) = (celCells l).take (k * 5)
  | l, 0 => by simp [celCells]
  | [], k + 1 => by simp [celCells]
  | x :: xs, k + 1 => by
    rw [List.take_succ_cons, show (k + 1) * 5 = k * 5 + 1 + 1 + 1 + 1 + 1 by omega]
    show _ :: _ :: _ :: _ :: _ :: celCells (xs.take k) = _ :: _ :: _ :: _ :: _ :: (celCells xs).take (k * 5)
    rw [celCells_take xs k]
theorem info_cell : (Tryz.prog.info? 51).map (fun i => (i.zero, i.size, i.bytes)) = some (some (.agg #[.int .i64 0, .int .u8 0, .int .i64 0, .int .i64 0, .int .i64 0]), 5, 40) := by kernel_rfl
/-- What is seen of a row of cells. -/
def Seen (w : World) (A : Option Addr) (l : List Cel) : Prop := l ≠ [] → ∃ g f, A = some ⟨g, f, none⟩ ∧ g < w.heap.size ∧ ∀ j v, (celCells l)[j]? = some v → w.cell? ⟨g, f + j, none⟩ = some v
theorem Seen.nil (w : World) (A : Option Addr) : Seen w A [] := fun h => absurd rfl h
theorem Seen.keep {w w' : World} {A : Option Addr} {l : List Cel} (h : Seen w A l) (hk : ∀ g f, A = some ⟨g, f, none⟩ → g < w.heap.size → w'.heap[g]? = w.heap[g]?) (hs : w.heap.size ≤ w'.heap.size) : Seen w' A l := by
  intro hl
  obtain ⟨g, f, e, hlt, hc⟩ := h hl
  exact ⟨g, f, e, Nat.lt_of_lt_of_le hlt hs, fun j v hv => by rw [World.cell?_of_block (a := ⟨g, f + j, none⟩) (hk g f e hlt)]; exact hc j v hv⟩
theorem Seen.keep0 {w w' : World} {A : Option Addr} {l : List Cel} (h : Seen w A l) (k : Kept [] w w') : Seen w' A l :=
  h.keep (fun g f _ hg => k.old g hg (by simp)) k.more
theorem Seen.at {w : World} {A : Option Addr} {l : List Cel} (h : Seen w A l) (i : Nat) (hi : i < l.length) (x : Cel) (hx : x = l.getD i Cel.zero) : ∃ g f, A = some ⟨g, f, none⟩ ∧ g < w.heap.size ∧
    w.cell? ⟨g, f + i * 5, none⟩ = some (.int .i64 x.a) ∧ w.cell? ⟨g, f + i * 5 + 1, none⟩ = some (.int .u8 x.h.tg) ∧ w.cell? ⟨g, f + i * 5 + 2, none⟩ = some (.int .i64 x.h.ty) ∧ w.cell? ⟨g, f + i * 5 + 3, none⟩ = some (.int .i64 x.h.ln) ∧ w.cell? ⟨g, f + i * 5 + 4, none⟩ = some (.int .i64 x.h.sz) := by
  subst hx
  obtain ⟨g, f, e, hlt, hc⟩ := h (by rintro rfl; cases hi)
  obtain ⟨h0, h1, h2, h3, h4⟩ := celCells_get l i hi
  exact ⟨g, f, e, hlt, hc _ _ h0, hc _ _ h1, hc _ _ h2, hc _ _ h3, hc _ _ h4⟩
theorem seen_one {w : World} {b : Nat} {t : TypeId} {x : Cel} (h : Has w b t [.int .i64 x.a, .int .u8 x.h.tg, .int .i64 x.h.ty, .int .i64 x.h.ln, .int .i64 x.h.sz]) : Seen w (some ⟨b, 0, none⟩) [x] :=
  fun _ => ⟨b, 0, rfl, h.lt, fun j v hv => by rw [Nat.zero_add, h.cell]; exact hv⟩
/-- A part of what is seen. -/
theorem Seen.drop {w : World} {g f : Nat} {l : List Cel} (h : Seen w (some ⟨g, f, none⟩) l) (k : Nat) : Seen w (some ⟨g, f + k * 5, none⟩) (l.drop k) := by
  intro hl
  obtain ⟨g', f', e, hlt, hc⟩ := h (by rintro rfl; simp at hl)
  injection e with e
  injection e with e1 e2
  subst e1 e2
  refine ⟨g, _, rfl, hlt, fun j v hv => ?_⟩
  rw [celCells_drop, List.getElem?_drop] at hv
  rw [show f + k * 5 + j = f + (k * 5 + j) by omega]
  exact hc _ _ hv
theorem Seen.take {w : World} {A : Option Addr} {l : List Cel} (h : Seen w A l) (k : Nat) : Seen w A (l.take k) := by
  intro hl
  obtain ⟨g, f, e, hlt, hc⟩ := h (by rintro rfl; simp at hl)
  refine ⟨g, f, e, hlt, fun j v hv => hc j v ?_⟩
  rw [celCells_take, List.getElem?_take] at hv
  split at hv
  · exact hv
  · cases hv
/-- A slice value that was made by appends alone, with these cells. -/
def Own (w : World) (v : Value) (l : List Cel) : Prop := w.ownsRow 0 51 5 v l.length (celCells l)
theorem Own.nil (w : World) : Own w (.slice none 0 0) [] := World.ownsRow_nil w 0 _ 5
theorem Own.form {w : World} {v : Value} {l : List Cel} (h : Own w v l) : (v = .slice none 0 0 ∧ l = []) ∨ ∃ g cap, v = .slice (some ⟨g, 0, none⟩) l.length cap ∧ g < w.heap.size ∧ l.length ≤ cap ∧ cap ≤ maxLen := by
  rcases h.2 with ⟨rfl, h0⟩ | ⟨g, cap, cur, rfl, _, hg, hc, hm, _⟩
  · exact .inl ⟨rfl, List.eq_nil_of_length_eq_zero h0⟩
  · exact .inr ⟨g, cap, rfl, (Array.getElem?_eq_some_iff.1 hg).1, hc, hm⟩
theorem Own.cell {w : World} {g n cap : Nat} {l : List Cel} (h : Own w (.slice (some ⟨g, 0, none⟩) n cap) l) : ∀ j v, (celCells l)[j]? = some v → w.cell? ⟨g, j, none⟩ = some v := by
  intro j v hv
  rcases h.2 with ⟨h1, _⟩ | ⟨g', cap', cur, h1, _, hg, _, _, _, ht⟩
  · cases h1
  · injection h1 with h1 h2 h3
    injection h1 with h1
    injection h1 with h1
    subst h1
    rw [cell_of_row w g j cur _ (0, 0) hg, ← Array.getElem?_toList]
    rw [← ht, List.getElem?_take] at hv
    split at hv
    · exact hv
    · cases hv
theorem Own.seen {w : World} {A : Option Addr} {n cap : Nat} {l : List Cel} (h : Own w (.slice A n cap) l) : Seen w A l := by
  intro hl
  rcases h.form with ⟨_, e⟩ | ⟨g, c, e, hg, _⟩
  · exact absurd e hl
  · injection e with e1 e2 e3
    subst e1
    exact ⟨g, 0, rfl, hg, fun j v hv => by rw [Nat.zero_add]; exact Own.cell h j v hv⟩
theorem Own.keep {w w' : World} {v : Value} {l : List Cel} {row : Option Nat} (h : Own w v l) (hg : w.grownBy w' row) (hne : v.ownBlock = none ∨ v.ownBlock ≠ row) : Own w' v l := World.ownsRow.kept h hg hne
theorem Own.kept {w w' : World} {v : Value} {l : List Cel} {S : List Nat} (h : Own w v l) (k : Kept S w w') (hS : ∀ g ∈ S, v.ownBlock ≠ some g) : Own w' v l := by
  refine ⟨h.1, ?_⟩
  rcases h.2 with hn | ⟨g, cap, cur, rfl, hb, hg, rest⟩
  · exact .inl hn
  · refine .inr ⟨g, cap, cur, rfl, hb, ?_, rest⟩
    rw [k.old g (Array.getElem?_eq_some_iff.1 hg).1 fun hs => hS g hs rfl]
    exact hg
theorem Own.keep0 {w w' : World} {v : Value} {l : List Cel} (h : Own w v l) (k : Kept [] w w') : Own w' v l := h.kept k fun _ hi => by cases hi
theorem Own.lt {w : World} {v : Value} {l : List Cel} (h : Own w v l) : ∀ g, v.ownBlock = some g → g < w.heap.size := fun g hg => (World.ownsRow.lt h g hg).2
theorem Own.block_type {w : World} {v : Value} {b : Nat} {l : List Cel} {t : TypeId} {cs : List Value} (h : Own w v l) (h' : Has w b t cs) (ht : t ≠ 51) : v.ownBlock ≠ some b := by
  rcases h.2 with ⟨rfl, _⟩ | ⟨g', cap', cur, rfl, _, hg, _⟩
  · intro e; cases e
  · intro e
    have e : g' = b := by simpa [Value.ownBlock] using e
    subst e
    have e := h'.symm.trans hg
    injection e with e
    injection e with _ e
    exact ht e
/-- append, where what is appended is a row of cells that is seen (nil, empty or not). -/
theorem append_cels {w : World} {ops : Array Oper} {rest : List Oper} {o : Oper} {a : Act} {Q : Exit → Act → World → Prop} (hgd : o.guard = none) (s x : Operand)
    (ho : o.op = .call { callee := .builtin .append, args := #[s, x], argTypes := #[41, 41] })
    (v : Value) (l : List Cel) (hs : a.eval s = v) (hown : Own w v l) (A : Option Addr) (c : Nat) (news : List Cel) (hx : a.eval x = .slice A news.length c) (hnil : A = none → c = 0) (hseen : Seen w A news)
    (hb : l.length + news.length ≤ 1073741824)
    (h : ∀ v' w', Own w' v' (l ++ news) → w.grownBy w' v.ownBlock → (v'.ownBlock = v.ownBlock ∨ v'.ownBlock = some w.heap.size) → (v' = .slice none 0 0 ↔ v = .slice none 0 0 ∧ news = []) → wpList Tryz.prog ops Q rest (a.put o.dst v') w') : wpList Tryz.prog ops Q (o :: rest) a w := by
  obtain ⟨i0, hi, hz0, hz1, hz2⟩ := info_parts info_cell
  cases A with
  | none =>
    have hn : news = [] := by
      cases news with
      | nil => rfl
      | cons y ys =>
        obtain ⟨g, f, e, _⟩ := hseen (by simp)
        cases e
    subst hn
    obtain rfl := hnil rfl
    refine wpList_append_own_none hgd s x 41 ho 0 51 i0 5 Tryz.underlying41 hi v l.length (celCells l) hs hown hx ?_
    exact h v w (by rw [List.append_nil]; exact hown) (World.grownBy.refl w _) (.inl rfl) ⟨fun e => ⟨e, rfl⟩, fun e => e.1⟩
  | some ad =>
    refine wpList_append_own_at w hgd s x 41 ho 0 51 i0 _ 5 40 Tryz.underlying41 hi hz0 hz1 hz2 rfl (by decide) v l.length (celCells l) hs hown ad news.length c (celCells news) hx (celCells_length news) ?_ (celCells_one news) (by unfold maxLen; omega) (by omega) (Nat.zero_le _) ?_
    · intro j u hu
      by_cases hne : news = []
      · subst hne; cases hu
      · obtain ⟨g, f, e, _, hc⟩ := hseen hne
        obtain rfl := Option.some.inj e
        rw [add_at]
        exact hc j u hu
    · intro v' w' h1 h2 h3 h4
      refine h v' w' ?_ h2 h4 (h3.trans (and_congr_right fun _ => List.length_eq_zero_iff))
      unfold Own
      rw [List.length_append, celCells_append]
      exact h1
/-- A slice that a call hands back, as a row of cells. -/
def Back (w x : World) (A : Option Addr) (c : Nat) (l : List Cel) : Prop := (A = none → c = 0) ∧ Seen x A l ∧ Kept [] w x
theorem back_own {w y : World} {v : Value} {l : List Cel} (hk : Kept [] w y) (hO : Own y v l) : ∃ A c, v = .slice A l.length c ∧ Back w y A c l := by
  rcases hO.form with ⟨rfl, rfl⟩ | ⟨g', cap', rfl, hlt, _, _⟩
  · exact ⟨none, 0, rfl, (fun _ => rfl), (fun h => absurd rfl h), hk⟩
  · exact ⟨_, _, rfl, (fun h => by cases h), Own.seen hO, hk⟩
theorem append_cels_in {F : Fence} {n : Nat} {w : World} {ops : Array Oper} {rest : List Oper} {o : Oper} {a : Act} {Q : Exit → Act → World → Prop} (hgd : o.guard = none) (s x : Operand)
    (ho : o.op = .call { callee := .builtin .append, args := #[s, x], argTypes := #[41, 41] })
    (v : Value) (l : List Cel) (hs : a.eval s = v) (hown : Own w v l) (g c : Nat) (y : Cel) (hx : a.eval x = .slice (some ⟨g, 0, none⟩) 1 c)
    (h0 : Has w g 51 y.l) (hb : l.length ≤ 1073741824)
    (h : ∀ v' w', Own w' v' (l ++ [y]) → w.grownBy w' v.ownBlock → (v'.ownBlock = v.ownBlock ∨ v'.ownBlock = some w.heap.size) → wpListIn F n Tryz.prog ops Q rest (a.put o.dst v') w') : wpListIn F n Tryz.prog ops Q (o :: rest) a w := by
  obtain ⟨i0, hi, hz0, hz1, hz2⟩ := info_parts info_cell
  refine wpListIn_append_own_at w hgd s x 41 ho 0 51 i0 _ 5 40 Tryz.underlying41 hi hz0 hz1 hz2 rfl (by decide) v l.length (celCells l) hs hown ⟨g, 0, none⟩ 1 c (celCells [y]) hx rfl ?_ (celCells_one _) (by unfold maxLen; omega) (by omega) (Nat.zero_le _) ?_
  · intro j u hu
    rw [add_at, Nat.zero_add, h0.cell]
    exact hu
  · intro v' w' h1 h2 _ h4
    refine h v' w' ?_ h2 h4
    unfold Own
    rw [List.length_append, celCells_append]
    exact h1
theorem own_from {B : Nat} {v : Value} {rs : List Cel} : OwnFrom B (fun (_ : Unit) W => Own W v rs) :=
  fun s X Y row hs hg hr => Own.keep hs hg (by
    rcases hs.2 with ⟨rfl, _⟩ | ⟨g, cap, cur, rfl, _, hb, _⟩
    · exact .inl rfl
    · refine .inr fun e => ?_
      obtain ⟨_, o, ho, hc⟩ := hr g e.symm
      rw [ho] at hb
      injection hb with hb
      subst hb
      cases hc)
theorem own_cells {w : World} {v : Value} {rs : List Cel} (h : Own w v rs) : ∀ b ∈ v.ownBlock.toList, ∃ cs, Has w b 51 cs := by
  intro b hb
  rcases h.2 with ⟨rfl, _⟩ | ⟨g, cap, cur, rfl, _, hg, _⟩
  · cases hb
  · obtain rfl : b = g := by simpa [Value.ownBlock] using hb
    exact ⟨cur.toList, hg⟩
theorem own_put {w : World} {v : Value} {rs : List Cel} (h : Own w v rs) (D : Nat) (o o' : Obj) (hD : w.heap[D]? = some o) (hc : o.isCells = false) : Own (w.putObj D o') v rs :=
  own_from (B := 0) () w _ (some D) h (grownBy_putObj' w D o') fun r e => by injection e with e; subst e; exact ⟨Nat.zero_le _, o, hD, hc⟩
theorem kept_grown {w w' : World} {v : Value} (hg : w.grownBy w' v.ownBlock) : Kept v.ownBlock.toList w w' :=
  (Kept.refl _ w).grown hg fun g e => .inl (by rw [e]; simp)
end Go.Proofs.YtoagghileebokaaGreatDoor.Sp
