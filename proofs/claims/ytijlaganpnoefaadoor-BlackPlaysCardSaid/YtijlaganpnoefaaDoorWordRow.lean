/-
  Rows of words ([]uint64): as cells of a block, as a slice that is seen, as one that was made by appends; make and append as laws.
-/
import Derived.Test.YtijlaganpnoefaaDoorProg
import Derived.Test.YtijlaganpnoefaaDoorMem
import Derived.Test.YtijlaganpnoefaaDoorOwnRow
import Derived.WalkKit
import Derived.Laws.MakeOwn
import Derived.Maps.AppendAt
import Derived.Laws.AppendOwnNone
import Derived.OwnWalk
namespace Go.Proofs.YtijlaganpnoefaaDoor.Ar
open Go.RowKit

/-- A list of words as cells. -/
def ints (ws : List Int) : List Value := ws.map (Value.int .u64)
theorem ints_length (ws : List Int) : (ints ws).length = ws.length := List.length_map _
theorem ints_get (ws : List Int) (i : Nat) (h : i < ws.length) : (ints ws)[i]? = some (.int .u64 (ws.getD i 0)) := by
  unfold ints
  rw [List.getElem?_map, List.getElem?_eq_getElem h]
  simp [List.getD, List.getElem?_eq_getElem h]
theorem ints_set (ws : List Int) (i : Nat) (v : Int) : (ints ws).set i (.int .u64 v) = ints (ws.set i v) := by
  unfold ints
  rw [List.map_set]
theorem ints_one (ws : List Int) : ∀ v ∈ ints ws, v.oneCell' = true := by
  intro v hv
  unfold ints at hv
  obtain ⟨x, _, rfl⟩ := List.mem_map.1 hv
  rfl
theorem ints_cut (ws : List Int) (f k j : Nat) (v : Value) (h : (ints ((ws.drop f).take k))[j]? = some v) : (ints ws)[f + j]? = some v := by
  unfold ints at *
  rw [List.getElem?_map, List.getElem?_take] at h
  split at h
  · rw [List.getElem?_drop] at h
    rw [List.getElem?_map]
    exact h
  · simp at h
theorem size_u64 : (Tryd.prog.info? 78).map (·.size) = some 1 := by kernel_rfl
theorem info_u64 : (Tryd.prog.info? 78).map (fun i => (i.zero, i.size, i.bytes)) = some (some (.int .u64 0), 1, 8) := by kernel_rfl
/-- A slice of words that reads as a list: an empty one has whatever address. -/
def Seen (w : World) (A : Option Addr) (l : List Int) : Prop := l ≠ [] → ∃ g f, A = some ⟨g, f, none⟩ ∧ g < w.heap.size ∧ ∀ j v, (ints l)[j]? = some v → w.cell? ⟨g, f + j, none⟩ = some v
theorem Seen.keep {w w' : World} {A : Option Addr} {l : List Int} (h : Seen w A l) (hk : ∀ g f, A = some ⟨g, f, none⟩ → g < w.heap.size → w'.heap[g]? = w.heap[g]?) (hs : w.heap.size ≤ w'.heap.size) : Seen w' A l := by
  intro hl
  obtain ⟨g, f, e, hg, hc⟩ := h hl
  exact ⟨g, f, e, by omega, fun j v hv => (World.cell?_of_block (w := w) (hk g f e hg)).trans (hc j v hv)⟩
theorem Seen.keep0 {w w' : World} {A : Option Addr} {l : List Int} (h : Seen w A l) (k : Kept [] w w') : Seen w' A l :=
  h.keep (fun g _ _ hg => k.old g hg (by simp)) k.more
theorem Seen.cells {w : World} {A : Option Addr} {l : List Int} (h : Seen w A l) (hl : l ≠ []) : ∃ g f, A = some ⟨g, f, none⟩ ∧ ∀ j, j < l.length → w.cell? ⟨g, f + j, none⟩ = some (.int .u64 (l.getD j 0)) := by
  obtain ⟨g, f, e, _, hc⟩ := h hl
  exact ⟨g, f, e, fun j hj => hc j _ (ints_get l j hj)⟩
/-- A word of a row that came in, read in a later world. -/
theorem Seen.later {w : World} {A : Option Addr} {l : List Int} (h : Seen w A l) (hl : l ≠ []) : ∃ g f, A = some ⟨g, f, none⟩ ∧ ∀ x, Kept [] w x → ∀ j, j < l.length → x.cell? ⟨g, f + j, none⟩ = some (.int .u64 (l.getD j 0)) := by
  obtain ⟨g, f, e, hg, hc⟩ := h hl
  exact ⟨g, f, e, fun x hx j hj => (World.cell?_of_block (w := w) (hx.old g hg (by simp))).trans (hc j _ (ints_get l j hj))⟩
theorem seen_sub {y : World} {g f : Nat} {l : List Int} (h : Seen y (some ⟨g, f, none⟩) l) (r k : Nat) : Seen y (some ⟨g, f + r, none⟩) ((l.drop r).take k) := by
  intro hne
  obtain ⟨g', f', e, hg, hc⟩ := h (fun h0 => hne (by rw [h0]; simp))
  injection e with e
  injection e with e1 e2
  subst e1 e2
  exact ⟨g, f + r, rfl, hg, fun j v hv => by rw [Nat.add_assoc]; exact hc (r + j) v (ints_cut l r k j v hv)⟩
theorem seen_take {y : World} {g : Nat} {l : List Int} (h : Seen y (some ⟨g, 0, none⟩) l) (k : Nat) : Seen y (some ⟨g, 0, none⟩) (l.take k) := by
  intro hne
  obtain ⟨g', f', e, hg, hc⟩ := h (fun h0 => hne (by rw [h0]; simp))
  refine ⟨g', f', e, hg, fun j v hv => hc j v ?_⟩
  unfold ints at *
  rw [List.map_take, List.getElem?_take] at hv
  split at hv
  · exact hv
  · cases hv
/-- What is left behind a cut of a row, at whatever address an empty rest has. -/
theorem seen_rest {y : World} {g : Nat} {l : List Int} (h : Seen y (some ⟨g, 0, none⟩) l) (r cap : Nat) (hr : r ≤ l.length) (hc : l.length ≤ cap) : Seen y (if cap = r then some ⟨g, 0, none⟩ else some ⟨g, r, none⟩) (l.drop r) := by
  by_cases e : cap = r
  · intro hne
    exact absurd (List.drop_eq_nil_of_le (by omega)) hne
  · rw [if_neg e]
    have hs := seen_sub h r (l.length - r)
    rw [Nat.zero_add, List.take_of_length_le (by rw [List.length_drop]; omega)] at hs
    exact hs
/-- A row of words of the call's own. -/
def Row (w : World) (g : Nat) (l : List Int) : Prop := Has w g 78 (ints l)
theorem Row.seen {w : World} {g : Nat} {l : List Int} (h : Row w g l) : Seen w (some ⟨g, 0, none⟩) l :=
  fun _ => ⟨g, 0, rfl, Has.lt h, fun j v hv => by rw [Has.cell h, Nat.zero_add]; exact hv⟩
theorem made_words (c : Nat) : (madeCells (Value.int .u64 0).cells c) = (ints (List.replicate c 0)).toArray := by
  apply Array.ext
  · simp [madeCells, ints]
  · intro i h1 h2
    simp [madeCells, ints, Value.cells, Nat.mod_one]
theorem run_make_words (c : Nat) (hc : c ≤ 1099511627776) (w : World) :
    (Instr.makeSlice 66 (.int .i64 (c : Int)) (.int .i64 (c : Int))).run Tryd.prog w = .ok (.slice (some ⟨w.heap.size, 0, none⟩) c c) (w.alloc (.cells (ints (List.replicate c 0)).toArray 78)) := by
  obtain ⟨i0, hi, hz0, hz1, hz2⟩ := info_parts info_u64
  have h := run_make (P := Tryd.prog) w 66 78 i0 (.int .u64 0) Tryd.underlying66 hi hz0 .i64 .i64 c c (by omega) (by omega) (by rw [hz2]; omega) (by omega)
  rw [Int.toNat_natCast, hz1, Nat.mul_one, made_words] at h
  exact h
/-- A slice value that was made by appends alone, with these words. -/
def Own (w : World) (v : Value) (l : List Int) : Prop := w.ownsRow 0 78 1 v l.length (ints l)
theorem Own.nil (w : World) : Own w (.slice none 0 0) [] := World.ownsRow_nil w 0 _ 1
/-- It is nil and empty, or lies at the head of a block. -/
theorem Own.form {w : World} {v : Value} {l : List Int} (h : Own w v l) : (v = .slice none 0 0 ∧ l = []) ∨ ∃ g cap, v = .slice (some ⟨g, 0, none⟩) l.length cap ∧ g < w.heap.size ∧ l.length ≤ cap ∧ cap ≤ maxLen := by
  rcases h.2 with ⟨rfl, h0⟩ | ⟨g, cap, cur, rfl, _, hg, hc, hm, _⟩
  · exact .inl ⟨rfl, List.eq_nil_of_length_eq_zero h0⟩
  · exact .inr ⟨g, cap, rfl, (Array.getElem?_eq_some_iff.1 hg).1, hc, hm⟩
theorem Own.cell {w : World} {g n cap : Nat} {l : List Int} (h : Own w (.slice (some ⟨g, 0, none⟩) n cap) l) : ∀ j v, (ints l)[j]? = some v → w.cell? ⟨g, j, none⟩ = some v := by
  intro j v hv
  rcases h.2 with ⟨h1, _⟩ | ⟨g', cap', cur, h1, _, hg, _, _, _, ht⟩
  · cases h1
  · injection h1 with h1 h2 h3
    injection h1 with h1
    injection h1 with h1
    subst h1
    rw [cell_of_row w g j cur _ (0, 0) hg, ← Array.getElem?_toList]
    rw [← ht, List.getElem?_take] at hv
    split at hv
    · exact hv
    · cases hv
theorem Own.seen {w : World} {g n cap : Nat} {l : List Int} (h : Own w (.slice (some ⟨g, 0, none⟩) n cap) l) (hg : g < w.heap.size) : Seen w (some ⟨g, 0, none⟩) l :=
  fun _ => ⟨g, 0, rfl, hg, fun j v hv => by rw [Nat.zero_add]; exact h.cell j v hv⟩
theorem Own.keep {w w' : World} {v : Value} {l : List Int} {row : Option Nat} (h : Own w v l) (hg : w.grownBy w' row) (hne : v.ownBlock = none ∨ v.ownBlock ≠ row) : Own w' v l := World.ownsRow.kept h hg hne
theorem Own.kept {w w' : World} {v : Value} {l : List Int} {S : List Nat} (h : Own w v l) (k : Kept S w w') (hS : ∀ g ∈ S, v.ownBlock ≠ some g) : Own w' v l := by
  refine ⟨h.1, ?_⟩
  rcases h.2 with hn | ⟨g, cap, cur, rfl, hb, hg, rest⟩
  · exact .inl hn
  · refine .inr ⟨g, cap, cur, rfl, hb, ?_, rest⟩
    rw [k.old g (Array.getElem?_eq_some_iff.1 hg).1 fun hs => hS g hs rfl]
    exact hg
theorem Own.keep0 {w w' : World} {v : Value} {l : List Int} (h : Own w v l) (k : Kept [] w w') : Own w' v l := h.kept k fun _ hi => by cases hi
/-- append, where what is appended is a row of words that is seen (nil, empty or not). -/
theorem append_words {w : World} {ops : Array Oper} {rest : List Oper} {o : Oper} {a : Act} {Q : Exit → Act → World → Prop} (hgd : o.guard = none) (s x : Operand)
    (ho : o.op = .call { callee := .builtin .append, args := #[s, x], argTypes := #[66, 66] })
    (v : Value) (l : List Int) (hs : a.eval s = v) (hown : Own w v l) (A : Option Addr) (m c : Nat) (news : List Int) (hx : a.eval x = .slice A m c) (hm : news.length = m) (hnil : A = none → c = 0) (hseen : Seen w A news)
    (hb : l.length + m ≤ 1073741824)
    (h : ∀ v' w', Own w' v' (l ++ news) → w.grownBy w' v.ownBlock → (v'.ownBlock = v.ownBlock ∨ v'.ownBlock = some w.heap.size) → wpList Tryd.prog ops Q rest (a.put o.dst v') w') : wpList Tryd.prog ops Q (o :: rest) a w := by
  obtain ⟨i0, hi, hz0, hz1, hz2⟩ := info_parts info_u64
  subst hm
  cases A with
  | none =>
    have hn : news = [] := by
      cases news with
      | nil => rfl
      | cons y ys =>
        obtain ⟨g, f, e, _⟩ := hseen (by simp)
        cases e
    subst hn
    obtain rfl := hnil rfl
    refine wpList_append_own_none hgd s x 66 ho 0 78 i0 1 Tryd.underlying66 hi v l.length (ints l) hs hown hx ?_
    exact h v w (by rw [List.append_nil]; exact hown) (World.grownBy.refl w _) (.inl rfl)
  | some ad =>
    refine wpList_append_own_at w hgd s x 66 ho 0 78 i0 (.int .u64 0) 1 8 Tryd.underlying66 hi hz0 hz1 hz2 rfl (by decide) v l.length (ints l) hs hown ad news.length c (ints news) hx (by rw [ints_length, Nat.mul_one]) ?_ (ints_one news) (by unfold maxLen; omega) (by omega) (Nat.zero_le _) ?_
    · intro j u hu
      by_cases hne : news = []
      · subst hne; cases hu
      · obtain ⟨g, f, e, _, hc⟩ := hseen hne
        obtain rfl := Option.some.inj e
        rw [add_at]
        exact hc j u hu
    · intro v' w' h1 h2 _ h4
      refine h v' w' ?_ h2 h4
      unfold Own ints at *
      rw [List.length_append, List.map_append]
      exact h1
theorem Own.block_type {w : World} {g n cap b : Nat} {l : List Int} {t : TypeId} {cs : List Value} (h : Own w (.slice (some ⟨g, 0, none⟩) n cap) l) (h' : Has w b t cs) (ht : t ≠ 78) : b ≠ g := by
  rintro rfl
  rcases h.2 with ⟨h1, _⟩ | ⟨g', cap', cur, h1, _, hg, _⟩
  · cases h1
  · injection h1 with h1
    injection h1 with h1
    injection h1 with h1
    subst h1
    have e := h'.symm.trans hg
    injection e with e
    injection e with _ e
    exact ht e
/-- A slice that a call hands back, as a row of words. -/
def Back (w x : World) (A : Option Addr) (c : Nat) (l : List Int) : Prop := (A = none → c = 0) ∧ Seen x A l ∧ Kept [] w x
theorem back_own {w y : World} {v : Value} {l : List Int} (hk : Kept [] w y) (hO : Own y v l) : ∃ A c, v = .slice A l.length c ∧ Back w y A c l := by
  rcases hO.form with ⟨rfl, rfl⟩ | ⟨g', cap', rfl, hlt, _, _⟩
  · exact ⟨none, 0, rfl, (fun _ => rfl), (fun h => absurd rfl h), hk⟩
  · exact ⟨_, _, rfl, (fun h => by cases h), hO.seen hlt, hk⟩
end Go.Proofs.YtijlaganpnoefaaDoor.Ar
