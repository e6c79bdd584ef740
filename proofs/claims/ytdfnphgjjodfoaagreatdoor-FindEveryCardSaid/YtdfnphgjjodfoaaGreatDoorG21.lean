/-
  Several texts in one: IntRow, KdRef, KdRefs, WkOpen.
-/
import Derived.Test.YtdfnphgjjodfoaaGreatDoorProg
import Derived.Test.YtdfnphgjjodfoaaGreatDoorG02
import Derived.WalkKit
import Derived.Laws.MakeOwn
import Derived.Maps.AppendAt
import Derived.Laws.AppendOwnNone
import Derived.OwnWalk
import Derived.Test.YtdfnphgjjodfoaaGreatDoorG09
import Derived.Test.YtdfnphgjjodfoaaGreatDoorG03
import Derived.SizedLaws
/-
  Rows of numbers ([]int): as cells of a block, as a slice that is seen, as one that was made by appends; make and append as laws.
-/
namespace Go.Proofs.YtdfnphgjjodfoaaGreatDoor.Ir
open Go.RowKit Go.Proofs.YtdfnphgjjodfoaaGreatDoor.Ar

/-- A list of numbers as cells. -/
def ints (ws : List Int) : List Value := ws.map (Value.int .i64)
theorem ints_length (ws : List Int) : (ints ws).length = ws.length := List.length_map _
theorem ints_get (ws : List Int) (i : Nat) (h : i < ws.length) : (ints ws)[i]? = some (.int .i64 (ws.getD i 0)) := by
  unfold ints
  rw [List.getElem?_map, List.getElem?_eq_getElem h]
  simp [List.getD, List.getElem?_eq_getElem h]
theorem ints_set (ws : List Int) (i : Nat) (v : Int) : (ints ws).set i (.int .i64 v) = ints (ws.set i v) := by
  unfold ints
  rw [List.map_set]
theorem ints_one (ws : List Int) : ∀ v ∈ ints ws, v.oneCell' = true := by
  intro v hv
  unfold ints at hv
  obtain ⟨x, _, rfl⟩ := List.mem_map.1 hv
  rfl
theorem ints_cut (ws : List Int) (f k j : Nat) (v : Value) (h : (ints ((ws.drop f).take k))[j]? = some v) : (ints ws)[f + j]? = some v := by
  unfold ints at *
  rw [List.getElem?_map, List.getElem?_take] at h
  split at h
  · rw [List.getElem?_drop] at h
    rw [List.getElem?_map]
    exact h
  · simp at h
theorem info_i64 : (Tryz.prog.info? 3).map (fun i => (i.zero, i.size, i.bytes)) = some (some (.int .i64 0), 1, 8) := by kernel_rfl
/-- A slice of numbers that reads as a list: an empty one has whatever address. -/
def Seen (w : World) (A : Option Addr) (l : List Int) : Prop := l ≠ [] → ∃ g f, A = some ⟨g, f, none⟩ ∧ g < w.heap.size ∧ ∀ j v, (ints l)[j]? = some v → w.cell? ⟨g, f + j, none⟩ = some v
theorem Seen.keep {w w' : World} {A : Option Addr} {l : List Int} (h : Seen w A l) (hk : ∀ g f, A = some ⟨g, f, none⟩ → g < w.heap.size → w'.heap[g]? = w.heap[g]?) (hs : w.heap.size ≤ w'.heap.size) : Seen w' A l := by
  intro hl
  obtain ⟨g, f, e, hg, hc⟩ := h hl
  exact ⟨g, f, e, by omega, fun j v hv => (World.cell?_of_block (w := w) (hk g f e hg)).trans (hc j v hv)⟩
theorem Seen.keep0 {w w' : World} {A : Option Addr} {l : List Int} (h : Seen w A l) (k : Kept [] w w') : Seen w' A l :=
  h.keep (fun g _ _ hg => k.old g hg (by simp)) k.more
theorem Seen.cells {w : World} {A : Option Addr} {l : List Int} (h : Seen w A l) (hl : l ≠ []) : ∃ g f, A = some ⟨g, f, none⟩ ∧ ∀ j, j < l.length → w.cell? ⟨g, f + j, none⟩ = some (.int .i64 (l.getD j 0)) := by
  obtain ⟨g, f, e, _, hc⟩ := h hl
  exact ⟨g, f, e, fun j hj => hc j _ (ints_get l j hj)⟩
/-- A word of a row that came in, read in a later world. -/
theorem Seen.later {w : World} {A : Option Addr} {l : List Int} (h : Seen w A l) (hl : l ≠ []) : ∃ g f, A = some ⟨g, f, none⟩ ∧ ∀ x, Kept [] w x → ∀ j, j < l.length → x.cell? ⟨g, f + j, none⟩ = some (.int .i64 (l.getD j 0)) := by
  obtain ⟨g, f, e, hg, hc⟩ := h hl
  exact ⟨g, f, e, fun x hx j hj => (World.cell?_of_block (w := w) (hx.old g hg (by simp))).trans (hc j _ (ints_get l j hj))⟩
theorem seen_sub {y : World} {g f : Nat} {l : List Int} (h : Seen y (some ⟨g, f, none⟩) l) (r k : Nat) : Seen y (some ⟨g, f + r, none⟩) ((l.drop r).take k) := by
  intro hne
  obtain ⟨g', f', e, hg, hc⟩ := h (fun h0 => hne (by rw [h0]; simp))
  injection e with e
  injection e with e1 e2
  subst e1 e2
  exact ⟨g, f + r, rfl, hg, fun j v hv => by rw [Nat.add_assoc]; exact hc (r + j) v (ints_cut l r k j v hv)⟩
theorem seen_take {y : World} {g : Nat} {l : List Int} (h : Seen y (some ⟨g, 0, none⟩) l) (k : Nat) : Seen y (some ⟨g, 0, none⟩) (l.take k) := by
  intro hne
  obtain ⟨g', f', e, hg, hc⟩ := h (fun h0 => hne (by rw [h0]; simp))
  refine ⟨g', f', e, hg, fun j v hv => hc j v ?_⟩
  unfold ints at *
  rw [List.map_take, List.getElem?_take] at hv
  split at hv
  · exact hv
  · cases hv
/-- What is left behind a cut of a row, at whatever address an empty rest has. -/
theorem seen_rest {y : World} {g : Nat} {l : List Int} (h : Seen y (some ⟨g, 0, none⟩) l) (r cap : Nat) (hr : r ≤ l.length) (hc : l.length ≤ cap) : Seen y (if cap = r then some ⟨g, 0, none⟩ else some ⟨g, r, none⟩) (l.drop r) := by
  by_cases e : cap = r
  · intro hne
    exact absurd (List.drop_eq_nil_of_le (by omega)) hne
  · rw [if_neg e]
    have hs := seen_sub h r (l.length - r)
    rw [Nat.zero_add, List.take_of_length_le (by rw [List.length_drop]; omega)] at hs
    exact hs
/-- A row of numbers of the call's own. -/
def Row (w : World) (g : Nat) (l : List Int) : Prop := Has w g 3 (ints l)
theorem Row.seen {w : World} {g : Nat} {l : List Int} (h : Row w g l) : Seen w (some ⟨g, 0, none⟩) l :=
  fun _ => ⟨g, 0, rfl, Has.lt h, fun j v hv => by rw [Has.cell h, Nat.zero_add]; exact hv⟩
/-- A slice value that was made by appends alone, with these numbers. -/
def Own (w : World) (v : Value) (l : List Int) : Prop := w.ownsRow 0 3 1 v l.length (ints l)
theorem Own.nil (w : World) : Own w (.slice none 0 0) [] := World.ownsRow_nil w 0 _ 1
/-- It is nil and empty, or lies at the head of a block. -/
theorem Own.form {w : World} {v : Value} {l : List Int} (h : Own w v l) : (v = .slice none 0 0 ∧ l = []) ∨ ∃ g cap, v = .slice (some ⟨g, 0, none⟩) l.length cap ∧ g < w.heap.size ∧ l.length ≤ cap ∧ cap ≤ maxLen := by
  rcases h.2 with ⟨rfl, h0⟩ | ⟨g, cap, cur, rfl, _, hg, hc, hm, _⟩
  · exact .inl ⟨rfl, List.eq_nil_of_length_eq_zero h0⟩
  · exact .inr ⟨g, cap, rfl, (Array.getElem?_eq_some_iff.1 hg).1, hc, hm⟩
theorem Own.cell {w : World} {g n cap : Nat} {l : List Int} (h : Own w (.slice (some ⟨g, 0, none⟩) n cap) l) : ∀ j v, (ints l)[j]? = some v → w.cell? ⟨g, j, none⟩ = some v := by
  intro j v hv
  rcases h.2 with ⟨h1, _⟩ | ⟨g', cap', cur, h1, _, hg, _, _, _, ht⟩
  · cases h1
  · injection h1 with h1 h2 h3
    injection h1 with h1
    injection h1 with h1
    subst h1
    rw [cell_of_row w g j cur _ (0, 0) hg, ← Array.getElem?_toList]
    rw [← ht, List.getElem?_take] at hv
    split at hv
    · exact hv
    · cases hv
theorem Own.seen {w : World} {g n cap : Nat} {l : List Int} (h : Own w (.slice (some ⟨g, 0, none⟩) n cap) l) (hg : g < w.heap.size) : Seen w (some ⟨g, 0, none⟩) l :=
  fun _ => ⟨g, 0, rfl, hg, fun j v hv => by rw [Nat.zero_add]; exact h.cell j v hv⟩
theorem Own.keep {w w' : World} {v : Value} {l : List Int} {row : Option Nat} (h : Own w v l) (hg : w.grownBy w' row) (hne : v.ownBlock = none ∨ v.ownBlock ≠ row) : Own w' v l := World.ownsRow.kept h hg hne
theorem Own.kept {w w' : World} {v : Value} {l : List Int} {S : List Nat} (h : Own w v l) (k : Kept S w w') (hS : ∀ g ∈ S, v.ownBlock ≠ some g) : Own w' v l := by
  refine ⟨h.1, ?_⟩
  rcases h.2 with hn | ⟨g, cap, cur, rfl, hb, hg, rest⟩
  · exact .inl hn
  · refine .inr ⟨g, cap, cur, rfl, hb, ?_, rest⟩
    rw [k.old g (Array.getElem?_eq_some_iff.1 hg).1 fun hs => hS g hs rfl]
    exact hg
theorem Own.keep0 {w w' : World} {v : Value} {l : List Int} (h : Own w v l) (k : Kept [] w w') : Own w' v l := h.kept k fun _ hi => by cases hi
/-- append, where what is appended is a row of numbers that is seen (nil, empty or not). -/
theorem append_numbers {w : World} {ops : Array Oper} {rest : List Oper} {o : Oper} {a : Act} {Q : Exit → Act → World → Prop} (hgd : o.guard = none) (s x : Operand)
    (ho : o.op = .call { callee := .builtin .append, args := #[s, x], argTypes := #[48, 48] })
    (v : Value) (l : List Int) (hs : a.eval s = v) (hown : Own w v l) (A : Option Addr) (m c : Nat) (news : List Int) (hx : a.eval x = .slice A m c) (hm : news.length = m) (hnil : A = none → c = 0) (hseen : Seen w A news)
    (hb : l.length + m ≤ 1073741824)
    (h : ∀ v' w', Own w' v' (l ++ news) → w.grownBy w' v.ownBlock → (v'.ownBlock = v.ownBlock ∨ v'.ownBlock = some w.heap.size) → wpList Tryz.prog ops Q rest (a.put o.dst v') w') : wpList Tryz.prog ops Q (o :: rest) a w := by
  obtain ⟨i0, hi, hz0, hz1, hz2⟩ := info_parts info_i64
  subst hm
  cases A with
  | none =>
    have hn : news = [] := by
      cases news with
      | nil => rfl
      | cons y ys =>
        obtain ⟨g, f, e, _⟩ := hseen (by simp)
        cases e
    subst hn
    obtain rfl := hnil rfl
    refine wpList_append_own_none hgd s x 48 ho 0 3 i0 1 Tryz.underlying48 hi v l.length (ints l) hs hown hx ?_
    exact h v w (by rw [List.append_nil]; exact hown) (World.grownBy.refl w _) (.inl rfl)
  | some ad =>
    refine wpList_append_own_at w hgd s x 48 ho 0 3 i0 (.int .i64 0) 1 8 Tryz.underlying48 hi hz0 hz1 hz2 rfl (by decide) v l.length (ints l) hs hown ad news.length c (ints news) hx (by rw [ints_length, Nat.mul_one]) ?_ (ints_one news) (by unfold maxLen; omega) (by omega) (Nat.zero_le _) ?_
    · intro j u hu
      by_cases hne : news = []
      · subst hne; cases hu
      · obtain ⟨g, f, e, _, hc⟩ := hseen hne
        obtain rfl := Option.some.inj e
        rw [add_at]
        exact hc j u hu
    · intro v' w' h1 h2 _ h4
      refine h v' w' ?_ h2 h4
      unfold Own ints at *
      rw [List.length_append, List.map_append]
      exact h1
theorem Own.block_type {w : World} {g n cap b : Nat} {l : List Int} {t : TypeId} {cs : List Value} (h : Own w (.slice (some ⟨g, 0, none⟩) n cap) l) (h' : Has w b t cs) (ht : t ≠ 3) : b ≠ g := by
  rintro rfl
  rcases h.2 with ⟨h1, _⟩ | ⟨g', cap', cur, h1, _, hg, _⟩
  · cases h1
  · injection h1 with h1
    injection h1 with h1
    injection h1 with h1
    subst h1
    have e := h'.symm.trans hg
    injection e with e
    injection e with _ e
    exact ht e
/-- A slice that a call hands back, as a row of numbers. -/
def Back (w x : World) (A : Option Addr) (c : Nat) (l : List Int) : Prop := (A = none → c = 0) ∧ Seen x A l ∧ Kept [] w x
theorem back_own {w y : World} {v : Value} {l : List Int} (hk : Kept [] w y) (hO : Own y v l) : ∃ A c, v = .slice A l.length c ∧ Back w y A c l := by
  rcases hO.form with ⟨rfl, rfl⟩ | ⟨g', cap', rfl, hlt, _, _⟩
  · exact ⟨none, 0, rfl, (fun _ => rfl), (fun h => absurd rfl h), hk⟩
  · exact ⟨_, _, rfl, (fun h => by cases h), hO.seen hlt, hk⟩
end Go.Proofs.YtdfnphgjjodfoaaGreatDoor.Ir

/-
  The contracts of Ref and Refs.
-/
namespace Go.Proofs.YtdfnphgjjodfoaaGreatDoor.Kd
open Go.RowKit Go.Proofs.YtdfnphgjjodfoaaGreatDoor.Ar Go.Proofs.YtdfnphgjjodfoaaGreatDoor.Ir Go.Maps
set_option linter.unusedVariables false

end Go.Proofs.YtdfnphgjjodfoaaGreatDoor.Kd

/-
  The contract of Refs: all slots that are references, rising.
-/
namespace Go.Proofs.YtdfnphgjjodfoaaGreatDoor.Kd
open Go.RowKit Go.Proofs.YtdfnphgjjodfoaaGreatDoor.Ar Go.Proofs.YtdfnphgjjodfoaaGreatDoor.Ir Go.Maps
set_option linter.unusedVariables false

theorem refsTo_succ (k : Nat) (wd : Int) (mk m : Nat) : refsTo k wd mk (m + 1) = if isRef k wd mk m then refsTo k wd mk m ++ [(m : Int)] else refsTo k wd mk m := by
  unfold refsTo
  rw [List.range_succ, List.filter_append]
  cases h : isRef k wd mk m
  · simp [h]
  · simp [h]
theorem refsTo_length (k : Nat) (wd : Int) (mk m : Nat) : (refsTo k wd mk m).length ≤ m := by
  unfold refsTo
  rw [List.length_map]
  have := List.length_filter_le (isRef k wd mk) (List.range m)
  rwa [List.length_range] at this
/-- All slots that are references. -/
def refsR (k : Nat) (wd : Int) (mk : Nat) (n : Int) : List Int := if err k wd mk n = 0 then refsTo k wd mk (slots k wd n).toNat else []
def Fresh (w : World) (v : Value) : Prop := v.ownBlock = none ∨ ∃ b, v.ownBlock = some b ∧ w.heap.size ≤ b
def RefsPost (w : World) (k : Nat) (wd : Int) (mk : Nat) (n : Int) (e : Ending) (w' : World) : Prop := ∃ v, e = .returned (.tuple #[v, .int .i64 (err k wd mk n)]) ∧ Ir.Own w' v (refsR k wd mk n) ∧ Kept [] w w'
end Go.Proofs.YtdfnphgjjodfoaaGreatDoor.Kd

/-
  How the arguments of layer 10's laws read: steps, with the rows of numbers that lie in them.
-/
namespace Go.Proofs.YtdfnphgjjodfoaaGreatDoor.Wk
open Go.Proofs.YtdfnphgjjodfoaaGreatDoor.Ar Go.RowKit Go.ChangeShapes Go.WideShapes Go.Proofs.YtdfnphgjjodfoaaGreatDoor.Sp
set_option linter.unusedVariables false

section
variable {H : Type} {enc : TypeId × Value → H} {w : World} {base : Nat} {spare : Nat → Bool} {held : Bool} {fuel : Nat}
theorem ints_of {A : Option Addr} {len cap : Nat} {x : DataW H × List MemPlace} (h : DataW.trod enc Tryz.prog w base spare held fuel 48 [.slice A len cap] = some x) :
    (∃ l : List Int, l.length = len ∧ Ir.Seen w A l ∧ ∀ v ∈ l, I64 v) ∧ (A = none → cap = 0) ∧ ((∀ n ∈ x.1.weights Tryz.prog 48, n ≤ reachBytes) → len ≤ 17592186044416) := by
  have hb : Tryz.prog.bytesOf 3 = 8 := by kernel_rfl
  rcases open_ints Tryz.underlying48 Tryz.underlying3 (by kernel_rfl) h with ⟨hcs, _⟩ | ⟨a, l, c, zs, hcs, _, hl, hm, hz, hx, hcell, hwz⟩
  · simp at hcs
    obtain ⟨rfl, rfl, rfl⟩ := hcs
    exact ⟨⟨[], rfl, fun hne => absurd rfl hne, fun v hv => by cases hv⟩, fun _ => rfl, fun _ => by omega⟩
  · simp at hcs
    obtain ⟨rfl, rfl, rfl⟩ := hcs
    have hzl : len ≤ zs.length := by rw [hz]; split <;> omega
    refine ⟨⟨zs.take len, by rw [List.length_take]; omega, fun hne => ?_, fun v hv => Ar.i64_of_wf (hwz v (List.mem_of_mem_take hv))⟩, (fun e => by cases e), fun hw => ?_⟩
    · have h0 : 0 < len := by
        rcases Nat.eq_zero_or_pos len with h | h
        · subst h; exact absurd (by simp) hne
        · exact h
      have hc := hcell 0 (by omega)
      obtain ⟨g, f, s⟩ := a
      have hs : s = none := by simpa [Addr.add] using World.cell?_spot hc
      subst hs
      refine ⟨g, f, rfl, by simpa [Addr.add] using World.block_lt_of_cell? w _ hc, fun j v hv => ?_⟩
      unfold Ir.ints at hv
      rw [List.getElem?_map, List.getElem?_take] at hv
      by_cases hj : j < len
      · rw [if_pos hj, List.getElem?_eq_getElem (by omega)] at hv
        have hcj := hcell j (by omega)
        rw [add_at] at hcj
        rw [hcj]
        simpa [List.getD, List.getElem?_eq_getElem (show j < zs.length by omega)] using hv
      · rw [if_neg hj] at hv
        cases hv
    · have h8 := hw (((lits .i64 (zs.take len) : List (DataW H)).length + (lits .i64 (zs.drop len) : List (DataW H)).length) * 8) (by rw [hx]; simp [DataW.weights, Tryz.underlying48, hb])
      have h9 : (lits .i64 (zs.take len) : List (DataW H)).length = len := by unfold lits; rw [List.length_map, List.length_take]; omega
      rw [h9] at h8
      unfold reachBytes at h8
      omega
/-- A step whose own row can be read. -/
structure Read (w : World) (s : Stp) : Prop where
  gs : ∃ gs : List Int, gs.length = s.len ∧ Ir.Seen w s.A gs ∧ ∀ g ∈ gs, I64 g
  nil : s.A = none → s.cap = 0
  few : s.len ≤ 17592186044416
  u : 0 ≤ s.u ∧ s.u < 18446744073709551616
theorem Read.keep0 {w x : World} {s : Stp} (h : Read w s) (k : Kept [] w x) : Read x s :=
  ⟨let ⟨gs, h1, h2, h3⟩ := h.gs; ⟨gs, h1, h2.keep0 k, h3⟩, h.nil, h.few, h.u⟩
set_option maxRecDepth 100000 in
theorem step_read {cs : List Value} {x : DataW H × List MemPlace} (h : DataW.trod enc Tryz.prog w base spare held fuel 65 cs = some x) (hw : ∀ n ∈ x.1.weights Tryz.prog 65, n ≤ reachBytes) : ∃ s : Stp, cs = s.cells ∧ s.ok ∧ Read w s := by
  obtain ⟨xs, m, _, hx, hlen, hxl, hf⟩ := DataW.trod_struct Tryz.underlying65 h
  have hC : Tryz.prog.cellsOf 65 = 6 := by kernel_rfl
  have hI : Tryz.prog.cellsOf 3 = 1 := by kernel_rfl
  have hU : Tryz.prog.cellsOf 24 = 1 := by kernel_rfl
  have hL : Tryz.prog.cellsOf 48 = 1 := by kernel_rfl
  rw [hC] at hlen
  match cs, hlen, xs, hxl with
  | [c0, c1, c2, c3, c4, c5], _, [y0, y1, y2, y3, y4, y5], _ =>
    have g0 := hf 0 _ rfl
    have g1 := hf 1 _ rfl
    have g2 := hf 2 _ rfl
    have g3 := hf 3 _ rfl
    have g4 := hf 4 _ rfl
    have g5 := hf 5 _ rfl
    simp [hI, hU, hL] at g0 g1 g2 g3 g4 g5
    obtain ⟨d, e0, _, w0⟩ := DataW.trod_int Tryz.underlying3 g0
    obtain ⟨g, e1, _, w1⟩ := DataW.trod_int Tryz.underlying3 g1
    obtain ⟨i, e2, _, w2⟩ := DataW.trod_int Tryz.underlying3 g2
    obtain ⟨n, e3, _, w3⟩ := DataW.trod_int Tryz.underlying3 g3
    obtain ⟨u, e4, _, w4⟩ := DataW.trod_int Tryz.underlying24 g4
    obtain ⟨A, len, cap, e5, h5⟩ := slice_of g5
    simp at e0 e1 e2 e3 e4
    subst e0 e1 e2 e3 e4 e5
    obtain ⟨k1, k2, k3⟩ := ints_of g5
    refine ⟨⟨d, g, i, n, u, A, len, cap⟩, rfl, ⟨Ar.i64_of_wf w0, Ar.i64_of_wf w1, Ar.i64_of_wf w2, Ar.i64_of_wf w3, h5⟩, ⟨k1, k2, k3 fun q hq => hw q ?_, Ar.u64_of_wf w4⟩⟩
    rw [hx]
    simp only [DataW.weights, Tryz.underlying65]
    simp only [List.map_cons, List.map_nil, DataW.weightsEach, List.mem_append]
    exact .inr (.inr (.inr (.inr (.inr (.inl hq)))))
theorem weights_all {P : Program} {e : TypeId} : ∀ {L : List (DataW H)} {d : DataW H}, d ∈ L → ∀ n ∈ d.weights P e, n ∈ DataW.weightsAll P e L
  | x :: L, d, h, n, hn => by
    simp only [DataW.weightsAll, List.mem_append]
    rcases List.mem_cons.1 h with rfl | h
    · exact .inl hn
    · exact .inr (weights_all h n hn)
theorem steps_read {A : Option Addr} {len cap : Nat} {x : DataW H × List MemPlace} (h : DataW.trod enc Tryz.prog w base spare held fuel 23 (Value.cells (.slice A len cap)).toList = some x)
    (hw : ∀ n ∈ x.1.weights Tryz.prog 23, n ≤ reachBytes) :
    ∃ L : List Stp, L.length = len ∧ len ≤ cap ∧ cap ≤ maxLen ∧ Sp.Steps w A L ∧ (∀ s ∈ L, s.ok) ∧ ∀ s ∈ L, Read w s := by
  have hC : Tryz.prog.cellsOf 65 = 6 := by kernel_rfl
  rcases Go.Deep.open_slice Tryz.underlying23 h with ⟨hcs, _⟩ | ⟨a, l, c, m, n, D, Pl, hcs, _, hl, hm, hmm, hxx, hx⟩
  · simp [Value.cells] at hcs
    obtain ⟨rfl, rfl, rfl⟩ := hcs
    exact ⟨[], rfl, Nat.le_refl _, by unfold maxLen; omega, fun hne => absurd rfl hne, (fun v hv => by cases hv), (fun v hv => by cases hv)⟩
  · simp [Value.cells] at hcs
    obtain ⟨rfl, rfl, rfl⟩ := hcs
    have hlm : len ≤ m := by rw [hmm]; split <;> omega
    obtain ⟨L, hL, hP⟩ := exists_list (P := fun i s => (s.ok ∧ Read w s) ∧ ∀ j v, s.cells[j]? = some v → w.cell? ((a.add (i * 6)).add j) = some v) len fun i hi => by
      obtain ⟨cs, h1, h2⟩ := hx i (by omega)
      obtain ⟨s, rfl, hs, hr⟩ := step_read h2 fun q hq => hw q (by
        rw [hxx]
        simp only [DataW.weights, Tryz.underlying23, List.mem_cons, List.mem_append]
        exact .inr (.inl (weights_all (List.mem_map.2 ⟨i, List.mem_range.2 hi, rfl⟩) q hq)))
      obtain ⟨_, hlen, hcell⟩ := World.cells?_some h1
      rw [hC] at hcell
      refine ⟨s, ⟨hs, hr⟩, fun j v hv => ?_⟩
      have hj : j < s.cells.length := (List.getElem?_eq_some_iff.1 hv).1
      have e := hcell (i := j) (by simpa [Stp.cells] using hj)
      rw [hv] at e
      exact e
    refine ⟨L, hL, hl, hm, fun hne => ?_, fun s hs => ?_, fun s hs => ?_⟩
    · have h0 : 0 < L.length := by
        cases L with
        | nil => exact absurd rfl hne
        | cons => simp
      have hc := (hP 0 L[0] (List.getElem?_eq_getElem h0)).2 0 _ rfl
      obtain ⟨g, f, s⟩ := a
      have hs : s = none := by simpa [Addr.add] using World.cell?_spot hc
      subst hs
      refine ⟨g, f, rfl, by simpa [Addr.add] using World.block_lt_of_cell? w _ hc, fun i s hi j v hv => ?_⟩
      have e := (hP i s hi).2 j v hv
      rw [add_at, add_at, Nat.add_assoc] at e
      exact e
    · obtain ⟨i, hi, rfl⟩ := List.mem_iff_getElem.1 hs
      exact (hP i _ (List.getElem?_eq_getElem hi)).1.1
    · obtain ⟨i, hi, rfl⟩ := List.mem_iff_getElem.1 hs
      exact (hP i _ (List.getElem?_eq_getElem hi)).1.2
end
end Go.Proofs.YtdfnphgjjodfoaaGreatDoor.Wk
