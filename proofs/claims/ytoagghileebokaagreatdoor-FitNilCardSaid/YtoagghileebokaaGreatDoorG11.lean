/-
  Several texts in one: WordRow, ArMem, ArCut, ArFill.
-/
import Derived.Test.YtoagghileebokaaGreatDoorProg
import Derived.Test.YtoagghileebokaaGreatDoorG01
import Derived.WalkKit
import Derived.Laws.MakeOwn
import Derived.Maps.AppendAt
import Derived.Laws.AppendOwnNone
import Derived.OwnWalk
import Derived.Lib.Hide
import Derived.Laws.OwnMore
import Derived.Laws.Rows
import Derived.Deep.Draws
import Derived.Outline
import Derived.WalkSpells
/-
  Rows of words ([]uint64): as cells of a block, as a slice that is seen, as one that was made by appends; make and append as laws.
-/
namespace Go.Proofs.YtoagghileebokaaGreatDoor.Ar
open Go.RowKit

/-- A list of words as cells. -/
def ints (ws : List Int) : List Value := ws.map (Value.int .u64)
theorem ints_length (ws : List Int) : (ints ws).length = ws.length := List.length_map _
theorem ints_get (ws : List Int) (i : Nat) (h : i < ws.length) : (ints ws)[i]? = some (.int .u64 (ws.getD i 0)) := by
  unfold ints
  rw [List.getElem?_map, List.getElem?_eq_getElem h]
  simp [List.getD, List.getElem?_eq_getElem h]
theorem ints_set (ws : List Int) (i : Nat) (v : Int) : (ints ws).set i (.int .u64 v) = ints (ws.set i v) := by
  unfold ints
  rw [List.map_set]
theorem ints_one (ws : List Int) : ∀ v ∈ ints ws, v.oneCell' = true := by
  intro v hv
  unfold ints at hv
  obtain ⟨x, _, rfl⟩ := List.mem_map.1 hv
  rfl
theorem ints_cut (ws : List Int) (f k j : Nat) (v : Value) (h : (ints ((ws.drop f).take k))[j]? = some v) : (ints ws)[f + j]? = some v := by
  unfold ints at *
  rw [List.getElem?_map, List.getElem?_take] at h
  split at h
  · rw [List.getElem?_drop] at h
    rw [List.getElem?_map]
    exact h
  · simp at h
theorem info_u64 : (Tryz.prog.info? 55).map (fun i => (i.zero, i.size, i.bytes)) = some (some (.int .u64 0), 1, 8) := by kernel_rfl
/-- A slice of words that reads as a list: an empty one has whatever address. -/
def Seen (w : World) (A : Option Addr) (l : List Int) : Prop := l ≠ [] → ∃ g f, A = some ⟨g, f, none⟩ ∧ g < w.heap.size ∧ ∀ j v, (ints l)[j]? = some v → w.cell? ⟨g, f + j, none⟩ = some v
theorem Seen.keep {w w' : World} {A : Option Addr} {l : List Int} (h : Seen w A l) (hk : ∀ g f, A = some ⟨g, f, none⟩ → g < w.heap.size → w'.heap[g]? = w.heap[g]?) (hs : w.heap.size ≤ w'.heap.size) : Seen w' A l := by
  intro hl
  obtain ⟨g, f, e, hg, hc⟩ := h hl
  exact ⟨g, f, e, by omega, fun j v hv => (World.cell?_of_block (w := w) (hk g f e hg)).trans (hc j v hv)⟩
theorem Seen.keep0 {w w' : World} {A : Option Addr} {l : List Int} (h : Seen w A l) (k : Kept [] w w') : Seen w' A l :=
  h.keep (fun g _ _ hg => k.old g hg (by simp)) k.more
theorem Seen.cells {w : World} {A : Option Addr} {l : List Int} (h : Seen w A l) (hl : l ≠ []) : ∃ g f, A = some ⟨g, f, none⟩ ∧ ∀ j, j < l.length → w.cell? ⟨g, f + j, none⟩ = some (.int .u64 (l.getD j 0)) := by
  obtain ⟨g, f, e, _, hc⟩ := h hl
  exact ⟨g, f, e, fun j hj => hc j _ (ints_get l j hj)⟩
/-- A word of a row that came in, read in a later world. -/
theorem Seen.later {w : World} {A : Option Addr} {l : List Int} (h : Seen w A l) (hl : l ≠ []) : ∃ g f, A = some ⟨g, f, none⟩ ∧ ∀ x, Kept [] w x → ∀ j, j < l.length → x.cell? ⟨g, f + j, none⟩ = some (.int .u64 (l.getD j 0)) := by
  obtain ⟨g, f, e, hg, hc⟩ := h hl
  exact ⟨g, f, e, fun x hx j hj => (World.cell?_of_block (w := w) (hx.old g hg (by simp))).trans (hc j _ (ints_get l j hj))⟩
theorem seen_sub {y : World} {g f : Nat} {l : List Int} (h : Seen y (some ⟨g, f, none⟩) l) (r k : Nat) : Seen y (some ⟨g, f + r, none⟩) ((l.drop r).take k) := by
  intro hne
  obtain ⟨g', f', e, hg, hc⟩ := h (fun h0 => hne (by rw [h0]; simp))
  injection e with e
  injection e with e1 e2
  subst e1 e2
  exact ⟨g, f + r, rfl, hg, fun j v hv => by rw [Nat.add_assoc]; exact hc (r + j) v (ints_cut l r k j v hv)⟩
theorem seen_take {y : World} {g : Nat} {l : List Int} (h : Seen y (some ⟨g, 0, none⟩) l) (k : Nat) : Seen y (some ⟨g, 0, none⟩) (l.take k) := by
  intro hne
  obtain ⟨g', f', e, hg, hc⟩ := h (fun h0 => hne (by rw [h0]; simp))
  refine ⟨g', f', e, hg, fun j v hv => hc j v ?_⟩
  unfold ints at *
  rw [List.map_take, List.getElem?_take] at hv
  split at hv
  · exact hv
  · cases hv
/-- What is left behind a cut of a row, at whatever address an empty rest has. -/
theorem seen_rest {y : World} {g : Nat} {l : List Int} (h : Seen y (some ⟨g, 0, none⟩) l) (r cap : Nat) (hr : r ≤ l.length) (hc : l.length ≤ cap) : Seen y (if cap = r then some ⟨g, 0, none⟩ else some ⟨g, r, none⟩) (l.drop r) := by
  by_cases e : cap = r
  · intro hne
    exact absurd (List.drop_eq_nil_of_le (by omega)) hne
  · rw [if_neg e]
    have hs := seen_sub h r (l.length - r)
    rw [Nat.zero_add, List.take_of_length_le (by rw [List.length_drop]; omega)] at hs
    exact hs
/-- A row of words of the call's own. -/
def Row (w : World) (g : Nat) (l : List Int) : Prop := Has w g 55 (ints l)
theorem Row.seen {w : World} {g : Nat} {l : List Int} (h : Row w g l) : Seen w (some ⟨g, 0, none⟩) l :=
  fun _ => ⟨g, 0, rfl, Has.lt h, fun j v hv => by rw [Has.cell h, Nat.zero_add]; exact hv⟩
theorem made_words (c : Nat) : (madeCells (Value.int .u64 0).cells c) = (ints (List.replicate c 0)).toArray := by
  apply Array.ext
  · simp [madeCells, ints]
  · intro i h1 h2
    simp [madeCells, ints, Value.cells, Nat.mod_one]
theorem run_make_words (c : Nat) (hc : c ≤ 1099511627776) (w : World) :
    (Instr.makeSlice 130 (.int .i64 (c : Int)) (.int .i64 (c : Int))).run Tryz.prog w = .ok (.slice (some ⟨w.heap.size, 0, none⟩) c c) (w.alloc (.cells (ints (List.replicate c 0)).toArray 55)) := by
  obtain ⟨i0, hi, hz0, hz1, hz2⟩ := info_parts info_u64
  have h := run_make (P := Tryz.prog) w 130 55 i0 (.int .u64 0) Tryz.underlying130 hi hz0 .i64 .i64 c c (by omega) (by omega) (by rw [hz2]; omega) (by omega)
  rw [Int.toNat_natCast, hz1, Nat.mul_one, made_words] at h
  exact h
/-- A slice value that was made by appends alone, with these words. -/
def Own (w : World) (v : Value) (l : List Int) : Prop := w.ownsRow 0 55 1 v l.length (ints l)
theorem Own.nil (w : World) : Own w (.slice none 0 0) [] := World.ownsRow_nil w 0 _ 1
/-- It is nil and empty, or lies at the head of a block. -/
theorem Own.form {w : World} {v : Value} {l : List Int} (h : Own w v l) : (v = .slice none 0 0 ∧ l = []) ∨ ∃ g cap, v = .slice (some ⟨g, 0, none⟩) l.length cap ∧ g < w.heap.size ∧ l.length ≤ cap ∧ cap ≤ maxLen := by
  rcases h.2 with ⟨rfl, h0⟩ | ⟨g, cap, cur, rfl, _, hg, hc, hm, _⟩
  · exact .inl ⟨rfl, List.eq_nil_of_length_eq_zero h0⟩
  · exact .inr ⟨g, cap, rfl, (Array.getElem?_eq_some_iff.1 hg).1, hc, hm⟩
theorem Own.cell {w : World} {g n cap : Nat} {l : List Int} (h : Own w (.slice (some ⟨g, 0, none⟩) n cap) l) : ∀ j v, (ints l)[j]? = some v → w.cell? ⟨g, j, none⟩ = some v := by
  intro j v hv
  rcases h.2 with ⟨h1, _⟩ | ⟨g', cap', cur, h1, _, hg, _, _, _, ht⟩
  · cases h1
  · injection h1 with h1 h2 h3
    injection h1 with h1
    injection h1 with h1
    subst h1
    rw [cell_of_row w g j cur _ (0, 0) hg, ← Array.getElem?_toList]
    rw [← ht, List.getElem?_take] at hv
    split at hv
    · exact hv
    · cases hv
theorem Own.seen {w : World} {g n cap : Nat} {l : List Int} (h : Own w (.slice (some ⟨g, 0, none⟩) n cap) l) (hg : g < w.heap.size) : Seen w (some ⟨g, 0, none⟩) l :=
  fun _ => ⟨g, 0, rfl, hg, fun j v hv => by rw [Nat.zero_add]; exact h.cell j v hv⟩
theorem Own.keep {w w' : World} {v : Value} {l : List Int} {row : Option Nat} (h : Own w v l) (hg : w.grownBy w' row) (hne : v.ownBlock = none ∨ v.ownBlock ≠ row) : Own w' v l := World.ownsRow.kept h hg hne
theorem Own.kept {w w' : World} {v : Value} {l : List Int} {S : List Nat} (h : Own w v l) (k : Kept S w w') (hS : ∀ g ∈ S, v.ownBlock ≠ some g) : Own w' v l := by
  refine ⟨h.1, ?_⟩
  rcases h.2 with hn | ⟨g, cap, cur, rfl, hb, hg, rest⟩
  · exact .inl hn
  · refine .inr ⟨g, cap, cur, rfl, hb, ?_, rest⟩
    rw [k.old g (Array.getElem?_eq_some_iff.1 hg).1 fun hs => hS g hs rfl]
    exact hg
theorem Own.keep0 {w w' : World} {v : Value} {l : List Int} (h : Own w v l) (k : Kept [] w w') : Own w' v l := h.kept k fun _ hi => by cases hi
/-- append, where what is appended is a row of words that is seen (nil, empty or not). -/
theorem append_words {w : World} {ops : Array Oper} {rest : List Oper} {o : Oper} {a : Act} {Q : Exit → Act → World → Prop} (hgd : o.guard = none) (s x : Operand)
    (ho : o.op = .call { callee := .builtin .append, args := #[s, x], argTypes := #[130, 130] })
    (v : Value) (l : List Int) (hs : a.eval s = v) (hown : Own w v l) (A : Option Addr) (m c : Nat) (news : List Int) (hx : a.eval x = .slice A m c) (hm : news.length = m) (hnil : A = none → c = 0) (hseen : Seen w A news)
    (hb : l.length + m ≤ 1073741824)
    (h : ∀ v' w', Own w' v' (l ++ news) → w.grownBy w' v.ownBlock → (v'.ownBlock = v.ownBlock ∨ v'.ownBlock = some w.heap.size) → wpList Tryz.prog ops Q rest (a.put o.dst v') w') : wpList Tryz.prog ops Q (o :: rest) a w := by
  obtain ⟨i0, hi, hz0, hz1, hz2⟩ := info_parts info_u64
  subst hm
  cases A with
  | none =>
    have hn : news = [] := by
      cases news with
      | nil => rfl
      | cons y ys =>
        obtain ⟨g, f, e, _⟩ := hseen (by simp)
        cases e
    subst hn
    obtain rfl := hnil rfl
    refine wpList_append_own_none hgd s x 130 ho 0 55 i0 1 Tryz.underlying130 hi v l.length (ints l) hs hown hx ?_
    exact h v w (by rw [List.append_nil]; exact hown) (World.grownBy.refl w _) (.inl rfl)
  | some ad =>
    refine wpList_append_own_at w hgd s x 130 ho 0 55 i0 (.int .u64 0) 1 8 Tryz.underlying130 hi hz0 hz1 hz2 rfl (by decide) v l.length (ints l) hs hown ad news.length c (ints news) hx (by rw [ints_length, Nat.mul_one]) ?_ (ints_one news) (by unfold maxLen; omega) (by omega) (Nat.zero_le _) ?_
    · intro j u hu
      by_cases hne : news = []
      · subst hne; cases hu
      · obtain ⟨g, f, e, _, hc⟩ := hseen hne
        obtain rfl := Option.some.inj e
        rw [add_at]
        exact hc j u hu
    · intro v' w' h1 h2 _ h4
      refine h v' w' ?_ h2 h4
      unfold Own ints at *
      rw [List.length_append, List.map_append]
      exact h1
theorem Own.block_type {w : World} {g n cap b : Nat} {l : List Int} {t : TypeId} {cs : List Value} (h : Own w (.slice (some ⟨g, 0, none⟩) n cap) l) (h' : Has w b t cs) (ht : t ≠ 55) : b ≠ g := by
  rintro rfl
  rcases h.2 with ⟨h1, _⟩ | ⟨g', cap', cur, h1, _, hg, _⟩
  · cases h1
  · injection h1 with h1
    injection h1 with h1
    injection h1 with h1
    subst h1
    have e := h'.symm.trans hg
    injection e with e
    injection e with _ e
    exact ht e
/-- A slice that a call hands back, as a row of words. -/
def Back (w x : World) (A : Option Addr) (c : Nat) (l : List Int) : Prop := (A = none → c = 0) ∧ Seen x A l ∧ Kept [] w x
theorem back_own {w y : World} {v : Value} {l : List Int} (hk : Kept [] w y) (hO : Own y v l) : ∃ A c, v = .slice A l.length c ∧ Back w y A c l := by
  rcases hO.form with ⟨rfl, rfl⟩ | ⟨g', cap', rfl, hlt, _, _⟩
  · exact ⟨none, 0, rfl, (fun _ => rfl), (fun h => absurd rfl h), hk⟩
  · exact ⟨_, _, rfl, (fun h => by cases h), hO.seen hlt, hk⟩
end Go.Proofs.YtoagghileebokaaGreatDoor.Ar

/-
  Memory of package arena and of the document's answer, told by blocks: what a block holds, which blocks may have turned.
-/
namespace Go.Proofs.YtoagghileebokaaGreatDoor.Ar
open Go.RowKit

/-- An arena at block p, its words at block q. -/
structure Arena (w : World) (p q : Nat) (ws : List Int) (n : Int) : Prop where
  head : Has w p 132 [.slice (some ⟨q, 0, none⟩) ws.length ws.length, .int .u64 n]
  row : Has w q 55 (ints ws)
  short : ws.length ≤ 65536

namespace Arena
variable {w w' : World} {p q : Nat} {ws : List Int} {n : Int}
theorem ne (h : Arena w p q ws n) : p ≠ q := by
  rintro rfl
  have e := h.head.symm.trans h.row
  injection e with e
  injection e with _ e
  exact absurd e (by decide)
theorem kept {S : List Nat} (h : Arena w p q ws n) (k : Kept S w w') (hp : p ∉ S) (hq : q ∉ S) : Arena w' p q ws n := ⟨h.head.kept k hp, h.row.kept k hq, h.short⟩
theorem keep0 (h : Arena w p q ws n) (k : Kept [] w w') : Arena w' p q ws n := h.kept k (by simp) (by simp)
theorem drewN (h : Arena w p q ws n) (k : Nat) : Arena (w.drewN k) p q ws n := ⟨h.head, h.row, h.short⟩
end Arena

/-! ### What the calls answer, as plain functions -/
/-- k words from the word i on lie within L. -/
def within (L : Nat) (i k : Int) : Bool := decide (0 ≤ i ∧ 0 ≤ k ∧ i + k ≤ L)
theorem within_iff (L : Nat) (i k : Int) : within L i k = true ↔ 0 ≤ i ∧ 0 ≤ k ∧ i + k ≤ L := by unfold within; exact decide_eq_true_iff
/-- OK or ErrArg. -/
def errOf (b : Bool) : Int := if b then 0 else 2
/-- l laid over ws from the word i on. -/
def putW (ws : List Int) (i : Nat) (l : List Int) : List Int := ws.take i ++ (l ++ ws.drop (i + l.length))
theorem putW_length (ws : List Int) (i : Nat) (l : List Int) (h : i + l.length ≤ ws.length) : (putW ws i l).length = ws.length := by
  unfold putW
  simp only [List.length_append, List.length_take, List.length_drop]
  omega
def loadV (ws : List Int) (i : Int) : Int := if within ws.length i 1 then ws.getD i.toNat 0 else 0
def fillW (ws : List Int) (i k v : Int) : List Int := if within ws.length i k then putW ws i.toNat (List.replicate k.toNat v) else ws
def fillN (ws : List Int) (n i k : Int) : Int := if within ws.length i k then addU n k else n
theorem fillW_length (ws : List Int) (i k v : Int) : (fillW ws i k v).length = ws.length := by
  unfold fillW
  split
  · rename_i h
    obtain ⟨a, b, c⟩ := (within_iff _ _ _).1 h
    exact putW_length _ _ _ (by rw [List.length_replicate]; omega)
  · rfl
end Go.Proofs.YtoagghileebokaaGreatDoor.Ar

/-
  The contracts of package arena's functions that only read: Len, Writes, cut, Load; and of wrote.
-/
namespace Go.Proofs.YtoagghileebokaaGreatDoor.Ar
open Go.RowKit

/-! ### nil -/
theorem len_nil (w : World) : Calls Tryz.prog 72 #[.pointer none] w fun e w' => e = .returned (.int .i64 0) ∧ w = w' := by
  go_enter Tryz.func72, Tryz.ntmps72
  go_wp2
  go_ret
  exact ⟨rfl, rfl⟩
/-! ### An arena -/
section
variable {p q : Nat} {ws : List Int} {n : Int} {w : World}
theorem Arena.c0 (h : Arena w p q ws n) : w.cell? ⟨p, 0, none⟩ = some (.slice (some ⟨q, 0, none⟩) ws.length ws.length) := h.head.cell 0
theorem Arena.c1 (h : Arena w p q ws n) : w.cell? ⟨p, 1, none⟩ = some (.int .u64 n) := h.head.cell 1
theorem len_any (h : Arena w p q ws n) : Calls Tryz.prog 72 #[.pointer (some ⟨p, 0, none⟩)] w fun e w' => e = .returned (.int .i64 ws.length) ∧ w = w' := by
  have c := h.c0
  have hs := h.short
  go_enter Tryz.func72, Tryz.ntmps72
  go_wp2
  go_ret
  exact ⟨rfl, rfl⟩
/-- The address of a piece: an empty one keeps the row's head. -/
def pieceAt (q : Nat) (i k : Int) : Option Addr := if k = 0 then some ⟨q, 0, none⟩ else some ⟨q, i.toNat, none⟩
theorem cut_ok (h : Arena w p q ws n) (i k : Int) (hr : within ws.length i k = true) :
    Calls Tryz.prog 122 #[.pointer (some ⟨p, 0, none⟩), .int .i64 i, .int .i64 k] w fun e w' => e = .returned (.tuple #[.slice (pieceAt q i k) k.toNat k.toNat, .int .i64 0]) ∧ w = w' := by
  obtain ⟨a, b, c⟩ := (within_iff _ _ _).1 hr
  have cc := h.c0
  have hs := h.short
  clear hr h
  generalize ws.length = L at *
  obtain ⟨i, rfl⟩ := Int.eq_ofNat_of_zero_le a
  obtain ⟨k, rfl⟩ := Int.eq_ofNat_of_zero_le b
  by_cases hk : k = 0
  · subst hk
    have hA : pieceAt q (i : Int) ((0 : Nat) : Int) = some ⟨q, 0, none⟩ := if_pos rfl
    rw [hA]
    clear hA
    go_enter Tryz.func122, Tryz.ntmps122
    go_wp2
    go_ret2
    exact ⟨by simp, rfl⟩
  · have hA : pieceAt q (i : Int) (k : Int) = some ⟨q, i, none⟩ := by unfold pieceAt; rw [if_neg (by omega), Int.toNat_natCast]
    rw [hA, Int.toNat_natCast]
    clear hA
    go_enter Tryz.func122, Tryz.ntmps122
    go_wp2
    go_ret2
    exact ⟨by simp, rfl⟩
theorem cut_bad (h : Arena w p q ws n) (i k : Int) (hr : within ws.length i k = false) (h1 : -9223372036854775808 ≤ i) (h2 : i ≤ 9223372036854775807) (h3 : -9223372036854775808 ≤ k) (h4 : k ≤ 9223372036854775807) :
    Calls Tryz.prog 122 #[.pointer (some ⟨p, 0, none⟩), .int .i64 i, .int .i64 k] w fun e w' => e = .returned (.tuple #[.slice none 0 0, .int .i64 2]) ∧ w = w' := by
  have hn : ¬ (0 ≤ i ∧ 0 ≤ k ∧ i + k ≤ (ws.length : Int)) := fun hh => by rw [(within_iff _ _ _).2 hh] at hr; cases hr
  have cc := h.c0
  have hs := h.short
  clear hr h
  generalize ws.length = L at *
  by_cases ha : i < 0
  · go_enter Tryz.func122, Tryz.ntmps122
    go_wp2
    go_ret2
    exact ⟨rfl, rfl⟩
  · by_cases hb : k < 0
    · go_enter Tryz.func122, Tryz.ntmps122
      go_wp2
      go_ret2
      exact ⟨rfl, rfl⟩
    · have hc : (L : Int) - i < k := by omega
      go_enter Tryz.func122, Tryz.ntmps122
      go_wp2
      go_ret2
      exact ⟨rfl, rfl⟩
theorem wrote_any (h : Arena w p q ws n) (k : Int) (hk : 0 ≤ k) (hk2 : k ≤ 9223372036854775807) :
    Calls Tryz.prog 123 #[.pointer (some ⟨p, 0, none⟩), .int .i64 k] w fun e w' => e = .returned (.tuple #[]) ∧ Arena w' p q ws (addU n k) ∧ Kept [p] w w' := by
  have c := h.c1
  have cf := h.head.free 1
  have hP : ∀ w', w' = w.setCell ⟨p, 1, none⟩ (.int .u64 (addU n k)) → Arena w' p q ws (addU n k) ∧ Kept [p] w w' := by
    rintro _ rfl
    exact ⟨⟨h.head.put 1 _, h.row.beside _ (Ne.symm h.ne) _, h.short⟩, (Kept.refl _ _).setCell _ _ (.inl (by simp))⟩
  have HP := Lib.hid hP
  clear hP h
  go_enter Tryz.func123, Tryz.ntmps123
  go_wp2
  go_end0
  exact ⟨rfl, HP.out _ rfl⟩
end
end Go.Proofs.YtoagghileebokaaGreatDoor.Ar

/-
  The contracts of package arena's Load, Fill and Store.
-/
namespace Go.Proofs.YtoagghileebokaaGreatDoor.Ar
open Go.RowKit

theorem replicate_step (ws : List Int) (i j : Nat) (v : Int) (h : i + j < ws.length) : (putW ws i (List.replicate j v)).set (i + j) v = putW ws i (List.replicate (j + 1) v) := by
  unfold putW
  have h1 : (ws.take i).length = i := by rw [List.length_take]; omega
  rw [List.set_append_right _ _ (by omega), h1, Nat.add_sub_cancel_left, List.set_append_right _ _ (by simp), List.length_replicate, Nat.sub_self, List.length_replicate, List.drop_eq_getElem_cons h, List.set_cons_zero, List.replicate_succ', List.append_assoc]
  simp [Nat.add_assoc]

section
variable {p q : Nat} {ws : List Int} {n : Int} {w : World}
theorem load_any (h : Arena w p q ws n) (i : Int) (h1 : -9223372036854775808 ≤ i) (h2 : i ≤ 9223372036854775807) :
    Calls Tryz.prog 124 #[.pointer (some ⟨p, 0, none⟩), .int .i64 i] w fun e w' => e = .returned (.tuple #[.int .u64 (loadV ws i), .int .i64 (errOf (within ws.length i 1))]) ∧ w = w' := by
  cases hr : within ws.length i 1
  · have e1 : loadV ws i = 0 := by unfold loadV; rw [hr]; rfl
    have H := Lib.hid (cut_bad h i 1 hr h1 h2 (by omega) (by omega))
    rw [e1, show errOf false = 2 from rfl]
    clear e1 hr h
    go_enter Tryz.func124, Tryz.ntmps124
    go_wp2_with fail
    refine H.out.mono ?_; rintro e w' ⟨rfl, rfl⟩
    go_wp2_with fail
    go_ret2
    exact ⟨rfl, rfl⟩
  · obtain ⟨a, b, c⟩ := (within_iff _ _ _).1 hr
    have e1 : loadV ws i = ws.getD i.toNat 0 := by unfold loadV; rw [hr]; rfl
    have e2 : pieceAt q i 1 = some ⟨q, i.toNat, none⟩ := if_neg (by omega)
    have hc := cut_ok h i 1 hr
    rw [e2] at hc
    have H := Lib.hid hc
    have hx := h.row.cell i.toNat
    rw [ints_get ws i.toNat (by omega)] at hx
    rw [e1, show errOf true = 0 from rfl]
    clear e1 e2 hr hc h a b c
    generalize ws.getD i.toNat 0 = x at *
    go_enter Tryz.func124, Tryz.ntmps124
    go_wp2_with fail
    refine H.out.mono ?_; rintro e w' ⟨rfl, rfl⟩
    go_wp2_with fail
    go_ret2
    exact ⟨rfl, rfl⟩

set_option maxHeartbeats 400000 in
theorem fill_any (h : Arena w p q ws n) (i k v : Int) (h1 : -9223372036854775808 ≤ i) (h2 : i ≤ 9223372036854775807) (h3 : -9223372036854775808 ≤ k) (h4 : k ≤ 9223372036854775807) :
    Calls Tryz.prog 90 #[.pointer (some ⟨p, 0, none⟩), .int .i64 i, .int .i64 k, .int .u64 v] w fun e w' =>
      e = .returned (.int .i64 (errOf (within ws.length i k))) ∧ Arena w' p q (fillW ws i k v) (fillN ws n i k) ∧ Kept [p, q] w w' := by
  cases hr : within ws.length i k
  · have e1 : fillW ws i k v = ws := by unfold fillW; rw [hr]; rfl
    have e2 : fillN ws n i k = n := by unfold fillN; rw [hr]; rfl
    have H := Lib.hid (cut_bad h i k hr h1 h2 h3 h4)
    rw [e1, e2, show errOf false = 2 from rfl]
    clear e1 e2 hr
    have HA := Lib.hid h
    clear h
    go_enter Tryz.func90, Tryz.ntmps90
    go_wp2_with fail
    refine H.out.mono ?_; rintro e w' ⟨rfl, rfl⟩
    go_wp2_with fail
    go_ret
    exact ⟨rfl, HA.out, Kept.refl _ _⟩
  · obtain ⟨a, b, c⟩ := (within_iff _ _ _).1 hr
    have e1 : fillW ws i k v = putW ws i.toNat (List.replicate k.toNat v) := by unfold fillW; rw [hr]; rfl
    have e2 : fillN ws n i k = addU n k := by unfold fillN; rw [hr]; rfl
    have H := Lib.hid (cut_ok h i k hr)
    have hs := h.short
    rw [e1, e2, show errOf true = 0 from rfl]
    clear e1 e2 hr
    obtain ⟨i, rfl⟩ := Int.eq_ofNat_of_zero_le a
    obtain ⟨k, rfl⟩ := Int.eq_ofNat_of_zero_le b
    simp only [Int.toNat_natCast] at *
    have HA := Lib.hid h
    clear h a b
    go_enter Tryz.func90, Tryz.ntmps90
    go_wp2_with fail
    refine H.out.mono ?_; rintro e w' ⟨rfl, rfl⟩
    go_wp2_with fail
    clear H
    go_loopw [23] (fun t wr => ∃ j : Nat, j ≤ k ∧ t = .int .i64 j ∧ Arena wr p q (putW ws i (List.replicate j v)) n ∧ Kept [p, q] w wr) (fun t _ => k - (intOf t).toNat)
    case atStart => exact ⟨0, Nat.zero_le _, rfl, by rw [show putW ws i (List.replicate 0 v) = ws by simp [putW]]; exact HA.out, Kept.refl _ _⟩
    case round =>
      obtain ⟨j, hj, rfl, hA, hK⟩ := hrel
      have hlen : (putW ws i (List.replicate j v)).length = ws.length := putW_length _ _ _ (by rw [List.length_replicate]; omega)
      by_cases hlt : j < k
      · have ea : pieceAt q (i : Int) (k : Int) = some ⟨q, i, none⟩ := by unfold pieceAt; rw [if_neg (by omega), Int.toNat_natCast]
        have hc := hA.row.cell (i + j)
        rw [ints_get _ _ (by omega)] at hc
        have hf := hA.row.free (i + j)
        have hN : ∀ x, x = wr.setCell ⟨q, i + j, none⟩ (.int .u64 v) → Arena x p q (putW ws i (List.replicate (j + 1) v)) n ∧ Kept [p, q] w x := by
          rintro _ rfl
          have hl2 : (putW ws i (List.replicate (j + 1) v)).length = (putW ws i (List.replicate j v)).length := by rw [hlen]; exact putW_length _ _ _ (by rw [List.length_replicate]; omega)
          refine ⟨⟨?_, ?_, by rw [hl2]; exact hA.short⟩, hK.setCell _ _ (.inl (by simp))⟩
          · rw [hl2]
            exact hA.head.beside _ hA.ne _
          · have e := hA.row.put (i + j) (.int .u64 v)
            rw [ints_set, replicate_step ws i j v (by omega)] at e
            exact e
        generalize (putW ws i (List.replicate j v)).getD (i + j) 0 = x at *
        have HN := Lib.hid hN
        clear hN hA hK hlen HA
        rw [ea]
        clear ea
        go_wp2
        go_roundw
        case rel => exact ⟨j + 1, by omega, by go_num, HN.out _ rfl⟩
        case measure => simp [intOf]; omega
      · obtain rfl : j = k := by omega
        have hw := wrote_any hA (j : Int) (by omega) (by omega)
        have HW := Lib.hid hw
        have HK := Lib.hid hK
        clear hw hA hK hlen HA
        go_wp2_with fail
        refine HW.out.mono ?_; rintro e w2 ⟨rfl, hA2, hK2⟩
        have HA2 := Lib.hid hA2
        have HK2 := Lib.hid (HK.out.trans (hK2.mono (T := [p, q]) (by simp)))
        clear hA2 hK2 HK
        go_wp2_with fail
        go_ret
        exact ⟨rfl, HA2.out, HK2.out⟩
theorem store_any (h : Arena w p q ws n) (i v : Int) (h1 : -9223372036854775808 ≤ i) (h2 : i ≤ 9223372036854775807) :
    Calls Tryz.prog 69 #[.pointer (some ⟨p, 0, none⟩), .int .i64 i, .int .u64 v] w fun e w' =>
      e = .returned (.int .i64 (errOf (within ws.length i 1))) ∧ Arena w' p q (fillW ws i 1 v) (fillN ws n i 1) ∧ Kept [p, q] w w' := by
  have H := Lib.hid (fill_any h i 1 v h1 h2 (by omega) (by omega))
  clear h
  go_enter Tryz.func69, Tryz.ntmps69
  go_wp2_with fail
  refine H.out.mono ?_; rintro e w' ⟨rfl, hA, hK⟩
  have HA := Lib.hid hA
  have HK := Lib.hid hK
  clear hA hK H
  go_wp2_with fail
  go_ret
  exact ⟨rfl, HA.out, HK.out⟩
end
end Go.Proofs.YtoagghileebokaaGreatDoor.Ar
