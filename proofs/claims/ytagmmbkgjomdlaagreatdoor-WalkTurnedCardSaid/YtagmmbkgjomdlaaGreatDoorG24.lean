/-
  Several texts in one: ShView, SpDocMath, ShDocMake, SpDocOps.
-/
import Derived.Test.YtagmmbkgjomdlaaGreatDoorG14
import Derived.Test.YtagmmbkgjomdlaaGreatDoorG15
import Derived.Test.YtagmmbkgjomdlaaGreatDoorG23
import Derived.Test.YtagmmbkgjomdlaaGreatDoorG25
import Derived.Test.YtagmmbkgjomdlaaGreatDoorG12
/-
  A view in memory; plain functions: what Of answers.
-/
namespace Go.Proofs.YtagmmbkgjomdlaaGreatDoor.Sh
open Go.RowKit Go.Proofs.YtagmmbkgjomdlaaGreatDoor.Ar
open Go.Proofs.YtagmmbkgjomdlaaGreatDoor.Hd (Hd Fields decE decH isHead headI head_ok fitL ofL)
open Go.Proofs.YtagmmbkgjomdlaaGreatDoor.Tb (Ty Tab getT hasT sizeE sizeT)
set_option linter.unusedVariables false

/-- A view of the object at the granule g: its block, the arena's block, header, type, number of slots. -/
structure View (w : World) (v p : Nat) (g : Int) (h : Hd) (t : Ty) (sl : Int) : Prop where
  row : Has w v 151 [.pointer (some ⟨p, 0, none⟩), .int .i64 g, .int .u8 h.tg, .int .i64 h.ty, .int .i64 h.ln, .int .i64 h.sz, .int .u8 (t.k : Int), .int .i64 t.wd, .int .u64 (t.ms : Int), .int .i64 sl]
namespace View
variable {w w' : World} {v p : Nat} {g : Int} {h : Hd} {t : Ty} {sl : Int}
theorem kept {S : List Nat} (H : View w v p g h t sl) (k : Kept S w w') (hv : v ∉ S) : View w' v p g h t sl := ⟨H.row.kept k hv⟩
theorem keep0 (H : View w v p g h t sl) (k : Kept [] w w') : View w' v p g h t sl := H.kept k (by simp)
theorem drewN (H : View w v p g h t sl) (n : Nat) : View (w.drewN n) v p g h t sl := ⟨H.row⟩
theorem cells (H : View w v p g h t sl) : w.cell? ⟨v, 0, none⟩ = some (.pointer (some ⟨p, 0, none⟩)) ∧ w.cell? ⟨v, 1, none⟩ = some (.int .i64 g) ∧ w.cell? ⟨v, 2, none⟩ = some (.int .u8 h.tg) ∧ w.cell? ⟨v, 3, none⟩ = some (.int .i64 h.ty) ∧ w.cell? ⟨v, 4, none⟩ = some (.int .i64 h.ln) ∧ w.cell? ⟨v, 5, none⟩ = some (.int .i64 h.sz)
    ∧ w.cell? ⟨v, 6, none⟩ = some (.int .u8 (t.k : Int)) ∧ w.cell? ⟨v, 7, none⟩ = some (.int .i64 t.wd) ∧ w.cell? ⟨v, 8, none⟩ = some (.int .u64 (t.ms : Int)) ∧ w.cell? ⟨v, 9, none⟩ = some (.int .i64 sl) :=
  ⟨H.row.cell 0, H.row.cell 1, H.row.cell 2, H.row.cell 3, H.row.cell 4, H.row.cell 5, H.row.cell 6, H.row.cell 7, H.row.cell 8, H.row.cell 9⟩
end View
/-- The error of Of. -/
def ofE (ws : List Int) (l : List Ty) (g : Int) : Int :=
  if hdE ws g ≠ 0 then hdE ws g else if (hdH ws g).tg ≠ 1 ∨ fitL l (hdH ws g) ≠ 0 ∨ inG ws.length g (hdH ws g).sz = false then 8 else 0
def ofT (ws : List Int) (l : List Ty) (g : Int) : Ty := getT l (hdH ws g).ty
def ofS (ws : List Int) (l : List Ty) (g : Int) : Int := Kd.slotsR (ofT ws l g).k (ofT ws l g).wd (ofT ws l g).ms (hdH ws g).ln
/-- What stands there, if Of answers a view. -/
structure Stand (ws : List Int) (l : List Ty) (g : Int) : Prop where
  he : hdE ws g = 0
  tag : (hdH ws g).tg = 1
  fit : fitL l (hdH ws g) = 0
  isin : inG ws.length g (hdH ws g).sz = true
theorem stand_of {ws : List Int} {l : List Ty} {g : Int} (h : ofE ws l g = 0) : Stand ws l g := by
  unfold ofE at h
  by_cases c : hdE ws g = 0
  · rw [if_neg (by simpa using c)] at h
    by_cases d : (hdH ws g).tg ≠ 1 ∨ fitL l (hdH ws g) ≠ 0 ∨ inG ws.length g (hdH ws g).sz = false
    · rw [if_pos d] at h; cases h
    · refine ⟨c, ?_, ?_, ?_⟩
      · exact Classical.byContradiction fun e => d (.inl e)
      · exact Classical.byContradiction fun e => d (.inr (.inl e))
      · cases e : inG ws.length g (hdH ws g).sz with
        | true => rfl
        | false => exact absurd (.inr (.inr e)) d
  · rw [if_pos c] at h
    exact absurd h c
end Go.Proofs.YtagmmbkgjomdlaaGreatDoor.Sh

/-
  What Put, Drop and Settle answer, and what they make of a space's words, as plain functions of the words and the cells.
-/
namespace Go.Proofs.YtagmmbkgjomdlaaGreatDoor.Sp
open Go.RowKit Go.Proofs.YtagmmbkgjomdlaaGreatDoor.Ar Go.Proofs.YtagmmbkgjomdlaaGreatDoor.Sh
open Go.Proofs.YtagmmbkgjomdlaaGreatDoor.Hd (Hd fitL wordI ofL of_facts can_obj encW_yes encW isHead isHead_iff dec_yes dec_no)
open Go.Proofs.YtagmmbkgjomdlaaGreatDoor.Tb (Ty sizeE)
open Go.Proofs.YtagmmbkgjomdlaaGreatDoor.Bt (bit atI prevO nextO hasV)
set_option linter.unusedVariables false

/-! ### Put -/
/-- There is room in a cell for an object at a granule. -/
def RoomP (l : List Ty) (g i n : Int) (c : Cel) : Prop := c.h.tg ≠ 1 ∧ c.a ≤ g ∧ g < c.a + c.h.sz ∧ (ofL l i n).sz ≤ c.a + c.h.sz - g
instance (l : List Ty) (g i n : Int) (c : Cel) : Decidable (RoomP l g i n c) := by unfold RoomP; infer_instance
def roomO (l : List Ty) (cs : List Cel) (g i n : Int) : Option Cel := cs.find? (fun c => decide (RoomP l g i n c))
def putE (ws : List Int) (l : List Ty) (cs : List Cel) (g i n : Int) : Int :=
  if sizeE l i n ≠ 0 then sizeE l i n else if g < 0 ∨ gran ws ≤ g then 2 else if (roomO l cs g i n).isSome then 0 else 3
/-- The words of a space in which an object was laid into a cell. -/
def putInto (ws : List Int) (l : List Ty) (x : Cel) (g i n : Int) : List Int := gapS (gapS (makeW ws l g i n) x.a g) (g + (ofL l i n).sz) (x.a + x.h.sz)
def putX (ws : List Int) (l : List Ty) (cs : List Cel) (g i n : Int) : List Int :=
  if sizeE l i n ≠ 0 then ws else if g < 0 ∨ gran ws ≤ g then ws else match roomO l cs g i n with | some x => putInto ws l x g i n | none => ws
theorem putE_err {ws : List Int} {l : List Ty} {cs : List Cel} {g i n : Int} (h : sizeE l i n ≠ 0) : putE ws l cs g i n = sizeE l i n ∧ putX ws l cs g i n = ws := by
  unfold putE putX; rw [if_pos h, if_pos h]; exact ⟨rfl, rfl⟩
theorem putE_far {ws : List Int} {l : List Ty} {cs : List Cel} {g i n : Int} (h : sizeE l i n = 0) (hg : g < 0 ∨ gran ws ≤ g) : putE ws l cs g i n = 2 ∧ putX ws l cs g i n = ws := by
  unfold putE putX; rw [if_neg (by simpa using h), if_pos hg, if_neg (by simpa using h), if_pos hg]; exact ⟨rfl, rfl⟩
theorem putE_full {ws : List Int} {l : List Ty} {cs : List Cel} {g i n : Int} (h : sizeE l i n = 0) (hg : 0 ≤ g ∧ g < gran ws) (hr : roomO l cs g i n = none) : putE ws l cs g i n = 3 ∧ putX ws l cs g i n = ws := by
  have hn : ¬ (g < 0 ∨ gran ws ≤ g) := by omega
  unfold putE putX; simp [h, hr, hn]
theorem putE_room {ws : List Int} {l : List Ty} {cs : List Cel} {g i n : Int} {x : Cel} (h : sizeE l i n = 0) (hg : 0 ≤ g ∧ g < gran ws) (hr : roomO l cs g i n = some x) : putE ws l cs g i n = 0 ∧ putX ws l cs g i n = putInto ws l x g i n := by
  have hn : ¬ (g < 0 ∨ gran ws ≤ g) := by omega
  unfold putE putX; simp [h, hr, hn]
/-- The cell that has the granule is the one that is asked. -/
theorem room_at {ws : List Int} {l l' : List Ty} {P Q : List Cel} {c : Cel} {g i n e : Int} (h : Tiled ws l' 0 (P ++ c :: Q) e) (h1 : c.a ≤ g) (h2 : g < c.a + c.h.sz) : roomO l (P ++ c :: Q) g i n = if RoomP l g i n c then some c else none := by
  obtain ⟨m, t1, t2⟩ := Tiled.split h
  have hm : c.a = m := t2.1
  have hP : P.find? (fun c => decide (RoomP l g i n c)) = none := by
    rw [List.find?_eq_none]
    intro d hd hh
    have hh := of_decide_eq_true hh
    have := (t1.mem d hd).2.1
    have := hh.2.2.1
    omega
  have hQ : Q.find? (fun c => decide (RoomP l g i n c)) = none := by
    rw [List.find?_eq_none]
    intro d hd hh
    have hh := of_decide_eq_true hh
    have := (Tiled.mem t2.2.2.2.2 d hd).1
    have := hh.2.1
    omega
  unfold roomO
  rw [List.find?_append, hP]
  simp only [Option.none_or]
  by_cases hc : RoomP l g i n c
  · rw [if_pos hc, List.find?_cons_of_pos (by simpa using hc)]
  · rw [if_neg hc, List.find?_cons_of_neg (by simpa using hc), hQ]

/-! ### Drop -/
/-- Where the gaps ahead of a granule begin (the cells ahead of it, the nearest one first). -/
def fromR : List Cel → Int → Int
  | [], f => f
  | c :: cs, f => if c.h.tg = 1 then f else fromR cs c.a
/-- Where the gaps behind a granule end. -/
def toR : List Cel → Int → Int
  | [], e => e
  | c :: cs, e => if c.h.tg = 1 then e else toR cs (c.a + c.h.sz)
theorem fromR_cut {ws : List Int} {l : List Ty} : ∀ {A : List Cel} {f g : Int}, Tiled ws l f A.reverse g → ∃ A1 A2 m, A.reverse = A1 ++ A2 ∧ (∀ c ∈ A2, c.h.tg ≠ 1) ∧ (A1 = [] ∨ ∃ A0 p, A1 = A0 ++ [p] ∧ p.h.tg = 1) ∧ Tiled ws l f A1 m ∧ Tiled ws l m A2 g ∧ fromR A g = m
  | [], f, g, h => by
    have h : f = g := h
    exact ⟨[], [], g, rfl, (fun c hc => by cases hc), .inl rfl, h, rfl, rfl⟩
  | c :: A, f, g, h => by
    rw [List.reverse_cons] at h
    obtain ⟨m, t1, t2⟩ := Tiled.split h
    by_cases hc : c.h.tg = 1
    · refine ⟨A.reverse ++ [c], [], g, by simp, (fun c hc => by cases hc), .inr ⟨_, _, rfl, hc⟩, h, rfl, ?_⟩
      unfold fromR
      rw [if_pos hc]
    · obtain ⟨A1, A2, m', e1, e2, e3, e4, e5, e6⟩ := fromR_cut t1
      refine ⟨A1, A2 ++ [c], m', by rw [List.reverse_cons, e1, List.append_assoc], fun d hd => ?_, e3, e4, e5.append t2, ?_⟩
      · rcases List.mem_append.1 hd with hd | hd
        · exact e2 d hd
        · rw [List.mem_singleton.1 hd]; exact hc
      · unfold fromR
        rw [if_neg hc, show c.a = m from t2.1]
        exact e6
theorem toR_cut {ws : List Int} {l : List Ty} : ∀ {B : List Cel} {f e : Int}, Tiled ws l f B e → ∃ B1 B2 m, B = B1 ++ B2 ∧ (∀ c ∈ B1, c.h.tg ≠ 1) ∧ (B2 = [] ∨ ∃ p B0, B2 = p :: B0 ∧ p.h.tg = 1) ∧ Tiled ws l f B1 m ∧ Tiled ws l m B2 e ∧ toR B f = m
  | [], f, e, h => ⟨[], [], f, rfl, (fun c hc => by cases hc), .inl rfl, rfl, h, rfl⟩
  | c :: B, f, e, h => by
    by_cases hc : c.h.tg = 1
    · refine ⟨[], c :: B, f, rfl, (fun c hc => by cases hc), .inr ⟨_, _, rfl, hc⟩, rfl, h, ?_⟩
      unfold toR
      rw [if_pos hc]
    · obtain ⟨B1, B2, m, e1, e2, e3, e4, e5, e6⟩ := toR_cut h.2.2.2.2
      refine ⟨c :: B1, B2, m, by rw [e1]; rfl, fun d hd => ?_, e3, ⟨h.1, h.2.1, h.2.2.1, h.2.2.2.1, e4⟩, e5, ?_⟩
      · rcases List.mem_cons.1 hd with rfl | hd
        · exact hc
        · exact e2 d hd
      · unfold toR
        rw [if_neg hc, show c.a = f from h.1]
        exact e6
/-- The object at a granule, with the cells ahead of it and behind it. -/
def objAt : List Cel → List Cel → Int → Option (List Cel × Cel × List Cel)
  | _, [], _ => none
  | A, c :: cs, g => if c.a = g ∧ c.h.tg = 1 then some (A, c, cs) else objAt (c :: A) cs g
def dropE (cs : List Cel) (g : Int) : Int := if (objAt [] cs g).isSome then 0 else 3
def dropX (ws : List Int) (cs : List Cel) (g : Int) : List Int := match objAt [] cs g with | some (A, c, B) => gapS ws (fromR A g) (toR B (g + c.h.sz)) | none => ws
theorem objAt_none {g : Int} : ∀ {A cs : List Cel}, (∀ c ∈ cs, c.h.tg = 1 → c.a ≠ g) → objAt A cs g = none
  | _, [], _ => rfl
  | A, c :: cs, h => by
    unfold objAt
    rw [if_neg (fun hh => h c List.mem_cons_self hh.2 hh.1)]
    exact objAt_none fun d hd => h d (List.mem_cons_of_mem _ hd)
theorem objAt_some {ws : List Int} {l : List Ty} {g e : Int} : ∀ {P : List Cel} {A : List Cel} {c : Cel} {Q : List Cel} {f : Int}, Tiled ws l f (P ++ c :: Q) e → c.a = g → c.h.tg = 1 → objAt A (P ++ c :: Q) g = some (P.reverse ++ A, c, Q)
  | [], A, c, Q, f, h, h1, h2 => by
    show objAt A (c :: Q) g = _
    unfold objAt
    rw [if_pos ⟨h1, h2⟩]
    rfl
  | d :: P, A, c, Q, f, h, h1, h2 => by
    obtain ⟨m, t1, t2⟩ := Tiled.split (a := d :: P) h
    have hd := (t1.mem d List.mem_cons_self).2.1
    have hz := can_sz (t1.mem d List.mem_cons_self).2.2.1
    have hc : c.a = m := t2.1
    show objAt A (d :: (P ++ c :: Q)) g = _
    unfold objAt
    rw [if_neg (fun hh => by have := hh.1; omega), objAt_some (h : Tiled ws l f (d :: (P ++ c :: Q)) e).2.2.2.2 h1 h2]
    simp

/-! ### Settle -/
/-- The objects that stand at these granules; the error. -/
def standL (ws : List Int) (l : List Ty) : Int → List Int → Option (List Cel)
  | _, [] => some []
  | e, g :: gs => if ofE ws l g = 0 ∧ e ≤ g then (standL ws l (g + (hdH ws g).sz) gs).map (fun cs => ⟨g, hdH ws g⟩ :: cs) else none
def settleE (ws : List Int) (l : List Ty) (gs : List Int) : Int := if (standL ws l 0 gs).isSome then 0 else 2
def settleX (ws : List Int) (l : List Ty) (gs : List Int) : List Int := match standL ws l 0 gs with | some cs => becomeW ws 0 cs (gran ws) | none => ws
theorem stand_cell {ws : List Int} {l : List Ty} {g : Int} (h : ofE ws l g = 0) : 0 ≤ g ∧ (hdH ws g).can ∧ atG ws g = wordI (hdH ws g) ∧ fitL l (hdH ws g) = 0 ∧ (hdH ws g).tg = 1 ∧ g + (hdH ws g).sz ≤ gran ws := by
  obtain ⟨s1, s2, s3, s4⟩ := stand_of h
  obtain ⟨c1, c2, c3⟩ := hdE_can s1
  obtain ⟨i1, i2⟩ := (inG_iff _ _ _).1 s4
  refine ⟨c1, c3, ?_, s3, s2, by unfold gran; omega⟩
  have hin : inG ws.length g 1 = true := (inG_iff _ _ _).2 ⟨c1, by omega⟩
  unfold hdE at s1
  rw [if_pos hin] at s1
  unfold hdH
  rw [if_pos hin]
  cases hh : isHead (atG ws g) with
  | false => rw [(dec_no hh).2] at s1; exact absurd s1 (by decide)
  | true => rw [(dec_yes hh).1, (isHead_iff.1 hh).2]
theorem standing_of {ws : List Int} {l : List Ty} : ∀ {gs : List Int} {f : Int} {cs : List Cel}, standL ws l f gs = some cs → f ≤ gran ws → Standing ws l f cs (gran ws)
  | [], f, cs, h, hf => by
    have h : some [] = some cs := h
    obtain rfl := Option.some.inj h
    exact hf
  | g :: gs, f, cs, h, hf => by
    unfold standL at h
    split at h
    · rename_i hc
      obtain ⟨s1, s2, s3, s4, s5, s6⟩ := stand_cell hc.1
      rw [Option.map_eq_some_iff] at h
      obtain ⟨r, h1, rfl⟩ := h
      exact ⟨hc.2, s2, s3, s4, s5, standing_of h1 s6⟩
    · cases h
end Go.Proofs.YtagmmbkgjomdlaaGreatDoor.Sp

/-
  The contract of the document's Make.
-/
namespace Go.Proofs.YtagmmbkgjomdlaaGreatDoor.Sh
open Go.RowKit Go.Proofs.YtagmmbkgjomdlaaGreatDoor.Ar
open Go.Proofs.YtagmmbkgjomdlaaGreatDoor.Hd (Hd Fields encW errH ofL dof_row dencode_ok cells4 free4 of_facts can_obj errH_yes)
open Go.Proofs.YtagmmbkgjomdlaaGreatDoor.Tb (Ty sizeE sizeT)
set_option linter.unusedVariables false

/-- The block g begins with these words. -/
def Lay (w : World) (g : Nat) (l : List Int) : Prop := ∃ rest, Has w g 32 (ints l ++ rest)
theorem Lay.keep0 {w w' : World} {g : Nat} {l : List Int} (h : Lay w g l) (k : Kept [] w w') : Lay w' g l := by
  obtain ⟨r, h⟩ := h
  exact ⟨r, h.keep0 k⟩
theorem Lay.seen {w : World} {g : Nat} {l : List Int} (h : Lay w g l) : Seen w (some ⟨g, 0, none⟩) l := by
  obtain ⟨r, h⟩ := h
  refine fun _ => ⟨g, 0, rfl, h.lt, fun j v hv => ?_⟩
  rw [Nat.zero_add, h.cell]
  rw [List.getElem?_append_left]
  · exact hv
  · rw [List.getElem?_eq_some_iff] at hv
    exact hv.1
theorem Lay.cell {w : World} {g : Nat} {l : List Int} (h : Lay w g l) (j : Nat) (hj : j < l.length) : w.cell? ⟨g, j, none⟩ = some (.int .u64 (l.getD j 0)) := by
  obtain ⟨r, h⟩ := h
  rw [h.cell, List.getElem?_append_left (by rw [ints_length]; exact hj)]
  exact ints_get l j hj
theorem Lay.free {w : World} {g : Nat} {l : List Int} (h : Lay w g l) (j : Nat) : w.frozen? ⟨g, j, none⟩ = false := by
  obtain ⟨r, h⟩ := h
  exact h.free j
theorem Lay.put {w : World} {g : Nat} {l : List Int} (h : Lay w g l) (j : Nat) (u : Int) (hj : j < l.length) : Lay (w.setCell ⟨g, j, none⟩ (.int .u64 u)) g (l.set j u) := by
  obtain ⟨r, h⟩ := h
  have := h.put j (.int .u64 u)
  rw [List.set_append_left _ _ (by rw [ints_length]; exact hj), ints_set] at this
  exact ⟨r, this⟩
theorem Lay.lt {w : World} {g : Nat} {l : List Int} (h : Lay w g l) : g < w.heap.size := by
  obtain ⟨r, h⟩ := h
  exact h.lt
theorem lay_of_own {w : World} {v : Value} {l : List Int} (h : Ar.Own w v l) (hl : l ≠ []) : ∃ g cap, v = .slice (some ⟨g, 0, none⟩) l.length cap ∧ l.length ≤ cap ∧ Lay w g l := by
  rcases h.2 with ⟨_, h0⟩ | ⟨g, cap, cur, rfl, _, hg, hc, hm, _, ht⟩
  · exact absurd (List.eq_nil_of_length_eq_zero h0) hl
  · refine ⟨g, cap, rfl, hc, cur.toList.drop (l.length * 1), ?_⟩
    rw [← ht, List.take_append_drop]
    unfold Has
    simpa using hg
theorem lay_head (ws : List Int) (i k : Nat) (u : Int) (h : i + (k + 1) ≤ ws.length) : (putW ws i (List.replicate (k + 1) 0)).set i u = putW ws i (u :: List.replicate k 0) := by
  unfold putW
  rw [List.set_append_right _ _ (by rw [List.length_take]; omega), List.length_take, Nat.min_eq_left (by omega), Nat.sub_self, List.replicate_succ, List.cons_append, List.set_cons_zero]
  simp
theorem putW_none (ws : List Int) (i : Nat) : putW ws i [] = ws := by unfold putW; simp
section
variable {w : World}
end
end Go.Proofs.YtagmmbkgjomdlaaGreatDoor.Sh

/-
  The document's space in memory; the contracts of its gap and lay.
-/
namespace Go.Proofs.YtagmmbkgjomdlaaGreatDoor.Sp
open Go.RowKit Go.Proofs.YtagmmbkgjomdlaaGreatDoor.Ar Go.Proofs.YtagmmbkgjomdlaaGreatDoor.Sh
open Go.Proofs.YtagmmbkgjomdlaaGreatDoor.Hd (Hd Fields encW gapH errH dgap_ok dencode_ok cells4 free4)
open Go.Proofs.YtagmmbkgjomdlaaGreatDoor.Tb (Ty)
set_option linter.unusedVariables false

theorem lay_kept {S : List Nat} {w w' : World} {g : Nat} {l : List Int} (h : Sh.Lay w g l) (k : Kept S w w') (hg : g ∉ S) : Sh.Lay w' g l := by
  obtain ⟨r, h⟩ := h
  exact ⟨r, h.kept k hg⟩
/-- The document's space: its block, the block of its words. -/
structure DSp (x : World) (r q cap : Nat) (B : Option Addr) (d : Nat) (l : List Ty) (ws : List Int) : Prop where
  head : Has x r 51 [.slice (some ⟨q, 0, none⟩) ws.length cap, .slice B l.length d]
  row : Sh.Lay x q ws
  cap : ws.length ≤ cap
theorem DSp.kept {S : List Nat} {x y : World} {r q cap : Nat} {B : Option Addr} {d : Nat} {l : List Ty} {ws : List Int} (h : DSp x r q cap B d l ws) (k : Kept S x y) (hr : r ∉ S) (hq : q ∉ S) : DSp y r q cap B d l ws := ⟨h.head.kept k hr, lay_kept h.row k hq, h.cap⟩
theorem DSp.keep0 {x y : World} {r q cap : Nat} {B : Option Addr} {d : Nat} {l : List Ty} {ws : List Int} (h : DSp x r q cap B d l ws) (k : Kept [] x y) : DSp y r q cap B d l ws := h.kept k (by simp) (by simp)
theorem DSp.cells {x : World} {r q cap : Nat} {B : Option Addr} {d : Nat} {l : List Ty} {ws : List Int} (h : DSp x r q cap B d l ws) : x.cell? ⟨r, 0, none⟩ = some (.slice (some ⟨q, 0, none⟩) ws.length cap) ∧ x.cell? ⟨r, 1, none⟩ = some (.slice B l.length d) ∧ x.frozen? ⟨r, 0, none⟩ = false :=
  ⟨h.head.cell 0, h.head.cell 1, h.head.free 0⟩
theorem setG_set (ws : List Int) (m : Nat) (u : Int) (h : 2 * m < ws.length) : setG ws (m : Int) u = ws.set (2 * m) u := by
  have hw : Ar.within ws.length (2 * (m : Int)) 1 = true := (Ar.within_iff _ _ _).2 ⟨by omega, by omega, by omega⟩
  unfold setG fillW
  rw [if_pos hw, show List.replicate (1 : Int).toNat u = [u] from rfl, show (2 * (m : Int)).toNat = 2 * m by omega]
  exact putW_set _ _ _ h
section
variable {w : World}
set_option maxRecDepth 100000 in
set_option maxHeartbeats 1000000 in
theorem sgap_ok (z : Int) (z0 : -9223372036854775808 ≤ z) (z1 : z ≤ 9223372036854775807) :
    Calls Tryz.prog 128 #[.int .i64 z] w fun e w' => e = .returned (.int .u64 (gapW z)) ∧ Kept [] w w' := by
  have HG := Lib.hid (fun g (g0 : 0 ≤ g) (g1 : g ≤ 255) => dgap_ok (w := w) g z g0 g1 z0 z1)
  have HE := Lib.hid (fun y (x : Hd) (ok : x.ok) => dencode_ok (w := y) x ok)
  have HOK : Hid (∀ g : Int, 0 ≤ g → g ≤ 255 → (gapH g z).ok) := Lib.hid fun g g0 g1 => by
    unfold gapH
    split
    · constructor <;> simp <;> omega
    · exact Hd.zero_ok
  unfold gapW
  by_cases e1 : z = 1
  · rw [if_pos e1]
    have hok := Lib.hid (HOK.out 2 (by omega) (by omega))
    have hg := Lib.hid (HG.out 2 (by omega) (by omega))
    have he1 : (z == 1) = true := by simpa using e1
    clear HOK HG e1
    generalize errH ⟨2, 0, 0, z⟩ = er at *
    generalize gapH 2 z = x at *
    have HX := Lib.hid (fun y => HE.out y x hok.out)
    clear HE
    generalize encW x = u at *
    generalize errH x = er2 at *
    unfold Hd.val at *
    generalize x.tg = xg at *
    generalize x.ty = xt at *
    generalize x.ln = xn at *
    generalize x.sz = xs at *
    go_enter Tryz.func128, Tryz.ntmps128
    go_wp2_with fail
    refine hg.out.mono ?_
    rintro e w1 ⟨rfl, hk⟩
    have hb := Has.new w1 76 [.int .u8 xg, .int .i64 xt, .int .i64 xn, .int .i64 xs]
    obtain ⟨c0, c1, c2, c3⟩ := cells4 hb
    have HK := Lib.hid (hk.alloc (.cells #[.int .u8 xg, .int .i64 xt, .int .i64 xn, .int .i64 xs] 76))
    clear hb hk hg
    go_wp2_with fail
    refine (HX.out _).mono ?_
    rintro e w2 ⟨rfl, hk⟩
    go_wp2_with fail
    go_ret
    exact ⟨rfl, HK.out.trans hk⟩
  · rw [if_neg e1]
    have hok := Lib.hid (HOK.out 3 (by omega) (by omega))
    have hg := Lib.hid (HG.out 3 (by omega) (by omega))
    have he1 : (z == 1) = false := by simpa using e1
    clear HOK HG e1
    generalize errH ⟨3, 0, 0, z⟩ = er at *
    generalize gapH 3 z = x at *
    have HX := Lib.hid (fun y => HE.out y x hok.out)
    clear HE
    generalize encW x = u at *
    generalize errH x = er2 at *
    unfold Hd.val at *
    generalize x.tg = xg at *
    generalize x.ty = xt at *
    generalize x.ln = xn at *
    generalize x.sz = xs at *
    go_enter Tryz.func128, Tryz.ntmps128
    go_wp2_with fail
    refine hg.out.mono ?_
    rintro e w1 ⟨rfl, hk⟩
    have hb := Has.new w1 76 [.int .u8 xg, .int .i64 xt, .int .i64 xn, .int .i64 xs]
    obtain ⟨c0, c1, c2, c3⟩ := cells4 hb
    have HK := Lib.hid (hk.alloc (.cells #[.int .u8 xg, .int .i64 xt, .int .i64 xn, .int .i64 xs] 76))
    clear hb hk hg
    go_wp2_with fail
    refine (HX.out _).mono ?_
    rintro e w2 ⟨rfl, hk⟩
    go_wp2_with fail
    go_ret
    exact ⟨rfl, HK.out.trans hk⟩
end
/-- What a method of the document's space leaves: its words, and which blocks have turned. -/
def Doc (x y : World) (r q : Nat) (B : Option Addr) (d : Nat) (l : List Ty) (ws : List Int) : Prop := ∃ q' cap', DSp y r q' cap' B d l ws ∧ (q' = q ∨ x.heap.size ≤ q') ∧ Kept [r] x y
theorem Doc.same {x y : World} {r q cap : Nat} {B : Option Addr} {d : Nat} {l : List Ty} {ws : List Int} (h : DSp x r q cap B d l ws) (k : Kept [] x y) : Doc x y r q B d l ws := ⟨q, cap, h.keep0 k, .inl rfl, k.none _⟩
section
variable {x : World} {r q cap : Nat} {B : Option Addr} {d : Nat} {l : List Ty} {ws : List Int}
set_option maxRecDepth 100000 in
set_option maxHeartbeats 1000000 in
theorem lay_no (g n : Int) (hn : n < 1) : Calls Tryz.prog 84 #[.pointer (some ⟨r, 0, none⟩), .int .i64 g, .int .i64 n] x fun e y => (∃ v, e = .returned v) ∧ x = y := by
  go_enter Tryz.func84, Tryz.ntmps84
  go_wp2_with fail
  first | go_end0 | refine bodyPost_ret (results_none rfl _ _ _) rfl ?_
  exact ⟨⟨_, rfl⟩, rfl⟩
set_option maxRecDepth 100000 in
set_option maxHeartbeats 1000000 in
theorem lay_yes (h : DSp x r q cap B d l ws) (hl : ws.length ≤ 65536) (m : Nat) (n : Int) (hm : 2 * m < ws.length) (n0 : 1 ≤ n) (n1 : n ≤ 9223372036854775807) :
    Calls Tryz.prog 84 #[.pointer (some ⟨r, 0, none⟩), .int .i64 (m : Int), .int .i64 n] x fun e y => (∃ v, e = .returned v) ∧ Doc x y r q B d l (setG ws (m : Int) (gapW n)) := by
  obtain ⟨c0, c1, f0⟩ := h.cells
  have hne : ws ≠ [] := by rintro rfl; simp at hm
  have HS := Lib.hid h.row.seen
  have HH := Lib.hid h
  have HG := Lib.hid (fun y => sgap_ok (w := y) n (by omega) n1)
  have hset := Lib.hid (setG_set ws m (gapW n) hm)
  have hlen := Lib.hid (setG_length ws (m : Int) (gapW n))
  have HNe := Lib.hid hne
  have Hcap := Lib.hid h.cap
  clear h hne
  generalize gapW n = u at *
  obtain ⟨L, hLL⟩ : ∃ L, L = ws.length := ⟨_, rfl⟩
  rw [← hLL] at hl hm hlen Hcap c0
  have HLL := Lib.hid hLL
  clear hLL
  go_enter Tryz.func84, Tryz.ntmps84
  go_wp2_with (at_builtin; (refine append_words rfl (.const (.slice none 0 0)) (.tmp 12) rfl (.slice none 0 0) [] rfl (Ar.Own.nil _) (some ⟨q, 0, none⟩) L cap ws rfl HLL.out.symm (fun h => by cases h) HS.out (show 0 + L ≤ 1073741824 by omega) ?_))
  intro v2 x2 hO2 hG2 hB2
  have hK2 : Kept [] x x2 := own_grown (Kept.refl [] x) (.inl rfl) hG2
  have hF2 := own_fresh (Kept.refl [] x) (.inl rfl) hB2
  obtain ⟨gb, cap2, rfl, hcap, hlay2⟩ := lay_of_own hO2 HNe.out
  have hgb : x.heap.size ≤ gb := by
    rcases hF2 with h | ⟨b, h, hle⟩
    · cases h
    · injection h with h
      rw [show gb = b from h]; exact hle
  rw [← HLL.out] at hcap ⊢
  have HK2 := Lib.hid hK2
  have HLy2 := Lib.hid hlay2
  have Hgb := Lib.hid hgb
  have HCp := Lib.hid hcap
  clear hO2 hG2 hB2 hK2 hF2 hlay2 hgb HS c0 c1 f0 hcap
  go_wp2_with fail
  refine (HG.out _).mono ?_
  rintro e x3 ⟨rfl, k3⟩
  have hL3 := HLy2.out.keep0 k3
  have hK3 := HK2.out.trans k3
  have hD3 := HH.out.keep0 hK3
  have hc := hL3.cell (2 * m) (by rw [← HLL.out]; omega)
  have hf := hL3.free (2 * m)
  have hrq : r ≠ gb := by have := HH.out.head.lt; have := Hgb.out; omega
  obtain ⟨c0, c1, f0⟩ := hD3.cells
  have HFin : Hid (Doc x ((x3.setCell ⟨gb, 2 * m, none⟩ (.int .u64 u)).setCell ⟨r, 0, none⟩ (.slice (some ⟨gb, 0, none⟩) L cap2)) r q B d l (setG ws (m : Int) u)) := Lib.hid (by
    refine ⟨gb, cap2, ⟨?_, ?_, ?_⟩, .inr Hgb.out, ?_⟩
    · rw [hlen.out]
      exact (hD3.head.beside _ hrq _).put 0 _
    · rw [hset.out]
      obtain ⟨rest, hr⟩ := hL3.put (2 * m) u (by rw [← HLL.out]; omega)
      exact ⟨rest, hr.beside _ (Ne.symm hrq) _⟩
    · rw [hlen.out]; exact HCp.out
    · exact ((hK3.none _).setCell _ _ (.inr Hgb.out)).setCell _ _ (.inl (by simp)))
  have hidx : 2 * m < L := by omega
  have hD4 := hD3.head.beside ⟨gb, 2 * m, none⟩ hrq (.int .u64 u)
  have c0' := hD4.cell 0
  have f0' := hD4.free 0
  clear hL3 hK3 hD3 k3 HLy2 HK2 HG HH hD4
  go_wp2_with fail
  first | go_end0 | refine bodyPost_ret (results_none rfl _ _ _) rfl ?_
  exact ⟨⟨_, rfl⟩, HFin.out⟩
theorem lay_ok (h : DSp x r q cap B d l ws) (hl : ws.length ≤ 65536) (g n : Int) (g0 : 0 ≤ g) (hn : 1 ≤ n → g + n ≤ gran ws) (n1 : n ≤ 9223372036854775807) :
    Calls Tryz.prog 84 #[.pointer (some ⟨r, 0, none⟩), .int .i64 g, .int .i64 n] x fun e y => (∃ v, e = .returned v) ∧ Doc x y r q B d l (gapS ws g (g + n)) := by
  by_cases hc : n < 1
  · refine (lay_no g n hc).mono ?_
    rintro e y ⟨he, rfl⟩
    refine ⟨he, ?_⟩
    unfold gapS
    rw [if_neg (by omega)]
    exact Doc.same h (Kept.refl _ _)
  · obtain ⟨m, rfl⟩ := Int.eq_ofNat_of_zero_le g0
    have hb := hn (by omega)
    unfold gran at hb
    refine (lay_yes h hl m n (by omega) (by omega) n1).mono ?_
    rintro e y ⟨he, hd⟩
    refine ⟨he, ?_⟩
    unfold gapS
    rw [if_pos (by omega), show (m : Int) + n - m = n by omega]
    exact hd
end
end Go.Proofs.YtagmmbkgjomdlaaGreatDoor.Sp
