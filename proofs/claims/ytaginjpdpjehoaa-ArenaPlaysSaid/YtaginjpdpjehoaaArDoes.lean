/-
  A step of an arena beside the document's row: what does answers.
-/
import Derived.Test.YtaginjpdpjehoaaArBoth
import Derived.Test.YtaginjpdpjehoaaArOpen
import Derived.Deep.RegionHeld3
import Derived.Deep.DrawnRows
namespace Go.Proofs.Ytaginjpdpjehoaa.Ar
open Go.RowKit
attribute [local go_sem ↓] Go.wp_at_zero Go.wp_at_succ

/-- What a step makes of the words, and of their count. -/
def stepW (ws : List Int) (s : Stp) : List Int := if s.d = 1 then fillW ws s.a 1 s.v else if s.d = 2 then moveW ws s.t s.a s.n else if s.d = 3 then fillW ws s.a s.n s.v else ws
def stepN (ws : List Int) (n : Int) (s : Stp) : Int := if s.d = 1 then fillN ws n s.a 1 else if s.d = 2 then moveN ws n s.t s.a s.n else if s.d = 3 then fillN ws n s.a s.n else n
/-- Both have done the same. -/
def Did (w x : World) (p q r : Nat) (vs : List Int) (m : Int) : Prop := ∃ g cap, Pair x p q r g cap vs m ∧ Kept [p, q, r] w x
theorem Did.stay {w x y : World} {p q r : Nat} {vs : List Int} {m : Int} (h : Did w x p q r vs m) (k : Kept [] x y) : Did w y p q r vs m := by
  obtain ⟨g, cap, hP, hK⟩ := h
  exact ⟨g, cap, hP.keep0 k, hK.trans (k.none _)⟩
/-- The world in which a step lies in a block of its own. -/
def boxed (w : World) (s : Stp) : World := w.alloc (.cells #[.int .i64 s.d, .int .i64 s.a, .int .i64 s.t, .int .i64 s.n, .int .u64 s.v] 34)
theorem boxed_kept (w : World) (s : Stp) : Kept [] w (boxed w s) := (Kept.refl [] w).alloc _
theorem boxed_has (w : World) (s : Stp) : Has (boxed w s) w.heap.size 34 s.cells := Has.new w _ s.cells
/-- The program's arena has done it, the document's row not yet. -/
def Half (x y : World) (p q : Nat) (vs : List Int) (m : Int) : Prop := Arena y p q vs m ∧ Kept [p, q] x y
/-- The step's cells. -/
def Lies (y : World) (b : Nat) (s : Stp) : Prop := y.cell? ⟨b, 1, none⟩ = some (.int .i64 s.a) ∧ y.cell? ⟨b, 2, none⟩ = some (.int .i64 s.t) ∧ y.cell? ⟨b, 3, none⟩ = some (.int .i64 s.n) ∧ y.cell? ⟨b, 4, none⟩ = some (.int .u64 s.v)

section
variable {p q r g cap : Nat} {ws : List Int} {n : Int} {w : World}
/-- One call of the program's, one of the document's, that make the same of the same. -/
theorem both (h : Pair w p q r g cap ws n) (s : Stp) {f f' : FuncId} {args args' : Array Value} {v v' : Value} {vs : List Int} {m : Int}
    (hA : ∀ y, Arena y p q ws n → Calls Try.prog f args y fun e y' => e = .returned v ∧ Arena y' p q vs m ∧ Kept [p, q] y y')
    (hR : ∀ y, Ref y r g cap ws n → Calls Try.prog f' args' y fun e y' => e = .returned v' ∧ After y y' r g vs m) :
    (∀ y, Kept [] (boxed w s) y → Calls Try.prog f args y fun e y' => e = .returned v ∧ Lies y' w.heap.size s ∧ Half (boxed w s) y' p q vs m) ∧
    (∀ y z, Half (boxed w s) y p q vs m → Kept [] y z → Calls Try.prog f' args' z fun e y' => e = .returned v' ∧ Lies y' w.heap.size s ∧ Did w y' p q r vs m) := by
  have hb := boxed_kept w s
  have hp := h.ar.head.lt
  have hq := h.ar.row.lt
  constructor
  · intro y hy
    refine (hA y (h.ar.keep0 (hb.trans hy))).mono ?_
    rintro e y' ⟨rfl, hA', hK⟩
    have hc := ((boxed_has w s).keep0 hy).kept hK (by simp; omega)
    exact ⟨rfl, ⟨hc.cell 1, hc.cell 2, hc.cell 3, hc.cell 4⟩, hA', (hy.none _).trans hK⟩
  · rintro y z ⟨hA', hK⟩ hz
    have hP := h.keep0 hb
    have hR' : Ref z r g cap ws n := (hP.rf.kept hK (by simp; exact ⟨h.pr.symm, h.qr.symm⟩) (by simp; exact ⟨h.pg.symm, h.apart.symm⟩)).keep0 hz
    refine (hR z hR').mono ?_
    rintro e y' ⟨rfl, hF⟩
    obtain ⟨g', cap', h1, h2⟩ := hP.step (hA'.keep0 hz) (hK.trans (hz.none _)) hF
    have hr := h.rf.head.lt
    have hc := (boxed_has w s).kept h2 (by simp; omega)
    exact ⟨rfl, ⟨hc.cell 1, hc.cell 2, hc.cell 3, hc.cell 4⟩, g', cap', h1, (hb.none _).trans h2⟩

set_option maxRecDepth 100000 in
set_option maxHeartbeats 1600000 in
theorem does_store (h : Pair w p q r g cap ws n) (s : Stp) (hs : s.ok) (hd : s.d = 1) :
    Calls Try.prog 15 #[.pointer (some ⟨p, 0, none⟩), .pointer (some ⟨r, 0, none⟩), .agg #[.int .i64 s.d, .int .i64 s.a, .int .i64 s.t, .int .i64 s.n, .int .u64 s.v]] w fun e w' => e = .returned (.bool true) ∧ Did w w' p q r (stepW ws s) (stepN ws n s) := by
  obtain ⟨_, ⟨a1, a2⟩, _, ⟨n1, n2⟩, _⟩ := hs
  have e1 : stepW ws s = fillW ws s.a 1 s.v := by unfold stepW; rw [if_pos hd]
  have e2 : stepN ws n s = fillN ws n s.a 1 := by unfold stepN; rw [if_pos hd]
  have hb := both h s (fun y hy => store_any hy s.a s.v a1 a2) (fun y hy => refStore_any hy s.a s.v a1 a2)
  rw [← e1, ← e2] at hb
  obtain ⟨b1, b2⟩ := hb
  have H1 := Lib.hid b1
  have H2 := Lib.hid b2
  clear b1 b2 h e1 e2
  unfold boxed at H1 H2
  obtain ⟨d, a, t, m, v⟩ := s
  simp only at hd a1 a2 n1 n2
  subst hd
  generalize stepW ws _ = R at *
  generalize stepN ws n _ = M at *
  simp only at H1 H2
  generalize errOf (within ws.length a 1) = E at *
  have hL : Lies (w.alloc (.cells #[.int .i64 1, .int .i64 a, .int .i64 t, .int .i64 m, .int .u64 v] 34)) w.heap.size ⟨1, a, t, m, v⟩ := by
    have hc := boxed_has w ⟨1, a, t, m, v⟩
    exact ⟨hc.cell 1, hc.cell 2, hc.cell 3, hc.cell 4⟩
  obtain ⟨k1, k2, k3, k4⟩ := hL
  simp only at k1 k2 k3 k4
  go_enter Try.func15, Try.ntmps15
  go_wp2_with fail
  generalize w.alloc (.cells #[.int .i64 1, .int .i64 a, .int .i64 t, .int .i64 m, .int .u64 v] 34) = x0 at *
  generalize w.heap.size = b at *
  go_region_held3 (fun y => y.cell? ⟨b, 1, none⟩ = some (.int .i64 a) ∧ y.cell? ⟨b, 4, none⟩ = some (.int .u64 v)) (go_keep)
    (first | (go_at_call 13; refine (H1.out _ ?_).mono ?_; (first | exact Kept.refl _ _ | exact (Kept.refl _ _).drewN _); rintro e y ⟨rfl, ⟨l1, l2, l3, l4⟩, hH⟩) | (go_at_call 26; refine (H2.out _ _ hH ?_).mono ?_; (first | exact Kept.refl _ _ | exact (Kept.refl _ _).drewN _); rintro e z ⟨rfl, ⟨l1, l2, l3, l4⟩, hD⟩))
  all_goals
    go_wp2_with fail
    go_ret
    exact ⟨rfl, hD⟩

set_option maxRecDepth 100000 in
set_option maxHeartbeats 1600000 in
theorem does_move (h : Pair w p q r g cap ws n) (s : Stp) (hs : s.ok) (hd : s.d = 2) :
    Calls Try.prog 15 #[.pointer (some ⟨p, 0, none⟩), .pointer (some ⟨r, 0, none⟩), .agg #[.int .i64 s.d, .int .i64 s.a, .int .i64 s.t, .int .i64 s.n, .int .u64 s.v]] w fun e w' => e = .returned (.bool true) ∧ Did w w' p q r (stepW ws s) (stepN ws n s) := by
  obtain ⟨_, ⟨a1, a2⟩, ⟨t1, t2⟩, ⟨n1, n2⟩, _⟩ := hs
  have e1 : stepW ws s = moveW ws s.t s.a s.n := by unfold stepW; rw [if_neg (by omega), if_pos hd]
  have e2 : stepN ws n s = moveN ws n s.t s.a s.n := by unfold stepN; rw [if_neg (by omega), if_pos hd]
  have hb := both h s (fun y hy => move_any hy s.t s.a s.n t1 t2 a1 a2 n1 n2) (fun y hy => refMove_any hy s.t s.a s.n t1 t2 a1 a2 n1 n2)
  rw [← e1, ← e2] at hb
  obtain ⟨b1, b2⟩ := hb
  have H1 := Lib.hid b1
  have H2 := Lib.hid b2
  clear b1 b2 h e1 e2
  unfold boxed at H1 H2
  obtain ⟨d, a, t, m, v⟩ := s
  simp only at hd a1 a2 t1 t2 n1 n2
  subst hd
  generalize stepW ws _ = R at *
  generalize stepN ws n _ = M at *
  simp only at H1 H2
  generalize errOf (moveB ws t a m) = E at *
  have hL : Lies (w.alloc (.cells #[.int .i64 2, .int .i64 a, .int .i64 t, .int .i64 m, .int .u64 v] 34)) w.heap.size ⟨2, a, t, m, v⟩ := by
    have hc := boxed_has w ⟨2, a, t, m, v⟩
    exact ⟨hc.cell 1, hc.cell 2, hc.cell 3, hc.cell 4⟩
  obtain ⟨k1, k2, k3, k4⟩ := hL
  simp only at k1 k2 k3 k4
  go_enter Try.func15, Try.ntmps15
  go_wp2_with fail
  generalize w.alloc (.cells #[.int .i64 2, .int .i64 a, .int .i64 t, .int .i64 m, .int .u64 v] 34) = x0 at *
  generalize w.heap.size = b at *
  go_region_held3 (fun y => y.cell? ⟨b, 1, none⟩ = some (.int .i64 a) ∧ y.cell? ⟨b, 2, none⟩ = some (.int .i64 t) ∧ y.cell? ⟨b, 3, none⟩ = some (.int .i64 m)) (go_keep)
    (first | (go_at_call 18; refine (H1.out _ ?_).mono ?_; (first | exact Kept.refl _ _ | exact (Kept.refl _ _).drewN _); rintro e y ⟨rfl, ⟨l1, l2, l3, l4⟩, hH⟩) | (go_at_call 27; refine (H2.out _ _ hH ?_).mono ?_; (first | exact Kept.refl _ _ | exact (Kept.refl _ _).drewN _); rintro e z ⟨rfl, ⟨l1, l2, l3, l4⟩, hD⟩))
  all_goals
    go_wp2_with fail
    go_ret
    exact ⟨rfl, hD⟩

set_option maxRecDepth 100000 in
set_option maxHeartbeats 1600000 in
theorem does_fill (h : Pair w p q r g cap ws n) (s : Stp) (hs : s.ok) (hd : s.d = 3) :
    Calls Try.prog 15 #[.pointer (some ⟨p, 0, none⟩), .pointer (some ⟨r, 0, none⟩), .agg #[.int .i64 s.d, .int .i64 s.a, .int .i64 s.t, .int .i64 s.n, .int .u64 s.v]] w fun e w' => e = .returned (.bool true) ∧ Did w w' p q r (stepW ws s) (stepN ws n s) := by
  obtain ⟨_, ⟨a1, a2⟩, ⟨t1, t2⟩, ⟨n1, n2⟩, _⟩ := hs
  have e1 : stepW ws s = fillW ws s.a s.n s.v := by unfold stepW; rw [if_neg (by omega), if_neg (by omega), if_pos hd]
  have e2 : stepN ws n s = fillN ws n s.a s.n := by unfold stepN; rw [if_neg (by omega), if_neg (by omega), if_pos hd]
  have hb := both h s (fun y hy => fill_any hy s.a s.n s.v a1 a2 n1 n2) (fun y hy => refFill_any hy s.a s.n s.v a1 a2 n1 n2)
  rw [← e1, ← e2] at hb
  obtain ⟨b1, b2⟩ := hb
  have H1 := Lib.hid b1
  have H2 := Lib.hid b2
  clear b1 b2 h e1 e2
  unfold boxed at H1 H2
  obtain ⟨d, a, t, m, v⟩ := s
  simp only at hd a1 a2 t1 t2 n1 n2
  subst hd
  generalize stepW ws _ = R at *
  generalize stepN ws n _ = M at *
  simp only at H1 H2
  generalize errOf (within ws.length a m) = E at *
  have hL : Lies (w.alloc (.cells #[.int .i64 3, .int .i64 a, .int .i64 t, .int .i64 m, .int .u64 v] 34)) w.heap.size ⟨3, a, t, m, v⟩ := by
    have hc := boxed_has w ⟨3, a, t, m, v⟩
    exact ⟨hc.cell 1, hc.cell 2, hc.cell 3, hc.cell 4⟩
  obtain ⟨k1, k2, k3, k4⟩ := hL
  simp only at k1 k2 k3 k4
  go_enter Try.func15, Try.ntmps15
  go_wp2_with fail
  generalize w.alloc (.cells #[.int .i64 3, .int .i64 a, .int .i64 t, .int .i64 m, .int .u64 v] 34) = x0 at *
  generalize w.heap.size = b at *
  go_region_held3 (fun y => y.cell? ⟨b, 1, none⟩ = some (.int .i64 a) ∧ y.cell? ⟨b, 3, none⟩ = some (.int .i64 m) ∧ y.cell? ⟨b, 4, none⟩ = some (.int .u64 v)) (go_keep)
    (first | (go_at_call 14; refine (H1.out _ ?_).mono ?_; (first | exact Kept.refl _ _ | exact (Kept.refl _ _).drewN _); rintro e y ⟨rfl, ⟨l1, l2, l3, l4⟩, hH⟩) | (go_at_call 28; refine (H2.out _ _ hH ?_).mono ?_; (first | exact Kept.refl _ _ | exact (Kept.refl _ _).drewN _); rintro e z ⟨rfl, ⟨l1, l2, l3, l4⟩, hD⟩))
  all_goals
    go_wp2_with fail
    go_ret
    exact ⟨rfl, hD⟩

set_option maxRecDepth 100000 in
set_option maxHeartbeats 800000 in
theorem does_load (h : Pair w p q r g cap ws n) (s : Stp) (hs : s.ok) (hd : s.d = 0) :
    Calls Try.prog 15 #[.pointer (some ⟨p, 0, none⟩), .pointer (some ⟨r, 0, none⟩), .agg #[.int .i64 s.d, .int .i64 s.a, .int .i64 s.t, .int .i64 s.n, .int .u64 s.v]] w fun e w' => e = .returned (.bool true) ∧ Did w w' p q r (stepW ws s) (stepN ws n s) := by
  obtain ⟨_, ⟨a1, a2⟩, _, _, _⟩ := hs
  have e1 : stepW ws s = ws := by unfold stepW; rw [if_neg (by omega), if_neg (by omega), if_neg (by omega)]
  have e2 : stepN ws n s = n := by unfold stepN; rw [if_neg (by omega), if_neg (by omega), if_neg (by omega)]
  rw [e1, e2]
  have hP := h.keep0 (boxed_kept w s)
  have H1 := Lib.hid (load_any hP.ar s.a a1 a2)
  have H2 := Lib.hid (refLoad_any hP.rf s.a a1 a2)
  have HD : Hid (Did w (boxed w s) p q r ws n) := ⟨g, cap, hP, (boxed_kept w s).none _⟩
  clear hP h e1 e2
  unfold boxed at H1 H2 HD
  obtain ⟨d, a, t, m, v⟩ := s
  simp only at hd a1 a2
  subst hd
  simp only at H1 H2 HD
  generalize errOf (within ws.length a 1) = E at *
  generalize loadV ws a = V at *
  go_enter Try.func15, Try.ntmps15
  go_wp2_with fail
  refine H1.out.mono ?_; rintro e w' ⟨rfl, rfl⟩
  go_wp2_with fail
  refine H2.out.mono ?_; rintro e w' ⟨rfl, rfl⟩
  go_wp2_with fail
  go_ret
  exact ⟨rfl, HD.out⟩

set_option maxRecDepth 100000 in
set_option maxHeartbeats 800000 in
theorem does_rest (h : Pair w p q r g cap ws n) (s : Stp) (h0 : s.d ≠ 0) (h1 : s.d ≠ 1) (h2 : s.d ≠ 2) (h3 : s.d ≠ 3) (h4 : s.d ≠ 4) :
    Calls Try.prog 15 #[.pointer (some ⟨p, 0, none⟩), .pointer (some ⟨r, 0, none⟩), .agg #[.int .i64 s.d, .int .i64 s.a, .int .i64 s.t, .int .i64 s.n, .int .u64 s.v]] w fun e w' => e = .returned (.bool true) ∧ Did w w' p q r (stepW ws s) (stepN ws n s) := by
  have e1 : stepW ws s = ws := by unfold stepW; rw [if_neg h1, if_neg h2, if_neg h3]
  have e2 : stepN ws n s = n := by unfold stepN; rw [if_neg h1, if_neg h2, if_neg h3]
  rw [e1, e2]
  have HD : Hid (Did w (boxed w s) p q r ws n) := ⟨g, cap, h.keep0 (boxed_kept w s), (boxed_kept w s).none _⟩
  unfold boxed at HD
  obtain ⟨d, a, t, m, v⟩ := s
  simp only at HD h0 h1 h2 h3 h4
  have b0 : (d == 0) = false := beq_eq_false_iff_ne.2 h0
  have b1 : (d == 1) = false := beq_eq_false_iff_ne.2 h1
  have b2 : (d == 2) = false := beq_eq_false_iff_ne.2 h2
  have b3 : (d == 3) = false := beq_eq_false_iff_ne.2 h3
  have b4 : (d == 4) = false := beq_eq_false_iff_ne.2 h4
  clear e1 e2 h h0 h1 h2 h3 h4
  go_enter Try.func15, Try.ntmps15
  go_wp2_with fail
  go_ret
  exact ⟨rfl, HD.out⟩

/-- A row of its own that is written over is nothing to the others. -/
theorem over (h : Pair w p q r g cap ws n) {x y : World} {b : Nat} (hk : Kept [] w x) (hb : w.heap.size ≤ b) (hK : Kept [b] x y) : Did w y p q r ws n := by
  have hp := h.ar.head.lt
  have hq := h.ar.row.lt
  have hr := h.rf.head.lt
  have hg := h.rf.lt
  have hP := h.keep0 hk
  refine ⟨g, cap, ⟨hP.ar.kept hK (by simp; omega) (by simp; omega), hP.rf.kept hK (by simp; omega) (by simp; omega), hP.apart⟩, ?_⟩
  refine ⟨hK.os.trans hk.os, hK.tape.trans hk.tape, hK.out.trans hk.out, Nat.le_trans hk.more hK.more, fun i hi _ => ?_⟩
  exact (hK.old i (Nat.lt_of_lt_of_le hi hk.more) (by simp; omega)).trans (hk.old i hi (by simp))

set_option maxRecDepth 100000 in
set_option maxHeartbeats 1600000 in
theorem does_words (h : Pair w p q r g cap ws n) (s : Stp) (hs : s.ok) (hd : s.d = 4) :
    Calls Try.prog 15 #[.pointer (some ⟨p, 0, none⟩), .pointer (some ⟨r, 0, none⟩), .agg #[.int .i64 s.d, .int .i64 s.a, .int .i64 s.t, .int .i64 s.n, .int .u64 s.v]] w fun e w' => e = .returned (.bool true) ∧ Did w w' p q r (stepW ws s) (stepN ws n s) := by
  obtain ⟨_, ⟨a1, a2⟩, _, ⟨n1, n2⟩, _⟩ := hs
  have e1 : stepW ws s = ws := by unfold stepW; rw [if_neg (by omega), if_neg (by omega), if_neg (by omega)]
  have e2 : stepN ws n s = n := by unfold stepN; rw [if_neg (by omega), if_neg (by omega), if_neg (by omega)]
  rw [e1, e2]
  have hP := h.keep0 (boxed_kept w s)
  have hB := boxed_kept w s
  have hL : Lies (boxed w s) w.heap.size s := ⟨(boxed_has w s).cell 1, (boxed_has w s).cell 2, (boxed_has w s).cell 3, (boxed_has w s).cell 4⟩
  have hbx := boxed_has w s
  have hsz := h.ar.short
  cases hr : within ws.length s.a s.n
  · have H1 := Lib.hid (words_bad hP.ar s.a s.n hr a1 a2 n1 n2)
    have H2 := Lib.hid (refWords_bad hP.rf s.a s.n hr a1 a2 n1 n2)
    have H3 := Lib.hid (same_any none none [] [] 0 0 (boxed w s) (fun hh => absurd rfl hh) (fun hh => absurd rfl hh) (by simp) (by simp))
    have HD : Hid (∀ k, Did w ((boxed w s).drewN k) p q r ws n) := fun k => ⟨g, cap, hP.keep0 ((Kept.refl [] _).drewN k), (hB.none _).drewN k⟩
    rw [sameB_self] at H3
    clear hP hB h e1 e2 hr hbx
    unfold boxed at H1 H2 H3 HD hL
    obtain ⟨d, a, t, m, v⟩ := s
    obtain ⟨l1, l2, l3, l4⟩ := hL
    simp only at hd a1 a2 n1 n2 l1 l2 l3 l4
    subst hd
    simp only at H1 H2 H3 HD
    go_enter Try.func15, Try.ntmps15
    go_wp2_with fail
    refine H1.out.mono ?_; rintro e w' ⟨rfl, rfl⟩
    go_wp2_with fail
    refine H2.out.mono ?_; rintro e w' ⟨rfl, rfl⟩
    go_wp2_with fail
    refine H3.out.mono ?_; rintro e w' ⟨rfl, k, rfl⟩
    go_wp2_with fail
    refine wp_loop_rounds 1 ?_
    rw [rounds_succ]
    go_wp2_with fail
    go_ret
    exact ⟨rfl, HD.out k⟩
  · obtain ⟨z1, z2, z3⟩ := (within_iff _ _ _).1 hr
    obtain ⟨d, a, t, m, v⟩ := s
    simp only at hd a1 a2 n1 n2 z1 z2 z3
    subst hd
    obtain ⟨i, rfl⟩ := Int.eq_ofNat_of_zero_le z1
    obtain ⟨k, rfl⟩ := Int.eq_ofNat_of_zero_le z2
    have H1 := Lib.hid (words_ok hP.ar (i : Int) (k : Int) hr)
    have HP := Lib.hid hP
    have HH := Lib.hid h
    have HB := Lib.hid hB
    have HX := Lib.hid hbx
    have hlen : (cutW ws (i : Int) (k : Int)).length = k := by rw [cutW_length _ _ _ hr, Int.toNat_natCast]
    have hcw : cutW ws (i : Int) (k : Int) = (ws.drop i).take k := by unfold cutW; rw [Int.toNat_natCast, Int.toNat_natCast]
    rw [hcw] at hlen H1
    have HLen := Lib.hid hlen
    have hik : i + k ≤ ws.length := by omega
    clear hP hB h e1 e2 hr hbx hlen hcw
    unfold boxed at H1 HP HB hL HX
    obtain ⟨l1, l2, l3, l4⟩ := hL
    simp only at H1 HP HB l1 l2 l3 l4 HX
    go_enter Try.func15, Try.ntmps15
    go_wp2_with fail
    generalize w.alloc (.cells #[.int .i64 4, .int .i64 (i : Int), .int .i64 t, .int .i64 (k : Int), .int .u64 v] 34) = x0 at *
    refine H1.out.mono ?_; rintro e x1 ⟨b, rfl, hb, hH, hK⟩
    rw [Int.toNat_natCast]
    have HR1 : Hid (Row x1 b ((ws.drop i).take k)) := hH
    have HK1 := Lib.hid hK
    have Hb : Hid (w.heap.size ≤ b) := Nat.le_trans HB.out.more hb
    have hc := HX.out.keep0 hK
    have k1 : x1.cell? ⟨w.heap.size, 1, none⟩ = some (.int .i64 (i : Int)) := hc.cell 1
    have k3 : x1.cell? ⟨w.heap.size, 3, none⟩ = some (.int .i64 (k : Int)) := hc.cell 3
    have H2 := Lib.hid (refWords_ok (HP.out.keep0 hK).rf i k hik)
    clear hb hH hK hc H1 l1 l2 l3 l4
    go_wp2_with fail
    refine H2.out.mono ?_; rintro e x2 ⟨A, c, rfl, hb⟩
    have HK2 := Lib.hid (HK1.out.trans hb.2.2)
    have HR2 := Lib.hid (Has.keep0 HR1.out hb.2.2)
    have hsame := same_any (some ⟨b, 0, none⟩) A ((ws.drop i).take k) ((ws.drop i).take k) k c x2 (Row.seen HR2.out) hb.2.1 (by have := HLen.out; omega) (by have := HLen.out; omega)
    rw [sameB_self, HLen.out] at hsame
    have H3 := Lib.hid hsame
    clear hsame hb H2 k1 k3 HR1 HK1
    go_wp2_with fail
    refine H3.out.mono ?_; rintro e w' ⟨rfl, j0, rfl⟩
    clear H3
    go_wp2_with fail
    have HK3 : Hid (Kept [] w (x2.drewN j0)) := (HB.out.trans HK2.out).drewN j0
    go_loopw [16] (fun z wr => ∃ j : Nat, j ≤ k ∧ z = .int .i64 j ∧ Hid (Kept [b] (x2.drewN j0) wr) ∧ ∃ vs : List Int, Hid (vs.length = k) ∧ Hid (Has wr b 32 (ints vs))) (fun z _ => k - (intOf z).toNat)
    case atStart => exact ⟨0, Nat.zero_le _, rfl, Kept.refl _ _, _, HLen, HR2.out.drewN j0⟩
    case round =>
      obtain ⟨j, hj, rfl, hK, vs, hvl, hHs⟩ := hrel
      by_cases hlt : j < k
      · have hcell := hHs.out.cell j
        rw [ints_get vs j (by have := hvl.out; omega)] at hcell
        have hfree := hHs.out.free j
        have HN : Hid (∀ z, z = wr.setCell ⟨b, j, none⟩ (.int .u64 77) → Hid (Kept [b] (x2.drewN j0) z) ∧ ∃ vs : List Int, Hid (vs.length = k) ∧ Hid (Has z b 32 (ints vs))) := by
          rintro _ rfl
          refine ⟨hK.out.setCell _ _ (.inl (by simp)), vs.set j 77, (List.length_set).trans hvl.out, ?_⟩
          rw [← ints_set]
          exact hHs.out.put j (.int .u64 77)
        generalize vs.getD j 0 = u at *
        clear hK hvl hHs
        go_wp2_with fail
        go_roundw
        case rel => exact ⟨j + 1, by omega, by go_num, HN.out _ rfl⟩
        case measure => simp [intOf]; omega
      · have HD := Lib.hid (over HH.out HK3.out Hb.out hK.out)
        obtain rfl : j = k := by omega
        clear hK hvl hHs HK3 hlt hj
        go_wp2_with fail
        go_ret
        exact ⟨rfl, HD.out⟩
theorem does_any (h : Pair w p q r g cap ws n) (s : Stp) (hs : s.ok) :
    Calls Try.prog 15 #[.pointer (some ⟨p, 0, none⟩), .pointer (some ⟨r, 0, none⟩), .agg #[.int .i64 s.d, .int .i64 s.a, .int .i64 s.t, .int .i64 s.n, .int .u64 s.v]] w fun e w' => e = .returned (.bool true) ∧ Did w w' p q r (stepW ws s) (stepN ws n s) := by
  by_cases h0 : s.d = 0
  · exact does_load h s hs h0
  · by_cases h1 : s.d = 1
    · exact does_store h s hs h1
    · by_cases h2 : s.d = 2
      · exact does_move h s hs h2
      · by_cases h3 : s.d = 3
        · exact does_fill h s hs h3
        · by_cases h4 : s.d = 4
          · exact does_words h s hs h4
          · exact does_rest h s h0 h1 h2 h3 h4
end
end Go.Proofs.Ytaginjpdpjehoaa.Ar
