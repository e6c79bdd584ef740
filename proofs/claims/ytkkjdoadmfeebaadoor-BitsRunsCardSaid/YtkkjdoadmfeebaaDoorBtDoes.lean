/-
  A step of a vector beside the document's row: what does answers; what is told of a place; and the law's Same.
-/
import Derived.Test.YtkkjdoadmfeebaaDoorBtAlive
import Derived.Test.YtkkjdoadmfeebaaDoorBtOpen
import Derived.Deep.RegionHeld3
import Derived.Deep.DrawnRows
import Derived.Deep.RegionWith
namespace Go.Proofs.YtkkjdoadmfeebaaDoor.Bt
open Go.RowKit Go.Proofs.YtkkjdoadmfeebaaDoor.Ar Go.Proofs.YtkkjdoadmfeebaaDoor.Wd
set_option linter.unusedVariables false
attribute [local go_sem ↓] Go.wp_at_zero Go.wp_at_succ

/-- What a step makes of the bits. -/
def stepB (bs : List Bool) (s : Stp) : List Bool := if s.d = 0 then layB bs s.a 1 true else if s.d = 1 then layB bs s.a 1 false else if s.d = 2 then layB bs s.a s.n true else if s.d = 3 then layB bs s.a s.n false else bs
theorem stepB_length (bs : List Bool) (s : Stp) : (stepB bs s).length = bs.length := by
  unfold stepB
  split
  · exact layB_length _ _ _ _
  · split
    · exact layB_length _ _ _ _
    · split
      · exact layB_length _ _ _ _
      · split
        · exact layB_length _ _ _ _
        · rfl
/-- Both have done it. -/
def Did (w x : World) (p q r s : Nat) (vs us : List Bool) : Prop := Bv x p q vs ∧ Rf x r s us ∧ Kept [q, s] w x
def boxed (w : World) (st : Stp) : World := w.alloc (.cells #[.int .i64 st.d, .int .i64 st.a, .int .i64 st.n] 33)
theorem boxed_kept (w : World) (st : Stp) : Kept [] w (boxed w st) := (Kept.refl [] w).alloc _
theorem boxed_has (w : World) (st : Stp) : Has (boxed w st) w.heap.size 33 st.cells := Has.new w _ st.cells
def Half (x y : World) (p q : Nat) (vs : List Bool) : Prop := Bv y p q vs ∧ Kept [q] x y
def Lies (y : World) (b : Nat) (st : Stp) : Prop := y.cell? ⟨b, 1, none⟩ = some (.int .i64 st.a) ∧ y.cell? ⟨b, 2, none⟩ = some (.int .i64 st.n)
section
variable {p q r s : Nat} {bs rs : List Bool} {w : World}
theorem bv_lt {w : World} {p q : Nat} {bs : List Bool} (h : Bv w p q bs) : p < w.heap.size ∧ q < w.heap.size := let ⟨_, hV, _⟩ := h; ⟨hV.head.lt, hV.row.lt⟩
theorem bv_rf (h : Bv w p q bs) (hr : Rf w r s rs) : p ≠ s ∧ q ≠ r ∧ q ≠ s ∧ p ≠ r := by
  obtain ⟨ws, hV, _⟩ := h
  exact ⟨Has.block_type hV.head hr.row (by decide), Has.block_type hV.row hr.head (by decide), Has.block_type hV.row hr.row (by decide), Has.block_type hV.head hr.head (by decide)⟩
theorem both (h : Bv w p q bs) (hr : Rf w r s rs) (st : Stp) {f f' : FuncId} {args args' : Array Value} {v v' : Value} {vs us : List Bool}
    (hA : ∀ y, Bv y p q bs → Calls Tryd.prog f args y fun e y' => e = .returned v ∧ Bv y' p q vs ∧ Kept [q] y y')
    (hR : ∀ y, Rf y r s rs → Calls Tryd.prog f' args' y fun e y' => e = .returned v' ∧ Rf y' r s us ∧ Kept [s] y y') :
    (∀ y, Kept [] (boxed w st) y → Calls Tryd.prog f args y fun e y' => e = .returned v ∧ Lies y' w.heap.size st ∧ Half (boxed w st) y' p q vs) ∧
    (∀ y z, Half (boxed w st) y p q vs → Kept [] y z → Calls Tryd.prog f' args' z fun e y' => e = .returned v' ∧ Lies y' w.heap.size st ∧ Did w y' p q r s vs us) := by
  have hb := boxed_kept w st
  obtain ⟨hp, hq⟩ := bv_lt h
  have hrl := hr.head.lt
  have hsl := hr.row.lt
  obtain ⟨a1, a2, a3, a4⟩ := bv_rf h hr
  constructor
  · intro y hy
    refine (hA y (h.keep0 (hb.trans hy))).mono ?_
    rintro e y' ⟨rfl, hA', hK⟩
    have hc := ((boxed_has w st).keep0 hy).kept hK (by simp; omega)
    exact ⟨rfl, ⟨hc.cell 1, hc.cell 2⟩, hA', (hy.none _).trans hK⟩
  · rintro y z ⟨hA', hK⟩ hz
    have hR' : Rf z r s rs := ((hr.keep0 hb).kept hK (by simp; exact a2.symm) (by simp; exact a3.symm)).keep0 hz
    refine (hR z hR').mono ?_
    rintro e y' ⟨rfl, hR2, hK2⟩
    have hKz : Kept [q] (boxed w st) z := hK.trans (hz.none _)
    have hc := ((boxed_has w st).kept hKz (by simp; omega)).kept hK2 (by simp; omega)
    exact ⟨rfl, ⟨hc.cell 1, hc.cell 2⟩, (hA'.keep0 hz).kept hK2 (by simp; exact a1) (by simp; exact a3), hR2, (hb.none _).trans ((hKz.mono (by simp)).trans (hK2.mono (by simp)))⟩

set_option maxRecDepth 100000 in
set_option maxHeartbeats 1600000 in
theorem does_set (h : Bv w p q bs) (hr : Rf w r s rs) (hl : rs.length = bs.length) (s0 : Stp) (hs : s0.ok) (hd : s0.d = 0) :
    Calls Tryd.prog 15 #[.pointer (some ⟨p, 0, none⟩), .pointer (some ⟨r, 0, none⟩), .agg #[.int .i64 s0.d, .int .i64 s0.a, .int .i64 s0.n]] w fun e w' => e = .returned (.bool true) ∧ Did w w' p q r s (stepB bs s0) (stepB rs s0) := by
  obtain ⟨_, ⟨a1, a2⟩, ⟨n1, n2⟩⟩ := hs
  have e1 : ∀ l, stepB l s0 = layB l s0.a 1 true := fun l => by unfold stepB; rw [if_pos hd]
  have hb := both h hr s0 (fun y hy => set_ok bs p q y hy s0.a a1 a2) (fun y hy => refLay_ok y hy s0.a 1 a1 a2 (by omega) (by omega) true)
  rw [← e1, ← e1, hl] at hb
  obtain ⟨b1, b2⟩ := hb
  have H1 := Lib.hid b1
  have H2 := Lib.hid b2
  clear b1 b2 h hr e1 hl
  unfold boxed at H1 H2
  obtain ⟨d, a, m⟩ := s0
  simp only at hd a1 a2 n1 n2
  subst hd
  generalize stepB bs _ = R at *
  generalize stepB rs _ = M at *
  simp only at H1 H2
  generalize errOf (within bs.length a 1) = E at *
  have hL : Lies (w.alloc (.cells #[.int .i64 0, .int .i64 a, .int .i64 m] 33)) w.heap.size ⟨0, a, m⟩ := by
    have hc := boxed_has w ⟨0, a, m⟩
    exact ⟨hc.cell 1, hc.cell 2⟩
  obtain ⟨k1, k2⟩ := hL
  simp only at k1 k2
  go_enter Tryd.func15, Tryd.ntmps15
  go_wp2_with fail
  generalize w.alloc (.cells #[.int .i64 0, .int .i64 a, .int .i64 m] 33) = x0 at *
  generalize w.heap.size = b at *
  go_region_held3 (fun y => y.cell? ⟨b, 1, none⟩ = some (.int .i64 a) ∧ y.cell? ⟨b, 2, none⟩ = some (.int .i64 m)) (go_keep)
    (first | (go_at_call 24; refine (H1.out _ ?_).mono ?_; (first | exact Kept.refl _ _ | exact (Kept.refl _ _).drewN _); rintro e y ⟨rfl, ⟨l1, l2⟩, hH⟩) | (go_at_call 29; refine (H2.out _ _ hH ?_).mono ?_; (first | exact Kept.refl _ _ | exact (Kept.refl _ _).drewN _); rintro e z ⟨rfl, ⟨l1, l2⟩, hD⟩))
  all_goals
    go_wp2_with fail
    go_ret
    exact ⟨rfl, hD⟩

set_option maxRecDepth 100000 in
set_option maxHeartbeats 1600000 in
theorem does_clear (h : Bv w p q bs) (hr : Rf w r s rs) (hl : rs.length = bs.length) (s0 : Stp) (hs : s0.ok) (hd : s0.d = 1) :
    Calls Tryd.prog 15 #[.pointer (some ⟨p, 0, none⟩), .pointer (some ⟨r, 0, none⟩), .agg #[.int .i64 s0.d, .int .i64 s0.a, .int .i64 s0.n]] w fun e w' => e = .returned (.bool true) ∧ Did w w' p q r s (stepB bs s0) (stepB rs s0) := by
  obtain ⟨_, ⟨a1, a2⟩, ⟨n1, n2⟩⟩ := hs
  have e1 : ∀ l, stepB l s0 = layB l s0.a 1 false := fun l => by unfold stepB; rw [if_neg (by omega), if_pos hd]
  have hb := both h hr s0 (fun y hy => clear_ok bs p q y hy s0.a a1 a2) (fun y hy => refLay_ok y hy s0.a 1 a1 a2 (by omega) (by omega) false)
  rw [← e1, ← e1, hl] at hb
  obtain ⟨b1, b2⟩ := hb
  have H1 := Lib.hid b1
  have H2 := Lib.hid b2
  clear b1 b2 h hr e1 hl
  unfold boxed at H1 H2
  obtain ⟨d, a, m⟩ := s0
  simp only at hd a1 a2 n1 n2
  subst hd
  generalize stepB bs _ = R at *
  generalize stepB rs _ = M at *
  simp only at H1 H2
  generalize errOf (within bs.length a 1) = E at *
  have hL : Lies (w.alloc (.cells #[.int .i64 1, .int .i64 a, .int .i64 m] 33)) w.heap.size ⟨1, a, m⟩ := by
    have hc := boxed_has w ⟨1, a, m⟩
    exact ⟨hc.cell 1, hc.cell 2⟩
  obtain ⟨k1, k2⟩ := hL
  simp only at k1 k2
  go_enter Tryd.func15, Tryd.ntmps15
  go_wp2_with fail
  generalize w.alloc (.cells #[.int .i64 1, .int .i64 a, .int .i64 m] 33) = x0 at *
  generalize w.heap.size = b at *
  go_region_held3 (fun y => y.cell? ⟨b, 1, none⟩ = some (.int .i64 a) ∧ y.cell? ⟨b, 2, none⟩ = some (.int .i64 m)) (go_keep)
    (first | (go_at_call 25; refine (H1.out _ ?_).mono ?_; (first | exact Kept.refl _ _ | exact (Kept.refl _ _).drewN _); rintro e y ⟨rfl, ⟨l1, l2⟩, hH⟩) | (go_at_call 29; refine (H2.out _ _ hH ?_).mono ?_; (first | exact Kept.refl _ _ | exact (Kept.refl _ _).drewN _); rintro e z ⟨rfl, ⟨l1, l2⟩, hD⟩))
  all_goals
    go_wp2_with fail
    go_ret
    exact ⟨rfl, hD⟩

set_option maxRecDepth 100000 in
set_option maxHeartbeats 1600000 in
theorem does_setRun (h : Bv w p q bs) (hr : Rf w r s rs) (hl : rs.length = bs.length) (s0 : Stp) (hs : s0.ok) (hd : s0.d = 2) :
    Calls Tryd.prog 15 #[.pointer (some ⟨p, 0, none⟩), .pointer (some ⟨r, 0, none⟩), .agg #[.int .i64 s0.d, .int .i64 s0.a, .int .i64 s0.n]] w fun e w' => e = .returned (.bool true) ∧ Did w w' p q r s (stepB bs s0) (stepB rs s0) := by
  obtain ⟨_, ⟨a1, a2⟩, ⟨n1, n2⟩⟩ := hs
  have e1 : ∀ l, stepB l s0 = layB l s0.a s0.n true := fun l => by unfold stepB; rw [if_neg (by omega), if_neg (by omega), if_pos hd]
  have hb := both h hr s0 (fun y hy => setRun_ok bs p q y hy s0.a s0.n a1 a2 n1 n2) (fun y hy => refLay_ok y hy s0.a s0.n a1 a2 n1 n2 true)
  rw [← e1, ← e1, hl] at hb
  obtain ⟨b1, b2⟩ := hb
  have H1 := Lib.hid b1
  have H2 := Lib.hid b2
  clear b1 b2 h hr e1 hl
  unfold boxed at H1 H2
  obtain ⟨d, a, m⟩ := s0
  simp only at hd a1 a2 n1 n2
  subst hd
  generalize stepB bs _ = R at *
  generalize stepB rs _ = M at *
  simp only at H1 H2
  generalize errOf (within bs.length a m) = E at *
  have hL : Lies (w.alloc (.cells #[.int .i64 2, .int .i64 a, .int .i64 m] 33)) w.heap.size ⟨2, a, m⟩ := by
    have hc := boxed_has w ⟨2, a, m⟩
    exact ⟨hc.cell 1, hc.cell 2⟩
  obtain ⟨k1, k2⟩ := hL
  simp only at k1 k2
  go_enter Tryd.func15, Tryd.ntmps15
  go_wp2_with fail
  generalize w.alloc (.cells #[.int .i64 2, .int .i64 a, .int .i64 m] 33) = x0 at *
  generalize w.heap.size = b at *
  go_region_held3 (fun y => y.cell? ⟨b, 1, none⟩ = some (.int .i64 a) ∧ y.cell? ⟨b, 2, none⟩ = some (.int .i64 m)) (go_keep)
    (first | (go_at_call 13; refine (H1.out _ ?_).mono ?_; (first | exact Kept.refl _ _ | exact (Kept.refl _ _).drewN _); rintro e y ⟨rfl, ⟨l1, l2⟩, hH⟩) | (go_at_call 29; refine (H2.out _ _ hH ?_).mono ?_; (first | exact Kept.refl _ _ | exact (Kept.refl _ _).drewN _); rintro e z ⟨rfl, ⟨l1, l2⟩, hD⟩))
  all_goals
    go_wp2_with fail
    go_ret
    exact ⟨rfl, hD⟩

set_option maxRecDepth 100000 in
set_option maxHeartbeats 1600000 in
theorem does_clearRun (h : Bv w p q bs) (hr : Rf w r s rs) (hl : rs.length = bs.length) (s0 : Stp) (hs : s0.ok) (hd : s0.d = 3) :
    Calls Tryd.prog 15 #[.pointer (some ⟨p, 0, none⟩), .pointer (some ⟨r, 0, none⟩), .agg #[.int .i64 s0.d, .int .i64 s0.a, .int .i64 s0.n]] w fun e w' => e = .returned (.bool true) ∧ Did w w' p q r s (stepB bs s0) (stepB rs s0) := by
  obtain ⟨_, ⟨a1, a2⟩, ⟨n1, n2⟩⟩ := hs
  have e1 : ∀ l, stepB l s0 = layB l s0.a s0.n false := fun l => by unfold stepB; rw [if_neg (by omega), if_neg (by omega), if_neg (by omega), if_pos hd]
  have hb := both h hr s0 (fun y hy => clearRun_ok bs p q y hy s0.a s0.n a1 a2 n1 n2) (fun y hy => refLay_ok y hy s0.a s0.n a1 a2 n1 n2 false)
  rw [← e1, ← e1, hl] at hb
  obtain ⟨b1, b2⟩ := hb
  have H1 := Lib.hid b1
  have H2 := Lib.hid b2
  clear b1 b2 h hr e1 hl
  unfold boxed at H1 H2
  obtain ⟨d, a, m⟩ := s0
  simp only at hd a1 a2 n1 n2
  subst hd
  generalize stepB bs _ = R at *
  generalize stepB rs _ = M at *
  simp only at H1 H2
  generalize errOf (within bs.length a m) = E at *
  have hL : Lies (w.alloc (.cells #[.int .i64 3, .int .i64 a, .int .i64 m] 33)) w.heap.size ⟨3, a, m⟩ := by
    have hc := boxed_has w ⟨3, a, m⟩
    exact ⟨hc.cell 1, hc.cell 2⟩
  obtain ⟨k1, k2⟩ := hL
  simp only at k1 k2
  go_enter Tryd.func15, Tryd.ntmps15
  go_wp2_with fail
  generalize w.alloc (.cells #[.int .i64 3, .int .i64 a, .int .i64 m] 33) = x0 at *
  generalize w.heap.size = b at *
  go_region_held3 (fun y => y.cell? ⟨b, 1, none⟩ = some (.int .i64 a) ∧ y.cell? ⟨b, 2, none⟩ = some (.int .i64 m)) (go_keep)
    (first | (go_at_call 14; refine (H1.out _ ?_).mono ?_; (first | exact Kept.refl _ _ | exact (Kept.refl _ _).drewN _); rintro e y ⟨rfl, ⟨l1, l2⟩, hH⟩) | (go_at_call 29; refine (H2.out _ _ hH ?_).mono ?_; (first | exact Kept.refl _ _ | exact (Kept.refl _ _).drewN _); rintro e z ⟨rfl, ⟨l1, l2⟩, hD⟩))
  all_goals
    go_wp2_with fail
    go_ret
    exact ⟨rfl, hD⟩

theorem does_else (h : Bv w p q bs) (hr : Rf w r s rs) (s0 : Stp) (hs : s0.ok) (h0 : s0.d ≠ 0) (h1 : s0.d ≠ 1) (h2 : s0.d ≠ 2) (h3 : s0.d ≠ 3) :
    Calls Tryd.prog 15 #[.pointer (some ⟨p, 0, none⟩), .pointer (some ⟨r, 0, none⟩), .agg #[.int .i64 s0.d, .int .i64 s0.a, .int .i64 s0.n]] w fun e w' => e = .returned (.bool true) ∧ Did w w' p q r s (stepB bs s0) (stepB rs s0) := by
  have e1 : ∀ l, stepB l s0 = l := fun l => by unfold stepB; rw [if_neg h0, if_neg h1, if_neg h2, if_neg h3]
  rw [e1, e1]
  have hb := boxed_kept w s0
  have hD : Did w (boxed w s0) p q r s bs rs := ⟨h.keep0 hb, hr.keep0 hb, hb.none _⟩
  have HD := Lib.hid hD
  unfold boxed at HD
  have g0 : (s0.d == 0) = false := by simpa using h0
  have g1 : (s0.d == 1) = false := by simpa using h1
  have g2 : (s0.d == 2) = false := by simpa using h2
  have g3 : (s0.d == 3) = false := by simpa using h3
  clear h hr hb hD e1
  go_enter Tryd.func15, Tryd.ntmps15
  go_wp2_with fail
  go_ret
  exact ⟨rfl, HD.out⟩
theorem does_ok (h : Bv w p q bs) (hr : Rf w r s rs) (hl : rs.length = bs.length) (s0 : Stp) (hs : s0.ok) :
    Calls Tryd.prog 15 #[.pointer (some ⟨p, 0, none⟩), .pointer (some ⟨r, 0, none⟩), .agg #[.int .i64 s0.d, .int .i64 s0.a, .int .i64 s0.n]] w fun e w' => e = .returned (.bool true) ∧ Did w w' p q r s (stepB bs s0) (stepB rs s0) := by
  by_cases h0 : s0.d = 0
  · exact does_set h hr hl s0 hs h0
  · by_cases h1 : s0.d = 1
    · exact does_clear h hr hl s0 hs h1
    · by_cases h2 : s0.d = 2
      · exact does_setRun h hr hl s0 hs h2
      · by_cases h3 : s0.d = 3
        · exact does_clearRun h hr hl s0 hs h3
        · exact does_else h hr s0 hs h0 h1 h2 h3
end
end Go.Proofs.YtkkjdoadmfeebaaDoor.Bt
