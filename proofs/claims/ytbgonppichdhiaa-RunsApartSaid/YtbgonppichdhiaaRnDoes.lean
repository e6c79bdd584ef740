/-
  A step of a set beside the document's.
-/
import Derived.Test.YtbgonppichdhiaaRnAlive
import Derived.Test.YtbgonppichdhiaaRnOpen
import Derived.Deep.RegionHeld3
import Derived.Deep.DrawnRows
import Derived.Deep.RegionWith
namespace Go.Proofs.Ytbgonppichdhiaa.Rn
open Go.RowKit Go.Proofs.Ytbgonppichdhiaa.Ar Go.Proofs.Ytbgonppichdhiaa.Bt Go.Proofs.Ytbgonppichdhiaa.Lk Go.Sort
set_option linter.unusedVariables false
attribute [local go_sem ↓] Go.wp_at_zero Go.wp_at_succ

/-- What a step makes of the runs; and is it answered alike. -/
def stepS (rs : List R) (s : Stp) : List R := if s.d = 0 then addW rs s.a s.n else if s.d = 1 then cutW rs s.a s.n else rs
def stepB (rs us : List R) (s : Stp) : Bool := if s.d = 0 then addE rs s.a s.n == addE us s.a s.n else if s.d = 1 then cutE rs s.a s.n == cutE us s.a s.n else true
theorem stepB_same (rs : List R) (s : Stp) : stepB rs rs s = true := by
  unfold stepB
  split
  · simp
  · split
    · simp
    · rfl
theorem stepS_fine {rs : List R} (h : Fine 0 rs) (s : Stp) : Fine 0 (stepS rs s) := by
  unfold stepS
  split
  · exact addW_fine h _ _
  · split
    · exact cutW_fine h _ _
    · exact h
/-- Whatever else there is stays. -/
def Stays (w x : World) : Prop := ∀ b t cs, Has w b t cs → t ≠ 54 → t ≠ 52 → t ≠ 4 → Has x b t cs
theorem Stays.trans {a b c : World} (h : Stays a b) (k : Stays b c) : Stays a c := fun i t cs hh n1 n2 n3 => k i t cs (h i t cs hh n1 n2 n3) n1 n2 n3
theorem Stays.of0 {a b : World} (k : Kept [] a b) : Stays a b := fun i t cs hh _ _ _ => hh.keep0 k
theorem Stays.others {a b : World} (h : Others a b) : Stays a b := fun i t cs hh n1 n2 _ => h.has hh n1 n2
/-- Both have done it. -/
def Did (w0 w x : World) (p r rp rq : Nat) (rs us : List R) : Prop := Sx w0 x p rs ∧ RefAt x r rp rq us ∧ Stays w x
def boxed (w : World) (st : Stp) : World := w.alloc (.cells #[.int .i64 st.d, .int .i64 st.a, .int .i64 st.n] 31)
theorem boxed_kept (w : World) (st : Stp) : Kept [] w (boxed w st) := (Kept.refl [] w).alloc _
theorem boxed_has (w : World) (st : Stp) : Has (boxed w st) w.heap.size 31 st.cells := Has.new w _ st.cells
def Lies (y : World) (b : Nat) (st : Stp) : Prop := y.cell? ⟨b, 1, none⟩ = some (.int .i64 st.a) ∧ y.cell? ⟨b, 2, none⟩ = some (.int .i64 st.n)
/-- The box lies, and where the first one has done it. -/
def Half (w0 w y : World) (b : Nat) (st : Stp) (p r rp rq : Nat) (rs us : List R) : Prop := Did w0 w y p r rp rq rs us ∧ Has y b 31 st.cells
section
variable {p r rp rq : Nat} {rs us : List R} {w0 w : World}
theorem both (h : Sx w0 w p rs) (hr : RefAt w r rp rq us) (hz : w0.heap.size ≤ rq) (st : Stp) {f f' : FuncId} {args args' : Array Value} {v v' : Value} {rs' us' : List R}
    (hA : ∀ y, Sx w0 y p rs → Calls Try.prog f args y fun e y' => e = .returned v ∧ Sx w0 y' p rs' ∧ Others y y')
    (hR : ∀ y, RefAt y r rp rq us → Calls Try.prog f' args' y fun e y' => e = .returned v' ∧ RefAt y' r rp rq us' ∧ Kept [rq] y y') :
    (∀ y, Kept [] (boxed w st) y → Calls Try.prog f args y fun e y' => e = .returned v ∧ Lies y' w.heap.size st ∧ Half w0 w y' w.heap.size st p r rp rq rs' us) ∧
    (∀ y z, Half w0 w y w.heap.size st p r rp rq rs' us → Kept [] y z → Calls Try.prog f' args' z fun e y' => e = .returned v' ∧ Lies y' w.heap.size st ∧ Did w0 w y' p r rp rq rs' us') := by
  have hb := boxed_kept w st
  constructor
  · intro y hy
    refine (hA y (h.stay (hb.trans hy))).mono ?_
    rintro e y' ⟨rfl, hA', ho⟩
    have hc := ho.has ((boxed_has w st).keep0 hy) (by decide) (by decide)
    exact ⟨rfl, ⟨hc.cell 1, hc.cell 2⟩, ⟨hA', ho.ref (hr.keep0 (hb.trans hy)), (Stays.of0 (hb.trans hy)).trans (Stays.others ho)⟩, hc⟩
  · rintro y z ⟨⟨hA', hR', hSt⟩, hB⟩ hz'
    refine (hR z (hR'.keep0 hz')).mono ?_
    rintro e y' ⟨rfl, hR2, hK2⟩
    obtain ⟨bs, hbits, _⟩ := (hR'.keep0 hz').bits
    have hc := (hB.keep0 hz').kept hK2 (by simp; exact Has.block_type (hB.keep0 hz') hbits.row (by decide))
    refine ⟨rfl, ⟨hc.cell 1, hc.cell 2⟩, (hA'.stay hz').beside hK2 (by simp; exact hz) (fun b hb => ?_), hR2, hSt.trans ((Stays.of0 hz').trans fun i t cs hh n1 n2 n3 => hh.kept hK2 (by simp; exact Has.block_type hh hbits.row n3))⟩
    obtain rfl := List.mem_singleton.1 hb
    exact ⟨_, _, hbits.row, by decide, by decide⟩

set_option maxRecDepth 100000 in
set_option maxHeartbeats 1600000 in
theorem does_add (h : Sx w0 w p rs) (hr : RefAt w r rp rq us) (hf : Fine 0 us) (hz : w0.heap.size ≤ rq) (s0 : Stp) (hs : s0.ok) (hd : s0.d = 0) :
    Calls Try.prog 13 #[.pointer (some ⟨p, 0, none⟩), .pointer (some ⟨r, 0, none⟩), .agg #[.int .i64 s0.d, .int .i64 s0.a, .int .i64 s0.n]] w fun e w' => e = .returned (.bool (stepB rs us s0)) ∧ Did w0 w w' p r rp rq (stepS rs s0) (stepS us s0) := by
  obtain ⟨_, ⟨a1, a2⟩, ⟨n1, n2⟩⟩ := hs
  have e1 : ∀ l, stepS l s0 = addW l s0.a s0.n := fun l => by unfold stepS; rw [if_pos hd]
  have e2 : stepB rs us s0 = (addE rs s0.a s0.n == addE us s0.a s0.n) := by unfold stepB; rw [if_pos hd]
  have hb := both h hr hz s0 (fun y hy => Sx.add hy s0.a s0.n a1 a2 n1 n2) (fun y hy => refAdd_ok y hy hf s0.a s0.n a1 a2 n1 n2)
  rw [← e1, ← e1] at hb
  rw [e2]
  obtain ⟨b1, b2⟩ := hb
  have H1 := Lib.hid b1
  have H2 := Lib.hid b2
  clear b1 b2 h hr e1 e2 hf
  unfold boxed at H1 H2
  obtain ⟨d, a, m⟩ := s0
  simp only at hd a1 a2 n1 n2
  subst hd
  generalize stepS rs _ = R1 at *
  generalize stepS us _ = M at *
  simp only at H1 H2
  unfold runV at H1 H2
  generalize addE rs a m = E1 at *
  generalize addE us a m = E2 at *
  have hL : Lies (w.alloc (.cells #[.int .i64 0, .int .i64 a, .int .i64 m] 31)) w.heap.size ⟨0, a, m⟩ := by
    have hc := boxed_has w ⟨0, a, m⟩
    exact ⟨hc.cell 1, hc.cell 2⟩
  obtain ⟨k1, k2⟩ := hL
  simp only at k1 k2
  go_enter Try.func13, Try.ntmps13
  go_wp2_with fail
  generalize w.alloc (.cells #[.int .i64 0, .int .i64 a, .int .i64 m] 31) = x0 at *
  generalize w.heap.size = b at *
  go_region_held3 (fun y => y.cell? ⟨b, 1, none⟩ = some (.int .i64 a) ∧ y.cell? ⟨b, 2, none⟩ = some (.int .i64 m)) (go_keep)
    (first | (go_at_call 11; refine (H1.out _ ?_).mono ?_; (first | exact Kept.refl _ _ | exact (Kept.refl _ _).drewN _); rintro e y ⟨rfl, ⟨l1, l2⟩, hH⟩) | (go_at_call 32; refine (H2.out _ _ hH ?_).mono ?_; (first | exact Kept.refl _ _ | exact (Kept.refl _ _).drewN _); rintro e z ⟨rfl, ⟨l1, l2⟩, hD⟩))
  all_goals
    go_wp2_with fail
    go_ret
    exact ⟨rfl, hD⟩

set_option maxRecDepth 100000 in
set_option maxHeartbeats 1600000 in
theorem does_cut (h : Sx w0 w p rs) (hr : RefAt w r rp rq us) (hf : Fine 0 us) (hz : w0.heap.size ≤ rq) (s0 : Stp) (hs : s0.ok) (hd : s0.d = 1) :
    Calls Try.prog 13 #[.pointer (some ⟨p, 0, none⟩), .pointer (some ⟨r, 0, none⟩), .agg #[.int .i64 s0.d, .int .i64 s0.a, .int .i64 s0.n]] w fun e w' => e = .returned (.bool (stepB rs us s0)) ∧ Did w0 w w' p r rp rq (stepS rs s0) (stepS us s0) := by
  obtain ⟨_, ⟨a1, a2⟩, ⟨n1, n2⟩⟩ := hs
  have e1 : ∀ l, stepS l s0 = cutW l s0.a s0.n := fun l => by unfold stepS; rw [if_neg (by omega), if_pos hd]
  have e2 : stepB rs us s0 = (cutE rs s0.a s0.n == cutE us s0.a s0.n) := by unfold stepB; rw [if_neg (by omega), if_pos hd]
  have hb := both h hr hz s0 (fun y hy => Sx.cut hy s0.a s0.n a1 a2 n1 n2) (fun y hy => refCut_ok y hy hf s0.a s0.n a1 a2 n1 n2)
  rw [← e1, ← e1] at hb
  rw [e2]
  obtain ⟨b1, b2⟩ := hb
  have H1 := Lib.hid b1
  have H2 := Lib.hid b2
  clear b1 b2 h hr e1 e2 hf
  unfold boxed at H1 H2
  obtain ⟨d, a, m⟩ := s0
  simp only at hd a1 a2 n1 n2
  subst hd
  generalize stepS rs _ = R1 at *
  generalize stepS us _ = M at *
  simp only at H1 H2
  unfold runV at H1 H2
  generalize cutE rs a m = E1 at *
  generalize cutE us a m = E2 at *
  have hL : Lies (w.alloc (.cells #[.int .i64 1, .int .i64 a, .int .i64 m] 31)) w.heap.size ⟨1, a, m⟩ := by
    have hc := boxed_has w ⟨1, a, m⟩
    exact ⟨hc.cell 1, hc.cell 2⟩
  obtain ⟨k1, k2⟩ := hL
  simp only at k1 k2
  go_enter Try.func13, Try.ntmps13
  go_wp2_with fail
  generalize w.alloc (.cells #[.int .i64 1, .int .i64 a, .int .i64 m] 31) = x0 at *
  generalize w.heap.size = b at *
  go_region_held3 (fun y => y.cell? ⟨b, 1, none⟩ = some (.int .i64 a) ∧ y.cell? ⟨b, 2, none⟩ = some (.int .i64 m)) (go_keep)
    (first | (go_at_call 12; refine (H1.out _ ?_).mono ?_; (first | exact Kept.refl _ _ | exact (Kept.refl _ _).drewN _); rintro e y ⟨rfl, ⟨l1, l2⟩, hH⟩) | (go_at_call 33; refine (H2.out _ _ hH ?_).mono ?_; (first | exact Kept.refl _ _ | exact (Kept.refl _ _).drewN _); rintro e z ⟨rfl, ⟨l1, l2⟩, hD⟩))
  all_goals
    go_wp2_with fail
    go_ret
    exact ⟨rfl, hD⟩

theorem does_else (h : Sx w0 w p rs) (hr : RefAt w r rp rq us) (s0 : Stp) (h0 : s0.d ≠ 0) (h1 : s0.d ≠ 1) :
    Calls Try.prog 13 #[.pointer (some ⟨p, 0, none⟩), .pointer (some ⟨r, 0, none⟩), .agg #[.int .i64 s0.d, .int .i64 s0.a, .int .i64 s0.n]] w fun e w' => e = .returned (.bool (stepB rs us s0)) ∧ Did w0 w w' p r rp rq (stepS rs s0) (stepS us s0) := by
  have e1 : ∀ l, stepS l s0 = l := fun l => by unfold stepS; rw [if_neg h0, if_neg h1]
  have e2 : stepB rs us s0 = true := by unfold stepB; rw [if_neg h0, if_neg h1]
  rw [e1, e1, e2]
  have hb := boxed_kept w s0
  have hD : Did w0 w (boxed w s0) p r rp rq rs us := ⟨h.stay hb, hr.keep0 hb, Stays.of0 hb⟩
  have HD := Lib.hid hD
  unfold boxed at HD
  have g0 : (s0.d == 0) = false := by simpa using h0
  have g1 : (s0.d == 1) = false := by simpa using h1
  clear h hr hb hD e1 e2
  go_enter Try.func13, Try.ntmps13
  go_wp2_with fail
  go_ret
  exact ⟨rfl, HD.out⟩
theorem does_ok (h : Sx w0 w p rs) (hr : RefAt w r rp rq us) (hf : Fine 0 us) (hz : w0.heap.size ≤ rq) (s0 : Stp) (hs : s0.ok) :
    Calls Try.prog 13 #[.pointer (some ⟨p, 0, none⟩), .pointer (some ⟨r, 0, none⟩), .agg #[.int .i64 s0.d, .int .i64 s0.a, .int .i64 s0.n]] w fun e w' => e = .returned (.bool (stepB rs us s0)) ∧ Did w0 w w' p r rp rq (stepS rs s0) (stepS us s0) := by
  by_cases h0 : s0.d = 0
  · exact does_add h hr hf hz s0 hs h0
  · by_cases h1 : s0.d = 1
    · exact does_cut h hr hf hz s0 hs h1
    · exact does_else h hr s0 h0 h1
end
end Go.Proofs.Ytbgonppichdhiaa.Rn
