/-
  The contract of without.
-/
import Derived.Test.YtbgonppichdhiaaRnJoin
namespace Go.Proofs.Ytbgonppichdhiaa.Rn
open Go.RowKit Go.Proofs.Ytbgonppichdhiaa.Ar Go.Proofs.Ytbgonppichdhiaa.Bt Go.Proofs.Ytbgonppichdhiaa.Lk Go.Sort
set_option linter.unusedVariables false

/-- What without hands back: fresh links with what is left of the run, ahead of those behind it. -/
def Left (w : World) (v : Option Addr) (rs : List R) (e : Ending) (w' : World) : Prop :=
  ∃ ns : List Nd, e = .returned (.pointer (front v ns)) ∧ runsIn ns = rs ∧ Seg w' v ns ∧ (ns.map Nd.b).Nodup ∧ (∀ n ∈ ns, w.heap.size ≤ n.b) ∧ Kept [] w w'

set_option maxRecDepth 100000 in
set_option maxHeartbeats 4000000 in
theorem without_both (w : World) (b : Nat) (ra rl a n : Nat) (v : Option Addr) (h : Has w b 52 (linkV ra rl v)) (hb : ra + rl ≤ 65536) (k1 : ra < a) (k2 : a + n < ra + rl) :
    Calls Try.prog 31 #[.pointer (some ⟨b, 0, none⟩), runV a n] w (Left w v (rest (ra, rl) a n)) := by
  have hkb : Kept [] w (w.alloc (.cells #[.int .i64 (a : Int), .int .i64 (n : Int)] 29)) := (Kept.refl [] w).alloc _
  have hrest : rest (ra, rl) a n = [(ra, a - ra), (a + n, ra + rl - (a + n))] := by
    unfold rest
    simp only
    rw [if_pos k1, if_pos k2]
    rfl
  rw [hrest]
  clear hrest
  have H := Lib.hid h
  have c2 : ∀ o, (w.alloc o).cell? ⟨b, 2, none⟩ = some (.pointer v) := fun o => (h.alloc o).cell 2
  clear h
  unfold runV
  go_enter Try.func31, Try.ntmps31
  go_wp2_with fail
  have hB : Has (w.alloc (.cells #[.int .i64 (a : Int), .int .i64 (n : Int)] 29)) w.heap.size 29 [.int .i64 (a : Int), .int .i64 (n : Int)] := Has.new w _ [.int .i64 (a : Int), .int .i64 (n : Int)]
  clear c2
  generalize w.alloc (.cells #[.int .i64 (a : Int), .int .i64 (n : Int)] 29) = W at *
  generalize hbx : w.heap.size = bx at *
  have Hbx := Lib.hid hbx
  clear hbx
  have HB := Lib.hid hB
  have Hkb := Lib.hid hkb
  clear hB hkb
  have HW := Lib.hid (H.out.keep0 Hkb.out)
  have b0 := cell_regrown (show W.cell? ⟨b, 0, none⟩ = some (.int .i64 (ra : Int)) from HW.out.cell 0)
  have b1 := cell_regrown (show W.cell? ⟨b, 1, none⟩ = some (.int .i64 (rl : Int)) from HW.out.cell 1)
  have d0 := cell_regrown (show W.cell? ⟨bx, 0, none⟩ = some (.int .i64 (a : Int)) from HB.out.cell 0)
  have d1 := cell_regrown (show W.cell? ⟨bx, 1, none⟩ = some (.int .i64 (n : Int)) from HB.out.cell 1)
  have cC : ∀ (x y : Nat), x + y ≤ 65536 → ∀ d os, Calls Try.prog 29 #[runV x y] (grow (redrawn W d) os) fun e w'' => e = .returned (.int .i64 ((x : Int) + (y : Int))) ∧ ∃ p : Regrown, w'' = grow (redrawn W p.d) p.os :=
    fun x y hxy d os => Calls.regrown_of ((end_ok x y _ (by omega) (by omega)).mono fun _ _ ⟨he, hk⟩ => ⟨he, hk.below (Nat.le_refl _) (by simp)⟩)
  unfold runV at cC
  have CR := Lib.hid (cC ra rl hb)
  have CA := Lib.hid (cC a n (by omega))
  clear cC
  have hwr : IntKind.i64.wrap ((ra : Int) + (rl : Int) - ((a : Int) + (n : Int))) = (ra : Int) + (rl : Int) - ((a : Int) + (n : Int)) := by rw [IntKind.wrap_i64]; omega
  refine wp_region_quiet_below (by kernel_rfl) (by kernel_rfl) ?_
  repeat (first | go_big_quiet_step (first | exact CR.out _ _ | exact CA.out _ _) | quiet_step (first | exact CR.out _ _ | exact CA.out _ _))
  refine wpQuiet_nil ?_
  rintro _ ⟨⟨dq, osq⟩, rfl⟩
  have hk3 := Kept.ofBelow (below_regrown W dq osq) []
  clear b0 b1 d0 d1 CR
  generalize grow (redrawn W dq) osq = W3 at hk3 ⊢
  have Hk3 := Lib.hid (Hkb.out.trans hk3)
  have HB3 := Lib.hid (HB.out.keep0 hk3)
  clear hk3
  have HW3 := Lib.hid (H.out.keep0 Hk3.out)
  have b0 := HW3.out.cell 0
  have d0 := HB3.out.cell 0
  have d1 := HB3.out.cell 1
  simp [linkV] at b0 d0 d1
  have HE := Lib.hid (end_ok (a : Int) (n : Int) W3 (by omega) (by omega))
  unfold runV at HE
  clear CA
  go_wp2_with fail
  refine HE.out.mono ?_
  rintro e W4 ⟨rfl, hk4⟩
  clear b0 d0 d1 HE
  have Hk4 := Lib.hid (Hk3.out.trans hk4)
  have HB4 := Lib.hid (HB3.out.keep0 hk4)
  clear hk4
  go_wp2_with fail
  have hk5 : Kept [] W4 (W4.alloc (.cells #[.int .i64 ((a : Int) + (n : Int)), .int .i64 ((ra : Int) + (rl : Int) - ((a : Int) + (n : Int))), .pointer v] 52)) := (Kept.refl [] W4).alloc _
  have hn5 : Has (W4.alloc (.cells #[.int .i64 ((a : Int) + (n : Int)), .int .i64 ((ra : Int) + (rl : Int) - ((a : Int) + (n : Int))), .pointer v] 52)) W4.heap.size 52 (linkV ((a : Int) + (n : Int)) ((ra : Int) + (rl : Int) - ((a : Int) + (n : Int))) v) := Has.new W4 _ (linkV ((a : Int) + (n : Int)) ((ra : Int) + (rl : Int) - ((a : Int) + (n : Int))) v)
  have hz5 : w.heap.size ≤ W4.heap.size := Hk4.out.more
  generalize hB1 : W4.heap.size = B1 at *
  have HB1 := Lib.hid hB1
  clear hB1
  generalize W4.alloc (.cells #[.int .i64 ((a : Int) + (n : Int)), .int .i64 ((ra : Int) + (rl : Int) - ((a : Int) + (n : Int))), .pointer v] 52) = W5 at *
  have Hk5 := Lib.hid (Hk4.out.trans hk5)
  have HB5 := Lib.hid (HB4.out.keep0 hk5)
  have Hn5 := Lib.hid hn5
  have Hz5 := Lib.hid hz5
  clear hk5 hn5 hz5
  have HW5 := Lib.hid (H.out.keep0 Hk5.out)
  have b0 := HW5.out.cell 0
  have d0 := HB5.out.cell 0
  simp [linkV] at b0 d0
  have hw2 : IntKind.i64.wrap ((a : Int) - (ra : Int)) = (a : Int) - (ra : Int) := by rw [IntKind.wrap_i64]; omega
  go_quiet (fail)
  clear hw2
  have hk6 : Kept [] W5 (W5.drewN nq) := (Kept.refl [] W5).drewN nq
  clear b0 d0
  generalize W5.drewN nq = W6 at *
  have Hk6 := Lib.hid (Hk5.out.trans hk6)
  have HW6 := Lib.hid (HW5.out.keep0 hk6)
  have b0 := HW6.out.cell 0
  simp [linkV] at b0
  have Hn6 := Lib.hid (Hn5.out.keep0 hk6)
  clear hk6
  go_wp2_with fail
  go_ret
  have hk7 : Kept [] W6 (W6.alloc (.cells #[.int .i64 (ra : Int), .int .i64 ((a : Int) - (ra : Int)), .pointer (some ⟨B1, 0, none⟩)] 52)) := (Kept.refl [] W6).alloc _
  have hn7 : Has (W6.alloc (.cells #[.int .i64 (ra : Int), .int .i64 ((a : Int) - (ra : Int)), .pointer (some ⟨B1, 0, none⟩)] 52)) W6.heap.size 52 (linkV (ra : Int) ((a : Int) - (ra : Int)) (some ⟨B1, 0, none⟩)) := Has.new W6 _ (linkV (ra : Int) ((a : Int) - (ra : Int)) (some ⟨B1, 0, none⟩))
  have hlt := Hn6.out.lt
  refine ⟨[⟨W6.heap.size, ra, a - ra⟩, ⟨B1, a + n, ra + rl - (a + n)⟩], rfl, rfl, ?_, (by simp; omega), (fun x hx => ?_), Hk6.out.trans hk7⟩
  · rw [Seg.cons, Seg.cons]
    refine ⟨?_, ?_, trivial⟩
    · show Has _ _ _ (linkV ((ra : Nat) : Int) ((a - ra : Nat) : Int) (some ⟨B1, 0, none⟩))
      rw [show ((a - ra : Nat) : Int) = (a : Int) - (ra : Int) by omega]
      exact hn7
    · show Has _ _ _ (linkV ((a + n : Nat) : Int) ((ra + rl - (a + n) : Nat) : Int) v)
      rw [show ((a + n : Nat) : Int) = (a : Int) + (n : Int) by omega, show ((ra + rl - (a + n) : Nat) : Int) = (ra : Int) + (rl : Int) - ((a : Int) + (n : Int)) by omega]
      exact Hn6.out.keep0 hk7
  · rcases List.mem_cons.1 hx with rfl | hx
    · exact Hk6.out.more
    · rw [List.mem_singleton.1 hx]
      exact Hz5.out

set_option maxRecDepth 100000 in
set_option maxHeartbeats 4000000 in
theorem without_low (w : World) (b : Nat) (ra rl a n : Nat) (v : Option Addr) (h : Has w b 52 (linkV ra rl v)) (hb : ra + rl ≤ 65536) (k1 : ra < a) (k2 : a + n ≤ ra + rl) (k2r : ra + rl ≤ a + n) :
    Calls Try.prog 31 #[.pointer (some ⟨b, 0, none⟩), runV a n] w (Left w v (rest (ra, rl) a n)) := by
  have hkb : Kept [] w (w.alloc (.cells #[.int .i64 (a : Int), .int .i64 (n : Int)] 29)) := (Kept.refl [] w).alloc _
  have hrest : rest (ra, rl) a n = [(ra, a - ra)] := by
    unfold rest
    simp only
    rw [if_pos k1, if_neg (by omega)]
    rfl
  rw [hrest]
  clear hrest
  have H := Lib.hid h
  have c2 : ∀ o, (w.alloc o).cell? ⟨b, 2, none⟩ = some (.pointer v) := fun o => (h.alloc o).cell 2
  clear h
  unfold runV
  go_enter Try.func31, Try.ntmps31
  go_wp2_with fail
  have hB : Has (w.alloc (.cells #[.int .i64 (a : Int), .int .i64 (n : Int)] 29)) w.heap.size 29 [.int .i64 (a : Int), .int .i64 (n : Int)] := Has.new w _ [.int .i64 (a : Int), .int .i64 (n : Int)]
  clear c2
  generalize w.alloc (.cells #[.int .i64 (a : Int), .int .i64 (n : Int)] 29) = W at *
  generalize hbx : w.heap.size = bx at *
  have Hbx := Lib.hid hbx
  clear hbx
  have HB := Lib.hid hB
  have Hkb := Lib.hid hkb
  clear hB hkb
  have HW := Lib.hid (H.out.keep0 Hkb.out)
  have b0 := cell_regrown (show W.cell? ⟨b, 0, none⟩ = some (.int .i64 (ra : Int)) from HW.out.cell 0)
  have b1 := cell_regrown (show W.cell? ⟨b, 1, none⟩ = some (.int .i64 (rl : Int)) from HW.out.cell 1)
  have d0 := cell_regrown (show W.cell? ⟨bx, 0, none⟩ = some (.int .i64 (a : Int)) from HB.out.cell 0)
  have d1 := cell_regrown (show W.cell? ⟨bx, 1, none⟩ = some (.int .i64 (n : Int)) from HB.out.cell 1)
  have cC : ∀ (x y : Nat), x + y ≤ 65536 → ∀ d os, Calls Try.prog 29 #[runV x y] (grow (redrawn W d) os) fun e w'' => e = .returned (.int .i64 ((x : Int) + (y : Int))) ∧ ∃ p : Regrown, w'' = grow (redrawn W p.d) p.os :=
    fun x y hxy d os => Calls.regrown_of ((end_ok x y _ (by omega) (by omega)).mono fun _ _ ⟨he, hk⟩ => ⟨he, hk.below (Nat.le_refl _) (by simp)⟩)
  unfold runV at cC
  have CR := Lib.hid (cC ra rl hb)
  have CA := Lib.hid (cC a n (by omega))
  clear cC
  have hwr : IntKind.i64.wrap ((ra : Int) + (rl : Int) - ((a : Int) + (n : Int))) = (ra : Int) + (rl : Int) - ((a : Int) + (n : Int)) := by rw [IntKind.wrap_i64]; omega
  refine wp_region_quiet_below (by kernel_rfl) (by kernel_rfl) ?_
  repeat (first | go_big_quiet_step (first | exact CR.out _ _ | exact CA.out _ _) | quiet_step (first | exact CR.out _ _ | exact CA.out _ _))
  refine wpQuiet_nil ?_
  rintro _ ⟨⟨dq, osq⟩, rfl⟩
  have hk3 := Kept.ofBelow (below_regrown W dq osq) []
  clear b0 b1 d0 d1 CR
  generalize grow (redrawn W dq) osq = W3 at hk3 ⊢
  have Hk3 := Lib.hid (Hkb.out.trans hk3)
  have HB3 := Lib.hid (HB.out.keep0 hk3)
  clear hk3
  have HW3 := Lib.hid (H.out.keep0 Hk3.out)
  have b0 := HW3.out.cell 0
  have d0 := HB3.out.cell 0
  have d1 := HB3.out.cell 1
  simp [linkV] at b0 d0 d1
  clear CA
  go_wp2_with fail
  clear b0 d0 d1
  have Hk5 := Hk3
  have HB5 := HB3
  obtain ⟨W5, hW5⟩ : ∃ W5, W5 = W3 := ⟨_, rfl⟩
  rw [← hW5] at Hk5 HB5 ⊢
  clear hW5
  have HW5 := Lib.hid (H.out.keep0 Hk5.out)
  have b0 := HW5.out.cell 0
  have d0 := HB5.out.cell 0
  simp [linkV] at b0 d0
  have hw2 : IntKind.i64.wrap ((a : Int) - (ra : Int)) = (a : Int) - (ra : Int) := by rw [IntKind.wrap_i64]; omega
  go_quiet (fail)
  clear hw2
  have hk6 : Kept [] W5 (W5.drewN nq) := (Kept.refl [] W5).drewN nq
  clear b0 d0
  generalize W5.drewN nq = W6 at *
  have Hk6 := Lib.hid (Hk5.out.trans hk6)
  have HW6 := Lib.hid (HW5.out.keep0 hk6)
  have b0 := HW6.out.cell 0
  simp [linkV] at b0
  clear hk6
  go_wp2_with fail
  go_ret
  have hk7 : Kept [] W6 (W6.alloc (.cells #[.int .i64 (ra : Int), .int .i64 ((a : Int) - (ra : Int)), .pointer (v)] 52)) := (Kept.refl [] W6).alloc _
  have hn7 : Has (W6.alloc (.cells #[.int .i64 (ra : Int), .int .i64 ((a : Int) - (ra : Int)), .pointer (v)] 52)) W6.heap.size 52 (linkV (ra : Int) ((a : Int) - (ra : Int)) (v)) := Has.new W6 _ (linkV (ra : Int) ((a : Int) - (ra : Int)) (v))
  refine ⟨[⟨W6.heap.size, ra, a - ra⟩], rfl, rfl, ?_, (by simp), (fun x hx => by rw [List.mem_singleton.1 hx]; exact Hk6.out.more), Hk6.out.trans hk7⟩
  rw [Seg.cons]
  refine ⟨?_, trivial⟩
  show Has _ _ _ (linkV ((ra : Nat) : Int) ((a - ra : Nat) : Int) v)
  rw [show ((a - ra : Nat) : Int) = (a : Int) - (ra : Int) by omega]
  exact hn7

set_option maxRecDepth 100000 in
set_option maxHeartbeats 4000000 in
theorem without_high (w : World) (b : Nat) (ra rl a n : Nat) (v : Option Addr) (h : Has w b 52 (linkV ra rl v)) (hb : ra + rl ≤ 65536) (k1 : ra ≤ a) (k1r : a ≤ ra) (k2 : a + n < ra + rl) :
    Calls Try.prog 31 #[.pointer (some ⟨b, 0, none⟩), runV a n] w (Left w v (rest (ra, rl) a n)) := by
  have hkb : Kept [] w (w.alloc (.cells #[.int .i64 (a : Int), .int .i64 (n : Int)] 29)) := (Kept.refl [] w).alloc _
  have hrest : rest (ra, rl) a n = [(a + n, ra + rl - (a + n))] := by
    unfold rest
    simp only
    rw [if_neg (by omega), if_pos k2]
    rfl
  rw [hrest]
  clear hrest
  have H := Lib.hid h
  have c2 : ∀ o, (w.alloc o).cell? ⟨b, 2, none⟩ = some (.pointer v) := fun o => (h.alloc o).cell 2
  clear h
  unfold runV
  go_enter Try.func31, Try.ntmps31
  go_wp2_with fail
  have hB : Has (w.alloc (.cells #[.int .i64 (a : Int), .int .i64 (n : Int)] 29)) w.heap.size 29 [.int .i64 (a : Int), .int .i64 (n : Int)] := Has.new w _ [.int .i64 (a : Int), .int .i64 (n : Int)]
  clear c2
  generalize w.alloc (.cells #[.int .i64 (a : Int), .int .i64 (n : Int)] 29) = W at *
  generalize hbx : w.heap.size = bx at *
  have Hbx := Lib.hid hbx
  clear hbx
  have HB := Lib.hid hB
  have Hkb := Lib.hid hkb
  clear hB hkb
  have HW := Lib.hid (H.out.keep0 Hkb.out)
  have b0 := cell_regrown (show W.cell? ⟨b, 0, none⟩ = some (.int .i64 (ra : Int)) from HW.out.cell 0)
  have b1 := cell_regrown (show W.cell? ⟨b, 1, none⟩ = some (.int .i64 (rl : Int)) from HW.out.cell 1)
  have d0 := cell_regrown (show W.cell? ⟨bx, 0, none⟩ = some (.int .i64 (a : Int)) from HB.out.cell 0)
  have d1 := cell_regrown (show W.cell? ⟨bx, 1, none⟩ = some (.int .i64 (n : Int)) from HB.out.cell 1)
  have cC : ∀ (x y : Nat), x + y ≤ 65536 → ∀ d os, Calls Try.prog 29 #[runV x y] (grow (redrawn W d) os) fun e w'' => e = .returned (.int .i64 ((x : Int) + (y : Int))) ∧ ∃ p : Regrown, w'' = grow (redrawn W p.d) p.os :=
    fun x y hxy d os => Calls.regrown_of ((end_ok x y _ (by omega) (by omega)).mono fun _ _ ⟨he, hk⟩ => ⟨he, hk.below (Nat.le_refl _) (by simp)⟩)
  unfold runV at cC
  have CR := Lib.hid (cC ra rl hb)
  have CA := Lib.hid (cC a n (by omega))
  clear cC
  have hwr : IntKind.i64.wrap ((ra : Int) + (rl : Int) - ((a : Int) + (n : Int))) = (ra : Int) + (rl : Int) - ((a : Int) + (n : Int)) := by rw [IntKind.wrap_i64]; omega
  refine wp_region_quiet_below (by kernel_rfl) (by kernel_rfl) ?_
  repeat (first | go_big_quiet_step (first | exact CR.out _ _ | exact CA.out _ _) | quiet_step (first | exact CR.out _ _ | exact CA.out _ _))
  refine wpQuiet_nil ?_
  rintro _ ⟨⟨dq, osq⟩, rfl⟩
  have hk3 := Kept.ofBelow (below_regrown W dq osq) []
  clear b0 b1 d0 d1 CR
  generalize grow (redrawn W dq) osq = W3 at hk3 ⊢
  have Hk3 := Lib.hid (Hkb.out.trans hk3)
  have HB3 := Lib.hid (HB.out.keep0 hk3)
  clear hk3
  have HW3 := Lib.hid (H.out.keep0 Hk3.out)
  have b0 := HW3.out.cell 0
  have d0 := HB3.out.cell 0
  have d1 := HB3.out.cell 1
  simp [linkV] at b0 d0 d1
  have HE := Lib.hid (end_ok (a : Int) (n : Int) W3 (by omega) (by omega))
  unfold runV at HE
  clear CA
  go_wp2_with fail
  refine HE.out.mono ?_
  rintro e W4 ⟨rfl, hk4⟩
  clear b0 d0 d1 HE
  have Hk4 := Lib.hid (Hk3.out.trans hk4)
  have HB4 := Lib.hid (HB3.out.keep0 hk4)
  clear hk4
  go_wp2_with fail
  have hk5 : Kept [] W4 (W4.alloc (.cells #[.int .i64 ((a : Int) + (n : Int)), .int .i64 ((ra : Int) + (rl : Int) - ((a : Int) + (n : Int))), .pointer v] 52)) := (Kept.refl [] W4).alloc _
  have hn5 : Has (W4.alloc (.cells #[.int .i64 ((a : Int) + (n : Int)), .int .i64 ((ra : Int) + (rl : Int) - ((a : Int) + (n : Int))), .pointer v] 52)) W4.heap.size 52 (linkV ((a : Int) + (n : Int)) ((ra : Int) + (rl : Int) - ((a : Int) + (n : Int))) v) := Has.new W4 _ (linkV ((a : Int) + (n : Int)) ((ra : Int) + (rl : Int) - ((a : Int) + (n : Int))) v)
  have hz5 : w.heap.size ≤ W4.heap.size := Hk4.out.more
  generalize hB1 : W4.heap.size = B1 at *
  have HB1 := Lib.hid hB1
  clear hB1
  generalize W4.alloc (.cells #[.int .i64 ((a : Int) + (n : Int)), .int .i64 ((ra : Int) + (rl : Int) - ((a : Int) + (n : Int))), .pointer v] 52) = W5 at *
  have Hk5 := Lib.hid (Hk4.out.trans hk5)
  have HB5 := Lib.hid (HB4.out.keep0 hk5)
  have Hn5 := Lib.hid hn5
  have Hz5 := Lib.hid hz5
  clear hk5 hn5 hz5
  have HW5 := Lib.hid (H.out.keep0 Hk5.out)
  have b0 := HW5.out.cell 0
  have d0 := HB5.out.cell 0
  simp [linkV] at b0 d0
  have hw2 : IntKind.i64.wrap ((a : Int) - (ra : Int)) = (a : Int) - (ra : Int) := by rw [IntKind.wrap_i64]; omega
  go_quiet (fail)
  clear hw2
  have hk6 : Kept [] W5 (W5.drewN nq) := (Kept.refl [] W5).drewN nq
  clear b0 d0
  generalize W5.drewN nq = W6 at *
  have Hk6 := Lib.hid (Hk5.out.trans hk6)
  have HW6 := Lib.hid (HW5.out.keep0 hk6)
  have b0 := HW6.out.cell 0
  simp [linkV] at b0
  have Hn6 := Lib.hid (Hn5.out.keep0 hk6)
  clear hk6
  go_wp2_with fail
  go_ret
  refine ⟨[⟨B1, a + n, ra + rl - (a + n)⟩], rfl, rfl, ?_, (by simp), (fun x hx => by rw [List.mem_singleton.1 hx]; exact Hz5.out), Hk6.out⟩
  rw [Seg.cons]
  refine ⟨?_, trivial⟩
  show Has _ _ _ (linkV ((a + n : Nat) : Int) ((ra + rl - (a + n) : Nat) : Int) v)
  rw [show ((a + n : Nat) : Int) = (a : Int) + (n : Int) by omega, show ((ra + rl - (a + n) : Nat) : Int) = (ra : Int) + (rl : Int) - ((a : Int) + (n : Int)) by omega]
  exact Hn6.out

set_option maxRecDepth 100000 in
set_option maxHeartbeats 4000000 in
theorem without_all (w : World) (b : Nat) (ra rl a n : Nat) (v : Option Addr) (h : Has w b 52 (linkV ra rl v)) (hb : ra + rl ≤ 65536) (k1 : ra ≤ a) (k1r : a ≤ ra) (k2 : a + n ≤ ra + rl) (k2r : ra + rl ≤ a + n) :
    Calls Try.prog 31 #[.pointer (some ⟨b, 0, none⟩), runV a n] w (Left w v (rest (ra, rl) a n)) := by
  have hkb : Kept [] w (w.alloc (.cells #[.int .i64 (a : Int), .int .i64 (n : Int)] 29)) := (Kept.refl [] w).alloc _
  have hrest : rest (ra, rl) a n = [] := by
    unfold rest
    simp only
    rw [if_neg (by omega), if_neg (by omega)]
    rfl
  rw [hrest]
  clear hrest
  have H := Lib.hid h
  have c2 : ∀ o, (w.alloc o).cell? ⟨b, 2, none⟩ = some (.pointer v) := fun o => (h.alloc o).cell 2
  clear h
  unfold runV
  go_enter Try.func31, Try.ntmps31
  go_wp2_with fail
  have hB : Has (w.alloc (.cells #[.int .i64 (a : Int), .int .i64 (n : Int)] 29)) w.heap.size 29 [.int .i64 (a : Int), .int .i64 (n : Int)] := Has.new w _ [.int .i64 (a : Int), .int .i64 (n : Int)]
  clear c2
  generalize w.alloc (.cells #[.int .i64 (a : Int), .int .i64 (n : Int)] 29) = W at *
  generalize hbx : w.heap.size = bx at *
  have Hbx := Lib.hid hbx
  clear hbx
  have HB := Lib.hid hB
  have Hkb := Lib.hid hkb
  clear hB hkb
  have HW := Lib.hid (H.out.keep0 Hkb.out)
  have b0 := cell_regrown (show W.cell? ⟨b, 0, none⟩ = some (.int .i64 (ra : Int)) from HW.out.cell 0)
  have b1 := cell_regrown (show W.cell? ⟨b, 1, none⟩ = some (.int .i64 (rl : Int)) from HW.out.cell 1)
  have d0 := cell_regrown (show W.cell? ⟨bx, 0, none⟩ = some (.int .i64 (a : Int)) from HB.out.cell 0)
  have d1 := cell_regrown (show W.cell? ⟨bx, 1, none⟩ = some (.int .i64 (n : Int)) from HB.out.cell 1)
  have cC : ∀ (x y : Nat), x + y ≤ 65536 → ∀ d os, Calls Try.prog 29 #[runV x y] (grow (redrawn W d) os) fun e w'' => e = .returned (.int .i64 ((x : Int) + (y : Int))) ∧ ∃ p : Regrown, w'' = grow (redrawn W p.d) p.os :=
    fun x y hxy d os => Calls.regrown_of ((end_ok x y _ (by omega) (by omega)).mono fun _ _ ⟨he, hk⟩ => ⟨he, hk.below (Nat.le_refl _) (by simp)⟩)
  unfold runV at cC
  have CR := Lib.hid (cC ra rl hb)
  have CA := Lib.hid (cC a n (by omega))
  clear cC
  have hwr : IntKind.i64.wrap ((ra : Int) + (rl : Int) - ((a : Int) + (n : Int))) = (ra : Int) + (rl : Int) - ((a : Int) + (n : Int)) := by rw [IntKind.wrap_i64]; omega
  refine wp_region_quiet_below (by kernel_rfl) (by kernel_rfl) ?_
  repeat (first | go_big_quiet_step (first | exact CR.out _ _ | exact CA.out _ _) | quiet_step (first | exact CR.out _ _ | exact CA.out _ _))
  refine wpQuiet_nil ?_
  rintro _ ⟨⟨dq, osq⟩, rfl⟩
  have hk3 := Kept.ofBelow (below_regrown W dq osq) []
  clear b0 b1 d0 d1 CR
  generalize grow (redrawn W dq) osq = W3 at hk3 ⊢
  have Hk3 := Lib.hid (Hkb.out.trans hk3)
  have HB3 := Lib.hid (HB.out.keep0 hk3)
  clear hk3
  have HW3 := Lib.hid (H.out.keep0 Hk3.out)
  have b0 := HW3.out.cell 0
  have d0 := HB3.out.cell 0
  have d1 := HB3.out.cell 1
  simp [linkV] at b0 d0 d1
  clear CA
  go_wp2_with fail
  clear b0 d0 d1
  have Hk5 := Hk3
  have HB5 := HB3
  obtain ⟨W5, hW5⟩ : ∃ W5, W5 = W3 := ⟨_, rfl⟩
  rw [← hW5] at Hk5 HB5 ⊢
  clear hW5
  have HW5 := Lib.hid (H.out.keep0 Hk5.out)
  have b0 := HW5.out.cell 0
  have d0 := HB5.out.cell 0
  simp [linkV] at b0 d0
  have hw2 : IntKind.i64.wrap ((a : Int) - (ra : Int)) = (a : Int) - (ra : Int) := by rw [IntKind.wrap_i64]; omega
  go_quiet (fail)
  clear hw2
  have hk6 : Kept [] W5 (W5.drewN nq) := (Kept.refl [] W5).drewN nq
  clear b0 d0
  generalize W5.drewN nq = W6 at *
  have Hk6 := Lib.hid (Hk5.out.trans hk6)
  have HW6 := Lib.hid (HW5.out.keep0 hk6)
  have b0 := HW6.out.cell 0
  simp [linkV] at b0
  clear hk6
  go_wp2_with fail
  go_ret
  exact ⟨[], rfl, rfl, trivial, List.nodup_nil, (by simp), Hk6.out⟩

theorem without_ok (w : World) (b : Nat) (ra rl a n : Nat) (v : Option Addr) (h : Has w b 52 (linkV ra rl v)) (hb : ra + rl ≤ 65536) (h1 : ra ≤ a) (h2 : a + n ≤ ra + rl) :
    Calls Try.prog 31 #[.pointer (some ⟨b, 0, none⟩), runV a n] w (Left w v (rest (ra, rl) a n)) := by
  by_cases c1 : a ≤ ra
  · by_cases c2 : ra + rl ≤ a + n
    · exact without_all w b ra rl a n v h hb h1 c1 h2 c2
    · exact without_high w b ra rl a n v h hb h1 c1 (by omega)
  · by_cases c2 : ra + rl ≤ a + n
    · exact without_low w b ra rl a n v h hb (by omega) h2 c2
    · exact without_both w b ra rl a n v h hb (by omega) (by omega)
end Go.Proofs.Ytbgonppichdhiaa.Rn
