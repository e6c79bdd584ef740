/-
  The contracts of the document's functions: May, Encode, Decode, Gap.
-/
import Derived.Test.YtflcnpmampaamaaDoorHdHead
namespace Go.Proofs.YtflcnpmampaamaaDoor.Hd
open Go.RowKit Go.Proofs.YtflcnpmampaamaaDoor.Ar
set_option linter.unusedVariables false

section
variable {w : World}
theorem Hd.new' (w : World) (x : Hd) : Has (w.alloc (.cells #[.int .u8 x.tg, .int .i64 x.ty, .int .i64 x.ln, .int .i64 x.sz] 23)) w.heap.size 23 [.int .u8 x.tg, .int .i64 x.ty, .int .i64 x.ln, .int .i64 x.sz] := Has.new w _ _
set_option maxRecDepth 100000 in
set_option maxHeartbeats 1000000 in
theorem may_ok (x : Hd) (ok : x.ok) : Calls Tryd.prog 23 #[x.val] w fun e w' => e = .returned (.bool (decide x.can)) ∧ Kept [] w w' := by
  have hb := Hd.new' w x
  have k0 : Kept [] w (w.alloc (.cells #[.int .u8 x.tg, .int .i64 x.ty, .int .i64 x.ln, .int .i64 x.sz] 23)) := (Kept.refl [] w).alloc _
  obtain ⟨g0, g1, t0, t1, l0, l1, s0, s1⟩ := ok
  have hc : decide x.can = decide ((1 ≤ x.sz ∧ x.sz ≤ 16777215 ∧ 0 ≤ x.ln ∧ x.ln ≤ 16777215) ∧ ((x.tg = 1 ∧ 1 ≤ x.ty ∧ x.ty ≤ 4095) ∨ ((x.tg = 2 ∨ x.tg = 3) ∧ x.ty = 0 ∧ x.ln = 0))) := by
    rw [Bool.eq_iff_iff, decide_eq_true_iff, decide_eq_true_iff]; rfl
  rw [hc]; clear hc
  unfold Hd.val
  generalize x.tg = g at *
  generalize x.ty = t at *
  generalize x.ln = n at *
  generalize x.sz = s at *
  obtain ⟨c0, c1, c2, c3⟩ := cells4 hb
  have K0 := Lib.hid k0
  clear hb k0
  by_cases h1 : s < 1
  · rw [decide_eq_false (by omega)]
    go_enter Tryd.func23, Tryd.ntmps23
    go_wp2_with fail
    go_ret
    exact ⟨rfl, K0.out⟩
  by_cases h2 : s ≥ 16777216
  · rw [decide_eq_false (by omega)]
    go_enter Tryd.func23, Tryd.ntmps23
    go_wp2_with fail
    go_ret
    exact ⟨rfl, K0.out⟩
  by_cases h3 : n < 0
  · rw [decide_eq_false (by omega)]
    go_enter Tryd.func23, Tryd.ntmps23
    go_wp2_with fail
    go_ret
    exact ⟨rfl, K0.out⟩
  by_cases h4 : n ≥ 16777216
  · rw [decide_eq_false (by omega)]
    go_enter Tryd.func23, Tryd.ntmps23
    go_wp2_with fail
    go_ret
    exact ⟨rfl, K0.out⟩
  by_cases hg1 : g = 1
  · subst hg1
    by_cases ht : 1 ≤ t
    · by_cases ht2 : t ≤ 4095
      · rw [decide_eq_true (by omega)]
        go_enter Tryd.func23, Tryd.ntmps23
        go_wp2_with fail
        go_ret
        exact ⟨ret_bool (by first | rfl | (simp; done) | (simp; omega)), K0.out⟩
      · rw [decide_eq_false (by omega)]
        go_enter Tryd.func23, Tryd.ntmps23
        go_wp2_with fail
        go_ret
        exact ⟨ret_bool (by first | rfl | (simp; done) | (simp; omega)), K0.out⟩
    · rw [decide_eq_false (by omega)]
      go_enter Tryd.func23, Tryd.ntmps23
      go_wp2_with fail
      go_ret
      exact ⟨ret_bool (by first | rfl | (simp; done) | (simp; omega)), K0.out⟩
  by_cases hg2 : g = 2
  · subst hg2
    by_cases ht : t = 0
    · subst ht
      by_cases hn : n = 0
      · subst hn
        rw [decide_eq_true (by omega)]
        go_enter Tryd.func23, Tryd.ntmps23
        go_wp2_with fail
        go_ret
        exact ⟨ret_bool (by first | rfl | (simp; done) | (simp; omega)), K0.out⟩
      · rw [decide_eq_false (by omega)]
        go_enter Tryd.func23, Tryd.ntmps23
        go_wp2_with fail
        go_ret
        exact ⟨ret_bool (by first | rfl | (simp; done) | (simp; omega)), K0.out⟩
    · rw [decide_eq_false (by omega)]
      go_enter Tryd.func23, Tryd.ntmps23
      go_wp2_with fail
      go_ret
      exact ⟨ret_bool (by first | rfl | (simp; done) | (simp; omega)), K0.out⟩
  by_cases hg3 : g = 3
  · subst hg3
    by_cases ht : t = 0
    · subst ht
      by_cases hn : n = 0
      · subst hn
        rw [decide_eq_true (by omega)]
        go_enter Tryd.func23, Tryd.ntmps23
        go_wp2_with fail
        go_ret
        exact ⟨ret_bool (by first | rfl | (simp; done) | (simp; omega)), K0.out⟩
      · rw [decide_eq_false (by omega)]
        go_enter Tryd.func23, Tryd.ntmps23
        go_wp2_with fail
        go_ret
        exact ⟨ret_bool (by first | rfl | (simp; done) | (simp; omega)), K0.out⟩
    · rw [decide_eq_false (by omega)]
      go_enter Tryd.func23, Tryd.ntmps23
      go_wp2_with fail
      go_ret
      exact ⟨ret_bool (by first | rfl | (simp; done) | (simp; omega)), K0.out⟩
  rw [decide_eq_false (by omega)]
  go_enter Tryd.func23, Tryd.ntmps23
  go_wp2_with fail
  go_ret
  exact ⟨ret_bool (by first | rfl | (simp; done) | (simp; omega)), K0.out⟩
end
end Go.Proofs.YtflcnpmampaamaaDoor.Hd
