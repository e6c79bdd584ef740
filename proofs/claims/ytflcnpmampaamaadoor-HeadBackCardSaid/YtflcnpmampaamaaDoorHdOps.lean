/-
  The contracts of the functions on a header's numbers: greatest, within, hasRoom, valid, Check.
-/
import Derived.Test.YtflcnpmampaamaaDoorHdMem
namespace Go.Proofs.YtflcnpmampaamaaDoor.Hd
open Go.RowKit Go.Proofs.YtflcnpmampaamaaDoor.Ar
set_option linter.unusedVariables false

/-- The greatest number of a field. -/
def maxV : Nat → Int | 0 => 3 | 1 => 4095 | _ => 16777215
section
variable {w : World}
set_option maxRecDepth 100000 in
theorem greatest0 (h : Fields w) : Calls Tryd.prog 33 #[.int .i64 0] w fun e w' => e = .returned (.int .i64 3) ∧ w = w' := by
  obtain ⟨c0, c1, c2, c3, c4, c5, c6, c7⟩ := h.cells
  clear h
  go_enter Tryd.func33, Tryd.ntmps33
  go_wp2_with fail
  go_ret
  exact ⟨rfl, rfl⟩
set_option maxRecDepth 100000 in
theorem greatest1 (h : Fields w) : Calls Tryd.prog 33 #[.int .i64 1] w fun e w' => e = .returned (.int .i64 4095) ∧ w = w' := by
  obtain ⟨c0, c1, c2, c3, c4, c5, c6, c7⟩ := h.cells
  clear h
  go_enter Tryd.func33, Tryd.ntmps33
  go_wp2_with fail
  go_ret
  exact ⟨rfl, rfl⟩
set_option maxRecDepth 100000 in
theorem greatest2 (h : Fields w) : Calls Tryd.prog 33 #[.int .i64 2] w fun e w' => e = .returned (.int .i64 16777215) ∧ w = w' := by
  obtain ⟨c0, c1, c2, c3, c4, c5, c6, c7⟩ := h.cells
  clear h
  go_enter Tryd.func33, Tryd.ntmps33
  go_wp2_with fail
  go_ret
  exact ⟨rfl, rfl⟩
set_option maxRecDepth 100000 in
theorem greatest3 (h : Fields w) : Calls Tryd.prog 33 #[.int .i64 3] w fun e w' => e = .returned (.int .i64 16777215) ∧ w = w' := by
  obtain ⟨c0, c1, c2, c3, c4, c5, c6, c7⟩ := h.cells
  clear h
  go_enter Tryd.func33, Tryd.ntmps33
  go_wp2_with fail
  go_ret
  exact ⟨rfl, rfl⟩
theorem within_of (k m : Int) (hm0 : 0 ≤ m) (hm1 : m ≤ 16777215) (h : Calls Tryd.prog 33 #[.int .i64 k] w fun e w' => e = .returned (.int .i64 m) ∧ w = w') (v : Int) (h0 : -9223372036854775808 ≤ v) (h1 : v ≤ 9223372036854775807) :
    Calls Tryd.prog 42 #[.int .i64 k, .int .i64 v] w fun e w' => e = .returned (.bool (decide (0 ≤ v ∧ v ≤ m))) ∧ Kept [] w w' := by
  have H := Lib.hid h
  clear h
  by_cases hv : v < 0
  · have e : decide (0 ≤ v ∧ v ≤ m) = false := decide_eq_false (by omega)
    rw [e]; clear e H
    go_enter Tryd.func42, Tryd.ntmps42
    go_wp2_with fail
    go_ret
    exact ⟨rfl, Kept.refl [] w⟩
  · by_cases hw : v ≤ m
    · have e : decide (0 ≤ v ∧ v ≤ m) = true := decide_eq_true (by omega)
      rw [e]; clear e
      go_enter Tryd.func42, Tryd.ntmps42
      go_wp2_with fail
      refine H.out.mono ?_
      rintro e w1 ⟨rfl, rfl⟩
      go_wp2_with fail
      go_ret
      exact ⟨rfl, Kept.refl [] w⟩
    · have e : decide (0 ≤ v ∧ v ≤ m) = false := decide_eq_false (by omega)
      rw [e]; clear e
      go_enter Tryd.func42, Tryd.ntmps42
      go_wp2_with fail
      refine H.out.mono ?_
      rintro e w1 ⟨rfl, rfl⟩
      go_wp2_with fail
      go_ret
      exact ⟨ret_bool (decide_eq_false (by omega)), Kept.refl [] w⟩
theorem within1 (h : Fields w) (v : Int) (h0 : -9223372036854775808 ≤ v) (h1 : v ≤ 9223372036854775807) :
    Calls Tryd.prog 42 #[.int .i64 1, .int .i64 v] w fun e w' => e = .returned (.bool (decide (0 ≤ v ∧ v ≤ 4095))) ∧ Kept [] w w' := within_of 1 4095 (by decide) (by decide) (greatest1 h) v h0 h1
theorem within2 (h : Fields w) (v : Int) (h0 : -9223372036854775808 ≤ v) (h1 : v ≤ 9223372036854775807) :
    Calls Tryd.prog 42 #[.int .i64 2, .int .i64 v] w fun e w' => e = .returned (.bool (decide (0 ≤ v ∧ v ≤ 16777215))) ∧ Kept [] w w' := within_of 2 16777215 (by decide) (by decide) (greatest2 h) v h0 h1
theorem within3 (h : Fields w) (v : Int) (h0 : -9223372036854775808 ≤ v) (h1 : v ≤ 9223372036854775807) :
    Calls Tryd.prog 42 #[.int .i64 3, .int .i64 v] w fun e w' => e = .returned (.bool (decide (0 ≤ v ∧ v ≤ 16777215))) ∧ Kept [] w w' := within_of 3 16777215 (by decide) (by decide) (greatest3 h) v h0 h1
/-- A header lies in memory: its cells. -/
theorem cells4 {w : World} {b : Nat} {t : TypeId} {v0 v1 v2 v3 : Value} (h : Has w b t [v0, v1, v2, v3]) : w.cell? ⟨b, 0, none⟩ = some v0 ∧ w.cell? ⟨b, 1, none⟩ = some v1 ∧ w.cell? ⟨b, 2, none⟩ = some v2 ∧ w.cell? ⟨b, 3, none⟩ = some v3 :=
  ⟨h.cell 0, h.cell 1, h.cell 2, h.cell 3⟩
set_option maxRecDepth 100000 in
theorem room_ok (h : Fields w) (x : Hd) (ok : x.ok) : Calls Tryd.prog 34 #[x.val] w fun e w' => e = .returned (.bool (decide x.room)) ∧ Kept [] w w' := by
  have hb := Has.new w 23 x.cells
  have hk : Kept [] w (w.alloc (.cells x.cells.toArray 23)) := (Kept.refl [] w).alloc _
  have HF := Lib.hid h
  have H1 := Lib.hid (fun y (k : Kept [] w y) => within1 (h.keep0 k) x.ty ok.t0 ok.t1)
  have H2 := Lib.hid (fun y (k : Kept [] w y) => within2 (h.keep0 k) x.ln ok.l0 ok.l1)
  have H3 := Lib.hid (fun y (k : Kept [] w y) => within3 (h.keep0 k) x.sz ok.s0 ok.s1)
  have he : decide x.room = (decide (0 ≤ x.ty ∧ x.ty ≤ 4095) && decide (0 ≤ x.ln ∧ x.ln ≤ 16777215) && decide (0 ≤ x.sz ∧ x.sz ≤ 16777215)) := by
    rw [Bool.eq_iff_iff]; simp only [decide_eq_true_eq, Bool.and_eq_true]; unfold Hd.room; omega
  rw [he]
  clear he h ok
  generalize decide (0 ≤ x.ty ∧ x.ty ≤ 4095) = b1 at *
  generalize decide (0 ≤ x.ln ∧ x.ln ≤ 16777215) = b2 at *
  generalize decide (0 ≤ x.sz ∧ x.sz ≤ 16777215) = b3 at *
  unfold Hd.cells at *
  unfold Hd.val
  generalize x.tg = g at *
  generalize x.ty = t at *
  generalize x.ln = n at *
  generalize x.sz = s at *
  have HB := Lib.hid hb
  have HK := Lib.hid hk
  clear hb hk
  clear HF
  cases b1 with
  | false =>
    go_enter Tryd.func34, Tryd.ntmps34
    go_wp2_with fail
    refine (H1.out _ HK.out).mono ?_
    rintro e w1 ⟨rfl, k1⟩
    have K1 := Lib.hid (HK.out.trans k1)
    clear k1 H1 H2 H3 HB HK
    go_wp2_with fail
    go_ret
    exact ⟨rfl, K1.out⟩
  | true =>
    go_enter Tryd.func34, Tryd.ntmps34
    go_wp2_with fail
    refine (H1.out _ HK.out).mono ?_
    rintro e w1 ⟨rfl, k1⟩
    obtain ⟨c0, c1, c2, c3⟩ := cells4 (HB.out.keep0 k1)
    have HB1 := Lib.hid (HB.out.keep0 k1)
    have K1 := Lib.hid (HK.out.trans k1)
    clear k1 H1 HB HK
    cases b2 with
    | false =>
      go_wp2_with fail
      refine (H2.out _ K1.out).mono ?_
      rintro e w2 ⟨rfl, k2⟩
      have K2 := Lib.hid (K1.out.trans k2)
      clear k2 H2 H3 HB1 K1 c0 c1 c2 c3
      go_wp2_with fail
      go_ret
      exact ⟨rfl, K2.out⟩
    | true =>
      go_wp2_with fail
      refine (H2.out _ K1.out).mono ?_
      rintro e w2 ⟨rfl, k2⟩
      clear c0 c1 c2 c3
      obtain ⟨c0, c1, c2, c3⟩ := cells4 (HB1.out.keep0 k2)
      have K2 := Lib.hid (K1.out.trans k2)
      clear k2 H2 HB1 K1
      go_wp2_with fail
      refine (H3.out _ K2.out).mono ?_
      rintro e w3 ⟨rfl, k3⟩
      have K3 := Lib.hid (K2.out.trans k3)
      clear k3 H3 K2 c0 c1 c2 c3
      go_wp2_with fail
      go_ret
      exact ⟨rfl, K3.out⟩
/-- Is it valid, of one that has room? -/
theorem can_of_room (x : Hd) : decide x.can = (decide x.room && !decide (x.sz < 1) && ((decide (x.tg = 1) && decide (1 ≤ x.ty)) || ((decide (x.tg = 2) || decide (x.tg = 3)) && decide (x.ty = 0) && decide (x.ln = 0)))) := by
  rw [Bool.eq_iff_iff]
  simp only [decide_eq_true_eq, Bool.and_eq_true, Bool.or_eq_true, Bool.not_eq_true', decide_eq_false_iff_not]
  unfold Hd.can Hd.room
  omega
set_option maxRecDepth 100000 in
theorem valid_ok (h : Fields w) (x : Hd) (ok : x.ok) : Calls Tryd.prog 25 #[x.val] w fun e w' => e = .returned (.bool (decide x.can)) ∧ Kept [] w w' := by
  have hb := Has.new w 23 x.cells
  have hk : Kept [] w (w.alloc (.cells x.cells.toArray 23)) := (Kept.refl [] w).alloc _
  have H1 := Lib.hid (fun y (k : Kept [] w y) => room_ok (h.keep0 k) x ok)
  have hc := can_of_room x
  clear h
  generalize decide x.room = b at *
  generalize decide x.can = r at *
  have ok' := ok
  obtain ⟨g0, g1, t0, t1, l0, l1, s0, s1⟩ := ok'
  clear ok
  unfold Hd.cells at *
  unfold Hd.val at *
  generalize x.tg = g at *
  generalize x.ty = t at *
  generalize x.ln = n at *
  generalize x.sz = s at *
  have HB := Lib.hid hb
  have HK := Lib.hid hk
  have HC := Lib.hid hc
  clear hb hk hc
  cases b with
  | false =>
    have hr := HC.out
    simp only [Bool.false_and] at hr
    subst hr
    go_enter Tryd.func25, Tryd.ntmps25
    go_wp2_with fail
    refine (H1.out _ HK.out).mono ?_
    rintro e w1 ⟨rfl, k1⟩
    have K1 := Lib.hid (HK.out.trans k1)
    clear k1 H1 HB HK
    go_wp2_with fail
    go_ret
    exact ⟨rfl, K1.out⟩
  | true =>
    go_enter Tryd.func25, Tryd.ntmps25
    go_wp2_with fail
    refine (H1.out _ HK.out).mono ?_
    rintro e w1 ⟨rfl, k1⟩
    obtain ⟨c0, c1, c2, c3⟩ := cells4 (HB.out.keep0 k1)
    have K1 := Lib.hid (HK.out.trans k1)
    clear k1 H1 HB HK
    by_cases hs : s < 1
    · have hr := HC.out
      have e1 : decide (s < 1) = true := decide_eq_true hs
      rw [e1] at hr
      simp only [Bool.not_true, Bool.and_false, Bool.false_and] at hr
      subst hr
      clear HC e1
      go_wp2_with fail
      go_ret
      exact ⟨rfl, K1.out⟩
    · have e1 : decide (s < 1) = false := decide_eq_false hs
      have hr := HC.out
      rw [e1] at hr
      simp only [Bool.not_false, Bool.true_and] at hr
      clear HC e1
      by_cases hg1 : g = 1
      · subst hg1
        have e2 : r = decide (1 ≤ t) := by rw [hr]; simp
        subst e2
        clear hr
        go_wp2_with fail
        go_ret
        exact ⟨rfl, K1.out⟩
      · by_cases hg2 : g = 2
        · subst hg2
          by_cases ht : t = 0
          · subst ht
            have e2 : r = decide (n = 0) := by rw [hr]; simp
            subst e2
            clear hr
            go_wp2_with fail
            go_ret
            exact ⟨ret_bool (by first | rfl | simp), K1.out⟩
          · have e2 : r = false := by rw [hr]; simp [ht]
            subst e2
            clear hr
            go_wp2_with fail
            go_ret
            exact ⟨ret_bool (by first | rfl | simp), K1.out⟩
        · by_cases hg3 : g = 3
          · subst hg3
            by_cases ht : t = 0
            · subst ht
              have e2 : r = decide (n = 0) := by rw [hr]; simp
              subst e2
              clear hr
              go_wp2_with fail
              go_ret
              exact ⟨ret_bool (by first | rfl | simp), K1.out⟩
            · have e2 : r = false := by rw [hr]; simp [ht]
              subst e2
              clear hr
              go_wp2_with fail
              go_ret
              exact ⟨ret_bool (by first | rfl | simp), K1.out⟩
          · have e2 : r = false := by rw [hr]; simp [hg1, hg2, hg3]
            subst e2
            clear hr
            go_wp2_with fail
            go_ret
            exact ⟨rfl, K1.out⟩
/-- The error of a header. -/
theorem errH_of (x : Hd) : errH x = if decide x.can then 0 else 2 := by unfold errH; simp
set_option maxRecDepth 100000 in
theorem check_ok (h : Fields w) (x : Hd) (ok : x.ok) : Calls Tryd.prog 11 #[x.val] w fun e w' => e = .returned (.int .i64 (errH x)) ∧ Kept [] w w' := by
  have hk : Kept [] w (w.alloc (.cells x.cells.toArray 23)) := (Kept.refl [] w).alloc _
  have H1 := Lib.hid (fun y (k : Kept [] w y) => valid_ok (h.keep0 k) x ok)
  rw [errH_of]
  clear h ok
  generalize decide x.can = b at *
  unfold Hd.cells at *
  unfold Hd.val at *
  generalize x.tg = g at *
  generalize x.ty = t at *
  generalize x.ln = n at *
  generalize x.sz = s at *
  have HK := Lib.hid hk
  clear hk
  cases b with
  | false =>
    go_enter Tryd.func11, Tryd.ntmps11
    go_wp2_with fail
    refine (H1.out _ HK.out).mono ?_
    rintro e w1 ⟨rfl, k1⟩
    have K1 := Lib.hid (HK.out.trans k1)
    clear k1 H1 HK
    go_wp2_with fail
    go_ret
    exact ⟨rfl, K1.out⟩
  | true =>
    go_enter Tryd.func11, Tryd.ntmps11
    go_wp2_with fail
    refine (H1.out _ HK.out).mono ?_
    rintro e w1 ⟨rfl, k1⟩
    have K1 := Lib.hid (HK.out.trans k1)
    clear k1 H1 HK
    go_wp2_with fail
    go_ret
    exact ⟨rfl, K1.out⟩
end
end Go.Proofs.YtflcnpmampaamaaDoor.Hd
