/-
  Several texts in one: HdOps, HdLay, HdCut, HdHead.
-/
import Derived.Test.YtagmmbkgjomdlaaGreatDoorG07
import Derived.Deep.RegionWith
/-
  The contracts of the functions on a header's numbers: greatest, within, hasRoom, valid, Check.
-/
namespace Go.Proofs.YtagmmbkgjomdlaaGreatDoor.Hd
open Go.RowKit Go.Proofs.YtagmmbkgjomdlaaGreatDoor.Ar
set_option linter.unusedVariables false

section
variable {w : World}
set_option maxRecDepth 100000 in
theorem greatest0 (h : Fields w) : Calls Tryz.prog 163 #[.int .i64 0] w fun e w' => e = .returned (.int .i64 3) ∧ w = w' := by
  obtain ⟨c0, c1, c2, c3, c4, c5, c6, c7⟩ := h.cells
  clear h
  go_enter Tryz.func163, Tryz.ntmps163
  go_wp2_with fail
  go_ret
  exact ⟨rfl, rfl⟩
set_option maxRecDepth 100000 in
theorem greatest1 (h : Fields w) : Calls Tryz.prog 163 #[.int .i64 1] w fun e w' => e = .returned (.int .i64 4095) ∧ w = w' := by
  obtain ⟨c0, c1, c2, c3, c4, c5, c6, c7⟩ := h.cells
  clear h
  go_enter Tryz.func163, Tryz.ntmps163
  go_wp2_with fail
  go_ret
  exact ⟨rfl, rfl⟩
set_option maxRecDepth 100000 in
theorem greatest2 (h : Fields w) : Calls Tryz.prog 163 #[.int .i64 2] w fun e w' => e = .returned (.int .i64 16777215) ∧ w = w' := by
  obtain ⟨c0, c1, c2, c3, c4, c5, c6, c7⟩ := h.cells
  clear h
  go_enter Tryz.func163, Tryz.ntmps163
  go_wp2_with fail
  go_ret
  exact ⟨rfl, rfl⟩
set_option maxRecDepth 100000 in
theorem greatest3 (h : Fields w) : Calls Tryz.prog 163 #[.int .i64 3] w fun e w' => e = .returned (.int .i64 16777215) ∧ w = w' := by
  obtain ⟨c0, c1, c2, c3, c4, c5, c6, c7⟩ := h.cells
  clear h
  go_enter Tryz.func163, Tryz.ntmps163
  go_wp2_with fail
  go_ret
  exact ⟨rfl, rfl⟩
theorem within_of (k m : Int) (hm0 : 0 ≤ m) (hm1 : m ≤ 16777215) (h : Calls Tryz.prog 163 #[.int .i64 k] w fun e w' => e = .returned (.int .i64 m) ∧ w = w') (v : Int) (h0 : -9223372036854775808 ≤ v) (h1 : v ≤ 9223372036854775807) :
    Calls Tryz.prog 173 #[.int .i64 k, .int .i64 v] w fun e w' => e = .returned (.bool (decide (0 ≤ v ∧ v ≤ m))) ∧ Kept [] w w' := by
  have H := Lib.hid h
  clear h
  by_cases hv : v < 0
  · have e : decide (0 ≤ v ∧ v ≤ m) = false := decide_eq_false (by omega)
    rw [e]; clear e H
    go_enter Tryz.func173, Tryz.ntmps173
    go_wp2_with fail
    go_ret
    exact ⟨rfl, Kept.refl [] w⟩
  · by_cases hw : v ≤ m
    · have e : decide (0 ≤ v ∧ v ≤ m) = true := decide_eq_true (by omega)
      rw [e]; clear e
      go_enter Tryz.func173, Tryz.ntmps173
      go_wp2_with fail
      refine H.out.mono ?_
      rintro e w1 ⟨rfl, rfl⟩
      go_wp2_with fail
      go_ret
      exact ⟨rfl, Kept.refl [] w⟩
    · have e : decide (0 ≤ v ∧ v ≤ m) = false := decide_eq_false (by omega)
      rw [e]; clear e
      go_enter Tryz.func173, Tryz.ntmps173
      go_wp2_with fail
      refine H.out.mono ?_
      rintro e w1 ⟨rfl, rfl⟩
      go_wp2_with fail
      go_ret
      exact ⟨ret_bool (decide_eq_false (by omega)), Kept.refl [] w⟩
theorem within1 (h : Fields w) (v : Int) (h0 : -9223372036854775808 ≤ v) (h1 : v ≤ 9223372036854775807) :
    Calls Tryz.prog 173 #[.int .i64 1, .int .i64 v] w fun e w' => e = .returned (.bool (decide (0 ≤ v ∧ v ≤ 4095))) ∧ Kept [] w w' := within_of 1 4095 (by decide) (by decide) (greatest1 h) v h0 h1
theorem within2 (h : Fields w) (v : Int) (h0 : -9223372036854775808 ≤ v) (h1 : v ≤ 9223372036854775807) :
    Calls Tryz.prog 173 #[.int .i64 2, .int .i64 v] w fun e w' => e = .returned (.bool (decide (0 ≤ v ∧ v ≤ 16777215))) ∧ Kept [] w w' := within_of 2 16777215 (by decide) (by decide) (greatest2 h) v h0 h1
theorem within3 (h : Fields w) (v : Int) (h0 : -9223372036854775808 ≤ v) (h1 : v ≤ 9223372036854775807) :
    Calls Tryz.prog 173 #[.int .i64 3, .int .i64 v] w fun e w' => e = .returned (.bool (decide (0 ≤ v ∧ v ≤ 16777215))) ∧ Kept [] w w' := within_of 3 16777215 (by decide) (by decide) (greatest3 h) v h0 h1
/-- A header lies in memory: its cells. -/
theorem cells4 {w : World} {b : Nat} {t : TypeId} {v0 v1 v2 v3 : Value} (h : Has w b t [v0, v1, v2, v3]) : w.cell? ⟨b, 0, none⟩ = some v0 ∧ w.cell? ⟨b, 1, none⟩ = some v1 ∧ w.cell? ⟨b, 2, none⟩ = some v2 ∧ w.cell? ⟨b, 3, none⟩ = some v3 :=
  ⟨h.cell 0, h.cell 1, h.cell 2, h.cell 3⟩
set_option maxRecDepth 100000 in
theorem room_ok (h : Fields w) (x : Hd) (ok : x.ok) : Calls Tryz.prog 164 #[x.val] w fun e w' => e = .returned (.bool (decide x.room)) ∧ Kept [] w w' := by
  have hb := Has.new w 76 x.cells
  have hk : Kept [] w (w.alloc (.cells x.cells.toArray 76)) := (Kept.refl [] w).alloc _
  have HF := Lib.hid h
  have H1 := Lib.hid (fun y (k : Kept [] w y) => within1 (h.keep0 k) x.ty ok.t0 ok.t1)
  have H2 := Lib.hid (fun y (k : Kept [] w y) => within2 (h.keep0 k) x.ln ok.l0 ok.l1)
  have H3 := Lib.hid (fun y (k : Kept [] w y) => within3 (h.keep0 k) x.sz ok.s0 ok.s1)
  have he : decide x.room = (decide (0 ≤ x.ty ∧ x.ty ≤ 4095) && decide (0 ≤ x.ln ∧ x.ln ≤ 16777215) && decide (0 ≤ x.sz ∧ x.sz ≤ 16777215)) := by
    rw [Bool.eq_iff_iff]; simp only [decide_eq_true_eq, Bool.and_eq_true]; unfold Hd.room; omega
  rw [he]
  clear he h ok
  generalize decide (0 ≤ x.ty ∧ x.ty ≤ 4095) = b1 at *
  generalize decide (0 ≤ x.ln ∧ x.ln ≤ 16777215) = b2 at *
  generalize decide (0 ≤ x.sz ∧ x.sz ≤ 16777215) = b3 at *
  unfold Hd.cells at *
  unfold Hd.val
  generalize x.tg = g at *
  generalize x.ty = t at *
  generalize x.ln = n at *
  generalize x.sz = s at *
  have HB := Lib.hid hb
  have HK := Lib.hid hk
  clear hb hk
  clear HF
  cases b1 with
  | false =>
    go_enter Tryz.func164, Tryz.ntmps164
    go_wp2_with fail
    refine (H1.out _ HK.out).mono ?_
    rintro e w1 ⟨rfl, k1⟩
    have K1 := Lib.hid (HK.out.trans k1)
    clear k1 H1 H2 H3 HB HK
    go_wp2_with fail
    go_ret
    exact ⟨rfl, K1.out⟩
  | true =>
    go_enter Tryz.func164, Tryz.ntmps164
    go_wp2_with fail
    refine (H1.out _ HK.out).mono ?_
    rintro e w1 ⟨rfl, k1⟩
    obtain ⟨c0, c1, c2, c3⟩ := cells4 (HB.out.keep0 k1)
    have HB1 := Lib.hid (HB.out.keep0 k1)
    have K1 := Lib.hid (HK.out.trans k1)
    clear k1 H1 HB HK
    cases b2 with
    | false =>
      go_wp2_with fail
      refine (H2.out _ K1.out).mono ?_
      rintro e w2 ⟨rfl, k2⟩
      have K2 := Lib.hid (K1.out.trans k2)
      clear k2 H2 H3 HB1 K1 c0 c1 c2 c3
      go_wp2_with fail
      go_ret
      exact ⟨rfl, K2.out⟩
    | true =>
      go_wp2_with fail
      refine (H2.out _ K1.out).mono ?_
      rintro e w2 ⟨rfl, k2⟩
      clear c0 c1 c2 c3
      obtain ⟨c0, c1, c2, c3⟩ := cells4 (HB1.out.keep0 k2)
      have K2 := Lib.hid (K1.out.trans k2)
      clear k2 H2 HB1 K1
      go_wp2_with fail
      refine (H3.out _ K2.out).mono ?_
      rintro e w3 ⟨rfl, k3⟩
      have K3 := Lib.hid (K2.out.trans k3)
      clear k3 H3 K2 c0 c1 c2 c3
      go_wp2_with fail
      go_ret
      exact ⟨rfl, K3.out⟩
/-- Is it valid, of one that has room? -/
theorem can_of_room (x : Hd) : decide x.can = (decide x.room && !decide (x.sz < 1) && ((decide (x.tg = 1) && decide (1 ≤ x.ty)) || ((decide (x.tg = 2) || decide (x.tg = 3)) && decide (x.ty = 0) && decide (x.ln = 0)))) := by
  rw [Bool.eq_iff_iff]
  simp only [decide_eq_true_eq, Bool.and_eq_true, Bool.or_eq_true, Bool.not_eq_true', decide_eq_false_iff_not]
  unfold Hd.can Hd.room
  omega
set_option maxRecDepth 100000 in
theorem valid_ok (h : Fields w) (x : Hd) (ok : x.ok) : Calls Tryz.prog 150 #[x.val] w fun e w' => e = .returned (.bool (decide x.can)) ∧ Kept [] w w' := by
  have hb := Has.new w 76 x.cells
  have hk : Kept [] w (w.alloc (.cells x.cells.toArray 76)) := (Kept.refl [] w).alloc _
  have H1 := Lib.hid (fun y (k : Kept [] w y) => room_ok (h.keep0 k) x ok)
  have hc := can_of_room x
  clear h
  generalize decide x.room = b at *
  generalize decide x.can = r at *
  have ok' := ok
  obtain ⟨g0, g1, t0, t1, l0, l1, s0, s1⟩ := ok'
  clear ok
  unfold Hd.cells at *
  unfold Hd.val at *
  generalize x.tg = g at *
  generalize x.ty = t at *
  generalize x.ln = n at *
  generalize x.sz = s at *
  have HB := Lib.hid hb
  have HK := Lib.hid hk
  have HC := Lib.hid hc
  clear hb hk hc
  cases b with
  | false =>
    have hr := HC.out
    simp only [Bool.false_and] at hr
    subst hr
    go_enter Tryz.func150, Tryz.ntmps150
    go_wp2_with fail
    refine (H1.out _ HK.out).mono ?_
    rintro e w1 ⟨rfl, k1⟩
    have K1 := Lib.hid (HK.out.trans k1)
    clear k1 H1 HB HK
    go_wp2_with fail
    go_ret
    exact ⟨rfl, K1.out⟩
  | true =>
    go_enter Tryz.func150, Tryz.ntmps150
    go_wp2_with fail
    refine (H1.out _ HK.out).mono ?_
    rintro e w1 ⟨rfl, k1⟩
    obtain ⟨c0, c1, c2, c3⟩ := cells4 (HB.out.keep0 k1)
    have K1 := Lib.hid (HK.out.trans k1)
    clear k1 H1 HB HK
    by_cases hs : s < 1
    · have hr := HC.out
      have e1 : decide (s < 1) = true := decide_eq_true hs
      rw [e1] at hr
      simp only [Bool.not_true, Bool.and_false, Bool.false_and] at hr
      subst hr
      clear HC e1
      go_wp2_with fail
      go_ret
      exact ⟨rfl, K1.out⟩
    · have e1 : decide (s < 1) = false := decide_eq_false hs
      have hr := HC.out
      rw [e1] at hr
      simp only [Bool.not_false, Bool.true_and] at hr
      clear HC e1
      by_cases hg1 : g = 1
      · subst hg1
        have e2 : r = decide (1 ≤ t) := by rw [hr]; simp
        subst e2
        clear hr
        go_wp2_with fail
        go_ret
        exact ⟨rfl, K1.out⟩
      · by_cases hg2 : g = 2
        · subst hg2
          by_cases ht : t = 0
          · subst ht
            have e2 : r = decide (n = 0) := by rw [hr]; simp
            subst e2
            clear hr
            go_wp2_with fail
            go_ret
            exact ⟨ret_bool (by first | rfl | simp), K1.out⟩
          · have e2 : r = false := by rw [hr]; simp [ht]
            subst e2
            clear hr
            go_wp2_with fail
            go_ret
            exact ⟨ret_bool (by first | rfl | simp), K1.out⟩
        · by_cases hg3 : g = 3
          · subst hg3
            by_cases ht : t = 0
            · subst ht
              have e2 : r = decide (n = 0) := by rw [hr]; simp
              subst e2
              clear hr
              go_wp2_with fail
              go_ret
              exact ⟨ret_bool (by first | rfl | simp), K1.out⟩
            · have e2 : r = false := by rw [hr]; simp [ht]
              subst e2
              clear hr
              go_wp2_with fail
              go_ret
              exact ⟨ret_bool (by first | rfl | simp), K1.out⟩
          · have e2 : r = false := by rw [hr]; simp [hg1, hg2, hg3]
            subst e2
            clear hr
            go_wp2_with fail
            go_ret
            exact ⟨rfl, K1.out⟩
/-- The error of a header. -/
theorem errH_of (x : Hd) : errH x = if decide x.can then 0 else 2 := by unfold errH; simp
set_option maxRecDepth 100000 in
theorem check_ok (h : Fields w) (x : Hd) (ok : x.ok) : Calls Tryz.prog 121 #[x.val] w fun e w' => e = .returned (.int .i64 (errH x)) ∧ Kept [] w w' := by
  have hk : Kept [] w (w.alloc (.cells x.cells.toArray 76)) := (Kept.refl [] w).alloc _
  have H1 := Lib.hid (fun y (k : Kept [] w y) => valid_ok (h.keep0 k) x ok)
  rw [errH_of]
  clear h ok
  generalize decide x.can = b at *
  unfold Hd.cells at *
  unfold Hd.val at *
  generalize x.tg = g at *
  generalize x.ty = t at *
  generalize x.ln = n at *
  generalize x.sz = s at *
  have HK := Lib.hid hk
  clear hk
  cases b with
  | false =>
    go_enter Tryz.func121, Tryz.ntmps121
    go_wp2_with fail
    refine (H1.out _ HK.out).mono ?_
    rintro e w1 ⟨rfl, k1⟩
    have K1 := Lib.hid (HK.out.trans k1)
    clear k1 H1 HK
    go_wp2_with fail
    go_ret
    exact ⟨rfl, K1.out⟩
  | true =>
    go_enter Tryz.func121, Tryz.ntmps121
    go_wp2_with fail
    refine (H1.out _ HK.out).mono ?_
    rintro e w1 ⟨rfl, k1⟩
    have K1 := Lib.hid (HK.out.trans k1)
    clear k1 H1 HK
    go_wp2_with fail
    go_ret
    exact ⟨rfl, K1.out⟩
end
end Go.Proofs.YtagmmbkgjomdlaaGreatDoor.Hd

/-
  The contracts of wordOf and of its closure.
-/
namespace Go.Proofs.YtagmmbkgjomdlaaGreatDoor.Hd
open Go.RowKit Go.Proofs.YtagmmbkgjomdlaaGreatDoor.Ar
set_option linter.unusedVariables false

section
variable {w : World}
set_option maxRecDepth 100000 in
theorem lay_0 (h : Fields w) {B : Nat} {v : Int} (hB : Has w B 32 [.int .u64 0]) (hv0 : 0 ≤ v) (hv : v ≤ 255) :
    Calls Tryz.prog 161 #[.int .i64 0, .int .i64 v, .pointer (some ⟨B, 0, none⟩)] w fun e w' => e = .returned (.tuple #[]) ∧ Has w' B 32 [.int .u64 v] ∧ Kept [B] w w' := by
  obtain ⟨c0, c1, c2, c3, c4, c5, c6, c7⟩ := h.cells
  have d0 := hB.cell 0
  simp only [List.getElem?_cons_zero] at d0
  have d1 := hB.free 0
  have HL := Lib.hid (lay0 v hv0 (by omega))
  have HB := Lib.hid hB
  clear hB h
  go_enter Tryz.func161, Tryz.ntmps161
  go_wp2_with fail
  go_region
  all_goals rw [HL.out]
  all_goals go_wp2_with fail
  all_goals go_end0
  all_goals exact ⟨rfl, (HB.out.put 0 _).drew, ((Kept.refl [B] w).setCell _ _ (.inl (by simp))).drew⟩
set_option maxRecDepth 100000 in
theorem lay_1 (h : Fields w) {B : Nat} {u v : Int} (hB : Has w B 32 [.int .u64 u]) (hu0 : 0 ≤ u) (hu : u < 4) (hv0 : 0 ≤ v) (hv : v ≤ 4095) :
    Calls Tryz.prog 161 #[.int .i64 1, .int .i64 v, .pointer (some ⟨B, 0, none⟩)] w fun e w' => e = .returned (.tuple #[]) ∧ Has w' B 32 [.int .u64 (u + 4 * v)] ∧ Kept [B] w w' := by
  obtain ⟨c0, c1, c2, c3, c4, c5, c6, c7⟩ := h.cells
  have d0 := hB.cell 0
  simp only [List.getElem?_cons_zero] at d0
  have d1 := hB.free 0
  have HL := Lib.hid (lay2 u v hu0 hu hv0 (by omega))
  have HB := Lib.hid hB
  clear hB h
  go_enter Tryz.func161, Tryz.ntmps161
  go_wp2_with fail
  go_region
  all_goals rw [HL.out]
  all_goals go_wp2_with fail
  all_goals go_end0
  all_goals exact ⟨rfl, (HB.out.put 0 _).drew, ((Kept.refl [B] w).setCell _ _ (.inl (by simp))).drew⟩
set_option maxRecDepth 100000 in
theorem lay_2 (h : Fields w) {B : Nat} {u v : Int} (hB : Has w B 32 [.int .u64 u]) (hu0 : 0 ≤ u) (hu : u < 65536) (hv0 : 0 ≤ v) (hv : v ≤ 16777215) :
    Calls Tryz.prog 161 #[.int .i64 2, .int .i64 v, .pointer (some ⟨B, 0, none⟩)] w fun e w' => e = .returned (.tuple #[]) ∧ Has w' B 32 [.int .u64 (u + 65536 * v)] ∧ Kept [B] w w' := by
  obtain ⟨c0, c1, c2, c3, c4, c5, c6, c7⟩ := h.cells
  have d0 := hB.cell 0
  simp only [List.getElem?_cons_zero] at d0
  have d1 := hB.free 0
  have HL := Lib.hid (lay16 u v hu0 hu hv0 (by omega))
  have HB := Lib.hid hB
  clear hB h
  go_enter Tryz.func161, Tryz.ntmps161
  go_wp2_with fail
  go_region
  all_goals rw [HL.out]
  all_goals go_wp2_with fail
  all_goals go_end0
  all_goals exact ⟨rfl, (HB.out.put 0 _).drew, ((Kept.refl [B] w).setCell _ _ (.inl (by simp))).drew⟩
set_option maxRecDepth 100000 in
theorem lay_3 (h : Fields w) {B : Nat} {u v : Int} (hB : Has w B 32 [.int .u64 u]) (hu0 : 0 ≤ u) (hu : u < 1099511627776) (hv0 : 0 ≤ v) (hv : v ≤ 16777215) :
    Calls Tryz.prog 161 #[.int .i64 3, .int .i64 v, .pointer (some ⟨B, 0, none⟩)] w fun e w' => e = .returned (.tuple #[]) ∧ Has w' B 32 [.int .u64 (u + 1099511627776 * v)] ∧ Kept [B] w w' := by
  obtain ⟨c0, c1, c2, c3, c4, c5, c6, c7⟩ := h.cells
  have d0 := hB.cell 0
  simp only [List.getElem?_cons_zero] at d0
  have d1 := hB.free 0
  have HL := Lib.hid (lay40 u v hu0 hu hv0 (by omega))
  have HB := Lib.hid hB
  clear hB h
  go_enter Tryz.func161, Tryz.ntmps161
  go_wp2_with fail
  go_region
  all_goals rw [HL.out]
  all_goals go_wp2_with fail
  all_goals go_end0
  all_goals exact ⟨rfl, (HB.out.put 0 _).drew, ((Kept.refl [B] w).setCell _ _ (.inl (by simp))).drew⟩
end
/-- On the way: the header's copy and the word under way, in the call's own memory. -/
structure Laying (w x : World) (b : Nat) (v0 v1 v2 v3 : Value) (u : Int) : Prop where
  fields : Fields x
  head : Has x b 76 [v0, v1, v2, v3]
  word : Has x (b + 1) 32 [.int .u64 u]
  kept : Kept [] w x
  from_ : w.heap.size ≤ b
theorem Laying.step {w x y : World} {b : Nat} {v0 v1 v2 v3 : Value} {u u' : Int} (h : Laying w x b v0 v1 v2 v3 u) (hu : Has y (b + 1) 32 [.int .u64 u']) (k : Kept [b + 1] x y) : Laying w y b v0 v1 v2 v3 u' :=
  ⟨h.fields.kept k fun i hi e => by
      obtain rfl := List.mem_singleton.1 hi
      have e' : b + 1 = 0 := e
      omega, h.head.kept k (by simp), hu, h.kept.forget k fun i hi => by
      obtain rfl := List.mem_singleton.1 hi
      have := h.from_
      omega, h.from_⟩
theorem Laying.start {w : World} (h : Fields w) (x : Hd) : Laying w ((w.alloc (.cells #[.int .u8 x.tg, .int .i64 x.ty, .int .i64 x.ln, .int .i64 x.sz] 76)).alloc (.cells #[.int .u64 0] 32)) w.heap.size (.int .u8 x.tg) (.int .i64 x.ty) (.int .i64 x.ln) (.int .i64 x.sz) 0 :=
  have k : Kept [] w ((w.alloc (.cells #[.int .u8 x.tg, .int .i64 x.ty, .int .i64 x.ln, .int .i64 x.sz] 76)).alloc (.cells #[.int .u64 0] 32)) := ((Kept.refl [] w).alloc _).alloc _
  ⟨h.keep0 k, (Has.new w 76 x.cells).alloc _, by
    have := Has.new (w.alloc (.cells #[.int .u8 x.tg, .int .i64 x.ty, .int .i64 x.ln, .int .i64 x.sz] 76)) 32 [.int .u64 0]
    simpa using this, k, Nat.le_refl _⟩
set_option maxRecDepth 100000 in
theorem word_ok {w : World} (h : Fields w) (x : Hd) (c : x.can) : Calls Tryz.prog 147 #[x.val] w fun e w' => e = .returned (.int .u64 (wordI x)) ∧ Kept [] w w' := by
  have hs := Laying.start h x
  obtain ⟨g0, g1, t0, t1, l0, l1, s0, s1⟩ : 0 ≤ x.tg ∧ x.tg ≤ 3 ∧ 0 ≤ x.ty ∧ x.ty ≤ 4095 ∧ 0 ≤ x.ln ∧ x.ln ≤ 16777215 ∧ 0 ≤ x.sz ∧ x.sz ≤ 16777215 := by
    unfold Hd.can at c; omega
  clear c h
  unfold Hd.val wordI
  generalize x.tg = g at *
  generalize x.ty = t at *
  generalize x.ln = n at *
  generalize x.sz = s at *
  have HS := Lib.hid hs
  clear hs
  go_enter Tryz.func147, Tryz.ntmps147
  go_wp2_with fail
  refine (lay_0 HS.out.fields HS.out.word (v := g) (by omega) (by omega)).mono ?_
  rintro e x1 ⟨rfl, hu, hk⟩
  have H1 := Lib.hid (HS.out.step hu hk)
  clear hu hk HS
  obtain ⟨c0, c1, c2, c3⟩ := cells4 H1.out.head
  go_wp2_with fail
  refine (lay_1 H1.out.fields H1.out.word (v := t) (by omega) (by omega) (by omega) (by omega)).mono ?_
  rintro e x2 ⟨rfl, hu, hk⟩
  have H2 := Lib.hid (H1.out.step hu hk)
  clear hu hk H1 c0 c1 c2 c3
  obtain ⟨c0, c1, c2, c3⟩ := cells4 H2.out.head
  go_wp2_with fail
  refine (lay_2 H2.out.fields H2.out.word (v := n) (by omega) (by omega) (by omega) (by omega)).mono ?_
  rintro e x3 ⟨rfl, hu, hk⟩
  have H3 := Lib.hid (H2.out.step hu hk)
  clear hu hk H2 c0 c1 c2 c3
  obtain ⟨c0, c1, c2, c3⟩ := cells4 H3.out.head
  go_wp2_with fail
  refine (lay_3 H3.out.fields H3.out.word (v := s) (by omega) (by omega) (by omega) (by omega)).mono ?_
  rintro e x4 ⟨rfl, hu, hk⟩
  have H4 := Lib.hid (H3.out.step hu hk)
  clear hu hk H3 c0 c1 c2 c3
  have d0 := H4.out.word.cell 0
  simp only [List.getElem?_cons_zero] at d0
  go_wp2_with fail
  go_ret
  exact ⟨rfl, H4.out.kept⟩
end Go.Proofs.YtagmmbkgjomdlaaGreatDoor.Hd

/-
  The contracts of headOf and of its closure.
-/
namespace Go.Proofs.YtagmmbkgjomdlaaGreatDoor.Hd
open Go.RowKit Go.Proofs.YtagmmbkgjomdlaaGreatDoor.Ar
set_option linter.unusedVariables false

theorem wrap_mod (z : Int) (m : Int) (h : 18446744073709551616 % m = 0) (hm : 9223372036854775808 % m = 0) : IntKind.i64.wrap z % m = z % m := by
  rw [IntKind.wrap_i64]
  have h1 : (m : Int) ∣ 18446744073709551616 := Int.dvd_of_emod_eq_zero h
  have h2 : (m : Int) ∣ 9223372036854775808 := Int.dvd_of_emod_eq_zero hm
  rw [Int.sub_emod, Int.emod_emod_of_dvd _ h1, Int.emod_eq_zero_of_dvd h2, Int.sub_zero, Int.emod_emod, Int.add_emod, Int.emod_eq_zero_of_dvd h2, Int.add_zero, Int.emod_emod]
section
variable {w : World}
set_option maxRecDepth 100000 in
set_option maxHeartbeats 1000000 in
theorem cut_0 (h : Fields w) {B : Nat} {u : Int} (hB : Has w B 32 [.int .u64 u]) (hu0 : 0 ≤ u) (hu : u ≤ 18446744073709551615) :
    Calls Tryz.prog 162 #[.int .i64 0, .pointer (some ⟨B, 0, none⟩)] w fun e w' => e = .returned (.int .i64 (u % 4)) ∧ Kept [] w w' := by
  obtain ⟨c0, c1, c2, c3, c4, c5, c6, c7⟩ := h.cells
  have d0 := hB.cell 0
  simp only [List.getElem?_cons_zero] at d0
  have HG := Lib.hid (fun y (e : y.heap = w.heap) => greatest0 (w := y) (by unfold Fields at *; rw [e]; exact h))
  have HL : Hid (bits .and .i64 (IntKind.i64.wrap (u)) 3 = u % 4) := Lib.hid (by rw [and3, wrap_mod _ _ (by decide) (by decide)])
  have HM : Hid (bits .and .i64 (u) 3 = u % 4) := Lib.hid (by rw [and3])
  clear hB h
  go_enter Tryz.func162, Tryz.ntmps162
  go_wp2_with fail
  go_region_with ((refine (HG.out _ (by rfl)).mono ?_; rintro e w1 ⟨rfl, rfl⟩))
  all_goals first | rw [HL.out] | rw [HM.out]
  all_goals go_wp2_with fail
  all_goals go_ret
  all_goals exact ⟨rfl, by first | exact Kept.refl [] w | exact (Kept.refl [] w).drew⟩
set_option maxRecDepth 100000 in
set_option maxHeartbeats 1000000 in
theorem cut_1 (h : Fields w) {B : Nat} {u : Int} (hB : Has w B 32 [.int .u64 u]) (hu0 : 0 ≤ u) (hu : u ≤ 18446744073709551615) :
    Calls Tryz.prog 162 #[.int .i64 1, .pointer (some ⟨B, 0, none⟩)] w fun e w' => e = .returned (.int .i64 (u / 4 % 4096)) ∧ Kept [] w w' := by
  obtain ⟨c0, c1, c2, c3, c4, c5, c6, c7⟩ := h.cells
  have d0 := hB.cell 0
  simp only [List.getElem?_cons_zero] at d0
  have HG := Lib.hid (fun y (e : y.heap = w.heap) => greatest1 (w := y) (by unfold Fields at *; rw [e]; exact h))
  have HL : Hid (bits .and .i64 (IntKind.i64.wrap (u / 4)) 4095 = u / 4 % 4096) := Lib.hid (by rw [and4095, wrap_mod _ _ (by decide) (by decide)])
  have HM : Hid (bits .and .i64 (u / 4) 4095 = u / 4 % 4096) := Lib.hid (by rw [and4095])
  clear hB h
  go_enter Tryz.func162, Tryz.ntmps162
  go_wp2_with fail
  go_region_with ((refine (HG.out _ (by rfl)).mono ?_; rintro e w1 ⟨rfl, rfl⟩))
  all_goals first | rw [HL.out] | rw [HM.out]
  all_goals go_wp2_with fail
  all_goals go_ret
  all_goals exact ⟨rfl, by first | exact Kept.refl [] w | exact (Kept.refl [] w).drew⟩
set_option maxRecDepth 100000 in
set_option maxHeartbeats 1000000 in
theorem cut_2 (h : Fields w) {B : Nat} {u : Int} (hB : Has w B 32 [.int .u64 u]) (hu0 : 0 ≤ u) (hu : u ≤ 18446744073709551615) :
    Calls Tryz.prog 162 #[.int .i64 2, .pointer (some ⟨B, 0, none⟩)] w fun e w' => e = .returned (.int .i64 (u / 65536 % 16777216)) ∧ Kept [] w w' := by
  obtain ⟨c0, c1, c2, c3, c4, c5, c6, c7⟩ := h.cells
  have d0 := hB.cell 0
  simp only [List.getElem?_cons_zero] at d0
  have HG := Lib.hid (fun y (e : y.heap = w.heap) => greatest2 (w := y) (by unfold Fields at *; rw [e]; exact h))
  have HL : Hid (bits .and .i64 (IntKind.i64.wrap (u / 65536)) 16777215 = u / 65536 % 16777216) := Lib.hid (by rw [and24, wrap_mod _ _ (by decide) (by decide)])
  have HM : Hid (bits .and .i64 (u / 65536) 16777215 = u / 65536 % 16777216) := Lib.hid (by rw [and24])
  clear hB h
  go_enter Tryz.func162, Tryz.ntmps162
  go_wp2_with fail
  go_region_with ((refine (HG.out _ (by rfl)).mono ?_; rintro e w1 ⟨rfl, rfl⟩))
  all_goals first | rw [HL.out] | rw [HM.out]
  all_goals go_wp2_with fail
  all_goals go_ret
  all_goals exact ⟨rfl, by first | exact Kept.refl [] w | exact (Kept.refl [] w).drew⟩
set_option maxRecDepth 100000 in
set_option maxHeartbeats 1000000 in
theorem cut_3 (h : Fields w) {B : Nat} {u : Int} (hB : Has w B 32 [.int .u64 u]) (hu0 : 0 ≤ u) (hu : u ≤ 18446744073709551615) :
    Calls Tryz.prog 162 #[.int .i64 3, .pointer (some ⟨B, 0, none⟩)] w fun e w' => e = .returned (.int .i64 (u / 1099511627776)) ∧ Kept [] w w' := by
  obtain ⟨c0, c1, c2, c3, c4, c5, c6, c7⟩ := h.cells
  have d0 := hB.cell 0
  simp only [List.getElem?_cons_zero] at d0
  have HG := Lib.hid (fun y (e : y.heap = w.heap) => greatest3 (w := y) (by unfold Fields at *; rw [e]; exact h))
  have HL : Hid (bits .and .i64 (IntKind.i64.wrap (u / 1099511627776)) 16777215 = u / 1099511627776) := Lib.hid (by rw [and24, wrap_mod _ _ (by decide) (by decide)]; omega)
  have HM : Hid (bits .and .i64 (u / 1099511627776) 16777215 = u / 1099511627776) := Lib.hid (by rw [and24]; omega)
  clear hB h
  go_enter Tryz.func162, Tryz.ntmps162
  go_wp2_with fail
  go_region_with ((refine (HG.out _ (by rfl)).mono ?_; rintro e w1 ⟨rfl, rfl⟩))
  all_goals first | rw [HL.out] | rw [HM.out]
  all_goals go_wp2_with fail
  all_goals go_ret
  all_goals exact ⟨rfl, by first | exact Kept.refl [] w | exact (Kept.refl [] w).drew⟩
end
end Go.Proofs.YtagmmbkgjomdlaaGreatDoor.Hd

/-
  The contract of headOf.
-/
namespace Go.Proofs.YtagmmbkgjomdlaaGreatDoor.Hd
open Go.RowKit Go.Proofs.YtagmmbkgjomdlaaGreatDoor.Ar
set_option linter.unusedVariables false

theorem free4 {w : World} {b : Nat} {t : TypeId} {cs : List Value} (h : Has w b t cs) : w.frozen? ⟨b, 0, none⟩ = false ∧ w.frozen? ⟨b, 1, none⟩ = false ∧ w.frozen? ⟨b, 2, none⟩ = false ∧ w.frozen? ⟨b, 3, none⟩ = false :=
  ⟨h.free 0, h.free 1, h.free 2, h.free 3⟩
def put4 (b : Nat) (v0 v1 v2 v3 : Value) (w : World) : World := (((w.setCell ⟨b, 0, none⟩ v0).setCell ⟨b, 1, none⟩ v1).setCell ⟨b, 2, none⟩ v2).setCell ⟨b, 3, none⟩ v3
theorem put4_has {b : Nat} {t : TypeId} {w : World} {a0 a1 a2 a3 : Value} (h : Has w b t [a0, a1, a2, a3]) (v0 v1 v2 v3 : Value) : Has (put4 b v0 v1 v2 v3 w) b t [v0, v1, v2, v3] := (((h.put 0 v0).put 1 v1).put 2 v2).put 3 v3
theorem put4_kept {b : Nat} {S : List Nat} {w0 w : World} (h : Kept S w0 w) (hb : b ∈ S ∨ w0.heap.size ≤ b) (v0 v1 v2 v3 : Value) : Kept S w0 (put4 b v0 v1 v2 v3 w) :=
  (((h.setCell ⟨b, 0, none⟩ v0 hb).setCell ⟨b, 1, none⟩ v1 hb).setCell ⟨b, 2, none⟩ v2 hb).setCell ⟨b, 3, none⟩ v3 hb
theorem size_head : (Tryz.prog.info? 76).map (·.size) = some 4 := by kernel_rfl
/-- The end of a function whose result is a header that lies in memory. -/
theorem ret_one0 {f : Func} {p : Tmp} (h : f.results = #[.cell p 76]) {a : Act} {X : World} {g : Nat} {v0 v1 v2 v3 : Value} (hp : a.tmps.getD p undef = .pointer (some ⟨g, 0, none⟩)) (hH : Has X g 76 [v0, v1, v2, v3])
    (hdf : a.defers = []) {R : Ending → World → Prop} (hR : R (.returned (.agg #[v0, v1, v2, v3])) X) : bodyPost Tryz.prog f R .ret a X := by
  refine bodyPost_ret ?_ hdf hR
  exact results_cell_row h a.tmps X g 76 #[v0, v1, v2, v3] (0, 0) _ hp hH Tryz.underlying76 rfl size_head
theorem ret_hd0 {f : Func} {p u : Tmp} (h : f.results = #[.cell p 76, .tmp u]) {a : Act} {X : World} {g : Nat} {v0 v1 v2 v3 : Value} (hp : a.tmps.getD p undef = .pointer (some ⟨g, 0, none⟩)) (hH : Has X g 76 [v0, v1, v2, v3])
    (hdf : a.defers = []) {E : Value} (hE : a.tmps.getD u undef = E) {R : Ending → World → Prop} (hR : R (.returned (.tuple #[.agg #[v0, v1, v2, v3], E])) X) : bodyPost Tryz.prog f R .ret a X := by
  refine Kd.ret_row h _ hp hH rfl Tryz.underlying76 rfl size_head hdf ?_
  rw [hE]
  exact hR
/-- The end of a function whose first result is a header that lies in memory: four stores, then it is read. -/
theorem ret_hd {f : Func} {p u : Tmp} (h : f.results = #[.cell p 76, .tmp u]) {a : Act} {w0 w : World} {g : Nat} {a0 a1 a2 a3 v0 v1 v2 v3 : Value} (hp : a.tmps.getD p undef = .pointer (some ⟨g, 0, none⟩)) (hH : Has w g 76 [a0, a1, a2, a3]) (hk : Kept [] w0 w) (hg : w0.heap.size ≤ g)
    (hdf : a.defers = []) {E : Value} (hE : a.tmps.getD u undef = E) {R : Ending → World → Prop}
    (hR : ∀ X, Kept [] w0 X → R (.returned (.tuple #[.agg #[v0, v1, v2, v3], E])) X) : bodyPost Tryz.prog f R .ret a (put4 g v0 v1 v2 v3 w) :=
  ret_hd0 h hp (put4_has hH v0 v1 v2 v3) hdf hE (hR _ (put4_kept hk (.inr hg) _ _ _ _))
set_option maxRecDepth 100000 in
theorem head_ok' {w : World} (h : Fields w) (u : Int) (hu0 : 0 ≤ u) (hu : u ≤ 18446744073709551615) : Calls Tryz.prog 149 #[.int .u64 u] w fun e w' => e = .returned (headI u).val ∧ Kept [] w w' := by
  have k0 : Kept [] w ((w.alloc (.cells #[.int .u64 u] 32)).alloc (.cells #[.int .u8 0, .int .i64 0, .int .i64 0, .int .i64 0] 76)) := ((Kept.refl [] w).alloc _).alloc _
  have b0 : Has ((w.alloc (.cells #[.int .u64 u] 32)).alloc (.cells #[.int .u8 0, .int .i64 0, .int .i64 0, .int .i64 0] 76)) w.heap.size 32 [.int .u64 u] := (Has.new w 32 [.int .u64 u]).alloc _
  have r0 : Has ((w.alloc (.cells #[.int .u64 u] 32)).alloc (.cells #[.int .u8 0, .int .i64 0, .int .i64 0, .int .i64 0] 76)) (w.heap.size + 1) 76 Hd.zero.cells := by
    have := Has.new (w.alloc (.cells #[.int .u64 u] 32)) 76 Hd.zero.cells
    simpa [Hd.cells, Hd.zero] using this
  have H0 := Lib.hid (fun y k => cut_0 (w := y) (h.keep0 (k0.trans k)) (b0.keep0 k) hu0 hu)
  have H1 := Lib.hid (fun y k => cut_1 (w := y) (h.keep0 (k0.trans k)) (b0.keep0 k) hu0 hu)
  have H2 := Lib.hid (fun y k => cut_2 (w := y) (h.keep0 (k0.trans k)) (b0.keep0 k) hu0 hu)
  have H3 := Lib.hid (fun y k => cut_3 (w := y) (h.keep0 (k0.trans k)) (b0.keep0 k) hu0 hu)
  have K0 := Lib.hid k0
  have R0 := Lib.hid r0
  have e0 : 0 ≤ u % 4 ∧ u % 4 < 4 := by omega
  unfold Hd.val headI
  simp only
  clear h k0 b0 r0
  generalize u % 4 = n0 at *
  generalize u / 4 % 4096 = n1 at *
  generalize u / 65536 % 16777216 = n2 at *
  generalize u / 1099511627776 = n3 at *
  obtain ⟨e0, e1⟩ := e0
  go_enter Tryz.func149, Tryz.ntmps149
  go_wp2_with fail
  refine (H0.out _ (Kept.refl _ _)).mono ?_
  rintro e x1 ⟨rfl, k1⟩
  have K1 := Lib.hid k1
  clear k1
  go_wp2_with fail
  refine (H1.out _ K1.out).mono ?_
  rintro e x2 ⟨rfl, k2⟩
  have K2 := Lib.hid (K1.out.trans k2)
  clear k2 K1
  go_wp2_with fail
  refine (H2.out _ K2.out).mono ?_
  rintro e x3 ⟨rfl, k3⟩
  have K3 := Lib.hid (K2.out.trans k3)
  clear k3 K2
  go_wp2_with fail
  refine (H3.out _ K3.out).mono ?_
  rintro e x4 ⟨rfl, k4⟩
  have K4 := Lib.hid (K3.out.trans k4)
  clear k4 K3 H0 H1 H2 H3
  have r4 := R0.out.keep0 K4.out
  unfold Hd.cells Hd.zero at r4
  obtain ⟨f0, f1, f2, f3⟩ := free4 r4
  obtain ⟨c0, c1, c2, c3⟩ := cells4 r4
  have R4 := Lib.hid r4
  clear r4
  go_wp2_with fail
  exact ret_one0 rfl rfl (put4_has R4.out _ _ _ _) rfl ⟨rfl, put4_kept (K0.out.trans K4.out) (.inr (by omega)) _ _ _ _⟩
end Go.Proofs.YtagmmbkgjomdlaaGreatDoor.Hd
