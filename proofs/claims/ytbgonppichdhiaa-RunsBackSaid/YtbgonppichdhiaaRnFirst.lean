/-
  The contract of First.
-/
import Derived.Test.YtbgonppichdhiaaRnList
namespace Go.Proofs.Ytbgonppichdhiaa.Rn
open Go.RowKit Go.Proofs.Ytbgonppichdhiaa.Ar Go.Proofs.Ytbgonppichdhiaa.Bt Go.Proofs.Ytbgonppichdhiaa.Lk Go.Shelf Go.Sort
set_option linter.unusedVariables false
attribute [local go_sem] Oper.semAt_some

/-- What First answers. -/
def firstR (o : Option Int) (n : Int) : Value := match o with | none => runV 0 0 | some x => runV x n
theorem find_none {p : R → Bool} {rs : List R} (h : ∀ r ∈ rs, p r = false) : rs.find? p = none := List.find?_eq_none.2 fun r hr => by rw [h r hr]; decide
theorem find_at {p : R → Bool} {A B : List R} {r : R} (h : ∀ q ∈ A, p q = false) (hr : p r = true) : (A ++ r :: B).find? p = some r := by
  rw [List.find?_append, find_none h, List.find?_cons, hr]
  rfl
theorem first_less (w : World) (x : Option Addr) (n fr : Int) (hn : n < 1) :
    Calls Try.prog 16 #[.pointer x, .int .i64 n, .int .i64 fr] w fun e w' => e = .returned (.tuple #[runV 0 0, .bool false]) ∧ Kept [] w w' := by
  go_enter Try.func16, Try.ntmps16
  go_wp2_with fail
  exact bodyPost_ret (v := .tuple #[runV 0 0, .bool false]) (by simp [results, Try.results16, go_sem, runV]) rfl ⟨rfl, ((((Kept.refl [] w).alloc _).alloc _).alloc _).alloc _⟩

set_option maxRecDepth 100000 in
set_option maxHeartbeats 4000000 in
theorem first_more (w : World) (x : Option Addr) (ns : List Nd) (h : Set? w x ns) (hf : Fine 0 (runsIn ns)) (n fr : Int) (hn : 1 ≤ n) (hn2 : n ≤ 9223372036854775807) (f1 : -9223372036854775808 ≤ fr) (f2 : fr ≤ 9223372036854775807) :
    Calls Try.prog 16 #[.pointer x, .int .i64 n, .int .i64 fr] w fun e w' => e = .returned (.tuple #[firstR (firstO (runsIn ns) n fr) n, .bool (firstO (runsIn ns) n fr).isSome]) ∧ Kept [] w w' := by
  have H := Lib.hid h
  have HF := Lib.hid hf
  have hlt := set_lt h
  have Hlt := Lib.hid hlt
  clear h hf hlt
  refine (callsIn_wide (n := 5)).1 ?_
  refine callsIn_of_wp_marks Try.func16 rfl trivial ?_ rfl
  simp only [Try.ntmps16, List.size_toArray, List.length_cons, List.length_nil, Nat.reduceAdd, Nat.reduceSub, Array.replicate_succ, Array.replicate_zero, List.push_toArray, List.append_toArray, List.nil_append, List.cons_append]
  gi_wp2_with (fail)
  obtain ⟨w2, hw2⟩ : ∃ w2, ((((w.alloc (.cells #[.int .i64 n] 3)).alloc (.cells #[.int .i64 fr] 3)).alloc (.cells #[.int .i64 0, .int .i64 0] 29)).alloc (.cells #[.bool false] 4)) = w2 := ⟨_, rfl⟩
  have hk2 : Kept [] w w2 := by rw [← hw2]; exact ((((Kept.refl [] w).alloc _).alloc _).alloc _).alloc _
  have hz2 : w2.heap.size = w.heap.size + 1 + 1 + 1 + 1 := by rw [← hw2]; simp
  have h4 : Has w2 w.heap.size 3 [.int .i64 n] := by rw [← hw2]; exact (((Has.new w _ [.int .i64 n]).alloc _).alloc _).alloc _
  have h5 : Has w2 (w.heap.size + 1) 3 [.int .i64 fr] := by
    rw [← hw2]
    have := ((Has.new (w.alloc (.cells #[.int .i64 n] 3)) 3 [.int .i64 fr]).alloc (.cells #[.int .i64 0, .int .i64 0] 29)).alloc (.cells #[.bool false] 4)
    rw [World.size_alloc] at this
    exact this
  have h6 : Has w2 (w.heap.size + 1 + 1) 29 [.int .i64 0, .int .i64 0] := by
    rw [← hw2]
    have := (Has.new ((w.alloc (.cells #[.int .i64 n] 3)).alloc (.cells #[.int .i64 fr] 3)) 29 [.int .i64 0, .int .i64 0]).alloc (.cells #[.bool false] 4)
    rw [World.size_alloc, World.size_alloc] at this
    exact this
  have h7 : Has w2 (w.heap.size + 1 + 1 + 1) 4 [.bool false] := by
    rw [← hw2]
    have := Has.new (((w.alloc (.cells #[.int .i64 n] 3)).alloc (.cells #[.int .i64 fr] 3)).alloc (.cells #[.int .i64 0, .int .i64 0] 29)) 4 [.bool false]
    rw [World.size_alloc, World.size_alloc, World.size_alloc] at this
    exact this
  rw [hw2]
  clear hw2
  have HL := Lib.hid (links_ok x w2)
  have H4 := Lib.hid h4
  have H5 := Lib.hid h5
  have H6 := Lib.hid h6
  have H7 := Lib.hid h7
  have Hk2 := Lib.hid hk2
  have Hz2 := Lib.hid hz2
  clear h4 h5 h6 h7 hk2 hz2
  refine ⟨trivial, (callsIn_wide.2 HL.out).mono ?_⟩
  rintro e0 w0 ⟨rfl, hw0⟩
  have hk0 : Kept [] w2 w0 := by rw [hw0]; exact (Kept.refl [] w2).alloc _
  have hb0 : Has w0 w2.heap.size 24 [.pointer x] := by rw [hw0]; exact Has.new w2 _ _
  rw [Hz2.out] at hb0 ⊢
  have Hk0 := Lib.hid hk0
  have Hb0 := Lib.hid hb0
  clear hk0 hb0 hw0 HL
  gi_wp2_with (fail)
  have Hkw := Lib.hid (Hk2.out.trans Hk0.out)
  refine wpIn_rangeFunc_ownG rfl (by decide) (gf := 36) (lb := #[.pointer (some ⟨w.heap.size + 1 + 1 + 1 + 1, 0, none⟩)]) rfl trivial (enters_of Try.func36 (by kernel_rfl) rfl)
    (links_stops 4 (by decide) w.heap.size (w.heap.size + 1 + 1 + 1 + 1) x ns Hlt.out w0 Hb0.out (H.out.keep0 Hkw.out))
    belowK_t (belowK_b (Hkw.out.more)) (Below.refl _ _) (fun _ => rfl)
    (fun pre W => (∀ y ∈ vals pre, fits n fr y.r = false) ∧ Has W w.heap.size 3 [.int .i64 n] ∧ Has W (w.heap.size + 1) 3 [.int .i64 fr] ∧ Has W (w.heap.size + 1 + 1) 29 [.int .i64 0, .int .i64 0] ∧ Has W (w.heap.size + 1 + 1 + 1) 4 [.bool false] ∧ Kept [] w W)
    (fun c pre W => (c = .ret ∧ ∃ ys y, pre = ys ++ [y] ∧ (∀ z ∈ vals ys, fits n fr z.r = false) ∧ fits n fr y.1.r = true ∧ Has W (w.heap.size + 1 + 1) 29 [.int .i64 (max ((y.1.a : Nat) : Int) fr), .int .i64 n] ∧ Has W (w.heap.size + 1 + 1 + 1) 4 [.bool true]) ∧ Kept [] w W)
    (OwnFrom.and (ownFrom_pure _ _) (OwnFrom.and own_has (OwnFrom.and own_has (OwnFrom.and own_has (OwnFrom.and own_has (own_kept Hkw.out.more))))))
    (fun c => OwnFrom.and (fun pre X Y row hs hg hr => by
      obtain ⟨hc, ys, y, h1, h2, h3, h4, h5⟩ := hs
      exact ⟨hc, ys, y, h1, h2, h3, own_has (β := Unit) (f := fun _ => [.int .i64 (max ((y.1.a : Nat) : Int) fr), .int .i64 n]) () X Y row h4 hg hr, own_has (β := Unit) (f := fun _ => [.bool true]) () X Y row h5 hg hr⟩) (own_kept Hkw.out.more))
    ⟨(by intro y hy; cases hy), H4.out.keep0 Hk0.out, H5.out.keep0 Hk0.out, H6.out.keep0 Hk0.out, H7.out.keep0 Hk0.out, Hkw.out⟩
    ?A ?assign ?body ?done ?stop
  case assign =>
    intro l y W K hK
    unfold encs
    gi_wp2_with (fail)
    exact hK
  case body =>
    rintro l pre y W ⟨hno, hi4, hi5, hi6, hi7, hk⟩ hlen
    obtain ⟨v, hv⟩ := (H.out.keep0 hk).mem y.1 y.2
    have hyb := (fine_mem HF.out y.1 y.2).1
    obtain ⟨⟨b, ra, rl⟩, hy⟩ := y
    simp only at hv hyb
    have b0 := hv.cell 0
    have c5 := hi5.cell 0
    simp [linkV] at b0 c5
    have HV := Lib.hid hv
    have Hk := Lib.hid hk
    have H4' := Lib.hid hi4
    have H5' := Lib.hid hi5
    have H6' := Lib.hid hi6
    have H7' := Lib.hid hi7
    have HN := Lib.hid hno
    clear hi4 hi5 hi6 hi7 hk hlen hv hno
    dsimp only
    rcases Int.lt_or_le (ra : Int) fr with hc | hc
    · have HM : Hid (max ((ra : Nat) : Int) fr = fr) := Lib.hid (by omega)
      gi_wp2_with (fail)
      refine Rk.wpIn_head (r := some l) (C := fun w' => ∃ n, w' = W.drewN n) 6 (by kernel_rfl) (by kernel_rfl) ⟨1, rfl⟩ ?_
      simp only [List.take_succ_cons, List.take_zero, List.drop_succ_cons, List.drop_zero]
      repeat (quiet_step (fail))
      refine wpQuiet_nil ?_
      rintro _ ⟨nq, rfl⟩
      rw [← Rk.fence_round]
      gi_wp2_with (fail)
      have hkd : Kept [] W (W.drewN nq) := (Kept.refl [] W).drewN nq
      clear b0 c5
      generalize W.drewN nq = W2 at hkd ⊢
      have Hkd := Lib.hid hkd
      clear hkd
      have b0 := cell_regrown (show W2.cell? ⟨b, 0, none⟩ = some (.int .i64 (ra : Int)) from (HV.out.keep0 Hkd.out).cell 0)
      have b1 := cell_regrown (show W2.cell? ⟨b, 1, none⟩ = some (.int .i64 (rl : Int)) from (HV.out.keep0 Hkd.out).cell 1)
      have bn := cell_regrown (show W2.cell? ⟨w.heap.size, 0, none⟩ = some (.int .i64 n) from (H4'.out.keep0 Hkd.out).cell 0)
      have cC : ∀ d os, Calls Try.prog 29 #[runV (ra : Int) (rl : Int)] (grow (redrawn W2 d) os) fun e w'' => e = .returned (.int .i64 ((ra : Int) + (rl : Int))) ∧ ∃ p : Regrown, w'' = grow (redrawn W2 p.d) p.os :=
        fun d os => Calls.regrown_of ((end_ok (ra : Int) (rl : Int) _ (by omega) (by omega)).mono fun _ _ ⟨he, hk⟩ => ⟨he, hk.below (Nat.le_refl _) (by simp)⟩)
      unfold runV at cC
      have CC := Lib.hid cC
      clear cC
      have hwr : IntKind.i64.wrap ((ra : Int) + (rl : Int) - fr) = (ra : Int) + (rl : Int) - fr := by rw [IntKind.wrap_i64]; omega
      refine Rk.wpIn_head (r := some l) (C := fun w' => ∃ p : Regrown, w' = grow (redrawn W2 p.d) p.os) 8 (by kernel_rfl) (by kernel_rfl) ⟨⟨W2.drawn + 1, #[]⟩, by rw [grow_empty]; rfl⟩ ?_
      simp only [List.take_succ_cons, List.take_zero, List.drop_succ_cons, List.drop_zero]
      repeat (quiet_step (exact CC.out _ _))
      refine wpQuiet_nil ?_
      rintro _ ⟨⟨dq, osq⟩, rfl⟩
      rw [← Rk.fence_round]
      have hk3 := Kept.ofBelow (below_regrown W2 dq osq) []
      clear b0 b1 bn CC
      generalize grow (redrawn W2 dq) osq = W3 at hk3 ⊢
      have Hk3 := Lib.hid (Hkd.out.trans hk3)
      clear hk3
      cases hfit : fits n fr (ra, rl) with
      | true =>
        have hle : n ≤ (ra : Int) + (rl : Int) - fr := by
          have h := of_decide_eq_true hfit
          simp only [HM.out] at h
          omega
        have HFit := Lib.hid hfit
        clear hfit
        have c6 := (H6'.out.keep0 Hk3.out).cell 0
        have c6' := (H6'.out.keep0 Hk3.out).cell 1
        have f6 := (H6'.out.keep0 Hk3.out).free 0
        have f6' := (H6'.out.keep0 Hk3.out).free 1
        have c7 := (H7'.out.keep0 Hk3.out).cell 0
        have f7 := (H7'.out.keep0 Hk3.out).free 0
        have c4 := (H4'.out.keep0 Hk3.out).cell 0
        simp at c4 c6 c6' c7
        gi_wp2_with (fail)
        have hKS : Kept [w.heap.size + 1 + 1, w.heap.size + 1 + 1 + 1] W3 (((W3.setCell ⟨w.heap.size + 1 + 1, 0, none⟩ (.int .i64 fr)).setCell ⟨w.heap.size + 1 + 1, 1, none⟩ (.int .i64 n)).setCell ⟨w.heap.size + 1 + 1 + 1, 0, none⟩ (.bool true)) :=
          (((Kept.refl _ W3).setCell _ _ (.inl (by simp))).setCell _ _ (.inl (by simp))).setCell _ _ (.inl (by simp))
        have h6 := (((H6'.out.keep0 Hk3.out).put 0 (.int .i64 fr)).put 1 (.int .i64 n)).beside ⟨w.heap.size + 1 + 1 + 1, 0, none⟩ (by simp) (.bool true)
        have h7 := (((H7'.out.keep0 Hk3.out).beside ⟨w.heap.size + 1 + 1, 0, none⟩ (by simp) (.int .i64 fr)).beside ⟨w.heap.size + 1 + 1, 1, none⟩ (by simp) (.int .i64 n)).put 0 (.bool true)
        refine ⟨keepsFrom_of ((Hk3.out.none _).trans hKS) (fun b hb => ?_), ⟨rfl, pre, _, rfl, HN.out, HFit.out, ?_, h7⟩, (Hk.out.trans Hk3.out).forget hKS (by simp; omega)⟩
        · rcases List.mem_cons.1 hb with rfl | hb
          · exact ⟨_, _, H6'.out⟩
          · obtain rfl := List.mem_singleton.1 hb
            exact ⟨_, _, H7'.out⟩
        · show Has _ _ _ [.int .i64 (max ((ra : Nat) : Int) fr), .int .i64 n]
          rw [HM.out]
          exact h6
      | false =>
        have hle : (ra : Int) + (rl : Int) - fr < n := by
          have h := of_decide_eq_false hfit
          simp only [HM.out] at h
          omega
        have HFit := Lib.hid hfit
        clear hfit
        gi_wp2_with (fail)
        refine ⟨keepsFrom_of Hk3.out (by simp), Hk3.out.below Hk.out.more (by simp), fun z hz => ?_, H4'.out.keep0 Hk3.out, H5'.out.keep0 Hk3.out, H6'.out.keep0 Hk3.out, H7'.out.keep0 Hk3.out, Hk.out.trans Hk3.out⟩
        rw [vals_snoc] at hz
        rcases List.mem_append.1 hz with hz | hz
        · exact HN.out z hz
        · rw [List.mem_singleton.1 hz]
          exact HFit.out
    · have HM : Hid (max ((ra : Nat) : Int) fr = (ra : Int)) := Lib.hid (by omega)
      gi_wp2_with (fail)
      refine Rk.wpIn_head (r := some l) (C := fun w' => ∃ n, w' = W.drewN n) 6 (by kernel_rfl) (by kernel_rfl) ⟨1, rfl⟩ ?_
      simp only [List.take_succ_cons, List.take_zero, List.drop_succ_cons, List.drop_zero]
      repeat (quiet_step (fail))
      refine wpQuiet_nil ?_
      rintro _ ⟨nq, rfl⟩
      rw [← Rk.fence_round]
      gi_wp2_with (fail)
      have hkd : Kept [] W (W.drewN nq) := (Kept.refl [] W).drewN nq
      clear b0 c5
      generalize W.drewN nq = W2 at hkd ⊢
      have Hkd := Lib.hid hkd
      clear hkd
      have b0 := cell_regrown (show W2.cell? ⟨b, 0, none⟩ = some (.int .i64 (ra : Int)) from (HV.out.keep0 Hkd.out).cell 0)
      have b1 := cell_regrown (show W2.cell? ⟨b, 1, none⟩ = some (.int .i64 (rl : Int)) from (HV.out.keep0 Hkd.out).cell 1)
      have bn := cell_regrown (show W2.cell? ⟨w.heap.size, 0, none⟩ = some (.int .i64 n) from (H4'.out.keep0 Hkd.out).cell 0)
      have cC : ∀ d os, Calls Try.prog 29 #[runV (ra : Int) (rl : Int)] (grow (redrawn W2 d) os) fun e w'' => e = .returned (.int .i64 ((ra : Int) + (rl : Int))) ∧ ∃ p : Regrown, w'' = grow (redrawn W2 p.d) p.os :=
        fun d os => Calls.regrown_of ((end_ok (ra : Int) (rl : Int) _ (by omega) (by omega)).mono fun _ _ ⟨he, hk⟩ => ⟨he, hk.below (Nat.le_refl _) (by simp)⟩)
      unfold runV at cC
      have CC := Lib.hid cC
      clear cC
      have hwr : IntKind.i64.wrap ((ra : Int) + (rl : Int) - (ra : Int)) = (ra : Int) + (rl : Int) - (ra : Int) := by rw [IntKind.wrap_i64]; omega
      refine Rk.wpIn_head (r := some l) (C := fun w' => ∃ p : Regrown, w' = grow (redrawn W2 p.d) p.os) 8 (by kernel_rfl) (by kernel_rfl) ⟨⟨W2.drawn + 1, #[]⟩, by rw [grow_empty]; rfl⟩ ?_
      simp only [List.take_succ_cons, List.take_zero, List.drop_succ_cons, List.drop_zero]
      repeat (quiet_step (exact CC.out _ _))
      refine wpQuiet_nil ?_
      rintro _ ⟨⟨dq, osq⟩, rfl⟩
      rw [← Rk.fence_round]
      have hk3 := Kept.ofBelow (below_regrown W2 dq osq) []
      clear b0 b1 bn CC
      generalize grow (redrawn W2 dq) osq = W3 at hk3 ⊢
      have Hk3 := Lib.hid (Hkd.out.trans hk3)
      clear hk3
      cases hfit : fits n fr (ra, rl) with
      | true =>
        have hle : n ≤ (ra : Int) + (rl : Int) - (ra : Int) := by
          have h := of_decide_eq_true hfit
          simp only [HM.out] at h
          omega
        have HFit := Lib.hid hfit
        clear hfit
        have c6 := (H6'.out.keep0 Hk3.out).cell 0
        have c6' := (H6'.out.keep0 Hk3.out).cell 1
        have f6 := (H6'.out.keep0 Hk3.out).free 0
        have f6' := (H6'.out.keep0 Hk3.out).free 1
        have c7 := (H7'.out.keep0 Hk3.out).cell 0
        have f7 := (H7'.out.keep0 Hk3.out).free 0
        have c4 := (H4'.out.keep0 Hk3.out).cell 0
        simp at c4 c6 c6' c7
        gi_wp2_with (fail)
        have hKS : Kept [w.heap.size + 1 + 1, w.heap.size + 1 + 1 + 1] W3 (((W3.setCell ⟨w.heap.size + 1 + 1, 0, none⟩ (.int .i64 (ra : Int))).setCell ⟨w.heap.size + 1 + 1, 1, none⟩ (.int .i64 n)).setCell ⟨w.heap.size + 1 + 1 + 1, 0, none⟩ (.bool true)) :=
          (((Kept.refl _ W3).setCell _ _ (.inl (by simp))).setCell _ _ (.inl (by simp))).setCell _ _ (.inl (by simp))
        have h6 := (((H6'.out.keep0 Hk3.out).put 0 (.int .i64 (ra : Int))).put 1 (.int .i64 n)).beside ⟨w.heap.size + 1 + 1 + 1, 0, none⟩ (by simp) (.bool true)
        have h7 := (((H7'.out.keep0 Hk3.out).beside ⟨w.heap.size + 1 + 1, 0, none⟩ (by simp) (.int .i64 (ra : Int))).beside ⟨w.heap.size + 1 + 1, 1, none⟩ (by simp) (.int .i64 n)).put 0 (.bool true)
        refine ⟨keepsFrom_of ((Hk3.out.none _).trans hKS) (fun b hb => ?_), ⟨rfl, pre, _, rfl, HN.out, HFit.out, ?_, h7⟩, (Hk.out.trans Hk3.out).forget hKS (by simp; omega)⟩
        · rcases List.mem_cons.1 hb with rfl | hb
          · exact ⟨_, _, H6'.out⟩
          · obtain rfl := List.mem_singleton.1 hb
            exact ⟨_, _, H7'.out⟩
        · show Has _ _ _ [.int .i64 (max ((ra : Nat) : Int) fr), .int .i64 n]
          rw [HM.out]
          exact h6
      | false =>
        have hle : (ra : Int) + (rl : Int) - (ra : Int) < n := by
          have h := of_decide_eq_false hfit
          simp only [HM.out] at h
          omega
        have HFit := Lib.hid hfit
        clear hfit
        gi_wp2_with (fail)
        refine ⟨keepsFrom_of Hk3.out (by simp), Hk3.out.below Hk.out.more (by simp), fun z hz => ?_, H4'.out.keep0 Hk3.out, H5'.out.keep0 Hk3.out, H6'.out.keep0 Hk3.out, H7'.out.keep0 Hk3.out, Hk.out.trans Hk3.out⟩
        rw [vals_snoc] at hz
        rcases List.mem_append.1 hz with hz | hz
        · exact HN.out z hz
        · rw [List.mem_singleton.1 hz]
          exact HFit.out
  case done =>
    rintro D xs W hD hx ⟨hno, h4, h5, h6, h7, hk⟩ hK
    have c6 := h6.cell 0
    have c6' := h6.cell 1
    have f6 := h6.free 0
    have f6' := h6.free 1
    have c7 := h7.cell 0
    have f7 := h7.free 0
    simp at c6 c6' c7
    have hn' : firstO (runsIn ns) n fr = none := by
      unfold firstO
      rw [if_pos hn, find_none]
      · rfl
      · intro r hr
        obtain ⟨m, hm, rfl⟩ := List.mem_map.1 hr
        rw [← hx] at hm
        exact hno m hm
    have Hn := Lib.hid hn'
    have HKd := Lib.hid hK
    have Hk := Lib.hid hk
    have H6' := Lib.hid h6
    have H7' := Lib.hid h7
    clear hn' hK hk h4 h5 h6 h7 hno hx
    gi_wp2_with (fail)
    have hD1 : w.heap.size + 1 + 1 ≠ D := by have := H7.out.lt; have := Hk0.out.more; omega
    have hD2 : w.heap.size + 1 + 1 + 1 ≠ D := by have := H7.out.lt; have := Hk0.out.more; omega
    have hK2 : (((W.setCell ⟨w.heap.size + 1 + 1, 0, none⟩ (.int .i64 0)).setCell ⟨w.heap.size + 1 + 1, 1, none⟩ (.int .i64 0)).setCell ⟨w.heap.size + 1 + 1 + 1, 0, none⟩ (.bool false)).heap[D]? = some (.deferred (some [])) := by
      rw [put_other hD2, put_other hD1, put_other hD1]
      exact HKd.out
    have h6 := has_put (((H6'.out.put 0 (.int .i64 0)).put 1 (.int .i64 0)).beside ⟨w.heap.size + 1 + 1 + 1, 0, none⟩ (by simp) (.bool false)) D _ (.deferred none) hK2 rfl
    have h7 := has_put (((H7'.out.beside ⟨w.heap.size + 1 + 1, 0, none⟩ (by simp) (.int .i64 0)).beside ⟨w.heap.size + 1 + 1, 1, none⟩ (by simp) (.int .i64 0)).put 0 (.bool false)) D _ (.deferred none) hK2 rfl
    have d6 := h6.cell 0
    have d6' := h6.cell 1
    have d7 := h7.cell 0
    simp at d6 d6' d7
    refine ⟨by simp, .inl ⟨_, _, rfl, run_takeDeferred hK2, ?_⟩⟩
    refine ⟨.tuple #[runV 0 0, .bool false], ?_, ?_, kept_put (Hk.out.forget (((((Kept.refl [w.heap.size + 1 + 1, w.heap.size + 1 + 1 + 1] W).setCell _ _ (.inl (by simp))).setCell _ _ (.inl (by simp)))).setCell _ _ (.inl (by simp))) (by simp; omega)) D _ (Nat.le_trans Hkw.out.more hD)⟩
    · simp [results, Try.results16, go_sem, d6, d6', d7, runV]
    · rw [Hn.out]
      rfl
  case stop =>
    rintro D c pre W hD ⟨rest, hx⟩ ⟨⟨rfl, ys, y, rfl, hno, hfit, h6, h7⟩, hk⟩ hK
    have hs : firstO (runsIn ns) n fr = some (max ((y.1.a : Nat) : Int) fr) := by
      unfold firstO
      rw [if_pos hn]
      have hx' : runsIn ns = runsIn (vals ys) ++ y.1.r :: runsIn rest := (congrArg runsIn hx).trans (by
        rw [vals_snoc, runsIn_append, runsIn_append, List.append_assoc]
        rfl)
      rw [hx', find_at (fun q hq => ?_) hfit]
      · rfl
      · obtain ⟨m, hm, rfl⟩ := List.mem_map.1 hq
        exact hno m hm
    have Hs := Lib.hid hs
    have HKd := Lib.hid hK
    have Hk := Lib.hid hk
    have H6' := Lib.hid h6
    have H7' := Lib.hid h7
    clear hs hK hk h6 h7 hno hfit hx
    gi_wp2_with (fail)
    have d6 := (has_put H6'.out D _ (.deferred none) HKd.out rfl).cell 0
    have d6' := (has_put H6'.out D _ (.deferred none) HKd.out rfl).cell 1
    have d7 := (has_put H7'.out D _ (.deferred none) HKd.out rfl).cell 0
    simp only [List.getElem?_cons_zero, List.getElem?_cons_succ] at d6 d6' d7
    refine ⟨by simp, .inl ⟨_, _, rfl, run_takeDeferred HKd.out, ?_⟩⟩
    refine ⟨.tuple #[runV (max ((y.1.a : Nat) : Int) fr) n, .bool true], ?_, ?_, kept_put Hk.out D _ (Nat.le_trans Hkw.out.more hD)⟩
    · simp [results, Try.results16, go_sem, d6, d6', d7, runV]
    · rw [Hs.out]
      rfl
theorem first_ok (w : World) (x : Option Addr) (ns : List Nd) (h : Set? w x ns) (hf : Fine 0 (runsIn ns)) (n fr : Int) (n1 : -9223372036854775808 ≤ n) (n2 : n ≤ 9223372036854775807) (f1 : -9223372036854775808 ≤ fr) (f2 : fr ≤ 9223372036854775807) :
    Calls Try.prog 16 #[.pointer x, .int .i64 n, .int .i64 fr] w fun e w' => e = .returned (.tuple #[firstR (firstO (runsIn ns) n fr) n, .bool (firstO (runsIn ns) n fr).isSome]) ∧ Kept [] w w' := by
  by_cases hn : 1 ≤ n
  · exact first_more w x ns h hf n fr hn n2 f1 f2
  · have e : firstO (runsIn ns) n fr = none := by unfold firstO; rw [if_neg hn]
    rw [e]
    exact first_less w x n fr (by omega)
end Go.Proofs.Ytbgonppichdhiaa.Rn
