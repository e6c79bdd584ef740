/-
  Links ahead of others; the contracts of join and without.
-/
import Derived.Test.YtbgonppichdhiaaRnBelow
import Derived.Deep.DrawnRows
import Derived.Deep.RegionWith
namespace Go.Proofs.Ytbgonppichdhiaa.Rn
open Go.RowKit Go.Proofs.Ytbgonppichdhiaa.Ar Go.Proofs.Ytbgonppichdhiaa.Bt Go.Proofs.Ytbgonppichdhiaa.Lk Go.Sort
set_option linter.unusedVariables false

/-- A head at p and links behind it; behind these stands x. -/
def Ahead (w : World) (p : Nat) (P : List Nd) (x : Option Addr) : Prop := Has w p 54 (linkV (-1) 0 (front x P)) ∧ Seg w x P
theorem front_ptr (P Q : List Nd) : front (ptr Q) P = ptr (P ++ Q) := (ptr_append P Q).symm
theorem front_none (Q : List Nd) : front none Q = ptr Q := by cases Q <;> rfl
theorem rs_iff {w : World} {p : Nat} {P Q : List Nd} : Rs w p (P ++ Q) ↔ Ahead w p P (ptr Q) ∧ Seg w none Q ∧ ((P ++ Q).map Nd.b).Nodup := by
  constructor
  · intro h
    have hs := Seg.append.1 h.seg
    rw [front_none] at hs
    exact ⟨⟨by rw [front_ptr]; exact h.head, hs.1⟩, hs.2, h.apart⟩
  · rintro ⟨⟨h1, h2⟩, h3, h4⟩
    exact ⟨by rw [← front_ptr]; exact h1, Seg.append.2 ⟨by rw [front_none]; exact h2, h3⟩, h4⟩
theorem Ahead.blocks {w : World} {p : Nat} {P : List Nd} {x : Option Addr} (h : Ahead w p P x) : ∀ n ∈ P, n.b ≠ p := fun n hn => by
  obtain ⟨v, hv⟩ := h.2.mem n hn
  exact Has.block_type hv h.1 (by decide)
theorem Ahead.kept {S : List Nat} {w w' : World} {p : Nat} {P : List Nd} {x : Option Addr} (h : Ahead w p P x) (k : Kept S w w') (hp : p ∉ S) (hS : ∀ n ∈ P, n.b ∉ S) : Ahead w' p P x := ⟨h.1.kept k hp, h.2.kept k hS⟩
/-- The last one of them, or the head, as a link. -/
theorem Ahead.last {w : World} {p : Nat} {P : List Nd} {x : Option Addr} (h : Ahead w p P x) : ∃ t a l, Has w (lastB p P) t (linkV a l x) ∧ (t = 54 ∨ t = 52) ∧ ((P = [] ∧ a = -1 ∧ l = 0) ∨ ∃ P0 m, P = P0 ++ [m] ∧ a = m.a ∧ l = m.l) := by
  rcases List.eq_nil_or_concat P with rfl | ⟨P0, m, rfl⟩
  · exact ⟨_, _, _, h.1, .inl rfl, .inl ⟨rfl, rfl, rfl⟩⟩
  · rw [List.concat_eq_append] at *
    have hs := (Seg.append.1 h.2).2
    rw [Seg.cons] at hs
    rw [lastB_snoc]
    exact ⟨_, _, _, hs.1, .inr rfl, .inr ⟨P0, m, rfl, rfl, rfl⟩⟩
/-- Another one is put behind them. -/
theorem Ahead.next {w : World} {p : Nat} {P : List Nd} {x : Option Addr} (h : Ahead w p P x) (hn : (P.map Nd.b).Nodup) (y : Option Addr) : Ahead (w.setCell ⟨lastB p P, 2, none⟩ (.pointer y)) p P y := by
  have hb := h.blocks
  rcases List.eq_nil_or_concat P with rfl | ⟨P0, m, rfl⟩
  · exact ⟨h.1.put 2 (.pointer y), trivial⟩
  · rw [List.concat_eq_append] at *
    obtain ⟨h1, h2⟩ := h
    obtain ⟨h3, h4⟩ := Seg.append.1 h2
    rw [Seg.cons] at h4
    rw [lastB_snoc]
    have hk : Kept [m.b] w (w.setCell ⟨m.b, 2, none⟩ (.pointer y)) := (Kept.refl _ w).setCell _ _ (.inl (by simp))
    have hm : ∀ n ∈ P0, n.b ≠ m.b := fun n hn' e => by
      rw [List.map_append, List.nodup_append] at hn
      exact hn.2.2 n.b (List.mem_map_of_mem hn') m.b (by simp) e
    have e : ∀ z, front z (P0 ++ [m]) = front (some ⟨m.b, 0, none⟩) P0 := fun z => by cases P0 <;> rfl
    refine ⟨?_, Seg.append.2 ⟨?_, ?_⟩⟩
    · rw [e]
      rw [e] at h1
      exact h1.kept hk (by simp; exact (hb m (by simp)).symm)
    · exact h3.kept hk fun n hn' => by simp; exact hm n hn'
    · rw [Seg.cons]
      exact ⟨h4.1.put 2 (.pointer y), trivial⟩

set_option maxHeartbeats 2000000 in
/-- join, where there is none behind it. -/
theorem join_none (w : World) (b : Nat) (t : TypeId) (a l : Int) (h : Has w b t (linkV a l none)) : Calls Try.prog 30 #[.pointer (some ⟨b, 0, none⟩)] w fun e w' => (∃ v, e = .returned v) ∧ Kept [] w w' := by
  have c2 := h.cell 2
  simp [linkV] at c2
  clear h
  go_enter Try.func30, Try.ntmps30
  go_wp2_with fail
  go_quiet (fail)
  go_wp2_with fail
  go_end0
  exact ⟨⟨_, rfl⟩, (Kept.refl [] w).drewN _⟩
set_option maxHeartbeats 4000000 in
/-- join, where the next one does not touch. -/
theorem join_no (w : World) (b b2 : Nat) (t : TypeId) (a l : Int) (a2 l2 : Nat) (v2 : Option Addr) (h : Has w b t (linkV a l (some ⟨b2, 0, none⟩))) (h2 : Has w b2 52 (linkV a2 l2 v2))
    (ha : -1 ≤ a ∧ a ≤ 65536) (hl : 0 ≤ l ∧ l ≤ 65536) (hne : (a2 : Int) ≠ a + l) :
    Calls Try.prog 30 #[.pointer (some ⟨b, 0, none⟩)] w fun e w' => (∃ v, e = .returned v) ∧ Kept [] w w' := by
  have c2 := h.cell 2
  simp [linkV] at c2
  have b0 := cell_regrown (show w.cell? ⟨b, 0, none⟩ = some (.int .i64 a) from h.cell 0)
  have b1 := cell_regrown (show w.cell? ⟨b, 1, none⟩ = some (.int .i64 l) from h.cell 1)
  have d0 := cell_regrown (show w.cell? ⟨b2, 0, none⟩ = some (.int .i64 (a2 : Int)) from h2.cell 0)
  have cC : ∀ d os, Calls Try.prog 29 #[runV a l] (grow (redrawn w d) os) fun e w'' => e = .returned (.int .i64 (a + l)) ∧ ∃ p : Regrown, w'' = grow (redrawn w p.d) p.os :=
    fun d os => Calls.regrown_of ((end_ok a l _ (by omega) (by omega)).mono fun _ _ ⟨he, hk⟩ => ⟨he, hk.below (Nat.le_refl _) (by simp)⟩)
  unfold runV at cC
  have CC := Lib.hid cC
  have hne' : ((a2 : Int) == a + l) = false := beq_eq_false_iff_ne.2 hne
  clear h h2 cC hne
  go_enter Try.func30, Try.ntmps30
  go_wp2_with fail
  refine wp_region_quiet_below (by kernel_rfl) (by kernel_rfl) ?_
  repeat (first | go_big_quiet_step (exact CC.out _ _) | quiet_step (exact CC.out _ _))
  refine wpQuiet_nil ?_
  rintro _ ⟨⟨dq, osq⟩, rfl⟩
  have hk3 := Kept.ofBelow (below_regrown w dq osq) []
  clear b0 b1 d0 CC
  generalize grow (redrawn w dq) osq = W3 at hk3 ⊢
  go_wp2_with fail
  go_end0
  exact ⟨⟨_, rfl⟩, hk3⟩
set_option maxHeartbeats 4000000 in
/-- join, where it does. -/
theorem join_yes (w : World) (b b2 : Nat) (t : TypeId) (a l : Int) (a2 l2 : Nat) (v2 : Option Addr) (h : Has w b t (linkV a l (some ⟨b2, 0, none⟩))) (h2 : Has w b2 52 (linkV a2 l2 v2)) (hbb : b ≠ b2)
    (ha : -1 ≤ a ∧ a ≤ 65536) (hl : 0 ≤ l ∧ l ≤ 65536) (hl2 : l2 ≤ 65536) (he : (a2 : Int) = a + l) :
    Calls Try.prog 30 #[.pointer (some ⟨b, 0, none⟩)] w fun e w' => (∃ v, e = .returned v) ∧ Kept [b] w w' ∧ Has w' b t (linkV a (l + l2) v2) := by
  have c2 := h.cell 2
  simp [linkV] at c2
  have b0 := cell_regrown (show w.cell? ⟨b, 0, none⟩ = some (.int .i64 a) from h.cell 0)
  have b1 := cell_regrown (show w.cell? ⟨b, 1, none⟩ = some (.int .i64 l) from h.cell 1)
  have d0 := cell_regrown (show w.cell? ⟨b2, 0, none⟩ = some (.int .i64 (a2 : Int)) from h2.cell 0)
  have cC : ∀ d os, Calls Try.prog 29 #[runV a l] (grow (redrawn w d) os) fun e w'' => e = .returned (.int .i64 (a2 : Int)) ∧ ∃ p : Regrown, w'' = grow (redrawn w p.d) p.os :=
    fun d os => Calls.regrown_of ((end_ok a l _ (by omega) (by omega)).mono fun _ _ ⟨he', hk⟩ => ⟨by rw [he]; exact he', hk.below (Nat.le_refl _) (by simp)⟩)
  unfold runV at cC
  have CC := Lib.hid cC
  have H := Lib.hid h
  have H2 := Lib.hid h2
  have Hbb := Lib.hid hbb
  clear h h2 cC he hbb
  go_enter Try.func30, Try.ntmps30
  go_wp2_with fail
  refine wp_region_quiet_below (by kernel_rfl) (by kernel_rfl) ?_
  repeat (first | go_big_quiet_step (exact CC.out _ _) | quiet_step (exact CC.out _ _))
  refine wpQuiet_nil ?_
  rintro _ ⟨⟨dq, osq⟩, rfl⟩
  have hk3 := Kept.ofBelow (below_regrown w dq osq) []
  clear b0 b1 d0 CC
  generalize grow (redrawn w dq) osq = W3 at hk3 ⊢
  have c1 := (H.out.keep0 hk3).cell 1
  have f1 := (H.out.keep0 hk3).free 1
  have d1 := (H2.out.keep0 hk3).cell 1
  simp [linkV] at c1 d1
  have Hk3 := Lib.hid hk3
  clear hk3
  go_wp2_with fail
  go_region_with (fail)
  all_goals
    rw [show IntKind.i64.wrap (l + (l2 : Int)) = l + (l2 : Int) by rw [IntKind.wrap_i64]; omega]
    have h1 : Has (W3.setCell ⟨b, 1, none⟩ (.int .i64 (l + (l2 : Int)))).drew b t (linkV a (l + l2) (some ⟨b2, 0, none⟩)) := ((H.out.keep0 Hk3.out).put 1 (.int .i64 (l + (l2 : Int)))).drew
    have h2 := ((H2.out.keep0 Hk3.out).beside ⟨b, 1, none⟩ Hbb.out.symm (.int .i64 (l + (l2 : Int)))).drew
    have hk4 : Kept [b] w (W3.setCell ⟨b, 1, none⟩ (.int .i64 (l + (l2 : Int)))).drew := ((Hk3.out.none [b]).setCell _ _ (.inl (by simp))).drew
    clear c1 f1 d1
    generalize (W3.setCell ⟨b, 1, none⟩ (.int .i64 (l + (l2 : Int)))).drew = W4 at *
    have e2 := h2.cell 2
    have c3 := h1.cell 2
    have f3 := h1.free 2
    simp [linkV] at e2 c3
    have H1 := Lib.hid h1
    have Hk4 := Lib.hid hk4
    clear h1 h2 hk4
    go_wp2_with fail
    go_end0
    exact ⟨⟨_, rfl⟩, Hk4.out.setCell _ _ (.inl (by simp)), H1.out.put 2 (.pointer v2)⟩
end Go.Proofs.Ytbgonppichdhiaa.Rn
