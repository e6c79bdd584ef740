/-
  Stage 12, black: the program's list keeps all contracts.
-/
import Derived.Test.YtijlaganpnoefaaDoorBkOwnNew
import Derived.Test.YtijlaganpnoefaaDoorBkOwnHit
import Derived.Test.YtijlaganpnoefaaDoorBkOwnTurn
import Derived.Test.YtijlaganpnoefaaDoorBkOwnFirst
namespace Go.Proofs.YtijlaganpnoefaaDoor.Bk
open Go.RowKit Go.Proofs.YtijlaganpnoefaaDoor.Ar
set_option linter.unusedVariables false
/-- A list of a law's own making; the table of the lowest bits stands. -/
def Pt (w x : World) (p : Nat) (T : List Nat) (ls : List Int) : Prop := Wd.Table w ∧ Pb w x p T ls
theorem ownCtr : Ctr Wd.Table Pt where
  gkeep := fun h k => Bt.tableKeep h k
  kept := fun ⟨hT, s, c, d, hp, ht, hl, h⟩ k h1 h2 => ⟨hT, s, c, d, hp, ht, hl, h.kept k (by rw [ht]; exact h1) h2⟩
  fresh := fun ⟨hT, s, c, d, hp, ht, hl, h⟩ i hi => ⟨h.own i (by rw [ht]; exact hi), h.lt i (by rw [ht]; exact hi)⟩
  start := fun ⟨hT, s, c, d, hp, ht, hl, h⟩ => h.start
  aged := fun ⟨hT, s, c, d, hp, ht, hl, h⟩ => by rw [← hl]; exact ⟨ages_aged c d, by rw [ages_length]; exact h.few⟩
  new_no := fun n _ _ hn => new_no12 n hn _
  new_yes := fun n hT hk hn => (new_yes12 n hn hk).mono fun e y ⟨s, he, h, k, hf⟩ => ⟨s.p, s.all, he, ⟨hT, s, _, _, rfl, rfl, ages_new n, h⟩, k, hf⟩
  hit := fun gs ⟨hT, s, c, d, hp, ht, hl, h⟩ hG hlen hI => by
    subst hp ht hl
    refine (hit_own h gs (fun y k => hG y (k.mono fun i hi => by rw [List.mem_singleton.1 hi]; simp [Bs.all])) hlen hI).mono fun e y ⟨he, c', h', ha, k⟩ => ?_
    rw [ages_length]
    exact ⟨he, s.all, ⟨hT, s, c', d, rfl, rfl, ha, h'⟩, k.mono fun i hi => by rw [List.mem_singleton.1 hi]; simp [Bs.all], fun i hi => .inl hi⟩
  turn := fun ⟨hT, s, c, d, hp, ht, hl, h⟩ => by
    subst hp ht hl
    refine (turn_own h hT).mono fun e y ⟨he, np, nq, h', k, h1, h2⟩ => ⟨he, (Bs.mk s.p np nq s.p0 s.q0).all, ⟨hT, ⟨s.p, np, nq, s.p0, s.q0⟩, _, _, rfl, rfl, (ages_turn c d).symm, h'⟩, k, fun i hi => ?_⟩
    unfold Bs.all at hi ⊢
    simp only [List.mem_cons, List.not_mem_nil, or_false] at hi ⊢
    rcases hi with rfl | rfl | rfl | rfl | rfl <;> simp_all
  has := fun g ⟨hT, s, c, d, hp, ht, hl, h⟩ hg => by subst hp hl; exact has_own h g hg
  len := fun ⟨hT, s, c, d, hp, ht, hl, h⟩ => by subst hp hl; rw [ages_length]; exact (len_own h).mono fun e y ⟨he, hy⟩ => ⟨he, hy ▸ Kept.refl _ _⟩
  count := fun ⟨hT, s, c, d, hp, ht, hl, h⟩ => by subst hp hl; exact count_own h (Bt.tableKeep hT h.start)
  list := fun ⟨hT, s, c, d, hp, ht, hl, h⟩ => by subst hp hl; exact list_own h (Bt.tableKeep hT h.start)
  first := fun a b n ⟨hT, s, c, d, hp, ht, hl, h⟩ ha hb hn => by subst hp hl; exact first_own h a b n ha hb hn
  copy := fun ⟨hT, s, c, d, hp, ht, hl, h⟩ => by subst hp hl; exact (copy_own h).mono fun e y ⟨t, he, h', k, hf⟩ => ⟨t.p, t.all, he, ⟨hT, t, c, d, rfl, rfl, rfl, h'⟩, k, hf⟩
section
variable {x : World}
theorem hit_nil12 {A : Option Addr} {n c : Nat} : Calls Tryd.prog 13 #[.pointer none, .slice A n c] x fun e y => e = .returned (.int .i64 1) ∧ x = y := by
  go_enter Tryd.func13, Tryd.ntmps13
  go_wp2_with fail
  go_ret
  exact ⟨rfl, rfl⟩
theorem turn_nil12 : Calls Tryd.prog 14 #[.pointer none] x fun e y => e = .returned (.int .i64 0) ∧ x = y := by
  go_enter Tryd.func14, Tryd.ntmps14
  go_wp2_with fail
  go_ret
  exact ⟨rfl, rfl⟩
theorem last_nil12 (g n : Int) : Calls Tryd.prog 31 #[.pointer none, .int .i64 g, .int .i64 n] x fun e y => e = .returned (.tuple #[.int .i64 0, .bool false]) ∧ x = y := by
  go_enter Tryd.func31, Tryd.ntmps31
  go_wp2_with fail
  go_ret2
  exact ⟨rfl, rfl⟩
theorem has_nil12 (g : Int) : Calls Tryd.prog 19 #[.pointer none, .int .i64 g] x fun e y => e = .returned (.bool false) ∧ x = y := by
  have HL := Lib.hid (last_nil12 (x := x) g 1)
  go_enter Tryd.func19, Tryd.ntmps19
  go_wp2_with fail
  refine HL.out.mono ?_
  rintro e y ⟨rfl, rfl⟩
  go_wp2_with fail
  go_ret
  exact ⟨rfl, rfl⟩
theorem len_nil12 : Calls Tryd.prog 22 #[.pointer none] x fun e y => e = .returned (.int .i64 0) ∧ x = y := by
  go_enter Tryd.func22, Tryd.ntmps22
  go_wp2_with fail
  go_ret
  exact ⟨rfl, rfl⟩
theorem all_nil12 : Calls Tryd.prog 32 #[.pointer none] x fun e y => e = .returned (.pointer none) ∧ x = y := by
  go_enter Tryd.func32, Tryd.ntmps32
  go_wp2_with fail
  go_ret
  exact ⟨rfl, rfl⟩
theorem list_nil12 : Calls Tryd.prog 23 #[.pointer none] x fun e y => e = .returned (.slice none 0 0) ∧ Kept [] x y := by
  have HA := Lib.hid (all_nil12 (x := x))
  have HR := Lib.hid (Bt.runs_nil x)
  go_enter Tryd.func23, Tryd.ntmps23
  go_wp2_with fail
  refine HA.out.mono ?_
  rintro e y ⟨rfl, rfl⟩
  go_wp2_with fail
  refine HR.out.mono ?_
  rintro e y ⟨rfl, k⟩
  have K := Lib.hid k
  clear k HR HA
  go_wp2_with fail
  refine wp_loop_rounds 1 ?_
  rw [rounds_succ]
  go_wp2_with fail
  go_ret
  exact ⟨rfl, K.out⟩
theorem count_nil12 : Calls Tryd.prog 21 #[.pointer none] x fun e y => e = .returned (.int .i64 0) ∧ Kept [] x y := by
  have HA := Lib.hid (all_nil12 (x := x))
  have HL := Lib.hid (Bt.len_nil x)
  have HC := Lib.hid (Bt.count_nil x 0 0)
  go_enter Tryd.func21, Tryd.ntmps21
  go_wp2_with fail
  refine HA.out.mono ?_
  rintro e y ⟨rfl, rfl⟩
  go_wp2_with fail
  refine HL.out.mono ?_
  rintro e y ⟨rfl, rfl⟩
  go_wp2_with fail
  refine HC.out.mono ?_
  rintro e y ⟨rfl, k⟩
  have K := Lib.hid k
  clear k HC HL HA
  go_wp2_with fail
  go_ret
  exact ⟨rfl, K.out⟩
theorem copy_nil12 : Calls Tryd.prog 12 #[.pointer none] x fun e y => e = .returned (.pointer none) ∧ x = y := by
  go_enter Tryd.func12, Tryd.ntmps12
  go_wp2_with fail
  go_ret
  exact ⟨rfl, rfl⟩
theorem first_nil12 (a b n : Int) (ha : I64 a) (hn1 : I64 n) : Calls Tryd.prog 17 #[.pointer none, .int .i64 a, .int .i64 b, .int .i64 n] x fun e y => e = .returned (.tuple #[.int .i64 0, .bool false]) ∧ x = y := by
  unfold I64 at ha hn1
  have HL := Lib.hid (len_nil12 (x := x))
  go_enter Tryd.func17, Tryd.ntmps17
  by_cases hn : n < 1
  · go_wp2_with fail
    go_ret2
    exact ⟨rfl, rfl⟩
  · have hE : min (max b 0) 0 = 0 := by omega
    have hA : 0 ≤ max a 0 ∧ max a 0 ≤ 9223372036854775807 := by omega
    go_wp2_with fail
    refine HL.out.mono ?_
    rintro e y ⟨rfl, rfl⟩
    go_wp2_with fail
    generalize max a 0 = A at *
    have hlt : ¬ n ≤ 0 - A := by omega
    refine wp_loop_rounds 1 ?_
    rw [rounds_succ]
    go_wp2_with fail
    go_ret2
    exact ⟨rfl, rfl⟩
end
theorem ownNil : CtrNil Wd.Table where
  hit := fun _ => hit_nil12.mono fun e y ⟨he, hy⟩ => ⟨he, hy ▸ Kept.refl _ _⟩
  turn := fun _ => turn_nil12.mono fun e y ⟨he, hy⟩ => ⟨he, hy ▸ Kept.refl _ _⟩
  has := fun g _ _ => (has_nil12 g).mono fun e y ⟨he, hy⟩ => ⟨he, hy ▸ Kept.refl _ _⟩
  len := fun _ => len_nil12.mono fun e y ⟨he, hy⟩ => ⟨he, hy ▸ Kept.refl _ _⟩
  count := fun _ => count_nil12
  list := fun _ => list_nil12.mono fun e y ⟨he, hk⟩ => ⟨_, he, Ir.Own.nil _, hk⟩
  first := fun a b n _ ha _ hn => (first_nil12 a b n ha hn).mono fun e y ⟨he, hy⟩ => ⟨he, hy ▸ Kept.refl _ _⟩
  copy := fun _ => copy_nil12.mono fun e y ⟨he, hy⟩ => ⟨he, hy ▸ Kept.refl _ _⟩
end Go.Proofs.YtijlaganpnoefaaDoor.Bk
