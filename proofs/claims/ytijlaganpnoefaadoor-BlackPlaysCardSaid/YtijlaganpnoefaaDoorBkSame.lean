/-
  The document's SameInts: whether two slices have the same numbers; and the statements' examples.
-/
import Derived.Test.YtijlaganpnoefaaDoorIntRow
import Derived.Deep.QuietTactic
import Derived.BigQuiet
import Derived.Lib.QuietBelow
namespace Go.Proofs.YtijlaganpnoefaaDoor.Bk
open Go.RowKit Go.Proofs.YtijlaganpnoefaaDoor.Ar Go.Proofs.YtijlaganpnoefaaDoor.Ir
set_option linter.unusedVariables false

theorem take_step (a b : List Int) (j : Nat) (ha : j < a.length) (hb : j < b.length) (h : a.take j = b.take j) (e : a.getD j 0 = b.getD j 0) : a.take (j + 1) = b.take (j + 1) := by
  rw [List.getD, List.getD, List.getElem?_eq_getElem ha, List.getElem?_eq_getElem hb] at e
  simp only [Option.getD_some] at e
  rw [List.take_succ_eq_append_getElem ha, List.take_succ_eq_append_getElem hb, h, e]
set_option maxHeartbeats 400000 in
theorem same_any (A B : Option Addr) (a b : List Int) (ca cb : Nat) (w : World) (hA : Ir.Seen w A a) (hB : Ir.Seen w B b) (la : a.length ≤ 4294967296) (lb : b.length ≤ 4294967296) :
    Calls Tryd.prog 24 #[.slice A a.length ca, .slice B b.length cb] w fun e w' => e = .returned (.bool (decide (a = b))) ∧ ∃ k, w' = w.drewN k := by
  by_cases hl : a.length = b.length
  · by_cases h0 : a = []
    · obtain rfl : b = [] := List.eq_nil_of_length_eq_zero (by rw [← hl, h0]; rfl)
      subst h0
      rw [decide_eq_true rfl]
      clear hA hB la lb hl
      simp only [List.length_nil]
      go_enter Tryd.func24, Tryd.ntmps24
      go_wp2_with fail
      refine wp_loop_rounds 1 ?_
      rw [rounds_succ]
      go_wp2_with fail
      go_ret
      exact ⟨rfl, 0, rfl⟩
    · have h1 : b ≠ [] := fun hb => h0 (List.eq_nil_of_length_eq_zero (by rw [hl, hb]; rfl))
      obtain ⟨g, f, rfl, cA⟩ := hA.cells h0
      obtain ⟨g', f', rfl, cB⟩ := hB.cells h1
      rw [← hl] at cB ⊢
      have HA := Lib.hid cA
      have HB := Lib.hid cB
      have HL := Lib.hid hl
      have hne : ((a.length : Int) != (a.length : Int)) = false := by simp
      clear hA hB cA cB h0 h1 lb hl
      go_enter Tryd.func24, Tryd.ntmps24
      go_wp2_with fail
      go_loopw [5] (fun t wr => ∃ j : Nat, j ≤ a.length ∧ t = .int .i64 j ∧ Hid (a.take j = b.take j) ∧ ∃ k, wr = w.drewN k) (fun t _ => a.length - (intOf t).toNat)
      case atStart => exact ⟨0, Nat.zero_le _, rfl, Lib.hid (by simp), 0, rfl⟩
      case round =>
        obtain ⟨j, hj, rfl, hT, k, rfl⟩ := hrel
        by_cases hlt : j < a.length
        · have c1 := HA.out j hlt
          have c2 := HB.out j hlt
          have hD : ∀ r : Bool, (a.getD j 0 != b.getD j 0) = r → (r = true → decide (a = b) = false) ∧ (r = false → a.take (j + 1) = b.take (j + 1)) := by
            rintro r rfl
            constructor
            · intro hr
              refine decide_eq_false fun he => ?_
              rw [he] at hr
              simp at hr
            · intro hr
              exact take_step a b j hlt (by have := HL.out; omega) hT.out (by simpa using hr)
          generalize a.getD j 0 = x at *
          generalize b.getD j 0 = y at *
          have HD := Lib.hid hD
          clear hD hT
          cases hxy : (x != y)
          · have HT := Lib.hid ((HD.out _ hxy).2 rfl)
            clear HD
            go_wp2_with fail
            go_quiet (fail)
            go_wp2_with fail
            go_roundw
            case rel => exact ⟨j + 1, by omega, by go_num, HT, _, rfl⟩
            case measure => simp [intOf]; omega
          · have HT := Lib.hid ((HD.out _ hxy).1 rfl)
            clear HD
            go_wp2_with fail
            go_quiet (fail)
            go_wp2_with fail
            go_ret
            exact ⟨ret_bool HT.out.symm, _, World.drewN_drewN _ _ _⟩
        · have hs : decide (a = b) = true := by
            refine decide_eq_true ?_
            have := hT.out
            have hl := HL.out
            rw [List.take_of_length_le (by omega), List.take_of_length_le (by omega)] at this
            exact this
          have HS := Lib.hid hs
          obtain rfl : j = a.length := by omega
          clear hs hT HA HB HL hlt hj
          go_wp2_with fail
          go_ret
          exact ⟨ret_bool HS.out.symm, _, rfl⟩
  · have hs : decide (a = b) = false := decide_eq_false fun he => hl (by rw [he])
    have hne : ((a.length : Int) != (b.length : Int)) = true := by rw [bne_iff_ne]; omega
    rw [hs]
    clear hs hl hA hB
    generalize a.length = m at *
    generalize b.length = n at *
    go_enter Tryd.func24, Tryd.ntmps24
    go_wp2_with fail
    go_ret
    exact ⟨rfl, 0, rfl⟩
theorem same_own {w : World} {v1 v2 : Value} {a b : List Int} (h1 : Ir.Own w v1 a) (h2 : Ir.Own w v2 b) (la : a.length ≤ 65536) (lb : b.length ≤ 65536) :
    Calls Tryd.prog 24 #[v1, v2] w fun e w' => e = .returned (.bool (decide (a = b))) ∧ Kept [] w w' := by
  obtain ⟨A, c, rfl, _, hA, _⟩ := Ir.back_own (Kept.refl [] w) h1
  obtain ⟨B, d, rfl, _, hB, _⟩ := Ir.back_own (Kept.refl [] w) h2
  exact (same_any A B a b c d w hA hB (by omega) (by omega)).mono fun e w' ⟨he, k, hk⟩ => ⟨he, by rw [hk]; exact (Kept.refl [] w).drewN k⟩
end Go.Proofs.YtijlaganpnoefaaDoor.Bk
