/-
  The contract of the document's SameWords: whether two slices have the same words.
-/
import Derived.Test.YtpnjblledbihcaaDoorArNew
import Derived.BigQuiet
namespace Go.Proofs.YtpnjblledbihcaaDoor.Sh
open Go.RowKit Go.Proofs.YtpnjblledbihcaaDoor.Ar

/-- Are two rows of words the same? -/
def sameB (a b : List Int) : Bool := decide (a = b)
theorem sameB_self (a : List Int) : sameB a a = true := decide_eq_true rfl
theorem take_step (a b : List Int) (j : Nat) (ha : j < a.length) (hb : j < b.length) (h : a.take j = b.take j) (e : a.getD j 0 = b.getD j 0) : a.take (j + 1) = b.take (j + 1) := by
  rw [List.getD, List.getD, List.getElem?_eq_getElem ha, List.getElem?_eq_getElem hb] at e
  simp only [Option.getD_some] at e
  rw [List.take_succ_eq_append_getElem ha, List.take_succ_eq_append_getElem hb, h, e]
set_option maxRecDepth 100000 in
set_option maxHeartbeats 1000000 in
theorem sameW_any (A B : Option Addr) (a b : List Int) (ca cb : Nat) (w : World) (hA : Seen w A a) (hB : Seen w B b) (la : a.length ≤ 4294967296) (lb : b.length ≤ 4294967296) :
    Calls Tryd.prog 29 #[.slice A a.length ca, .slice B b.length cb] w fun e w' => e = .returned (.bool (sameB a b)) ∧ ∃ k, w' = w.drewN k := by
  by_cases hl : a.length = b.length
  · by_cases h0 : a = []
    · obtain rfl : b = [] := List.eq_nil_of_length_eq_zero (by rw [← hl, h0]; rfl)
      subst h0
      rw [sameB_self]
      clear hA hB la lb hl
      simp only [List.length_nil]
      go_enter Tryd.func29, Tryd.ntmps29
      go_wp2_with fail
      refine wp_loop_rounds 1 ?_
      rw [rounds_succ]
      go_wp2_with fail
      go_ret
      exact ⟨rfl, 0, rfl⟩
    · have h1 : b ≠ [] := fun hb => h0 (List.eq_nil_of_length_eq_zero (by rw [hl, hb]; rfl))
      obtain ⟨g, f, rfl, cA⟩ := hA.cells h0
      obtain ⟨g', f', rfl, cB⟩ := hB.cells h1
      rw [← hl] at cB ⊢
      have HA := Lib.hid cA
      have HB := Lib.hid cB
      have HL := Lib.hid hl
      have hne : ((a.length : Int) != (a.length : Int)) = false := by simp
      clear hA hB cA cB h0 h1 lb hl
      go_enter Tryd.func29, Tryd.ntmps29
      go_wp2_with fail
      go_loopw [5] (fun t wr => ∃ j : Nat, j ≤ a.length ∧ t = .int .i64 j ∧ Hid (a.take j = b.take j) ∧ ∃ k, wr = w.drewN k) (fun t _ => a.length - (intOf t).toNat)
      case atStart => exact ⟨0, Nat.zero_le _, rfl, Lib.hid (by simp), 0, rfl⟩
      case round =>
        obtain ⟨j, hj, rfl, hT, k, rfl⟩ := hrel
        by_cases hlt : j < a.length
        · have c1 := HA.out j hlt
          have c2 := HB.out j hlt
          have hD : ∀ r : Bool, (a.getD j 0 != b.getD j 0) = r → (r = true → sameB a b = false) ∧ (r = false → a.take (j + 1) = b.take (j + 1)) := by
            rintro r rfl
            constructor
            · intro hr
              refine decide_eq_false fun he => ?_
              rw [he] at hr
              simp at hr
            · intro hr
              exact take_step a b j hlt (by have := HL.out; omega) hT.out (by simpa using hr)
          generalize a.getD j 0 = x at *
          generalize b.getD j 0 = y at *
          have HD := Lib.hid hD
          clear hD hT
          cases hxy : (x != y)
          · have HT := Lib.hid ((HD.out _ hxy).2 rfl)
            clear HD
            go_wp2_with fail
            go_quiet (fail)
            go_wp2_with fail
            go_roundw
            case rel => exact ⟨j + 1, by omega, by go_num, HT, _, rfl⟩
            case measure => simp [intOf]; omega
          · have HT := Lib.hid ((HD.out _ hxy).1 rfl)
            clear HD
            go_wp2_with fail
            go_quiet (fail)
            go_wp2_with fail
            go_ret
            exact ⟨ret_bool HT.out.symm, _, World.drewN_drewN _ _ _⟩
        · have hs : sameB a b = true := by
            refine decide_eq_true ?_
            have := hT.out
            have hl := HL.out
            rw [List.take_of_length_le (by omega), List.take_of_length_le (by omega)] at this
            exact this
          have HS := Lib.hid hs
          obtain rfl : j = a.length := by omega
          clear hs hT HA HB HL hlt hj
          go_wp2_with fail
          go_ret
          exact ⟨ret_bool HS.out.symm, _, rfl⟩
  · have hs : sameB a b = false := decide_eq_false fun he => hl (by rw [he])
    have hne : ((a.length : Int) != (b.length : Int)) = true := by rw [bne_iff_ne]; omega
    rw [hs]
    clear hs hl hA hB
    generalize a.length = m at *
    generalize b.length = n at *
    go_enter Tryd.func29, Tryd.ntmps29
    go_wp2_with fail
    go_ret
    exact ⟨rfl, 0, rfl⟩
end Go.Proofs.YtpnjblledbihcaaDoor.Sh
