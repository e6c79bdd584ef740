/-
  Stage 12, black: the program's list: First.
-/
import Derived.Test.YtijlaganpnoefaaDoorBkOwn
import Derived.Test.YtijlaganpnoefaaDoorBkRoom
namespace Go.Proofs.YtijlaganpnoefaaDoor.Bk
open Go.RowKit Go.Proofs.YtijlaganpnoefaaDoor.Ar
set_option linter.unusedVariables false
section
variable {w x y z : World} {s : Bs} {c d : List Bool}
set_option maxRecDepth 100000 in
set_option maxHeartbeats 16000000 in
theorem first_own (h : Obj2 w x s c d) (a b n : Int) (a1 : I64 a) (b1 : I64 b) (n1 : I64 n) :
    Calls Tryd.prog 17 #[.pointer (some ⟨s.p, 0, none⟩), .int .i64 a, .int .i64 b, .int .i64 n] x fun e y => e = .returned (.tuple #[.int .i64 ((firstL (ages c d) a b n).getD 0), .bool (firstL (ages c d) a b n).isSome]) ∧ Kept [] x y := by
  unfold I64 at a1 b1 n1
  have hf : (ages c d).length ≤ 65536 := by rw [ages_length]; exact h.few
  have HLen := Lib.hid (len_own h)
  rw [← ages_length c d] at HLen
  have HLast := Lib.hid (fun y (k : Kept [] x y) g m hg hm => last_own (h.keep0 k) g m hg hm)
  have HAged := Lib.hid (ages_aged c d)
  clear h
  generalize ages c d = ls at *
  by_cases hn : n < 1
  · rw [first_bad (.inl hn)]
    clear HLen HLast HAged
    go_enter Tryd.func17, Tryd.ntmps17
    go_wp2_with fail
    go_ret2
    exact ⟨rfl, Kept.refl _ _⟩
  · obtain ⟨n0, rfl⟩ := Int.eq_ofNat_of_zero_le (show 0 ≤ n by omega)
    have hn1 : 1 ≤ n0 := by omega
    have hEb : 0 ≤ min (max b 0) (ls.length : Int) ∧ min (max b 0) (ls.length : Int) ≤ (ls.length : Int) := by omega
    have hAb : 0 ≤ max a 0 ∧ max a 0 ≤ 9223372036854775807 := by omega
    have HNone := Lib.hid (fun (h : ∀ g0 : Nat, max a 0 ≤ (g0 : Int) → (g0 : Int) + (n0 : Int) ≤ min (max b 0) (ls.length : Int) → roomTo ls g0 n0 = false) => first_of_none (ls := ls) (a := a) (b := b) (n := n0) fun g0 h1 h2 => h g0 h1 (by unfold endL at h2; omega))
    have HSome := Lib.hid (fun (v : Nat) (h1 : max a 0 ≤ (v : Int)) (h2 : (v : Int) + (n0 : Int) ≤ min (max b 0) (ls.length : Int)) (h3 : roomTo ls v n0 = true) (h4 : ∀ g0 : Nat, max a 0 ≤ (g0 : Int) → g0 < v → roomTo ls g0 n0 = false) => first_of_some (ls := ls) (a := a) (b := b) (n := n0) (v := v) hn1 h1 (by unfold endL; omega) h3 h4)
    have H0 : Hid ((∀ g0 : Nat, max a 0 ≤ (g0 : Int) → g0 < (max a 0).toNat → roomTo ls g0 n0 = false) ∧ Kept [] x x) := Lib.hid ⟨fun g0 h1 h2 => by omega, Kept.refl _ _⟩
    generalize firstL ls a b (n0 : Int) = F at *
    go_enter Tryd.func17, Tryd.ntmps17
    go_wp2_with fail
    refine HLen.out.mono ?_
    rintro e y ⟨rfl, rfl⟩
    clear HLen
    go_wp2_with fail
    generalize min (max b 0) (ls.length : Int) = E at *
    generalize max a 0 = A at *
    go_loopw [11] (fun t wr => ∃ g : Nat, t = .int .i64 (g : Int) ∧ A ≤ (g : Int) ∧ (g : Int) ≤ 9223372036854775807 ∧ Hid ((∀ g0 : Nat, A ≤ (g0 : Int) → g0 < g → roomTo ls g0 n0 = false) ∧ Kept [] x wr)) (fun t _ => (E - intOf t).toNat)
    case atStart => exact ⟨A.toNat, by go_num, by omega, by omega, H0⟩
    case round =>
      clear H0
      obtain ⟨g, rfl, hg0, hg1, hr⟩ := hrel
      by_cases hlt : (n0 : Int) ≤ E - (g : Int)
      · have HL := Lib.hid (HLast.out _ hr.out.2 (g : Int) (n0 : Int) (by unfold I64; omega) (by unfold I64; omega))
        go_wp2_with fail
        refine HL.out.mono ?_
        rintro e y ⟨o, rfl, hl, k⟩
        have HK := Lib.hid (hr.out.2.trans k)
        clear k HL
        cases o with
        | none =>
          have hroom : roomTo ls g n0 = true := room_all HAged.out n0 (fun j j1 j2 => hl ((Bt.within_iff _ _ _).2 (by omega)) j (by omega) (by omega)) (by omega)
          have HF := Lib.hid (HSome.out g hg0 (by omega) hroom hr.out.1)
          clear hl hroom hr HSome HNone HLast HAged
          simp only [Option.isSome_none, Option.getD_none]
          go_wp2_with fail
          go_ret2
          rw [HF.out]
          exact ⟨rfl, HK.out⟩
        | some v =>
          obtain ⟨hw, v1, v2, v3, v4⟩ := hl
          have HN : Hid ((∀ g0 : Nat, A ≤ (g0 : Int) → g0 < v + 1 → roomTo ls g0 n0 = false) ∧ Kept [] x y) := Lib.hid ⟨fun g0 h1 h2 => by
            rcases Nat.lt_or_ge g0 g with h3 | h3
            · exact hr.out.1 g0 h1 h3
            · exact room_black v3 n0 g0 (by omega) (by omega), HK.out⟩
          clear hw v3 v4 hr HK
          simp only [Option.isSome_some, Option.getD_some]
          go_wp2_with fail
          go_roundw
          case rel => exact ⟨v + 1, by go_num, by omega, by omega, HN⟩
          case measure => simp [intOf] <;> omega
      · have HF := Lib.hid (HNone.out fun g0 h1 h2 => hr.out.1 g0 h1 (by omega))
        have HK := Lib.hid hr.out.2
        clear hr HNone HSome HLast HAged
        go_wp2_with fail
        go_ret2
        rw [HF.out]
        exact ⟨rfl, HK.out⟩
end
end Go.Proofs.YtijlaganpnoefaaDoor.Bk
