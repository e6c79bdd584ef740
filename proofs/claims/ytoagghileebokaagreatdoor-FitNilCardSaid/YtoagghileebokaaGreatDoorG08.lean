/-
  Several texts in one: KdMay, KdDoc, KdDocSize, TbDoc.
-/
import Derived.Test.YtoagghileebokaaGreatDoorG06
import Derived.Test.YtoagghileebokaaGreatDoorG07
/-
  The document's May: which types may be.
-/
namespace Go.Proofs.YtoagghileebokaaGreatDoor.Kd
open Go.RowKit Go.Proofs.YtoagghileebokaaGreatDoor.Ar Go.Maps
set_option linter.unusedVariables false

theorem bits_zero {mk wd : Nat} (hm : mk < 18446744073709551616) (h : ∀ j, wd ≤ j → j < 64 → ¬ mk / 2 ^ j % 2 = 1) : mk / 2 ^ wd = 0 := by
  refine Nat.eq_of_testBit_eq fun i => ?_
  rw [Nat.zero_testBit, Nat.testBit_div_two_pow]
  by_cases c : i + wd < 64
  · rw [Nat.testBit_eq_decide_div_mod_eq]
    exact decide_eq_false (h (i + wd) (by omega) c)
  · refine Nat.testBit_lt_two_pow (Nat.lt_of_lt_of_le hm ?_)
    exact Nat.pow_le_pow_right (n := 2) (by decide) (show 64 ≤ i + wd by omega)
theorem bits_some {mk wd j : Nat} (hj : wd ≤ j) (h : mk / 2 ^ j % 2 = 1) : ¬ mk / 2 ^ wd = 0 := by
  intro h0
  have : mk / 2 ^ j = 0 := by
    rw [show j = wd + (j - wd) by omega, Nat.pow_add, ← Nat.div_div_eq_div_mul, h0, Nat.zero_div]
  rw [this] at h
  cases h
theorem bit_int (mk j : Nat) : ((mk : Int) / 2 ^ j) = ((mk / 2 ^ j : Nat) : Int) := by rw [Int.natCast_ediv, Int.natCast_pow]; rfl
theorem bit_test (mk j : Nat) : (((mk : Int) / 2 ^ j).tmod 2 == 1) = decide (mk / 2 ^ j % 2 = 1) := by
  rw [bit_int, Int.tmod_eq_emod_of_nonneg (Int.natCast_nonneg _)]
  generalize mk / 2 ^ j = x
  by_cases h : x % 2 = 1
  · rw [decide_eq_true h, beq_iff_eq]
    omega
  · rw [decide_eq_false h, beq_eq_false_iff_ne]
    omega
set_option maxRecDepth 100000 in
set_option maxHeartbeats 4000000 in
theorem may_in1 (wd mk : Nat) (hw : wd ≤ 64)  (hm : mk < 18446744073709551616) (w : World) :
    Calls Tryz.prog 143 #[.agg #[.int .u8 1, .int .i64 (wd : Int), .int .u64 (mk : Int)]] w fun e w' => e = .returned (.bool (decide (mk / 2 ^ wd = 0))) ∧ Kept [] w w' := by
  have hH : Has (w.alloc (.cells #[.int .u8 1, .int .i64 (wd : Int), .int .u64 (mk : Int)] 57)) w.heap.size 57 [.int .u8 1, .int .i64 (wd : Int), .int .u64 (mk : Int)] := Has.new w _ _
  have hK : Kept [] w (w.alloc (.cells #[.int .u8 1, .int .i64 (wd : Int), .int .u64 (mk : Int)] 57)) := (Kept.refl [] w).alloc _
  go_enter Tryz.func143, Tryz.ntmps143
  go_wp2_with fail
  generalize w.alloc (.cells #[.int .u8 1, .int .i64 (wd : Int), .int .u64 (mk : Int)] 57) = W at *
  generalize w.heap.size = B at *
  obtain ⟨c0, c1, c2⟩ := cells3 hH
  have HK := Lib.hid hK
  clear hH hK
  go_loopw [4] (fun t wr => ∃ j : Nat, t = .int .i64 (j : Int) ∧ wd ≤ j ∧ j ≤ 64 ∧ Hid (∀ i, wd ≤ i → i < j → ¬ mk / 2 ^ i % 2 = 1) ∧ wr = W) (fun t _ => 64 - (intOf t).toNat)
  case atStart => exact ⟨wd, rfl, Nat.le_refl _, hw, Lib.hid (fun i h1 h2 => by omega), rfl⟩
  case round =>
    obtain ⟨j, rfl, hj, hj2, hr, rfl⟩ := hrel
    by_cases hlt : j < 64
    · have ht := bit_test mk j
      cases hb : decide (mk / 2 ^ j % 2 = 1) with
      | true =>
        rw [hb] at ht
        have HS := Lib.hid (bits_some hj (of_decide_eq_true hb))
        clear hb hr
        go_wp2_with fail
        go_ret
        exact ⟨by rw [decide_eq_false HS.out]; rfl, HK.out⟩
      | false =>
        rw [hb] at ht
        have HN : Hid (∀ i, wd ≤ i → i < j + 1 → ¬ mk / 2 ^ i % 2 = 1) := Lib.hid (fun i h1 h2 => by
          by_cases e : i = j
          · subst e; exact of_decide_eq_false hb
          · exact hr.out i h1 (by omega))
        clear hb hr
        go_wp2_with fail
        go_roundw
        case rel => exact ⟨j + 1, by go_num, by omega, by omega, HN, trivial⟩
        case measure => simp [intOf] <;> omega
    · obtain rfl : j = 64 := by omega
      have HZ := Lib.hid (bits_zero hm hr.out)
      clear hr
      go_wp2_with fail
      go_ret
      exact ⟨by rw [decide_eq_true HZ.out]; rfl, HK.out⟩
set_option maxRecDepth 100000 in
set_option maxHeartbeats 4000000 in
theorem may_in3 (wd mk : Nat) (hw : wd ≤ 64) (hw1 : 1 ≤ wd) (hw2 : wd ≤ 16) (hm : mk < 18446744073709551616) (w : World) :
    Calls Tryz.prog 143 #[.agg #[.int .u8 3, .int .i64 (wd : Int), .int .u64 (mk : Int)]] w fun e w' => e = .returned (.bool (decide (mk / 2 ^ wd = 0))) ∧ Kept [] w w' := by
  have hH : Has (w.alloc (.cells #[.int .u8 3, .int .i64 (wd : Int), .int .u64 (mk : Int)] 57)) w.heap.size 57 [.int .u8 3, .int .i64 (wd : Int), .int .u64 (mk : Int)] := Has.new w _ _
  have hK : Kept [] w (w.alloc (.cells #[.int .u8 3, .int .i64 (wd : Int), .int .u64 (mk : Int)] 57)) := (Kept.refl [] w).alloc _
  go_enter Tryz.func143, Tryz.ntmps143
  go_wp2_with fail
  generalize w.alloc (.cells #[.int .u8 3, .int .i64 (wd : Int), .int .u64 (mk : Int)] 57) = W at *
  generalize w.heap.size = B at *
  obtain ⟨c0, c1, c2⟩ := cells3 hH
  have HK := Lib.hid hK
  clear hH hK
  go_loopw [4] (fun t wr => ∃ j : Nat, t = .int .i64 (j : Int) ∧ wd ≤ j ∧ j ≤ 64 ∧ Hid (∀ i, wd ≤ i → i < j → ¬ mk / 2 ^ i % 2 = 1) ∧ wr = W) (fun t _ => 64 - (intOf t).toNat)
  case atStart => exact ⟨wd, rfl, Nat.le_refl _, hw, Lib.hid (fun i h1 h2 => by omega), rfl⟩
  case round =>
    obtain ⟨j, rfl, hj, hj2, hr, rfl⟩ := hrel
    by_cases hlt : j < 64
    · have ht := bit_test mk j
      cases hb : decide (mk / 2 ^ j % 2 = 1) with
      | true =>
        rw [hb] at ht
        have HS := Lib.hid (bits_some hj (of_decide_eq_true hb))
        clear hb hr
        go_wp2_with fail
        go_ret
        exact ⟨by rw [decide_eq_false HS.out]; rfl, HK.out⟩
      | false =>
        rw [hb] at ht
        have HN : Hid (∀ i, wd ≤ i → i < j + 1 → ¬ mk / 2 ^ i % 2 = 1) := Lib.hid (fun i h1 h2 => by
          by_cases e : i = j
          · subst e; exact of_decide_eq_false hb
          · exact hr.out i h1 (by omega))
        clear hb hr
        go_wp2_with fail
        go_roundw
        case rel => exact ⟨j + 1, by go_num, by omega, by omega, HN, trivial⟩
        case measure => simp [intOf] <;> omega
    · obtain rfl : j = 64 := by omega
      have HZ := Lib.hid (bits_zero hm hr.out)
      clear hr
      go_wp2_with fail
      go_ret
      exact ⟨by rw [decide_eq_true HZ.out]; rfl, HK.out⟩
set_option maxRecDepth 100000 in
set_option maxHeartbeats 4000000 in
theorem may_in2 (wd mk : Nat) (hw : wd ≤ 64) (hw0 : wd = 0) (hm : mk < 18446744073709551616) (w : World) :
    Calls Tryz.prog 143 #[.agg #[.int .u8 2, .int .i64 (wd : Int), .int .u64 (mk : Int)]] w fun e w' => e = .returned (.bool (decide (mk / 2 ^ wd = 0))) ∧ Kept [] w w' := by
  have hH : Has (w.alloc (.cells #[.int .u8 2, .int .i64 (wd : Int), .int .u64 (mk : Int)] 57)) w.heap.size 57 [.int .u8 2, .int .i64 (wd : Int), .int .u64 (mk : Int)] := Has.new w _ _
  have hK : Kept [] w (w.alloc (.cells #[.int .u8 2, .int .i64 (wd : Int), .int .u64 (mk : Int)] 57)) := (Kept.refl [] w).alloc _
  have hz : ((wd : Int) != 0) = false := by rw [hw0]; rfl
  clear hw0
  go_enter Tryz.func143, Tryz.ntmps143
  go_wp2_with fail
  generalize w.alloc (.cells #[.int .u8 2, .int .i64 (wd : Int), .int .u64 (mk : Int)] 57) = W at *
  generalize w.heap.size = B at *
  obtain ⟨c0, c1, c2⟩ := cells3 hH
  have HK := Lib.hid hK
  clear hH hK
  go_loopw [4] (fun t wr => ∃ j : Nat, t = .int .i64 (j : Int) ∧ wd ≤ j ∧ j ≤ 64 ∧ Hid (∀ i, wd ≤ i → i < j → ¬ mk / 2 ^ i % 2 = 1) ∧ wr = W) (fun t _ => 64 - (intOf t).toNat)
  case atStart => exact ⟨wd, rfl, Nat.le_refl _, hw, Lib.hid (fun i h1 h2 => by omega), rfl⟩
  case round =>
    obtain ⟨j, rfl, hj, hj2, hr, rfl⟩ := hrel
    by_cases hlt : j < 64
    · have ht := bit_test mk j
      cases hb : decide (mk / 2 ^ j % 2 = 1) with
      | true =>
        rw [hb] at ht
        have HS := Lib.hid (bits_some hj (of_decide_eq_true hb))
        clear hb hr
        go_wp2_with fail
        go_ret
        exact ⟨by rw [decide_eq_false HS.out]; rfl, HK.out⟩
      | false =>
        rw [hb] at ht
        have HN : Hid (∀ i, wd ≤ i → i < j + 1 → ¬ mk / 2 ^ i % 2 = 1) := Lib.hid (fun i h1 h2 => by
          by_cases e : i = j
          · subst e; exact of_decide_eq_false hb
          · exact hr.out i h1 (by omega))
        clear hb hr
        go_wp2_with fail
        go_roundw
        case rel => exact ⟨j + 1, by go_num, by omega, by omega, HN, trivial⟩
        case measure => simp [intOf] <;> omega
    · obtain rfl : j = 64 := by omega
      have HZ := Lib.hid (bits_zero hm hr.out)
      clear hr
      go_wp2_with fail
      go_ret
      exact ⟨by rw [decide_eq_true HZ.out]; rfl, HK.out⟩
set_option maxRecDepth 100000 in
set_option maxHeartbeats 4000000 in
theorem may_in4 (wd mk : Nat) (hw : wd ≤ 64) (hw0 : wd = 0) (hm : mk < 18446744073709551616) (w : World) :
    Calls Tryz.prog 143 #[.agg #[.int .u8 4, .int .i64 (wd : Int), .int .u64 (mk : Int)]] w fun e w' => e = .returned (.bool (decide (mk / 2 ^ wd = 0))) ∧ Kept [] w w' := by
  have hH : Has (w.alloc (.cells #[.int .u8 4, .int .i64 (wd : Int), .int .u64 (mk : Int)] 57)) w.heap.size 57 [.int .u8 4, .int .i64 (wd : Int), .int .u64 (mk : Int)] := Has.new w _ _
  have hK : Kept [] w (w.alloc (.cells #[.int .u8 4, .int .i64 (wd : Int), .int .u64 (mk : Int)] 57)) := (Kept.refl [] w).alloc _
  have hz : ((wd : Int) != 0) = false := by rw [hw0]; rfl
  clear hw0
  go_enter Tryz.func143, Tryz.ntmps143
  go_wp2_with fail
  generalize w.alloc (.cells #[.int .u8 4, .int .i64 (wd : Int), .int .u64 (mk : Int)] 57) = W at *
  generalize w.heap.size = B at *
  obtain ⟨c0, c1, c2⟩ := cells3 hH
  have HK := Lib.hid hK
  clear hH hK
  go_loopw [4] (fun t wr => ∃ j : Nat, t = .int .i64 (j : Int) ∧ wd ≤ j ∧ j ≤ 64 ∧ Hid (∀ i, wd ≤ i → i < j → ¬ mk / 2 ^ i % 2 = 1) ∧ wr = W) (fun t _ => 64 - (intOf t).toNat)
  case atStart => exact ⟨wd, rfl, Nat.le_refl _, hw, Lib.hid (fun i h1 h2 => by omega), rfl⟩
  case round =>
    obtain ⟨j, rfl, hj, hj2, hr, rfl⟩ := hrel
    by_cases hlt : j < 64
    · have ht := bit_test mk j
      cases hb : decide (mk / 2 ^ j % 2 = 1) with
      | true =>
        rw [hb] at ht
        have HS := Lib.hid (bits_some hj (of_decide_eq_true hb))
        clear hb hr
        go_wp2_with fail
        go_ret
        exact ⟨by rw [decide_eq_false HS.out]; rfl, HK.out⟩
      | false =>
        rw [hb] at ht
        have HN : Hid (∀ i, wd ≤ i → i < j + 1 → ¬ mk / 2 ^ i % 2 = 1) := Lib.hid (fun i h1 h2 => by
          by_cases e : i = j
          · subst e; exact of_decide_eq_false hb
          · exact hr.out i h1 (by omega))
        clear hb hr
        go_wp2_with fail
        go_roundw
        case rel => exact ⟨j + 1, by go_num, by omega, by omega, HN, trivial⟩
        case measure => simp [intOf] <;> omega
    · obtain rfl : j = 64 := by omega
      have HZ := Lib.hid (bits_zero hm hr.out)
      clear hr
      go_wp2_with fail
      go_ret
      exact ⟨by rw [decide_eq_true HZ.out]; rfl, HK.out⟩
set_option maxRecDepth 100000 in
theorem may_out1a (wd : Int) (mk : Nat) (h : wd < 0) (w : World) :
    Calls Tryz.prog 143 #[.agg #[.int .u8 1, .int .i64 wd, .int .u64 (mk : Int)]] w fun e w' => e = .returned (.bool false) ∧ Kept [] w w' := by
  go_enter Tryz.func143, Tryz.ntmps143
  go_wp2_with fail
  go_ret
  exact ⟨rfl, (Kept.refl [] w).alloc _⟩
set_option maxRecDepth 100000 in
theorem may_out1b (wd : Int) (mk : Nat) (h0 : ¬ wd < 0) (h : 64 < wd) (w : World) :
    Calls Tryz.prog 143 #[.agg #[.int .u8 1, .int .i64 wd, .int .u64 (mk : Int)]] w fun e w' => e = .returned (.bool false) ∧ Kept [] w w' := by
  go_enter Tryz.func143, Tryz.ntmps143
  go_wp2_with fail
  go_ret
  exact ⟨rfl, (Kept.refl [] w).alloc _⟩
set_option maxRecDepth 100000 in
theorem may_out3a (wd : Int) (mk : Nat) (h : wd < 1) (w : World) :
    Calls Tryz.prog 143 #[.agg #[.int .u8 3, .int .i64 wd, .int .u64 (mk : Int)]] w fun e w' => e = .returned (.bool false) ∧ Kept [] w w' := by
  go_enter Tryz.func143, Tryz.ntmps143
  go_wp2_with fail
  go_ret
  exact ⟨rfl, (Kept.refl [] w).alloc _⟩
set_option maxRecDepth 100000 in
theorem may_out3b (wd : Int) (mk : Nat) (h0 : ¬ wd < 1) (h : 16 < wd) (w : World) :
    Calls Tryz.prog 143 #[.agg #[.int .u8 3, .int .i64 wd, .int .u64 (mk : Int)]] w fun e w' => e = .returned (.bool false) ∧ Kept [] w w' := by
  go_enter Tryz.func143, Tryz.ntmps143
  go_wp2_with fail
  go_ret
  exact ⟨rfl, (Kept.refl [] w).alloc _⟩
set_option maxRecDepth 100000 in
theorem may_out2 (wd : Int) (mk : Nat) (h : ¬ wd = 0) (w : World) :
    Calls Tryz.prog 143 #[.agg #[.int .u8 2, .int .i64 wd, .int .u64 (mk : Int)]] w fun e w' => e = .returned (.bool false) ∧ Kept [] w w' := by
  have hz : (wd != 0) = true := by rw [bne_iff_ne]; exact h
  go_enter Tryz.func143, Tryz.ntmps143
  go_wp2_with fail
  go_ret
  exact ⟨rfl, (Kept.refl [] w).alloc _⟩
set_option maxRecDepth 100000 in
theorem may_out4 (wd : Int) (mk : Nat) (h : ¬ wd = 0) (w : World) :
    Calls Tryz.prog 143 #[.agg #[.int .u8 4, .int .i64 wd, .int .u64 (mk : Int)]] w fun e w' => e = .returned (.bool false) ∧ Kept [] w w' := by
  have hz : (wd != 0) = true := by rw [bne_iff_ne]; exact h
  go_enter Tryz.func143, Tryz.ntmps143
  go_wp2_with fail
  go_ret
  exact ⟨rfl, (Kept.refl [] w).alloc _⟩
set_option maxRecDepth 100000 in
theorem may_out0 (wd : Int) (mk : Nat) (k : Nat) (c1 : ¬ k = 1) (c2 : ¬ k = 2) (c3 : ¬ k = 3) (c4 : ¬ k = 4) (w : World) :
    Calls Tryz.prog 143 #[.agg #[.int .u8 (k : Int), .int .i64 wd, .int .u64 (mk : Int)]] w fun e w' => e = .returned (.bool false) ∧ Kept [] w w' := by
  have e1 : ((k : Int) == 1) = false := by rw [beq_eq_false_iff_ne]; omega
  have e2 : ((k : Int) == 2) = false := by rw [beq_eq_false_iff_ne]; omega
  have e3 : ((k : Int) == 3) = false := by rw [beq_eq_false_iff_ne]; omega
  have e4 : ((k : Int) == 4) = false := by rw [beq_eq_false_iff_ne]; omega
  clear c1 c2 c3 c4
  go_enter Tryz.func143, Tryz.ntmps143
  go_wp2_with fail
  go_ret
  exact ⟨rfl, (Kept.refl [] w).alloc _⟩
theorem may_ok (k : Nat) (wd : Int) (mk : Nat) (hm : mk < 18446744073709551616) (w : World) :
    Calls Tryz.prog 143 #[typV k wd mk] w fun e w' => e = .returned (.bool (decide (may k wd mk))) ∧ Kept [] w w' := by
  unfold typV
  by_cases c1 : k = 1
  · subst c1
    by_cases h0 : wd < 0
    · rw [decide_eq_false (fun h => by have := h.1; omega)]; exact may_out1a wd mk h0 w
    · by_cases h1 : 64 < wd
      · rw [decide_eq_false (fun h => by have := h.1; omega)]; exact may_out1b wd mk h0 h1 w
      · obtain ⟨v, rfl⟩ := Int.eq_ofNat_of_zero_le (show 0 ≤ wd by omega)
        rw [show decide (may 1 (v : Int) mk) = decide (mk / 2 ^ v = 0) from decide_eq_decide.2 ⟨fun h => h.2, fun h => ⟨by omega, h⟩⟩]
        exact may_in1 v mk (by omega) hm w
  by_cases c3 : k = 3
  · subst c3
    by_cases h0 : wd < 1
    · rw [decide_eq_false (fun h => by have := h.1; omega)]; exact may_out3a wd mk h0 w
    · by_cases h1 : 16 < wd
      · rw [decide_eq_false (fun h => by have := h.1; omega)]; exact may_out3b wd mk h0 h1 w
      · obtain ⟨v, rfl⟩ := Int.eq_ofNat_of_zero_le (show 0 ≤ wd by omega)
        rw [show decide (may 3 (v : Int) mk) = decide (mk / 2 ^ v = 0) from decide_eq_decide.2 ⟨fun h => h.2, fun h => ⟨by omega, h⟩⟩]
        exact may_in3 v mk (by omega) (by omega) (by omega) hm w
  by_cases c2 : k = 2
  · subst c2
    by_cases h0 : wd = 0
    · subst h0
      rw [show decide (may 2 0 mk) = decide (mk / 2 ^ 0 = 0) from decide_eq_decide.2 ⟨fun h => h.2, fun h => ⟨by omega, h⟩⟩]
      exact may_in2 0 mk (by omega) rfl hm w
    · rw [decide_eq_false (fun h => by have := h.1; omega)]; exact may_out2 wd mk h0 w
  by_cases c4 : k = 4
  · subst c4
    by_cases h0 : wd = 0
    · subst h0
      rw [show decide (may 4 0 mk) = decide (mk / 2 ^ 0 = 0) from decide_eq_decide.2 ⟨fun h => h.2, fun h => ⟨by omega, h⟩⟩]
      exact may_in4 0 mk (by omega) rfl hm w
    · rw [decide_eq_false (fun h => by have := h.1; omega)]; exact may_out4 wd mk h0 w
  rw [decide_eq_false (fun h => by have := h.1; omega)]
  exact may_out0 wd mk k c1 c2 c3 c4 w
end Go.Proofs.YtoagghileebokaaGreatDoor.Kd

/-
  The document's Slots.
-/
namespace Go.Proofs.YtoagghileebokaaGreatDoor.Kd
open Go.RowKit Go.Proofs.YtoagghileebokaaGreatDoor.Ar Go.Maps
set_option linter.unusedVariables false

set_option maxRecDepth 100000 in
set_option maxHeartbeats 4000000 in
theorem slotsDoc_ok (k : Nat) (wd : Int) (mk : Nat) (n : Int) (hm : mk < 18446744073709551616) (w : World) :
    Calls Tryz.prog 113 #[typV k wd mk, .int .i64 n] w fun e w' => e = .returned (.tuple #[.int .i64 (slotsR k wd mk n), .int .i64 (err k wd mk n)]) ∧ Kept [] w w' := by
  have HM := Lib.hid (fun x => may_ok k wd mk hm x)
  have hka : ∀ (x : World) (o : Obj), Kept [] x (x.alloc o) := fun x o => (Kept.refl [] x).alloc o
  have hH : Has (w.alloc (.cells #[.int .u8 (k : Int), .int .i64 wd, .int .u64 (mk : Int)] 57)) w.heap.size 57 [.int .u8 (k : Int), .int .i64 wd, .int .u64 (mk : Int)] := Has.new w _ _
  unfold typV at *
  by_cases c1 : may k wd mk
  · rw [decide_eq_true c1] at HM
    obtain ⟨_, w0, w1, hk, w3⟩ := may_kind c1
    by_cases c2 : n < 0
    · have hE := err_neg (k := k) (wd := wd) (mk := mk) c2
      rw [show slotsR k wd mk n = 0 from if_neg (by rw [hE]; decide), hE]
      clear hE
      go_enter Tryz.func113, Tryz.ntmps113
      go_wp2_with fail
      refine (HM.out _).mono ?_
      rintro e W1 ⟨rfl, hk1⟩
      have hk2 := Lib.hid ((hka w _).trans hk1)
      obtain ⟨b0, b1, b2⟩ := cells3 (hH.keep0 hk1)
      clear hk1
      go_wp2_with fail
      go_ret2
      exact ⟨rfl, hk2.out⟩
    · by_cases c3 : k = 1 ∧ 0 < n
      · have hE : err k wd mk n = 2 := by unfold err; rw [if_pos (.inr (.inr ⟨c3.2, c3.1⟩))]
        rw [show slotsR k wd mk n = 0 from if_neg (by rw [hE]; decide), hE]
        obtain ⟨rfl, c4⟩ := c3
        have hn0 : (n != 0) = true := by rw [bne_iff_ne]; omega
        clear hE
        go_enter Tryz.func113, Tryz.ntmps113
        go_wp2_with fail
        refine (HM.out _).mono ?_
        rintro e W1 ⟨rfl, hk1⟩
        have hk2 := Lib.hid ((hka w _).trans hk1)
        obtain ⟨b0, b1, b2⟩ := cells3 (hH.keep0 hk1)
        clear hk1
        go_wp2_with fail
        go_ret2
        exact ⟨rfl, hk2.out⟩
      · have hE : err k wd mk n = if 4096 < n then 5 else 0 := by
          unfold err
          rw [if_neg]
          rintro (h | h | h)
          · exact h c1
          · exact c2 h
          · exact c3 ⟨h.2, h.1⟩
        by_cases c4 : 4096 < n
        · rw [if_pos c4] at hE
          rw [show slotsR k wd mk n = 0 from if_neg (by rw [hE]; decide), hE]
          clear hE
          by_cases c5 : k = 1
          · omega
          · have e1 : ((k : Int) == 1) = false := by rw [beq_eq_false_iff_ne]; omega
            go_enter Tryz.func113, Tryz.ntmps113
            go_wp2_with fail
            refine (HM.out _).mono ?_
            rintro e W1 ⟨rfl, hk1⟩
            have hk2 := Lib.hid ((hka w _).trans hk1)
            obtain ⟨b0, b1, b2⟩ := cells3 (hH.keep0 hk1)
            clear hk1
            go_wp2_with fail
            go_ret2
            exact ⟨rfl, hk2.out⟩
        · rw [if_neg c4] at hE
          obtain ⟨sb0, sb1⟩ := slots_bound hE
          rw [show slotsR k wd mk n = slots k wd n from if_pos hE, hE]
          clear hE
          rcases hk with rfl | rfl | rfl | rfl
          · obtain rfl : n = 0 := by omega
            clear hm c3 c1
            unfold slots
            rw [if_pos rfl]
            go_enter Tryz.func113, Tryz.ntmps113
            go_wp2_with fail
            refine (HM.out _).mono ?_
            rintro e W1 ⟨rfl, hk1⟩
            have hk2 := Lib.hid ((hka w _).trans hk1)
            obtain ⟨b0, b1, b2⟩ := cells3 (hH.keep0 hk1)
            clear hk1
            go_wp2_with fail
            go_ret2
            exact ⟨rfl, hk2.out⟩
          · clear hm c3 c1
            rw [show slots 2 wd n = n from rfl] at *
            go_enter Tryz.func113, Tryz.ntmps113
            go_wp2_with fail
            refine (HM.out _).mono ?_
            rintro e W1 ⟨rfl, hk1⟩
            have hk2 := Lib.hid ((hka w _).trans hk1)
            obtain ⟨b0, b1, b2⟩ := cells3 (hH.keep0 hk1)
            clear hk1
            go_wp2_with fail
            go_ret2
            exact ⟨rfl, hk2.out⟩
          · clear hm c3 c1
            rw [show slots 3 wd n = n * wd from rfl] at *
            have m0 : -9223372036854775808 ≤ n * wd := by omega
            have m1 : n * wd ≤ 9223372036854775807 := by omega
            go_enter Tryz.func113, Tryz.ntmps113
            go_wp2_with fail
            refine (HM.out _).mono ?_
            rintro e W1 ⟨rfl, hk1⟩
            have hk2 := Lib.hid ((hka w _).trans hk1)
            obtain ⟨b0, b1, b2⟩ := cells3 (hH.keep0 hk1)
            clear hk1
            go_wp2_with fail
            go_ret2
            exact ⟨rfl, hk2.out⟩
          · clear hm c3 c1
            rw [show slots 4 wd n = n from rfl] at *
            go_enter Tryz.func113, Tryz.ntmps113
            go_wp2_with fail
            refine (HM.out _).mono ?_
            rintro e W1 ⟨rfl, hk1⟩
            have hk2 := Lib.hid ((hka w _).trans hk1)
            obtain ⟨b0, b1, b2⟩ := cells3 (hH.keep0 hk1)
            clear hk1
            go_wp2_with fail
            go_ret2
            exact ⟨rfl, hk2.out⟩
  · rw [decide_eq_false c1] at HM
    have hE : err k wd mk n = 2 := by unfold err; rw [if_pos (.inl c1)]
    rw [show slotsR k wd mk n = 0 from if_neg (by rw [hE]; decide), hE]
    clear hE
    go_enter Tryz.func113, Tryz.ntmps113
    go_wp2_with fail
    refine (HM.out _).mono ?_
    rintro e W1 ⟨rfl, hk1⟩
    have hk2 := Lib.hid ((hka w _).trans hk1)
    clear hk1
    go_wp2_with fail
    go_ret2
    exact ⟨rfl, hk2.out⟩
end Go.Proofs.YtoagghileebokaaGreatDoor.Kd

/-
  The document's Size.
-/
namespace Go.Proofs.YtoagghileebokaaGreatDoor.Kd
open Go.RowKit Go.Proofs.YtoagghileebokaaGreatDoor.Ar Go.Maps
set_option linter.unusedVariables false

set_option maxRecDepth 100000 in
theorem sizeDoc_ok (k : Nat) (wd : Int) (mk : Nat) (n : Int) (hm : mk < 18446744073709551616) (w : World) :
    Calls Tryz.prog 161 #[typV k wd mk, .int .i64 n] w fun e w' => e = .returned (.tuple #[.int .i64 (sizeR k wd mk n), .int .i64 (err k wd mk n)]) ∧ Kept [] w w' := by
  have HL := Lib.hid (fun x => slotsDoc_ok k wd mk n hm x)
  have hka : ∀ (x : World) (o : Obj), Kept [] x (x.alloc o) := fun x o => (Kept.refl [] x).alloc o
  unfold sizeR slotsR typV at *
  by_cases h : err k wd mk n = 0
  · obtain ⟨b0, b1⟩ := slots_bound h
    simp only [h, if_true] at HL ⊢
    clear h
    obtain ⟨sl, hsl⟩ := Int.eq_ofNat_of_zero_le b0
    rw [hsl] at HL b1 ⊢
    clear hsl b0
    have hb : sl ≤ 65536 := by omega
    go_enter Tryz.func161, Tryz.ntmps161
    go_wp2_with fail
    refine (HL.out _).mono ?_
    rintro e W1 ⟨rfl, hk1⟩
    have hk2 := Lib.hid ((hka w _).trans hk1)
    clear hk1
    go_wp2_with fail
    go_loopw [8] (fun t wr => ∃ g : Nat, t = .int .i64 (g : Int) ∧ g ≤ (sl + 2) / 2 ∧ wr = W1) (fun t _ => 65536 - (intOf t).toNat)
    case atStart => exact ⟨0, rfl, Nat.zero_le _, rfl⟩
    case round =>
      obtain ⟨g, rfl, hg, rfl⟩ := hrel
      by_cases hlt : g * 2 < sl + 1
      · have hlt2 : (g : Int) * 2 < (sl : Int) + 1 := by omega
        go_wp2_with fail
        go_roundw
        case rel => exact ⟨g + 1, by go_num, by omega, trivial⟩
        case measure => simp [intOf] <;> omega
      · have hlt2 : ¬ (g : Int) * 2 < (sl : Int) + 1 := by omega
        have He := Lib.hid (show ((sl : Int) + 2) / 2 = (g : Int) by omega)
        go_wp2_with fail
        go_ret2
        exact ⟨by rw [He.out]; rfl, hk2.out⟩
  · simp only [h, if_false] at HL ⊢
    have he : (err k wd mk n != 0) = true := by rw [bne_iff_ne]; exact h
    generalize err k wd mk n = er at *
    go_enter Tryz.func161, Tryz.ntmps161
    go_wp2_with fail
    refine (HL.out _).mono ?_
    rintro e W1 ⟨rfl, hk1⟩
    have hk2 := Lib.hid ((hka w _).trans hk1)
    clear hk1
    go_wp2_with fail
    go_ret2
    exact ⟨rfl, hk2.out⟩
end Go.Proofs.YtoagghileebokaaGreatDoor.Kd

/-
  The document's Add, New, Get, Size.
-/
namespace Go.Proofs.YtoagghileebokaaGreatDoor.Tb
open Go.RowKit Go.Proofs.YtoagghileebokaaGreatDoor.Ar Go.Maps
set_option linter.unusedVariables false

section
variable {w : World} {A : Option Addr} {c : Nat} {l : List Ty}
theorem Back.before {w w1 w' : World} (h : Back w1 w' A c l) (k : Kept [] w w1) : Back w w' A c l := ⟨h.1, h.2.1, k.trans h.2.2⟩
theorem Back.later {w w1 w' : World} (h : Back w w1 A c l) (k : Kept [] w1 w') : Back w w' A c l := ⟨h.1, h.2.1.keep0 k, h.2.2.trans k⟩
theorem Fresh.before {w w1 : World} {v : Value} (h : Fresh w1 v) (k : Kept [] w w1) : Fresh w v := h.imp id fun ⟨b, hb, hl⟩ => ⟨b, hb, Nat.le_trans k.more hl⟩
/-- What New and Read hand back: a row and an error. -/
def RowPost (w : World) (r : List Ty × Int) (e : Ending) (w' : World) : Prop := ∃ A' c', e = .returned (.tuple #[.slice A' r.1.length c', .int .i64 r.2]) ∧ Back w w' A' c' r.1 ∧ ∀ g ∈ blk A', w.heap.size ≤ g
theorem newF_len {l : List Ty} (acc : List Ty) : (newF acc l).2 = 0 → newF acc l = (acc ++ l, 0) := by
  induction l generalizing acc with
  | nil => intro _; show (acc, 0) = _; rw [List.append_nil]
  | cons x l ih =>
    intro h
    by_cases he : addE acc x = 0
    · have e : newF acc (x :: l) = newF (acc ++ [x]) l := if_pos he
      rw [e] at h ⊢
      rw [ih _ h, List.append_assoc]
      rfl
    · have e : newF acc (x :: l) = ([], addE acc x) := if_neg he
      rw [e] at h
      exact absurd h he
end
end Go.Proofs.YtoagghileebokaaGreatDoor.Tb
