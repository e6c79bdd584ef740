/-
  Memory of package bits: a vector's struct, its words; the contracts of the functions that only look.
-/
import Derived.Test.YtijlaganpnoefaaDoorBtLen
import Derived.Test.YtijlaganpnoefaaDoorWordRow
import Derived.Lib.QuietBelow
namespace Go.Proofs.YtijlaganpnoefaaDoor.Bt
open Go.RowKit Go.Proofs.YtijlaganpnoefaaDoor.Ar Go.Proofs.YtijlaganpnoefaaDoor.Wd
set_option linter.unusedVariables false

theorem zeroWords (w : World) : Sem.run Tryd.prog (zeroValue 81) w = .ok (.agg (Array.replicate 1024 (.int .u64 0))) w := by
  kernel_rfl
theorem arrType : Tryd.prog.underlying 81 = some (.array (Tryd.prog.arrayLen 81) (Tryd.prog.elem 81)) := by kernel_rfl
theorem arrLen : Tryd.prog.arrayLen 81 = 1024 := by kernel_rfl
theorem arrElem (w : World) : (sizeOf (Tryd.prog.elem 81)).run Tryd.prog w = .ok 1 w := by kernel_rfl
theorem cutWords (k : Nat) (hk : k ≤ 1024) (b : Nat) (w : World) :
    (Instr.sliceAt 81 (.pointer (some ⟨b, 0, none⟩)) none (some (.int .i64 (k : Int))) none).run Tryd.prog w = .ok (.slice (some ⟨b, 0, none⟩) k 1024) w := by
  rw [run_sliceAt_array_h w _ _ arrType .i64 (k : Int) (by omega) (by rw [arrLen]; omega), arrElem, arrLen]
  simp [Result.andThen, slicedAt, add_at]

/-- A vector of n bits at block p, its words at block q. -/
structure Vec (w : World) (p q n : Nat) (ws : List Int) : Prop where
  head : Has w p 68 [.int .i64 (n : Int), .slice (some ⟨q, 0, none⟩) ((n + 63) / 64) 1024]
  row : Has w q 81 (ints ws)
  len : ws.length = 1024
  few : n ≤ 65536
  word : ∀ j, 0 ≤ ws.getD j 0 ∧ ws.getD j 0 < 18446744073709551616
namespace Vec
variable {w w' : World} {p q n : Nat} {ws : List Int}
theorem ne (h : Vec w p q n ws) : p ≠ q := Has.block_type h.head h.row (by decide)
theorem kept {S : List Nat} (h : Vec w p q n ws) (k : Kept S w w') (hp : p ∉ S) (hq : q ∉ S) : Vec w' p q n ws := ⟨h.head.kept k hp, h.row.kept k hq, h.len, h.few, h.word⟩
theorem keep0 (h : Vec w p q n ws) (k : Kept [] w w') : Vec w' p q n ws := h.kept k (by simp) (by simp)
theorem cell (h : Vec w p q n ws) (j : Nat) (hj : j < 1024) : w.cell? ⟨q, j, none⟩ = some (.int .u64 (ws.getD j 0)) := by
  rw [h.row.cell, ints_get ws j (by rw [h.len]; exact hj)]
theorem size (h : Vec w p q n ws) : w.cell? ⟨p, 0, none⟩ = some (.int .i64 (n : Int)) := by rw [h.head.cell]; rfl
theorem slice (h : Vec w p q n ws) : w.cell? ⟨p, 1, none⟩ = some (.slice (some ⟨q, 0, none⟩) ((n + 63) / 64) 1024) := by rw [h.head.cell]; rfl
end Vec

theorem vector_ok (n : Nat) (hn : n ≤ 65536) (w : World) :
    Calls Tryd.prog 36 #[.int .i64 n] w fun e w' => e = .returned (.pointer (some ⟨w.heap.size + 1, 0, none⟩)) ∧ Vec w' (w.heap.size + 1) w.heap.size n (List.replicate 1024 0) ∧ Kept [] w w' := by
  have zw := zeroWords
  have hc := cutWords ((n + 63) / 64) (by omega)
  have e : ((n : Int) + 64 - 1) / 64 = (((n + 63) / 64 : Nat) : Int) := by omega
  rw [← e] at hc
  have hz : Array.replicate 1024 (Value.int .u64 0) = (ints (List.replicate 1024 0)).toArray := by unfold ints; rw [List.map_replicate, List.toArray_replicate]
  rw [hz] at zw
  clear hz
  have Hl := Lib.hid (show (List.replicate 1024 (0 : Int)).length = 1024 by rw [List.length_replicate])
  have Hw : Hid (∀ j, 0 ≤ (List.replicate 1024 (0 : Int)).getD j 0 ∧ (List.replicate 1024 (0 : Int)).getD j 0 < 18446744073709551616) := Lib.hid (fun j => by
    have h0 : (List.replicate 1024 (0 : Int)).getD j 0 = 0 := by
      rw [List.getD, List.getElem?_replicate]
      split <;> rfl
    rw [h0]; omega)
  generalize List.replicate 1024 (0 : Int) = ws at *
  generalize hq : (n + 63) / 64 = nw at *
  have Hq := Lib.hid hq
  clear hq e
  go_enter Tryd.func36, Tryd.ntmps36
  go_wp2
  go_ret
  have h1 : Has (w.alloc (.cells (ints ws).toArray 81)) w.heap.size 81 (ints ws) := Has.new w _ _
  have h2 := Has.new (w.alloc (.cells (ints ws).toArray 81)) 68 [.int .i64 (n : Int), .slice (some ⟨w.heap.size, 0, none⟩) nw 1024]
  rw [World.size_alloc] at h2
  exact ⟨rfl, ⟨by rw [Hq.out]; exact h2, h1.alloc _, Hl.out, hn, Hw.out⟩, ((Kept.refl [] w).alloc _).alloc _⟩

theorem new_no (n : Int) (h : n < 0 ∨ 65536 < n) (w : World) :
    Calls Tryd.prog 25 #[.int .i64 n] w fun e w' => e = .returned (.tuple #[.pointer none, .int .i64 2]) ∧ w = w' := by
  rcases h with h | h
  · go_enter Tryd.func25, Tryd.ntmps25
    go_wp2_with fail
    go_ret2
    exact ⟨rfl, rfl⟩
  · have h' : ¬ n < 0 := by omega
    go_enter Tryd.func25, Tryd.ntmps25
    go_wp2_with fail
    go_ret2
    exact ⟨rfl, rfl⟩
theorem new_ok (n : Nat) (hn : n ≤ 65536) (w : World) :
    Calls Tryd.prog 25 #[.int .i64 n] w fun e w' => e = .returned (.tuple #[.pointer (some ⟨w.heap.size + 1, 0, none⟩), .int .i64 0]) ∧ Vec w' (w.heap.size + 1) w.heap.size n (List.replicate 1024 0) ∧ Kept [] w w' := by
  have h1 : ¬ (n : Int) < 0 := by omega
  have h2 : ¬ (65536 : Int) < n := by omega
  go_enter Tryd.func25, Tryd.ntmps25
  go_wp2_with fail
  refine (vector_ok n hn _).mono ?_
  rintro e w' ⟨rfl, h⟩
  have H := Lib.hid h
  clear h
  go_wp2_with fail
  go_ret2
  exact ⟨rfl, H.out⟩
theorem len_nil (w : World) : Calls Tryd.prog 34 #[.pointer none] w fun e w' => e = .returned (.int .i64 0) ∧ w = w' := by
  go_enter Tryd.func34, Tryd.ntmps34
  go_wp2_with fail
  go_ret
  exact ⟨rfl, rfl⟩
theorem len_ok {p q n : Nat} {ws : List Int} (w : World) (h : Vec w p q n ws) : Calls Tryd.prog 34 #[.pointer (some ⟨p, 0, none⟩)] w fun e w' => e = .returned (.int .i64 (n : Int)) ∧ w = w' := by
  have hc := h.size
  clear h
  go_enter Tryd.func34, Tryd.ntmps34
  go_wp2_with fail
  go_ret
  exact ⟨rfl, rfl⟩

/-- k bits from the bit i on lie within L. -/
def within (L : Nat) (i k : Int) : Bool := decide (0 ≤ i ∧ 0 ≤ k ∧ i + k ≤ L)
theorem within_iff (L : Nat) (i k : Int) : within L i k = true ↔ 0 ≤ i ∧ 0 ≤ k ∧ i + k ≤ L := by unfold within; exact decide_eq_true_iff
/-- OK or ErrArg. -/
def errOf (b : Bool) : Int := if b then 0 else 2

theorem check_nil (i k : Int) (w : World) : Calls Tryd.prog 39 #[.pointer none, .int .i64 i, .int .i64 k] w fun e w' => e = .returned (.int .i64 1) ∧ w = w' := by
  go_enter Tryd.func39, Tryd.ntmps39
  go_wp2_with fail
  go_ret
  exact ⟨rfl, rfl⟩
theorem check_ok {p q n : Nat} {ws : List Int} (w : World) (h : Vec w p q n ws) (i k : Int) (i1 : -9223372036854775808 ≤ i) (i2 : i ≤ 9223372036854775807) (k1 : -9223372036854775808 ≤ k) (k2 : k ≤ 9223372036854775807) :
    Calls Tryd.prog 39 #[.pointer (some ⟨p, 0, none⟩), .int .i64 i, .int .i64 k] w fun e w' => e = .returned (.int .i64 (errOf (within n i k))) ∧ w = w' := by
  have hc := h.size
  have hf := h.few
  clear h
  by_cases c1 : i < 0
  · have e : within n i k = false := by unfold within; exact decide_eq_false (by omega)
    rw [e]; clear e
    go_enter Tryd.func39, Tryd.ntmps39
    go_wp2_with fail
    go_ret
    exact ⟨rfl, rfl⟩
  · by_cases c2 : k < 0
    · have e : within n i k = false := by unfold within; exact decide_eq_false (by omega)
      rw [e]; clear e
      go_enter Tryd.func39, Tryd.ntmps39
      go_wp2_with fail
      go_ret
      exact ⟨rfl, rfl⟩
    · by_cases c3 : (n : Int) - i < k
      · have e : within n i k = false := by unfold within; exact decide_eq_false (by omega)
        rw [e]; clear e
        go_enter Tryd.func39, Tryd.ntmps39
        go_wp2_with fail
        go_ret
        exact ⟨rfl, rfl⟩
      · have e : within n i k = true := by unfold within; exact decide_eq_true (by omega)
        rw [e]; clear e
        go_enter Tryd.func39, Tryd.ntmps39
        go_wp2_with fail
        go_ret
        exact ⟨rfl, rfl⟩
theorem partsOf_ok (i : Nat) (hi : i ≤ 65536) (w : World) : Calls Tryd.prog 49 #[.int .i64 i] w fun e w' => e = .returned (.agg #[.int .i64 ((i / 64 : Nat) : Int), .int .i64 ((i % 64 : Nat) : Int)]) ∧ Kept [] w w' := by
  have Ed := Lib.hid (show (i : Int) / 64 = ((i / 64 : Nat) : Int) by omega)
  have Em := Lib.hid (show (i : Int) % 64 = ((i % 64 : Nat) : Int) by omega)
  go_enter Tryd.func49, Tryd.ntmps49
  go_wp2_with fail
  rw [Ed.out, Em.out]
  exact bodyPost_ret (v := .agg #[.int .i64 ((i / 64 : Nat) : Int), .int .i64 ((i % 64 : Nat) : Int)]) (by simp [results, Tryd.results49, go_sem]) rfl ⟨rfl, (Kept.refl [] w).alloc _⟩

/-- A piece, as a value: which word, from which bit on, how many. -/
def pieceV (k a n : Nat) : Value := .agg #[.int .i64 (k : Int), .int .i64 (a : Int), .int .i64 (n : Int)]
theorem first_ok (k a n : Nat) (hk : k ≤ 65536) (ha : a ≤ 65536) (w : World) : Calls Tryd.prog 46 #[pieceV k a n] w fun e w' => e = .returned (.int .i64 ((k * 64 + a : Nat) : Int)) ∧ Kept [] w w' := by
  have E := Lib.hid (show (k : Int) * 64 + (a : Int) = ((k * 64 + a : Nat) : Int) by omega)
  unfold pieceV
  go_enter Tryd.func46, Tryd.ntmps46
  go_wp2_with fail
  rw [E.out]
  go_ret
  exact ⟨rfl, (Kept.refl [] w).alloc _⟩
theorem bitsV_ok (v : Int) (a n : Nat) (h1 : 1 ≤ n) (h2 : a + n ≤ 64) : bitsV v a n = ((fld v.toNat a n : Nat) : Int) := by
  unfold bitsV
  rw [if_pos ((okB_iff _ _).2 (by omega))]
  rfl
theorem cut_ok {p q N : Nat} {ws : List Int} (w : World) (h : Vec w p q N ws) (k a n : Nat) (hk : k < (N + 63) / 64) (h1 : 1 ≤ n) (h2 : a + n ≤ 64) :
    Calls Tryd.prog 50 #[.pointer (some ⟨p, 0, none⟩), pieceV k a n] w fun e w' => e = .returned (.int .u64 ((fld (ws.getD k 0).toNat a n : Nat) : Int)) ∧ Kept [] w w' := by
  have hf := h.few
  have hw := h.word k
  have hsl : ∀ o, (w.alloc o).cell? ⟨p, 1, none⟩ = some (.slice (some ⟨q, 0, none⟩) ((N + 63) / 64) 1024) := fun o => (h.keep0 ((Kept.refl [] w).alloc o)).slice
  have hc : ∀ o, (w.alloc o).cell? ⟨q, k, none⟩ = some (.int .u64 (ws.getD k 0)) := fun o => (h.keep0 ((Kept.refl [] w).alloc o)).cell k (by omega)
  have hb : ∀ w, Calls Tryd.prog 56 #[.int .u64 (ws.getD k 0), .int .i64 a, .int .i64 n] w _ := fun w => bits_any (ws.getD k 0) a n hw.1 hw.2 (by omega) (by omega) (by omega) (by omega) w
  rw [bitsV_ok _ _ _ h1 h2] at hb
  generalize ws.getD k 0 = v at *
  generalize fld v.toNat a n = x at *
  generalize (N + 63) / 64 = nw at *
  clear h
  have Hb := Lib.hid hb
  clear hb
  unfold pieceV
  go_enter Tryd.func50, Tryd.ntmps50
  go_wp2_with fail
  go_quiet ((go_at_call 56; exact Calls.quiet_of (Hb.out _)))
  go_wp2_with fail
  go_ret
  exact ⟨rfl, ((Kept.refl [] w).alloc _).drewN _⟩
theorem up_ok (p i e : Int) (b : Option Addr) (w : World) :
    Calls Tryd.prog 40 #[.pointer b, .int .i64 i, .int .i64 e] w fun r w' => r = .returned (.func (.func 48) #[] #[.pointer (some ⟨w.heap.size + 1, 0, none⟩), .pointer (some ⟨w.heap.size + 2, 0, none⟩), .pointer (some ⟨w.heap.size, 0, none⟩)]) ∧ w' = ((w.alloc (.cells #[.pointer b] 47)).alloc (.cells #[.int .i64 i] 3)).alloc (.cells #[.int .i64 e] 3) := by
  go_enter Tryd.func40, Tryd.ntmps40
  go_wp2_with fail
  go_ret
  exact ⟨rfl, rfl⟩
theorem down_ok (p i : Int) (b : Option Addr) (w : World) :
    Calls Tryd.prog 45 #[.pointer b, .int .i64 i] w fun r w' => r = .returned (.func (.func 55) #[] #[.pointer (some ⟨w.heap.size + 1, 0, none⟩), .pointer (some ⟨w.heap.size, 0, none⟩)]) ∧ w' = (w.alloc (.cells #[.pointer b] 47)).alloc (.cells #[.int .i64 i] 3) := by
  go_enter Tryd.func45, Tryd.ntmps45
  go_wp2_with fail
  go_ret
  exact ⟨rfl, rfl⟩
end Go.Proofs.YtijlaganpnoefaaDoor.Bt
