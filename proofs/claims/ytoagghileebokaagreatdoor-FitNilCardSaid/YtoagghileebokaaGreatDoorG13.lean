/-
  Several texts in one: BtLen, BtMem, RoundKit, BtKeep.
-/
import Derived.Test.YtoagghileebokaaGreatDoorG03
import Derived.Lib.Strings
import Derived.Lib.Slices
import Derived.Lib.Small
import Derived.Lib.Walk
import Derived.Lib.BitFns
import Derived.Test.YtoagghileebokaaGreatDoorG11
import Derived.Lib.QuietBelow
import Derived.StillTail
import Derived.Deep.QuietTactic
import Derived.OrdersIn
import Derived.TacticsIn
import Derived.BigQuiet
import Derived.RangeFuncNested
import Derived.RangeFuncLeaves
import Derived.RangeFuncBound
import Derived.RangeFuncCalls
/-
  The contract of math/bits.Len64 at a word that is not 0: one more than its highest bit.
-/
namespace Go.Proofs.YtoagghileebokaaGreatDoor.Wd
open Go.RowKit

/-- One more than the highest bit that is 1; 0 of 0. -/
def lenN (v : Nat) : Nat := if v = 0 then 0 else Nat.log2 v + 1
theorem lenN_shift (v k : Nat) (h : 2 ^ k ≤ v) : lenN v = k + lenN (v / 2 ^ k) := by
  have hp := Nat.two_pow_pos k
  have h1 : v ≠ 0 := by omega
  have h2 : v / 2 ^ k ≠ 0 := by
    have := Nat.div_pos h hp
    omega
  unfold lenN
  rw [if_neg h1, if_neg h2]
  have e := (Nat.log2_eq_iff h2 (k := Nat.log2 (v / 2 ^ k))).1 rfl
  have : Nat.log2 v = k + Nat.log2 (v / 2 ^ k) := by
    rw [Nat.log2_eq_iff h1, Nat.pow_add, Nat.add_assoc, Nat.pow_add]
    exact ⟨(Nat.mul_comm _ _) ▸ (Nat.le_div_iff_mul_le hp).1 e.1, (Nat.mul_comm _ _) ▸ (Nat.div_lt_iff_lt_mul hp).1 e.2⟩
  omega
theorem lenN_bitLenAux : ∀ (f v : Nat), v < 2 ^ f → Lib.bitLenAux f v = lenN v
  | 0, v, h => by
    have : v = 0 := by simpa using h
    subst this; rfl
  | f + 1, v, h => by
    show (if v = 0 then 0 else 1 + Lib.bitLenAux f (v / 2)) = lenN v
    by_cases h0 : v = 0
    · subst h0; rfl
    · rw [if_neg h0, lenN_bitLenAux f (v / 2) (by rw [Nat.pow_succ] at h; omega)]
      by_cases h1 : v = 1
      · subst h1; decide
      · have := lenN_shift v 1 (by omega)
        simpa using this.symm
theorem lenN_bitLen (v : Nat) (h : v < 18446744073709551616) : Lib.bitLen v = lenN v := lenN_bitLenAux 64 v h
theorem tabSize : Lib.len8tab.size = 256 := by decide +kernel
theorem tabAll : ∀ k : Fin 256, (Lib.len8tab[k.val]'(by have := k.isLt; rw [tabSize]; exact this)).toNat = lenN k.val := by decide +kernel
theorem tabAt (k : Nat) (h : k < Lib.len8tab.size) : (Lib.len8tab[k]'h).toNat = lenN k := tabAll ⟨k, by rw [tabSize] at h; exact h⟩
theorem lenN_small (k : Nat) (h : k < 256) : lenN k ≤ 8 := by
  have := Lib.bitLen_le8 ⟨k, h⟩
  simp only at this
  rw [lenN_bitLen k (by omega)] at this
  exact this
theorem len_way (v y K : Int) (k : Nat) (hK : K = (k : Int)) (hk : k ≤ 56) (hy : y.toNat = v.toNat / 2 ^ k) (hg : 2 ^ k ≤ v.toNat) (h2 : y.toNat < 256) : wrap64 (K + wrap64 ((lenN y.toNat : Nat) : Int)) = ((lenN v.toNat : Nat) : Int) := by
  have hl := lenN_small _ h2
  rw [lenN_shift v.toNat k hg, ← hy]
  subst hK
  unfold wrap64
  omega
theorem len_way0 (v : Int) (h2 : v.toNat < 256) : wrap64 (wrap64 ((lenN v.toNat : Nat) : Int)) = ((lenN v.toNat : Nat) : Int) := by
  have hl := lenN_small _ h2
  unfold wrap64
  omega
set_option maxHeartbeats 4000000 in
set_option maxRecDepth 100000 in
theorem len64_any (v : Int) (h0 : 0 ≤ v) (h1 : v < 18446744073709551616) (w : World) :
    Calls Tryz.prog 102 #[.int .u64 v] w fun e w' => e = .returned (.int .i64 (lenN v.toNat : Nat)) ∧ w = w' := by
  have hs := tabSize
  go_enter Tryz.func102, Tryz.ntmps102
  go_wp2
  all_goals (go_ret; refine ⟨congrArg Ending.returned (congrArg (Value.int IntKind.i64) ?_), rfl⟩; rw [tabAt])
  all_goals first
    | refine len_way v _ _ 8 rfl (by omega) ?_ (by omega) (by omega) <;> omega
    | refine len_way v _ _ 16 rfl (by omega) ?_ (by omega) (by omega) <;> omega
    | refine len_way v _ _ 24 rfl (by omega) ?_ (by omega) (by omega) <;> omega
    | refine len_way v _ _ 32 rfl (by omega) ?_ (by omega) (by omega) <;> omega
    | refine len_way v _ _ 40 rfl (by omega) ?_ (by omega) (by omega) <;> omega
    | refine len_way v _ _ 48 rfl (by omega) ?_ (by omega) (by omega) <;> omega
    | refine len_way v _ _ 56 rfl (by omega) ?_ (by omega) (by omega) <;> omega
    | exact len_way0 v (by omega)
end Go.Proofs.YtoagghileebokaaGreatDoor.Wd

/-
  Memory of package bits: a vector's struct, its words; the contracts of the functions that only look.
-/
namespace Go.Proofs.YtoagghileebokaaGreatDoor.Bt
open Go.RowKit Go.Proofs.YtoagghileebokaaGreatDoor.Ar Go.Proofs.YtoagghileebokaaGreatDoor.Wd
set_option linter.unusedVariables false

theorem zeroWords (w : World) : Sem.run Tryz.prog (zeroValue 178) w = .ok (.agg (Array.replicate 1024 (.int .u64 0))) w := by
  kernel_rfl
theorem arrType : Tryz.prog.underlying 178 = some (.array (Tryz.prog.arrayLen 178) (Tryz.prog.elem 178)) := by kernel_rfl
theorem arrLen : Tryz.prog.arrayLen 178 = 1024 := by kernel_rfl
theorem arrElem (w : World) : (sizeOf (Tryz.prog.elem 178)).run Tryz.prog w = .ok 1 w := by kernel_rfl
theorem cutWords (k : Nat) (hk : k ≤ 1024) (b : Nat) (w : World) :
    (Instr.sliceAt 178 (.pointer (some ⟨b, 0, none⟩)) none (some (.int .i64 (k : Int))) none).run Tryz.prog w = .ok (.slice (some ⟨b, 0, none⟩) k 1024) w := by
  rw [run_sliceAt_array_h w _ _ arrType .i64 (k : Int) (by omega) (by rw [arrLen]; omega), arrElem, arrLen]
  simp [Result.andThen, slicedAt, add_at]

/-- A vector of n bits at block p, its words at block q. -/
structure Vec (w : World) (p q n : Nat) (ws : List Int) : Prop where
  head : Has w p 180 [.int .i64 (n : Int), .slice (some ⟨q, 0, none⟩) ((n + 63) / 64) 1024]
  row : Has w q 178 (ints ws)
  len : ws.length = 1024
  few : n ≤ 65536
  word : ∀ j, 0 ≤ ws.getD j 0 ∧ ws.getD j 0 < 18446744073709551616
namespace Vec
variable {w w' : World} {p q n : Nat} {ws : List Int}
theorem ne (h : Vec w p q n ws) : p ≠ q := Has.block_type h.head h.row (by decide)
theorem kept {S : List Nat} (h : Vec w p q n ws) (k : Kept S w w') (hp : p ∉ S) (hq : q ∉ S) : Vec w' p q n ws := ⟨h.head.kept k hp, h.row.kept k hq, h.len, h.few, h.word⟩
theorem keep0 (h : Vec w p q n ws) (k : Kept [] w w') : Vec w' p q n ws := h.kept k (by simp) (by simp)
theorem cell (h : Vec w p q n ws) (j : Nat) (hj : j < 1024) : w.cell? ⟨q, j, none⟩ = some (.int .u64 (ws.getD j 0)) := by
  rw [h.row.cell, ints_get ws j (by rw [h.len]; exact hj)]
theorem size (h : Vec w p q n ws) : w.cell? ⟨p, 0, none⟩ = some (.int .i64 (n : Int)) := by rw [h.head.cell]; rfl
theorem slice (h : Vec w p q n ws) : w.cell? ⟨p, 1, none⟩ = some (.slice (some ⟨q, 0, none⟩) ((n + 63) / 64) 1024) := by rw [h.head.cell]; rfl
end Vec

theorem vector_ok (n : Nat) (hn : n ≤ 65536) (w : World) :
    Calls Tryz.prog 73 #[.int .i64 n] w fun e w' => e = .returned (.pointer (some ⟨w.heap.size + 1, 0, none⟩)) ∧ Vec w' (w.heap.size + 1) w.heap.size n (List.replicate 1024 0) ∧ Kept [] w w' := by
  have zw := zeroWords
  have hc := cutWords ((n + 63) / 64) (by omega)
  have e : ((n : Int) + 64 - 1) / 64 = (((n + 63) / 64 : Nat) : Int) := by omega
  rw [← e] at hc
  have hz : Array.replicate 1024 (Value.int .u64 0) = (ints (List.replicate 1024 0)).toArray := by unfold ints; rw [List.map_replicate, List.toArray_replicate]
  rw [hz] at zw
  clear hz
  have Hl := Lib.hid (show (List.replicate 1024 (0 : Int)).length = 1024 by rw [List.length_replicate])
  have Hw : Hid (∀ j, 0 ≤ (List.replicate 1024 (0 : Int)).getD j 0 ∧ (List.replicate 1024 (0 : Int)).getD j 0 < 18446744073709551616) := Lib.hid (fun j => by
    have h0 : (List.replicate 1024 (0 : Int)).getD j 0 = 0 := by
      rw [List.getD, List.getElem?_replicate]
      split <;> rfl
    rw [h0]; omega)
  generalize List.replicate 1024 (0 : Int) = ws at *
  generalize hq : (n + 63) / 64 = nw at *
  have Hq := Lib.hid hq
  clear hq e
  go_enter Tryz.func73, Tryz.ntmps73
  go_wp2
  go_ret
  have h1 : Has (w.alloc (.cells (ints ws).toArray 178)) w.heap.size 178 (ints ws) := Has.new w _ _
  have h2 := Has.new (w.alloc (.cells (ints ws).toArray 178)) 180 [.int .i64 (n : Int), .slice (some ⟨w.heap.size, 0, none⟩) nw 1024]
  rw [World.size_alloc] at h2
  exact ⟨rfl, ⟨by rw [Hq.out]; exact h2, h1.alloc _, Hl.out, hn, Hw.out⟩, ((Kept.refl [] w).alloc _).alloc _⟩

theorem new_no (n : Int) (h : n < 0 ∨ 65536 < n) (w : World) :
    Calls Tryz.prog 43 #[.int .i64 n] w fun e w' => e = .returned (.tuple #[.pointer none, .int .i64 2]) ∧ w = w' := by
  rcases h with h | h
  · go_enter Tryz.func43, Tryz.ntmps43
    go_wp2_with fail
    go_ret2
    exact ⟨rfl, rfl⟩
  · have h' : ¬ n < 0 := by omega
    go_enter Tryz.func43, Tryz.ntmps43
    go_wp2_with fail
    go_ret2
    exact ⟨rfl, rfl⟩
theorem new_ok (n : Nat) (hn : n ≤ 65536) (w : World) :
    Calls Tryz.prog 43 #[.int .i64 n] w fun e w' => e = .returned (.tuple #[.pointer (some ⟨w.heap.size + 1, 0, none⟩), .int .i64 0]) ∧ Vec w' (w.heap.size + 1) w.heap.size n (List.replicate 1024 0) ∧ Kept [] w w' := by
  have h1 : ¬ (n : Int) < 0 := by omega
  have h2 : ¬ (65536 : Int) < n := by omega
  go_enter Tryz.func43, Tryz.ntmps43
  go_wp2_with fail
  refine (vector_ok n hn _).mono ?_
  rintro e w' ⟨rfl, h⟩
  have H := Lib.hid h
  clear h
  go_wp2_with fail
  go_ret2
  exact ⟨rfl, H.out⟩
theorem len_nil (w : World) : Calls Tryz.prog 74 #[.pointer none] w fun e w' => e = .returned (.int .i64 0) ∧ w = w' := by
  go_enter Tryz.func74, Tryz.ntmps74
  go_wp2_with fail
  go_ret
  exact ⟨rfl, rfl⟩
theorem len_ok {p q n : Nat} {ws : List Int} (w : World) (h : Vec w p q n ws) : Calls Tryz.prog 74 #[.pointer (some ⟨p, 0, none⟩)] w fun e w' => e = .returned (.int .i64 (n : Int)) ∧ w = w' := by
  have hc := h.size
  clear h
  go_enter Tryz.func74, Tryz.ntmps74
  go_wp2_with fail
  go_ret
  exact ⟨rfl, rfl⟩

/-- k bits from the bit i on lie within L. -/
def within (L : Nat) (i k : Int) : Bool := decide (0 ≤ i ∧ 0 ≤ k ∧ i + k ≤ L)
theorem within_iff (L : Nat) (i k : Int) : within L i k = true ↔ 0 ≤ i ∧ 0 ≤ k ∧ i + k ≤ L := by unfold within; exact decide_eq_true_iff
/-- OK or ErrArg. -/
def errOf (b : Bool) : Int := if b then 0 else 2

theorem check_nil (i k : Int) (w : World) : Calls Tryz.prog 97 #[.pointer none, .int .i64 i, .int .i64 k] w fun e w' => e = .returned (.int .i64 1) ∧ w = w' := by
  go_enter Tryz.func97, Tryz.ntmps97
  go_wp2_with fail
  go_ret
  exact ⟨rfl, rfl⟩
theorem check_ok {p q n : Nat} {ws : List Int} (w : World) (h : Vec w p q n ws) (i k : Int) (i1 : -9223372036854775808 ≤ i) (i2 : i ≤ 9223372036854775807) (k1 : -9223372036854775808 ≤ k) (k2 : k ≤ 9223372036854775807) :
    Calls Tryz.prog 97 #[.pointer (some ⟨p, 0, none⟩), .int .i64 i, .int .i64 k] w fun e w' => e = .returned (.int .i64 (errOf (within n i k))) ∧ w = w' := by
  have hc := h.size
  have hf := h.few
  clear h
  by_cases c1 : i < 0
  · have e : within n i k = false := by unfold within; exact decide_eq_false (by omega)
    rw [e]; clear e
    go_enter Tryz.func97, Tryz.ntmps97
    go_wp2_with fail
    go_ret
    exact ⟨rfl, rfl⟩
  · by_cases c2 : k < 0
    · have e : within n i k = false := by unfold within; exact decide_eq_false (by omega)
      rw [e]; clear e
      go_enter Tryz.func97, Tryz.ntmps97
      go_wp2_with fail
      go_ret
      exact ⟨rfl, rfl⟩
    · by_cases c3 : (n : Int) - i < k
      · have e : within n i k = false := by unfold within; exact decide_eq_false (by omega)
        rw [e]; clear e
        go_enter Tryz.func97, Tryz.ntmps97
        go_wp2_with fail
        go_ret
        exact ⟨rfl, rfl⟩
      · have e : within n i k = true := by unfold within; exact decide_eq_true (by omega)
        rw [e]; clear e
        go_enter Tryz.func97, Tryz.ntmps97
        go_wp2_with fail
        go_ret
        exact ⟨rfl, rfl⟩
theorem partsOf_ok (i : Nat) (hi : i ≤ 65536) (w : World) : Calls Tryz.prog 131 #[.int .i64 i] w fun e w' => e = .returned (.agg #[.int .i64 ((i / 64 : Nat) : Int), .int .i64 ((i % 64 : Nat) : Int)]) ∧ Kept [] w w' := by
  have Ed := Lib.hid (show (i : Int) / 64 = ((i / 64 : Nat) : Int) by omega)
  have Em := Lib.hid (show (i : Int) % 64 = ((i % 64 : Nat) : Int) by omega)
  go_enter Tryz.func131, Tryz.ntmps131
  go_wp2_with fail
  rw [Ed.out, Em.out]
  exact bodyPost_ret (v := .agg #[.int .i64 ((i / 64 : Nat) : Int), .int .i64 ((i % 64 : Nat) : Int)]) (by simp [results, Tryz.results131, go_sem]) rfl ⟨rfl, (Kept.refl [] w).alloc _⟩

/-- A piece, as a value: which word, from which bit on, how many. -/
def pieceV (k a n : Nat) : Value := .agg #[.int .i64 (k : Int), .int .i64 (a : Int), .int .i64 (n : Int)]
theorem first_ok (k a n : Nat) (hk : k ≤ 65536) (ha : a ≤ 65536) (w : World) : Calls Tryz.prog 101 #[pieceV k a n] w fun e w' => e = .returned (.int .i64 ((k * 64 + a : Nat) : Int)) ∧ Kept [] w w' := by
  have E := Lib.hid (show (k : Int) * 64 + (a : Int) = ((k * 64 + a : Nat) : Int) by omega)
  unfold pieceV
  go_enter Tryz.func101, Tryz.ntmps101
  go_wp2_with fail
  rw [E.out]
  go_ret
  exact ⟨rfl, (Kept.refl [] w).alloc _⟩
theorem bitsV_ok (v : Int) (a n : Nat) (h1 : 1 ≤ n) (h2 : a + n ≤ 64) : bitsV v a n = ((fld v.toNat a n : Nat) : Int) := by
  unfold bitsV
  rw [if_pos ((okB_iff _ _).2 (by omega))]
  rfl
theorem cut_ok {p q N : Nat} {ws : List Int} (w : World) (h : Vec w p q N ws) (k a n : Nat) (hk : k < (N + 63) / 64) (h1 : 1 ≤ n) (h2 : a + n ≤ 64) :
    Calls Tryz.prog 132 #[.pointer (some ⟨p, 0, none⟩), pieceV k a n] w fun e w' => e = .returned (.int .u64 ((fld (ws.getD k 0).toNat a n : Nat) : Int)) ∧ Kept [] w w' := by
  have hf := h.few
  have hw := h.word k
  have hsl : ∀ o, (w.alloc o).cell? ⟨p, 1, none⟩ = some (.slice (some ⟨q, 0, none⟩) ((N + 63) / 64) 1024) := fun o => (h.keep0 ((Kept.refl [] w).alloc o)).slice
  have hc : ∀ o, (w.alloc o).cell? ⟨q, k, none⟩ = some (.int .u64 (ws.getD k 0)) := fun o => (h.keep0 ((Kept.refl [] w).alloc o)).cell k (by omega)
  have hb : ∀ w, Calls Tryz.prog 158 #[.int .u64 (ws.getD k 0), .int .i64 a, .int .i64 n] w _ := fun w => bits_any (ws.getD k 0) a n hw.1 hw.2 (by omega) (by omega) (by omega) (by omega) w
  rw [bitsV_ok _ _ _ h1 h2] at hb
  generalize ws.getD k 0 = v at *
  generalize fld v.toNat a n = x at *
  generalize (N + 63) / 64 = nw at *
  clear h
  have Hb := Lib.hid hb
  clear hb
  unfold pieceV
  go_enter Tryz.func132, Tryz.ntmps132
  go_wp2_with fail
  go_quiet ((go_at_call 158; exact Calls.quiet_of (Hb.out _)))
  go_wp2_with fail
  go_ret
  exact ⟨rfl, ((Kept.refl [] w).alloc _).drewN _⟩
theorem up_ok (p i e : Int) (b : Option Addr) (w : World) :
    Calls Tryz.prog 98 #[.pointer b, .int .i64 i, .int .i64 e] w fun r w' => r = .returned (.func (.func 130) #[] #[.pointer (some ⟨w.heap.size + 1, 0, none⟩), .pointer (some ⟨w.heap.size + 2, 0, none⟩), .pointer (some ⟨w.heap.size, 0, none⟩)]) ∧ w' = ((w.alloc (.cells #[.pointer b] 70)).alloc (.cells #[.int .i64 i] 3)).alloc (.cells #[.int .i64 e] 3) := by
  go_enter Tryz.func98, Tryz.ntmps98
  go_wp2_with fail
  go_ret
  exact ⟨rfl, rfl⟩
theorem down_ok (p i : Int) (b : Option Addr) (w : World) :
    Calls Tryz.prog 100 #[.pointer b, .int .i64 i] w fun r w' => r = .returned (.func (.func 134) #[] #[.pointer (some ⟨w.heap.size + 1, 0, none⟩), .pointer (some ⟨w.heap.size, 0, none⟩)]) ∧ w' = (w.alloc (.cells #[.pointer b] 70)).alloc (.cells #[.int .i64 i] 3) := by
  go_enter Tryz.func100, Tryz.ntmps100
  go_wp2_with fail
  go_ret
  exact ⟨rfl, rfl⟩
end Go.Proofs.YtoagghileebokaaGreatDoor.Bt

/-
  A region that draws its order, whose first k operations only read (callees may make memory of their own) and all come ahead of the rest, which come one behind the other: one walk of the text's order serves every order, also in a round of a range over a function. No program is named here.
-/
namespace Go.Proofs.YtoagghileebokaaGreatDoor.Rk

/-- No bounds; in a round, or in none. -/
def fence (r : Option Nat) : Fence := { Fence.wide with round := r }
theorem fence_none : fence none = Fence.wide := rfl
theorem fence_round (l : Nat) : Fence.wide.inRound l = fence (some l) := rfl

def plainB (o : Oper) : Bool := o.guard.isNone && (match o.op with | .defer _ => false | _ => true)
theorem plainB_guard {o : Oper} (h : plainB o = true) : o.guard = none := by
  unfold plainB at h
  rw [Bool.and_eq_true] at h
  exact Option.isNone_iff_eq_none.1 h.1
theorem plainB_defer {o : Oper} (h : plainB o = true) : ∀ c, o.op ≠ .defer c := by
  intro c e
  unfold plainB at h
  rw [e] at h
  simp at h
theorem wanted_of {o : Oper} (h : o.guard = none) (y : Nat → Option Bool) : Region.wanted o y = true := by
  unfold Region.wanted
  rw [h]

section
variable {P : Program} {C : World → Prop} {md : Region.Mode} {r : Option Nat} {m : Nat}

theorem wpIn_of_quiet {o : Oper} {a : Act} {K : Act → Prop} {K' : Act → World → Prop} {Q' : Exit → Act → World → Prop} {w : World} (hp : plainB o = true) (hw : C w)
    (h : ∀ a w', C w' → K a → K' a w') (hh : o.quiet P a C K) : o.wpIn (fence r) m P a w K' Q' := by
  refine ⟨fun _ _ => trivial, ?_⟩
  rw [Oper.semAt_eq _ _ _ (plainB_defer hp)]
  obtain ⟨v, hv, hK⟩ := hh
  have hx := hv w hw
  unfold Oper.quietAt at hx
  generalize (execOp a.eval o).run P w = res at hx ⊢
  match res, hx with
  | .ok (.value u) w', hx =>
    obtain ⟨rfl, rfl⟩ := hx
    exact h _ _ hw hK
  | .ok .skip w', hx =>
    obtain ⟨rfl, rfl⟩ := hx
    exact h _ _ hw hK
  | .ok (.enter f args) w', hx =>
    obtain ⟨rfl, hc⟩ := hx
    refine ⟨fun hd => (by cases hd), ?_⟩
    have hc' : CallsIn (fence r) (m - 1) P f args w' fun e w'' => e = .returned v ∧ C w'' := callsIn_wide (n := m - 1) |>.2 hc
    exact hc'.mono fun e w'' he => by
      obtain ⟨rfl, hC⟩ := he
      exact h _ _ hC hK

/-- In the place of an operation that comes late: nothing. -/
def nop (o : Oper) : Oper := { o with dst := none, op := .assign (.const undef), guard := none }
def nopped (k : Nat) (l : List Oper) : List Oper := l.take k ++ (l.drop k).map nop
theorem nopped_length (k : Nat) (l : List Oper) : (nopped k l).length = l.length := by
  unfold nopped
  rw [List.length_append, List.length_map, ← List.length_append, List.take_append_drop]
theorem nopped_low (k : Nat) (l : List Oper) (j : Nat) (h : j < k) : (nopped k l)[j]? = l[j]? := by
  unfold nopped
  by_cases hj : j < l.length
  · rw [List.getElem?_append_left (by rw [List.length_take]; omega), List.getElem?_take_of_lt h]
  · rw [List.getElem?_eq_none (by simp; omega), List.getElem?_eq_none (by omega)]
theorem nopped_high (k : Nat) (l : List Oper) (j : Nat) (h : k ≤ j) : (nopped k l)[j]? = l[j]?.map nop := by
  unfold nopped
  by_cases hk : k ≤ l.length
  · rw [List.getElem?_append_right (by rw [List.length_take]; omega), List.length_take, Nat.min_eq_left hk, List.getElem?_map, List.getElem?_drop]
    congr 2
    omega
  · rw [List.getElem?_eq_none (by simp; omega), List.getElem?_eq_none (by omega)]
    rfl
theorem nopped_after (k : Nat) (l : List Oper) (j : Nat) : (nopped k l)[j]?.map (·.after) = l[j]?.map (·.after) := by
  rcases Nat.lt_or_ge j k with h | h
  · rw [nopped_low k l j h]
  · rw [nopped_high k l j h, Option.map_map]
    rfl
theorem ready_nopped (k : Nat) (l : List Oper) (listed : Array Bool) (j : Nat) :
    j ∈ Region.ready md (nopped k l).toArray listed ↔ j ∈ Region.ready md l.toArray listed := by
  rw [mem_ready, mem_ready]
  have e := nopped_after k l j
  simp only [List.getElem?_toArray]
  refine and_congr_right fun _ => ?_
  constructor
  · rintro ⟨o, ho, hall⟩
    rw [ho] at e
    cases h : l[j]? with
    | none => rw [h] at e; cases e
    | some o' =>
      rw [h] at e
      injection e with e
      replace e : o.after = o'.after := e
      exact ⟨o', rfl, by rw [← e]; exact hall⟩
  · rintro ⟨o, ho, hall⟩
    rw [ho] at e
    cases h : (nopped k l)[j]? with
    | none => rw [h] at e; cases e
    | some o' =>
      rw [h] at e
      injection e with e
      replace e : o'.after = o.after := e
      exact ⟨o', rfl, by rw [e]; exact hall⟩
theorem ready_nil {k : Nat} {l : List Oper} {listed : Array Bool} (h : Region.ready md l.toArray listed = []) : Region.ready md (nopped k l).toArray listed = [] := by
  refine List.eq_nil_iff_forall_not_mem.2 fun j hj => ?_
  rw [ready_nopped, h] at hj
  cases hj

/-- The rest comes in its order, whatever fuel there is. -/
theorem run_rest {ops : Array Oper} {Q : Exit → Act → World → Prop} : ∀ (rest : List Oper) (j : Nat) (listed : Array Bool) (a : Act) (w : World) (fuel : Nat), (∀ t, rest[t]? = ops[j + t]?) → rest.length ≤ fuel →
    Region.seqB md ops rest.length j listed = true → wpListIn (fence r) m P ops Q rest a w → wpAnyIn (fence r) m P md ops Q fuel listed a w
  | [], j, listed, a, w, fuel, _, _, hB, h => by
    have h0 : Region.ready md ops listed = [] := List.isEmpty_iff.1 hB
    cases fuel with
    | zero => exact ⟨h0, h⟩
    | succ f => exact ⟨fun _ => h, fun i hi => (by rw [h0] at hi; cases hi)⟩
  | o :: rest, j, listed, a, w, fuel, hl, hf, hB, h => by
    obtain ⟨f, rfl⟩ : ∃ f, fuel = f + 1 := ⟨fuel - 1, by simp at hf; omega⟩
    rw [List.length_cons, Region.seqB, Bool.and_eq_true, decide_eq_true_eq] at hB
    have h0 := hl 0
    rw [Nat.add_zero] at h0
    refine ⟨fun hr => (by rw [hB.1] at hr; cases hr), fun i hi => ?_⟩
    rw [hB.1] at hi
    obtain rfl : i = j := by simpa using hi
    have hw : wpOpIn (fence r) m P ops Q i (wpListIn (fence r) m P ops Q rest) a w := by
      unfold wpOpIn
      rw [← h0]
      exact h
    refine wpOpIn_mono (fun a' w' h' => run_rest rest (i + 1) _ a' w' f (fun t => ?_) (by simp at hf; omega) hB.2 h') hw
    have := hl (t + 1)
    rw [show i + 1 + t = i + (t + 1) by omega, ← this]
    rfl

/-- What the quiet walk says of the end, once nothing but the rest is to come. -/
theorem quiet_end {k : Nat} {l : List Oper} {Q : Act → Prop} : ∀ (g j : Nat) (listed : Array Bool) (a : Act) (fuel : Nat), g ≤ fuel → k ≤ j → Region.seqB md l.toArray g j listed = true →
    wpAnyQ P md (nopped k l).toArray C Q fuel listed a → Q a
  | 0, j, listed, a, fuel, _, _, hB, h => by
    have h0 := ready_nil (k := k) (List.isEmpty_iff.1 hB)
    cases fuel with
    | zero => exact h.2
    | succ f => exact h.1 h0
  | g + 1, j, listed, a, fuel, hf, hj, hB, h => by
    obtain ⟨f, rfl⟩ : ∃ f, fuel = f + 1 := ⟨fuel - 1, by omega⟩
    rw [Region.seqB, Bool.and_eq_true, decide_eq_true_eq] at hB
    have hm : j ∈ Region.ready md l.toArray listed := by rw [hB.1]; simp
    obtain ⟨_, o, ho, _⟩ := mem_ready.1 hm
    rw [List.getElem?_toArray] at ho
    have hq := h.2 j ((ready_nopped k l listed j).2 hm)
    unfold qOp at hq
    rw [List.getElem?_toArray, nopped_high k l j hj, ho] at hq
    have hw : Region.wanted (nop o) (yielded (nopped k l).toArray a.tmps) = true := wanted_of rfl _
    simp only [Option.map_some] at hq
    rw [if_pos hw] at hq
    obtain ⟨v, _, hn⟩ := hq
    exact quiet_end g (j + 1) _ a f (by omega) (by omega) hB.2 hn

/-- The first k have come, and nothing else. -/
def front (k N : Nat) : Array Bool := (List.replicate k true ++ List.replicate (N - k) false).toArray
theorem front_of {k : Nat} {ops : Array Oper} {listed : Array Bool} (hk : k ≤ ops.size) (inv : HeadInv md ops k listed) (h : ¬ ∃ i, i < k ∧ listed.getD i true = false) : listed = front k ops.size := by
  have hs := inv.size
  apply Array.ext
  · rw [hs]
    simp [front]
    omega
  · intro i h1 h2
    have e : listed.getD i true = listed[i] := by simp [h1]
    rcases Nat.lt_or_ge i k with hi | hi
    · have hx : listed.getD i true ≠ false := fun hh => h ⟨i, hi, hh⟩
      rw [e] at hx
      simp [front, hi]
      simpa using hx
    · have hx := inv.tail i hi (by omega)
      rw [e] at hx
      have hi' : ¬ i < k := by omega
      simp [front, List.getElem_append, hi']
      exact hx

def earlierB (l : List Oper) : Bool := (List.range l.length).all fun j => match l[j]? with | some o => o.after.all fun e => decide (e.on < j) | none => true
theorem ready_some {k : Nat} {l : List Oper} {listed : Array Bool} (hk : k ≤ l.length) (hE : earlierB l = true) (inv : HeadInv md l.toArray k listed) (h : ∃ i, i < k ∧ listed.getD i true = false) : Region.ready md l.toArray listed ≠ [] := by
  obtain ⟨i, hi, hu⟩ := h
  induction i using Nat.strongRecOn with
  | _ i ih =>
    have hil : i < l.length := by omega
    by_cases hall : ∀ e ∈ l[i].after, Region.binds md e = true → listed.getD e.on false = true
    · intro h0
      have hm : i ∈ Region.ready md l.toArray listed := mem_ready.2 ⟨hu, l[i], by simp [hil], hall⟩
      rw [h0] at hm
      cases hm
    · simp only [Classical.not_forall] at hall
      obtain ⟨e, he, _, hne⟩ := hall
      have h1 := List.all_eq_true.1 hE i (List.mem_range.2 hil)
      rw [List.getElem?_eq_getElem hil] at h1
      have h2 : e.on < i := by
        have := Array.all_eq_true_iff_forall_mem.1 h1 e he
        simpa using this
      refine ih e.on h2 (by omega) ?_
      have hsz := inv.size
      refine getD_in (by rw [hsz]; simp; omega) ?_
      simpa using hne

theorem any_of_quiet {k : Nat} {l : List Oper} {Qh : Act → Prop} {Q : Exit → Act → World → Prop} (hk : k < l.length) (hE : earlierB l = true) (hP : (l.take k).all plainB = true)
    (hs : Region.sinkB md l.toArray k = true) (hc : Region.chainB md l.toArray k = true) (hB : Region.seqB md l.toArray (l.length - k) k (front k l.length) = true)
    (hQ : ∀ a w, C w → Qh a → wpListIn (fence r) m P l.toArray Q (l.drop k) a w) :
    ∀ (fuel : Nat) (listed : Array Bool) (a : Act) (w : World) (U : List Nat), HeadInv md l.toArray k listed → (∀ i, i < k → listed.getD i true = false → i ∈ U) → U.length + (l.length - k) ≤ fuel → C w →
      wpAnyQ P md (nopped k l).toArray C Qh fuel listed a → wpAnyIn (fence r) m P md l.toArray Q fuel listed a w := by
  intro fuel
  induction fuel with
  | zero => intro listed a w U _ _ hf; omega
  | succ f ih =>
    intro listed a w U inv hU hf hC h
    by_cases hex : ∃ i, i < k ∧ listed.getD i true = false
    · refine ⟨fun h0 => absurd h0 (ready_some (by omega) hE inv hex), fun i hi => ?_⟩
      obtain ⟨i0, hi0, hu0⟩ := hex
      have hik : i < k := by
        rcases Nat.lt_or_ge i k with hlt | hge
        · exact hlt
        · exact absurd hi (tail_waits hs hc (by simpa using hk) inv _ i0 rfl hi0 hu0 i hge)
      have hq := h.2 i ((ready_nopped k l listed i).2 hi)
      have hui := (mem_ready.1 hi).1
      have hil : i < l.length := by omega
      have hp : plainB l[i] = true := List.all_eq_true.1 hP _ (List.mem_iff_getElem?.2 ⟨i, by rw [List.getElem?_take_of_lt hik, List.getElem?_eq_getElem hil]⟩)
      unfold qOp at hq
      rw [List.getElem?_toArray, nopped_low k l i hik, List.getElem?_eq_getElem hil] at hq
      unfold wpOpIn
      rw [List.getElem?_toArray, List.getElem?_eq_getElem hil]
      simp only at hq ⊢
      rw [if_pos (wanted_of (plainB_guard hp) _)] at hq ⊢
      refine wpIn_of_quiet hp hC (fun a' w' hC' hn => ?_) hq
      have hiU := hU i hik hui
      have hlen := List.length_erase_of_mem hiU
      have hpos := List.length_pos_of_mem hiU
      refine ih (listed.setIfInBounds i true) a' w' (U.erase i) (inv.set hi hik) (fun j hj hju => ?_) (by omega) hC' hn
      have hji : j ≠ i := by
        rintro rfl
        have hlt : j < listed.size := by rw [inv.size]; simpa using hil
        simp [hlt] at hju
      rw [getD_set_ne true (Ne.symm hji)] at hju
      exact (List.mem_erase_of_ne hji).2 (hU j hj hju)
    · have he := front_of (by simp; omega) inv hex
      have he' : listed = front k l.length := by simpa using he
      subst he'
      have hg := quiet_end (k := k) (l.length - k) k _ a (f + 1) (by omega) (Nat.le_refl _) hB h
      refine run_rest (l.drop k) k _ a w (f + 1) (fun t => by simp) (by simp; omega) (by simpa using hB) (hQ a w hC hg)

theorem quiet_nops {ops ops' : Array Oper} {Q : Act → Prop} (ns : List Oper) : ∀ (xs : List Oper) (a : Act), xs.all plainB = true → wpQuiet P ops C Q xs a → wpQuiet P ops' C Q (xs ++ ns.map nop) a
  | [], a, _, h => by
    rw [List.nil_append]
    induction ns with
    | nil => exact h
    | cons o ns ih =>
      show wpQuiet P ops' C Q (nop o :: ns.map nop) a
      unfold wpQuiet
      rw [if_pos (wanted_of rfl _)]
      exact BigFrame.quiet_assign (.const undef) rfl ih
  | o :: xs, a, hp, h => by
    rw [List.all_cons, Bool.and_eq_true] at hp
    show wpQuiet P ops' C Q (o :: (xs ++ ns.map nop)) a
    unfold wpQuiet at h ⊢
    rw [if_pos (wanted_of (plainB_guard hp.1) _)] at h ⊢
    exact Oper.quiet_mono (fun a' h' => quiet_nops ns xs a' hp.2 h') h

def headB (k : Nat) (l : List Oper) : Bool :=
  decide (k < l.length) && earlierB l && (l.take k).all plainB && Region.sinkB .any l.toArray k && Region.chainB .any l.toArray k && Region.seqB .any l.toArray (l.length - k) k (front k l.length) && Region.lexB .any (nopped k l).toArray

/-- **The head in the text's order, in any world of the class; then the rest.** -/
theorem wpIn_head {id : Nat} {Q : Exit → Act → World → Prop} {a : Act} {w : World} {l : List Oper} (k : Nat) (hm : P.follows .mixedOrders = true) (hB : headB k l = true) (hC : C { w with drawn := w.drawn + 1 })
    (h : wpQuiet P l.toArray C (fun a' => ∀ w', C w' → wpListIn (fence r) m P l.toArray Q (l.drop k) a' w') (l.take k) a) : (Code.region id l.toArray true).wpIn (fence r) m P Q a w := by
  unfold headB at hB
  simp only [Bool.and_eq_true, decide_eq_true_eq] at hB
  obtain ⟨⟨⟨⟨⟨⟨hk, hE⟩, hP⟩, hs⟩, hc⟩, hsq⟩, hlex⟩ := hB
  unfold Region.lexB at hlex
  rw [Bool.and_eq_true] at hlex
  refine wpIn_region_any hm ?_
  have hq : wpQuiet P (nopped k l).toArray C (fun a' => ∀ w', C w' → wpListIn (fence r) m P l.toArray Q (l.drop k) a' w') (nopped k l) a := quiet_nops (l.drop k) (l.take k) a hP h
  have hlen := nopped_length k l
  have hx := wpAnyQ_lex (C := C) (md := .any) hlex.1 (nopped k l) 0 (Array.replicate (nopped k l).toArray.size false) a (by simp) (by simpa using hlex.2) hq
  refine any_of_quiet (Qh := fun a' => ∀ w', C w' → wpListIn (fence r) m P l.toArray Q (l.drop k) a' w') hk hE hP hs hc hsq (fun a' w' hw' hh => hh w' hw') _ _ _ _ (List.range k)
    ⟨by simp, fun j oj _ hl => (by rw [getD_replicate_false] at hl; cases hl), fun t _ ht => getD_in (by simpa using ht) (getD_replicate_false _ _)⟩ (fun i hi _ => List.mem_range.2 hi) (by rw [List.length_range]; simp; omega) hC ?_
  rw [List.size_toArray, hlen] at hx
  simpa using hx
end
end Go.Proofs.YtoagghileebokaaGreatDoor.Rk
namespace Go.Proofs.YtoagghileebokaaGreatDoor.Rk
end Go.Proofs.YtoagghileebokaaGreatDoor.Rk

/-
  What a round of a loop over a vector's pieces keeps, and which pieces come.
-/
namespace Go.Proofs.YtoagghileebokaaGreatDoor.Bt
open Go.RowKit Go.Proofs.YtoagghileebokaaGreatDoor.Ar Go.Proofs.YtoagghileebokaaGreatDoor.Wd
set_option linter.unusedVariables false

/-- Whatever is cells, and not in S, lies as it lay. -/
structure CellsKept (S : List Nat) (W W' : World) : Prop where
  size : W.heap.size ≤ W'.heap.size
  same : ∀ k o, k ∉ S → W.heap[k]? = some o → o.isCells = true → W'.heap[k]? = some o
namespace CellsKept
theorem trans {S : List Nat} {A B C : World} (h : CellsKept S A B) (k : CellsKept S B C) : CellsKept S A C :=
  ⟨Nat.le_trans h.size k.size, fun i o hi ho hc => k.same i o hi (h.same i o hi ho hc) hc⟩
theorem of_kept {S : List Nat} {A B : World} (h : Kept S A B) : CellsKept S A B :=
  ⟨h.more, fun i o hi ho _ => (h.old i (Array.getElem?_eq_some_iff.1 ho).1 hi).trans ho⟩
theorem put {S : List Nat} (W : World) (l : Nat) (o o' : Obj) (h : W.heap[l]? = some o) (hc : o.isCells = false) : CellsKept S W (W.putObj l o') :=
  ⟨(grownBy_putObj' W l o').size, fun i x _ hx hxc => by
    have hne : i ≠ l := by rintro rfl; rw [h] at hx; injection hx with hx; rw [hx, hxc] at hc; cases hc
    exact ((grownBy_putObj' W l o').block i (Array.getElem?_eq_some_iff.1 hx).1 (fun e => hne (by injection e))).trans hx⟩
theorem has {S : List Nat} {W W' : World} (h : CellsKept S W W') {b : Nat} {t : TypeId} {cs : List Value} (hb : b ∉ S) (hh : Has W b t cs) : Has W' b t cs := h.same b _ hb hh rfl
end CellsKept
/-- What a round that goes on keeps: cells that are not in S; the words' block is words still. -/
def Keeps (G : List Int → Prop) (S : List Nat) (q : Nat) (W W' : World) : Prop :=
  CellsKept S W W' ∧ ((∃ ws, G ws ∧ Has W q 178 (ints ws)) → ∃ ws, G ws ∧ Has W' q 178 (ints ws))
theorem Keeps.trans {G : List Int → Prop} {S : List Nat} {q : Nat} {A B C : World} (h : Keeps G S q A B) (k : Keeps G S q B C) : Keeps G S q A C := ⟨h.1.trans k.1, fun x => k.2 (h.2 x)⟩
theorem Keeps.put {G : List Int → Prop} {S : List Nat} {q : Nat} (W : World) (l : Nat) (o o' : Obj) (h : W.heap[l]? = some o) (hc : o.isCells = false) : Keeps G S q W (W.putObj l o') :=
  ⟨CellsKept.put W l o o' h hc, fun ⟨ws, hG, hq⟩ => ⟨ws, hG, (CellsKept.put (S := []) W l o o' h hc).has (by simp) hq⟩⟩
/-- Where the words' block is not in S. -/
theorem Keeps.of {G : List Int → Prop} {S : List Nat} {q : Nat} {W W' : World} (h : CellsKept S W W') (hq : q ∉ S) : Keeps G S q W W' := ⟨h, fun ⟨ws, hG, hh⟩ => ⟨ws, hG, h.has hq hh⟩⟩
/-- A caller's word on what it has kept abides the loop's book-keeping. -/
theorem own_kept {β : Type} {S : List Nat} {w0 : World} {B : Nat} (hB : w0.heap.size ≤ B) : OwnFrom B (fun (_ : β) W => Kept S w0 W) :=
  fun _ X Y row hs hg hr => hs.grown hg fun g e => .inr (Nat.le_trans hB (hr g e).1)
theorem own_has {β : Type} {B b : Nat} {t : TypeId} {f : β → List Value} : OwnFrom B (fun s W => Has W b t (f s)) :=
  fun s X Y row hs hg hr => (hg.block b (Has.lt hs) fun e => by
    obtain ⟨_, o, ho, hc⟩ := hr b e.symm
    have hs' : X.heap[b]? = some (.cells (f s).toArray t (0, 0)) := hs
    rw [ho] at hs'
    injection hs' with hs'
    subst hs'
    cases hc).trans hs
theorem keepsFrom_of {S : List Nat} {B : Nat} {W W' : World} (h : Kept S W W') (hS : ∀ b ∈ S, ∃ t cs, Has W b t cs) : KeepsFrom B W W' :=
  ⟨h.more, fun k o _ ho hc => (h.old k (Array.getElem?_eq_some_iff.1 ho).1 fun hk => by
    obtain ⟨t, cs, hh⟩ := hS k hk
    unfold Has at hh
    rw [ho] at hh
    injection hh with hh
    subst hh
    cases hc).trans ho⟩

/-- A piece: which word, from which bit on, how many; and its bits. -/
structure Pc where
  k : Nat
  a : Nat
  n : Nat
  v : Nat
def Pc.ok (nw : Nat) (x : Pc) : Prop := 1 ≤ x.n ∧ x.a + x.n ≤ 64 ∧ x.k < nw ∧ x.v < 18446744073709551616
abbrev Pcs (nw : Nat) := { x : Pc // x.ok nw }
def encs {nw : Nat} (x : Pcs nw) : Array Value := #[pieceV x.1.k x.1.a x.1.n, .int .u64 ((x.1.v : Nat) : Int)]
/-- The piece from the bit s on, below e. -/
def isAt (G : List Int → Prop) (e s : Nat) (x : Pc) : Prop :=
  x.k = s / 64 ∧ x.a = s % 64 ∧ x.n = min (64 - s % 64) (e - s) ∧ ∃ ws, G ws ∧ x.v = fld (ws.getD (s / 64) 0).toNat x.a x.n
def Goes (G : List Int → Prop) (e : Nat) {nw : Nat} : Nat → List (Pcs nw) → Nat → Prop
  | s, [], t => t = s
  | s, x :: xs, t => s < e ∧ isAt G e s x.1 ∧ Goes G e (s + x.1.n) xs t
theorem Goes.snoc {G : List Int → Prop} {e nw : Nat} {x : Pcs nw} : ∀ {xs : List (Pcs nw)} {s t : Nat}, Goes G e s xs t → t < e → isAt G e t x.1 → Goes G e s (xs ++ [x]) (t + x.1.n)
  | [], s, t, h, ht, hx => by
    have h' : t = s := h
    subst h'
    exact ⟨ht, hx, rfl⟩
  | y :: ys, s, t, ⟨h1, h2, h3⟩, ht, hx => ⟨h1, h2, Goes.snoc h3 ht hx⟩
theorem Goes.length {G : List Int → Prop} {e nw : Nat} : ∀ {xs : List (Pcs nw)} {s t : Nat}, Goes G e s xs t → xs.length + s ≤ t
  | [], s, t, h => by
    have h' : t = s := h
    simp
    omega
  | y :: ys, s, t, ⟨h1, h2, h3⟩ => by
    have := Goes.length h3
    have := y.2.1
    rw [List.length_cons]
    omega
theorem Goes.le {G : List Int → Prop} {e nw : Nat} : ∀ {xs : List (Pcs nw)} {s t : Nat}, Goes G e s xs t → s ≤ e → t ≤ e
  | [], s, t, h, hs => by
    have h' : t = s := h
    omega
  | y :: ys, s, t, ⟨h1, ⟨_, _, h4, _⟩, h3⟩, hs => Goes.le h3 (by omega)

/-- What the loop reads: the vector, and the boxes that its function has captured. -/
structure Reads (G : List Int → Prop) (W : World) (p q N bi be bb i e : Nat) : Prop where
  head : Has W p 180 [.int .i64 (N : Int), .slice (some ⟨q, 0, none⟩) ((N + 63) / 64) 1024]
  row : ∃ ws, G ws ∧ Has W q 178 (ints ws)
  from' : Has W bi 3 [.int .i64 (i : Int)]
  below : Has W be 3 [.int .i64 (e : Int)]
  vec : Has W bb 70 [.pointer (some ⟨p, 0, none⟩)]
theorem Reads.keep0 {G : List Int → Prop} {W W' : World} {p q N bi be bb i e : Nat} (h : Reads G W p q N bi be bb i e) (k : Kept [] W W') : Reads G W' p q N bi be bb i e :=
  ⟨h.head.keep0 k, let ⟨ws, hG, hq⟩ := h.row; ⟨ws, hG, hq.keep0 k⟩, h.from'.keep0 k, h.below.keep0 k, h.vec.keep0 k⟩
theorem Reads.kept {G : List Int → Prop} {S : List Nat} {W W' : World} {p q N bi be bb i e : Nat} (h : Reads G W p q N bi be bb i e) (k : Keeps G S q W W') (h1 : p ∉ S) (h2 : bi ∉ S) (h3 : be ∉ S) (h4 : bb ∉ S) : Reads G W' p q N bi be bb i e :=
  ⟨k.1.has h1 h.head, k.2 h.row, k.1.has h2 h.from', k.1.has h3 h.below, k.1.has h4 h.vec⟩
def Good (G : List Int → Prop) : Prop := ∀ ws, G ws → ws.length = 1024 ∧ ∀ j, 0 ≤ ws.getD j 0 ∧ ws.getD j 0 < 18446744073709551616
end Go.Proofs.YtoagghileebokaaGreatDoor.Bt
