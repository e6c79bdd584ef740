/-
  The document's row of bools: memory, and the contracts of May, New, in, Lay and Has.
-/
import Derived.Test.YtkkjdoadmfeebaaDoorBtCopy
namespace Go.Proofs.YtkkjdoadmfeebaaDoor.Bt
open Go.RowKit Go.Proofs.YtkkjdoadmfeebaaDoor.Ar Go.Proofs.YtkkjdoadmfeebaaDoor.Wd
set_option linter.unusedVariables false

def bools (bs : List Bool) : List Value := bs.map Value.bool
theorem bools_length (bs : List Bool) : (bools bs).length = bs.length := List.length_map _
theorem bools_get (bs : List Bool) (i : Nat) (h : i < bs.length) : (bools bs)[i]? = some (.bool (bit bs i)) := by
  unfold bools bit
  rw [List.getElem?_map, List.getElem?_eq_getElem h]
  simp [List.getD, List.getElem?_eq_getElem h]
theorem bools_set (bs : List Bool) (i : Nat) (v : Bool) : (bools bs).set i (.bool v) = bools (bs.set i v) := by
  unfold bools
  rw [List.map_set]
theorem info_bool : (Tryd.prog.info? 4).map (fun i => (i.zero, i.size, i.bytes)) = some (some (.bool false), 1, 1) := by kernel_rfl
theorem made_bools (c : Nat) : (madeCells (Value.bool false).cells c) = (bools (List.replicate c false)).toArray := by
  apply Array.ext
  · simp [madeCells, bools]
  · intro i h1 h2
    simp [madeCells, bools, Value.cells, Nat.mod_one]
theorem run_make_bools (c : Nat) (hc : c ≤ 65536) (w : World) :
    (Instr.makeSlice 56 (.int .i64 (c : Int)) (.int .i64 (c : Int))).run Tryd.prog w = .ok (.slice (some ⟨w.heap.size, 0, none⟩) c c) (w.alloc (.cells (bools (List.replicate c false)).toArray 4)) := by
  obtain ⟨i0, hi, hz0, hz1, hz2⟩ := info_parts info_bool
  have h := run_make (P := Tryd.prog) w 56 4 i0 (.bool false) Tryd.underlying56 hi hz0 .i64 .i64 c c (by omega) (by omega) (by rw [hz2]; omega) (by omega)
  rw [Int.toNat_natCast, hz1, Nat.mul_one, made_bools] at h
  exact h
/-- The document's row at p, its bools at q. -/
structure Rf (w : World) (p q : Nat) (bs : List Bool) : Prop where
  head : Has w p 58 [.slice (some ⟨q, 0, none⟩) bs.length bs.length]
  row : Has w q 4 (bools bs)
  few : bs.length ≤ 65536
namespace Rf
variable {w w' : World} {p q : Nat} {bs : List Bool}
theorem ne (h : Rf w p q bs) : p ≠ q := Has.block_type h.head h.row (by decide)
theorem kept {S : List Nat} (h : Rf w p q bs) (k : Kept S w w') (hp : p ∉ S) (hq : q ∉ S) : Rf w' p q bs := ⟨h.head.kept k hp, h.row.kept k hq, h.few⟩
theorem keep0 (h : Rf w p q bs) (k : Kept [] w w') : Rf w' p q bs := h.kept k (by simp) (by simp)
theorem c0 (h : Rf w p q bs) : w.cell? ⟨p, 0, none⟩ = some (.slice (some ⟨q, 0, none⟩) bs.length bs.length) := h.head.cell 0
theorem cell (h : Rf w p q bs) (j : Nat) (hj : j < bs.length) : w.cell? ⟨q, j, none⟩ = some (.bool (bit bs j)) := by rw [h.row.cell, bools_get bs j hj]
end Rf
theorem may_any (n : Int) (w : World) : Calls Tryd.prog 9 #[.int .i64 n] w fun e w' => e = .returned (.bool (decide (0 ≤ n ∧ n ≤ 65536))) ∧ w = w' := by
  by_cases h0 : 0 ≤ n
  · by_cases h1 : n ≤ 65536
    · rw [decide_eq_true (show 0 ≤ n ∧ n ≤ 65536 from ⟨h0, h1⟩)]
      go_enter Tryd.func9, Tryd.ntmps9
      go_wp2_with fail
      go_ret
      exact ⟨rfl, rfl⟩
    · rw [decide_eq_false (show ¬ (0 ≤ n ∧ n ≤ 65536) by omega)]
      go_enter Tryd.func9, Tryd.ntmps9
      go_wp2_with fail
      go_ret
      exact ⟨rfl, rfl⟩
  · rw [decide_eq_false (show ¬ (0 ≤ n ∧ n ≤ 65536) by omega)]
    go_enter Tryd.func9, Tryd.ntmps9
    go_wp2_with fail
    go_ret
    exact ⟨rfl, rfl⟩
theorem refNew_ok (n : Nat) (hn : n ≤ 65536) (w : World) : Calls Tryd.prog 11 #[.int .i64 n] w fun e w' => e = .returned (.pointer (some ⟨w.heap.size + 1, 0, none⟩)) ∧ Rf w' (w.heap.size + 1) w.heap.size (List.replicate n false) ∧ Kept [] w w' := by
  have hm := run_make_bools n hn
  have hl : (List.replicate n false).length = n := List.length_replicate
  generalize List.replicate n false = bs at *
  go_enter Tryd.func11, Tryd.ntmps11
  go_wp2_with fail
  go_ret
  have h1 : Has (w.alloc (.cells (bools bs).toArray 4)) w.heap.size 4 (bools bs) := Has.new w _ _
  have h2 := Has.new (w.alloc (.cells (bools bs).toArray 4)) 58 [.slice (some ⟨w.heap.size, 0, none⟩) n n]
  rw [World.size_alloc] at h2
  exact ⟨rfl, ⟨by rw [hl]; exact h2, h1.alloc _, by rw [hl]; exact hn⟩, ((Kept.refl [] w).alloc _).alloc _⟩
section
variable {bs : List Bool} {p q : Nat}
theorem in_ok (w : World) (h : Rf w p q bs) (i k : Int) (i1 : -9223372036854775808 ≤ i) (i2 : i ≤ 9223372036854775807) (k1 : -9223372036854775808 ≤ k) (k2 : k ≤ 9223372036854775807) :
    Calls Tryd.prog 46 #[.pointer (some ⟨p, 0, none⟩), .int .i64 i, .int .i64 k] w fun e w' => e = .returned (.bool (within bs.length i k)) ∧ w = w' := by
  have hc := h.c0
  have hf := h.few
  clear h
  generalize bs.length = n at *
  by_cases a1 : 0 ≤ i
  · by_cases a2 : 0 ≤ k
    · by_cases a3 : i ≤ (n : Int)
      · by_cases a4 : k ≤ (n : Int) - i
        · rw [(within_iff n i k).2 (by omega)]
          go_enter Tryd.func46, Tryd.ntmps46
          go_wp2_with fail
          go_ret
          exact ⟨rfl, rfl⟩
        · have e : within n i k = false := by unfold within; exact decide_eq_false (by omega)
          rw [e]; clear e
          go_enter Tryd.func46, Tryd.ntmps46
          go_wp2_with fail
          go_ret
          exact ⟨rfl, rfl⟩
      · have e : within n i k = false := by unfold within; exact decide_eq_false (by omega)
        rw [e]; clear e
        go_enter Tryd.func46, Tryd.ntmps46
        go_wp2_with fail
        go_ret
        exact ⟨rfl, rfl⟩
    · have e : within n i k = false := by unfold within; exact decide_eq_false (by omega)
      rw [e]; clear e
      go_enter Tryd.func46, Tryd.ntmps46
      go_wp2_with fail
      go_ret
      exact ⟨rfl, rfl⟩
  · have e : within n i k = false := by unfold within; exact decide_eq_false (by omega)
    rw [e]; clear e
    go_enter Tryd.func46, Tryd.ntmps46
    go_wp2_with fail
    go_ret
    exact ⟨rfl, rfl⟩
theorem laid_step (bs : List Bool) (i m : Nat) (st : Bool) (h : i + m < bs.length) : (laid bs i m st).set (i + m) st = laid bs i (m + 1) st := by
  refine bit_ext (by rw [List.length_set, laid_length, laid_length]) fun j hj => ?_
  rw [List.length_set, laid_length] at hj
  rw [laid_bit _ _ _ _ j hj]
  unfold bit
  by_cases hji : i + m = j
  · rw [List.getD, ← hji, List.getElem?_set_self (by rw [laid_length]; exact h), if_pos (by omega)]
    rfl
  · rw [List.getD, List.getElem?_set_ne hji]
    have := laid_bit bs i m st j hj
    unfold bit at this
    rw [List.getD] at this
    rw [this]
    by_cases hc : i ≤ j ∧ j < i + m
    · rw [if_pos hc, if_pos (by omega)]
    · rw [if_neg hc, if_neg (by omega)]
theorem refLay_yes (w : World) (h : Rf w p q bs) (i n : Nat) (hin : i + n ≤ bs.length) (st : Bool) :
    Calls Tryd.prog 29 #[.pointer (some ⟨p, 0, none⟩), .int .i64 i, .int .i64 n, .bool st] w fun e w' => e = .returned (.int .i64 0) ∧ Rf w' p q (laid bs i n st) ∧ Kept [q] w w' := by
  have hf := h.few
  have hi := in_ok w h i n (by omega) (by omega) (by omega) (by omega)
  rw [(within_iff bs.length i n).2 (by omega)] at hi
  have Hi := Lib.hid hi
  have H := Lib.hid h
  clear hi h
  go_enter Tryd.func29, Tryd.ntmps29
  go_wp2_with fail
  refine (Hi.out).mono ?_
  rintro e w' ⟨rfl, rfl⟩
  go_wp2_with fail
  go_loopw [9] (fun k wr => ∃ m : Nat, m ≤ n ∧ k = .int .i64 ((i + m : Nat) : Int) ∧ Hid (Rf wr p q (laid bs i m st) ∧ Kept [q] w wr)) (fun k _ => i + n - (intOf k).toNat)
  case atStart => exact ⟨0, Nat.zero_le _, rfl, Lib.hid ⟨by rw [laid_none]; exact H.out, Kept.refl _ _⟩⟩
  case round =>
    obtain ⟨m, hm, rfl, hr⟩ := hrel
    have c0 := hr.out.1.c0
    have fq := hr.out.1.row.free (i + m)
    rw [laid_length] at c0
    by_cases hlt : m < n
    · have cq := hr.out.1.cell (i + m) (by rw [laid_length]; omega)
      obtain ⟨x, hx⟩ : ∃ x, x = i + m := ⟨_, rfl⟩
      rw [← hx] at cq fq ⊢
      have hxl : x < bs.length := by omega
      have hxn : (x : Int) < (i : Int) + (n : Int) := by omega
      generalize bit (laid bs i m st) x = b0 at cq
      have Hx := Lib.hid hx
      clear hx
      go_wp2_with fail
      have hk : Kept [q] wr (wr.setCell ⟨q, x, none⟩ (.bool st)) := (Kept.refl _ wr).setCell _ _ (.inl (by simp))
      have hq : Has (wr.setCell ⟨q, x, none⟩ (.bool st)) q 4 (bools (laid bs i (m + 1) st)) := by
        have h1 := hr.out.1.row.put x (.bool st)
        rw [bools_set, Hx.out, laid_step bs i m st (by omega)] at h1
        rw [Hx.out]
        exact h1
      have hp : Has (wr.setCell ⟨q, x, none⟩ (.bool st)) p 58 [.slice (some ⟨q, 0, none⟩) (laid bs i (m + 1) st).length (laid bs i (m + 1) st).length] := by
        have h1 := hr.out.1.head.kept hk (by simp; exact hr.out.1.ne)
        rw [laid_length] at h1 ⊢
        exact h1
      go_roundw
      case rel => exact ⟨m + 1, by omega, by rw [Hx.out]; go_num, Lib.hid ⟨⟨hp, hq, by rw [laid_length]; exact hf⟩, hr.out.2.trans hk⟩⟩
      case measure => simp [intOf]; omega
    · obtain rfl : m = n := by omega
      go_wp2_with fail
      go_ret
      exact ⟨rfl, hr.out⟩
theorem refLay_no (w : World) (h : Rf w p q bs) (i n : Int) (i1 : -9223372036854775808 ≤ i) (i2 : i ≤ 9223372036854775807) (n1 : -9223372036854775808 ≤ n) (n2 : n ≤ 9223372036854775807) (hin : within bs.length i n = false) (st : Bool) :
    Calls Tryd.prog 29 #[.pointer (some ⟨p, 0, none⟩), .int .i64 i, .int .i64 n, .bool st] w fun e w' => e = .returned (.int .i64 2) ∧ Rf w' p q bs ∧ Kept [q] w w' := by
  have hi := in_ok w h i n i1 i2 n1 n2
  rw [hin] at hi
  have Hi := Lib.hid hi
  have H := Lib.hid h
  clear hi h hin
  go_enter Tryd.func29, Tryd.ntmps29
  go_wp2_with fail
  refine (Hi.out).mono ?_
  rintro e w' ⟨rfl, rfl⟩
  go_wp2_with fail
  go_ret
  exact ⟨rfl, H.out, Kept.refl _ _⟩
theorem refLay_ok (w : World) (h : Rf w p q bs) (i n : Int) (i1 : -9223372036854775808 ≤ i) (i2 : i ≤ 9223372036854775807) (n1 : -9223372036854775808 ≤ n) (n2 : n ≤ 9223372036854775807) (st : Bool) :
    Calls Tryd.prog 29 #[.pointer (some ⟨p, 0, none⟩), .int .i64 i, .int .i64 n, .bool st] w fun e w' => e = .returned (.int .i64 (errOf (within bs.length i n))) ∧ Rf w' p q (layB bs i n st) ∧ Kept [q] w w' := by
  unfold layB
  cases hin : within bs.length i n with
  | true =>
    obtain ⟨a, b, c⟩ := (within_iff _ _ _).1 hin
    have := refLay_yes w h i.toNat n.toNat (by omega) st
    rw [Int.toNat_of_nonneg a, Int.toNat_of_nonneg b] at this
    exact this
  | false => exact refLay_no w h i n i1 i2 n1 n2 hin st
theorem refHas_ok (w : World) (h : Rf w p q bs) (i : Int) (i1 : -9223372036854775808 ≤ i) (i2 : i ≤ 9223372036854775807) :
    Calls Tryd.prog 33 #[.pointer (some ⟨p, 0, none⟩), .int .i64 i] w fun e w' => e = .returned (.bool (hasV bs i)) ∧ w = w' := by
  have c0 := h.c0
  by_cases a1 : 0 ≤ i
  · obtain ⟨k, rfl⟩ := Int.eq_ofNat_of_zero_le a1
    have e : hasV bs k = bit bs k := by unfold hasV; rw [decide_eq_true a1, Bool.true_and, Int.toNat_natCast]
    rw [e]
    by_cases a2 : k < bs.length
    · have hc := h.cell k a2
      clear h e
      generalize bs.length = n at *
      generalize bit bs k = b at *
      go_enter Tryd.func33, Tryd.ntmps33
      go_wp2_with fail
      go_ret
      exact ⟨rfl, rfl⟩
    · rw [bit_out bs k (by omega)]
      clear h e
      generalize bs.length = n at *
      go_enter Tryd.func33, Tryd.ntmps33
      go_wp2_with fail
      go_ret
      exact ⟨rfl, rfl⟩
  · have e : hasV bs i = false := by unfold hasV; rw [decide_eq_false a1, Bool.false_and]
    rw [e]
    clear h e
    go_enter Tryd.func33, Tryd.ntmps33
    go_wp2_with fail
    go_ret
    exact ⟨rfl, rfl⟩
end
end Go.Proofs.YtkkjdoadmfeebaaDoor.Bt
