/-
  The document's row of bools (layer 3), apart from the program's vectors: its memory, New, in, Lay, Has, Count, Runs; SameRuns.
-/
import Derived.Test.YtbgonppichdhiaaRunRow
import Derived.WalkKit
import Derived.BigQuiet
import Derived.Deep.QuietTactic
namespace Go.Proofs.Ytbgonppichdhiaa.Bt
open Go.RowKit Go.Proofs.Ytbgonppichdhiaa.Ar
set_option linter.unusedVariables false

/-- k bits from the bit i on lie within L. -/
def within (L : Nat) (i k : Int) : Bool := decide (0 ≤ i ∧ 0 ≤ k ∧ i + k ≤ L)
theorem within_iff (L : Nat) (i k : Int) : within L i k = true ↔ 0 ≤ i ∧ 0 ≤ k ∧ i + k ≤ L := by unfold within; exact decide_eq_true_iff
/-- OK or ErrArg. -/
def errOf (b : Bool) : Int := if b then 0 else 2

/-- The bits behind n bits from the bit i on were made as st. -/
def layB (bs : List Bool) (i n : Int) (st : Bool) : List Bool := if within bs.length i n then laid bs i.toNat n.toNat st else bs
theorem layB_length (bs : List Bool) (i n : Int) (st : Bool) : (layB bs i n st).length = bs.length := by
  unfold layB
  split
  · exact laid_length _ _ _ _
  · rfl
/-- Is there such a bit, and is it set? -/
def hasV (bs : List Bool) (i : Int) : Bool := decide (0 ≤ i) && bit bs i.toNat
/-- What Count answers. -/
def cntI (bs : List Bool) (i n : Int) : Int := if within bs.length i n then ((cnt (fun j => bit bs (i.toNat + j)) n.toNat : Nat) : Int) else 0
/-- A slice value of the call's own. -/
def FreshV (w : World) (v : Value) : Prop := v.ownBlock = none ∨ ∃ b, v.ownBlock = some b ∧ w.heap.size ≤ b
/-- What Runs hands back. -/
def RunsPost (w : World) (bs : List Bool) (e : Ending) (w' : World) : Prop := ∃ v, e = .returned v ∧ OwnR w' v (runsV bs) ∧ FreshV w v ∧ Kept [] w w'
def bools (bs : List Bool) : List Value := bs.map Value.bool
theorem bools_length (bs : List Bool) : (bools bs).length = bs.length := List.length_map _
theorem bools_get (bs : List Bool) (i : Nat) (h : i < bs.length) : (bools bs)[i]? = some (.bool (bit bs i)) := by
  unfold bools bit
  rw [List.getElem?_map, List.getElem?_eq_getElem h]
  simp [List.getD, List.getElem?_eq_getElem h]
theorem bools_set (bs : List Bool) (i : Nat) (v : Bool) : (bools bs).set i (.bool v) = bools (bs.set i v) := by
  unfold bools
  rw [List.map_set]
theorem info_bool : (Try.prog.info? 4).map (fun i => (i.zero, i.size, i.bytes)) = some (some (.bool false), 1, 1) := by kernel_rfl
theorem made_bools (c : Nat) : (madeCells (Value.bool false).cells c) = (bools (List.replicate c false)).toArray := by
  apply Array.ext
  · simp [madeCells, bools]
  · intro i h1 h2
    simp [madeCells, bools, Value.cells, Nat.mod_one]
theorem run_make_bools (c : Nat) (hc : c ≤ 65536) (w : World) :
    (Instr.makeSlice 65 (.int .i64 (c : Int)) (.int .i64 (c : Int))).run Try.prog w = .ok (.slice (some ⟨w.heap.size, 0, none⟩) c c) (w.alloc (.cells (bools (List.replicate c false)).toArray 4)) := by
  obtain ⟨i0, hi, hz0, hz1, hz2⟩ := info_parts info_bool
  have h := run_make (P := Try.prog) w 65 4 i0 (.bool false) Try.underlying65 hi hz0 .i64 .i64 c c (by omega) (by omega) (by rw [hz2]; omega) (by omega)
  rw [Int.toNat_natCast, hz1, Nat.mul_one, made_bools] at h
  exact h
/-- The document's row at p, its bools at q. -/
structure Rf (w : World) (p q : Nat) (bs : List Bool) : Prop where
  head : Has w p 67 [.slice (some ⟨q, 0, none⟩) bs.length bs.length]
  row : Has w q 4 (bools bs)
  few : bs.length ≤ 65536
namespace Rf
variable {w w' : World} {p q : Nat} {bs : List Bool}
theorem ne (h : Rf w p q bs) : p ≠ q := Has.block_type h.head h.row (by decide)
theorem kept {S : List Nat} (h : Rf w p q bs) (k : Kept S w w') (hp : p ∉ S) (hq : q ∉ S) : Rf w' p q bs := ⟨h.head.kept k hp, h.row.kept k hq, h.few⟩
theorem keep0 (h : Rf w p q bs) (k : Kept [] w w') : Rf w' p q bs := h.kept k (by simp) (by simp)
theorem c0 (h : Rf w p q bs) : w.cell? ⟨p, 0, none⟩ = some (.slice (some ⟨q, 0, none⟩) bs.length bs.length) := h.head.cell 0
theorem cell (h : Rf w p q bs) (j : Nat) (hj : j < bs.length) : w.cell? ⟨q, j, none⟩ = some (.bool (bit bs j)) := by rw [h.row.cell, bools_get bs j hj]
end Rf
theorem refNew_ok (n : Nat) (hn : n ≤ 65536) (w : World) : Calls Try.prog 25 #[.int .i64 n] w fun e w' => e = .returned (.pointer (some ⟨w.heap.size + 1, 0, none⟩)) ∧ Rf w' (w.heap.size + 1) w.heap.size (List.replicate n false) ∧ Kept [] w w' := by
  have hm := run_make_bools n hn
  have hl : (List.replicate n false).length = n := List.length_replicate
  generalize List.replicate n false = bs at *
  go_enter Try.func25, Try.ntmps25
  go_wp2_with fail
  go_ret
  have h1 : Has (w.alloc (.cells (bools bs).toArray 4)) w.heap.size 4 (bools bs) := Has.new w _ _
  have h2 := Has.new (w.alloc (.cells (bools bs).toArray 4)) 67 [.slice (some ⟨w.heap.size, 0, none⟩) n n]
  rw [World.size_alloc] at h2
  exact ⟨rfl, ⟨by rw [hl]; exact h2, h1.alloc _, by rw [hl]; exact hn⟩, ((Kept.refl [] w).alloc _).alloc _⟩
section
variable {bs : List Bool} {p q : Nat}
theorem in_ok (w : World) (h : Rf w p q bs) (i k : Int) (i1 : -9223372036854775808 ≤ i) (i2 : i ≤ 9223372036854775807) (k1 : -9223372036854775808 ≤ k) (k2 : k ≤ 9223372036854775807) :
    Calls Try.prog 39 #[.pointer (some ⟨p, 0, none⟩), .int .i64 i, .int .i64 k] w fun e w' => e = .returned (.bool (within bs.length i k)) ∧ w = w' := by
  have hc := h.c0
  have hf := h.few
  clear h
  generalize bs.length = n at *
  by_cases a1 : 0 ≤ i
  · by_cases a2 : 0 ≤ k
    · by_cases a3 : i ≤ (n : Int)
      · by_cases a4 : k ≤ (n : Int) - i
        · rw [(within_iff n i k).2 (by omega)]
          go_enter Try.func39, Try.ntmps39
          go_wp2_with fail
          go_ret
          exact ⟨rfl, rfl⟩
        · have e : within n i k = false := by unfold within; exact decide_eq_false (by omega)
          rw [e]; clear e
          go_enter Try.func39, Try.ntmps39
          go_wp2_with fail
          go_ret
          exact ⟨rfl, rfl⟩
      · have e : within n i k = false := by unfold within; exact decide_eq_false (by omega)
        rw [e]; clear e
        go_enter Try.func39, Try.ntmps39
        go_wp2_with fail
        go_ret
        exact ⟨rfl, rfl⟩
    · have e : within n i k = false := by unfold within; exact decide_eq_false (by omega)
      rw [e]; clear e
      go_enter Try.func39, Try.ntmps39
      go_wp2_with fail
      go_ret
      exact ⟨rfl, rfl⟩
  · have e : within n i k = false := by unfold within; exact decide_eq_false (by omega)
    rw [e]; clear e
    go_enter Try.func39, Try.ntmps39
    go_wp2_with fail
    go_ret
    exact ⟨rfl, rfl⟩
theorem laid_step (bs : List Bool) (i m : Nat) (st : Bool) (h : i + m < bs.length) : (laid bs i m st).set (i + m) st = laid bs i (m + 1) st := by
  refine bit_ext (by rw [List.length_set, laid_length, laid_length]) fun j hj => ?_
  rw [List.length_set, laid_length] at hj
  rw [laid_bit _ _ _ _ j hj]
  unfold bit
  by_cases hji : i + m = j
  · rw [List.getD, ← hji, List.getElem?_set_self (by rw [laid_length]; exact h), if_pos (by omega)]
    rfl
  · rw [List.getD, List.getElem?_set_ne hji]
    have := laid_bit bs i m st j hj
    unfold bit at this
    rw [List.getD] at this
    rw [this]
    by_cases hc : i ≤ j ∧ j < i + m
    · rw [if_pos hc, if_pos (by omega)]
    · rw [if_neg hc, if_neg (by omega)]
theorem refLay_yes (w : World) (h : Rf w p q bs) (i n : Nat) (hin : i + n ≤ bs.length) (st : Bool) :
    Calls Try.prog 38 #[.pointer (some ⟨p, 0, none⟩), .int .i64 i, .int .i64 n, .bool st] w fun e w' => e = .returned (.int .i64 0) ∧ Rf w' p q (laid bs i n st) ∧ Kept [q] w w' := by
  have hf := h.few
  have hi := in_ok w h i n (by omega) (by omega) (by omega) (by omega)
  rw [(within_iff bs.length i n).2 (by omega)] at hi
  have Hi := Lib.hid hi
  have H := Lib.hid h
  clear hi h
  go_enter Try.func38, Try.ntmps38
  go_wp2_with fail
  refine (Hi.out).mono ?_
  rintro e w' ⟨rfl, rfl⟩
  go_wp2_with fail
  go_loopw [9] (fun k wr => ∃ m : Nat, m ≤ n ∧ k = .int .i64 ((i + m : Nat) : Int) ∧ Hid (Rf wr p q (laid bs i m st) ∧ Kept [q] w wr)) (fun k _ => i + n - (intOf k).toNat)
  case atStart => exact ⟨0, Nat.zero_le _, rfl, Lib.hid ⟨by rw [laid_none]; exact H.out, Kept.refl _ _⟩⟩
  case round =>
    obtain ⟨m, hm, rfl, hr⟩ := hrel
    have c0 := hr.out.1.c0
    have fq := hr.out.1.row.free (i + m)
    rw [laid_length] at c0
    by_cases hlt : m < n
    · have cq := hr.out.1.cell (i + m) (by rw [laid_length]; omega)
      obtain ⟨x, hx⟩ : ∃ x, x = i + m := ⟨_, rfl⟩
      rw [← hx] at cq fq ⊢
      have hxl : x < bs.length := by omega
      have hxn : (x : Int) < (i : Int) + (n : Int) := by omega
      generalize bit (laid bs i m st) x = b0 at cq
      have Hx := Lib.hid hx
      clear hx
      go_wp2_with fail
      have hk : Kept [q] wr (wr.setCell ⟨q, x, none⟩ (.bool st)) := (Kept.refl _ wr).setCell _ _ (.inl (by simp))
      have hq : Has (wr.setCell ⟨q, x, none⟩ (.bool st)) q 4 (bools (laid bs i (m + 1) st)) := by
        have h1 := hr.out.1.row.put x (.bool st)
        rw [bools_set, Hx.out, laid_step bs i m st (by omega)] at h1
        rw [Hx.out]
        exact h1
      have hp : Has (wr.setCell ⟨q, x, none⟩ (.bool st)) p 67 [.slice (some ⟨q, 0, none⟩) (laid bs i (m + 1) st).length (laid bs i (m + 1) st).length] := by
        have h1 := hr.out.1.head.kept hk (by simp; exact hr.out.1.ne)
        rw [laid_length] at h1 ⊢
        exact h1
      go_roundw
      case rel => exact ⟨m + 1, by omega, by rw [Hx.out]; go_num, Lib.hid ⟨⟨hp, hq, by rw [laid_length]; exact hf⟩, hr.out.2.trans hk⟩⟩
      case measure => simp [intOf]; omega
    · obtain rfl : m = n := by omega
      go_wp2_with fail
      go_ret
      exact ⟨rfl, hr.out⟩
theorem refLay_no (w : World) (h : Rf w p q bs) (i n : Int) (i1 : -9223372036854775808 ≤ i) (i2 : i ≤ 9223372036854775807) (n1 : -9223372036854775808 ≤ n) (n2 : n ≤ 9223372036854775807) (hin : within bs.length i n = false) (st : Bool) :
    Calls Try.prog 38 #[.pointer (some ⟨p, 0, none⟩), .int .i64 i, .int .i64 n, .bool st] w fun e w' => e = .returned (.int .i64 2) ∧ Rf w' p q bs ∧ Kept [q] w w' := by
  have hi := in_ok w h i n i1 i2 n1 n2
  rw [hin] at hi
  have Hi := Lib.hid hi
  have H := Lib.hid h
  clear hi h hin
  go_enter Try.func38, Try.ntmps38
  go_wp2_with fail
  refine (Hi.out).mono ?_
  rintro e w' ⟨rfl, rfl⟩
  go_wp2_with fail
  go_ret
  exact ⟨rfl, H.out, Kept.refl _ _⟩
theorem refLay_ok (w : World) (h : Rf w p q bs) (i n : Int) (i1 : -9223372036854775808 ≤ i) (i2 : i ≤ 9223372036854775807) (n1 : -9223372036854775808 ≤ n) (n2 : n ≤ 9223372036854775807) (st : Bool) :
    Calls Try.prog 38 #[.pointer (some ⟨p, 0, none⟩), .int .i64 i, .int .i64 n, .bool st] w fun e w' => e = .returned (.int .i64 (errOf (within bs.length i n))) ∧ Rf w' p q (layB bs i n st) ∧ Kept [q] w w' := by
  unfold layB
  cases hin : within bs.length i n with
  | true =>
    obtain ⟨a, b, c⟩ := (within_iff _ _ _).1 hin
    have := refLay_yes w h i.toNat n.toNat (by omega) st
    rw [Int.toNat_of_nonneg a, Int.toNat_of_nonneg b] at this
    exact this
  | false => exact refLay_no w h i n i1 i2 n1 n2 hin st
theorem refHas_ok (w : World) (h : Rf w p q bs) (i : Int) (i1 : -9223372036854775808 ≤ i) (i2 : i ≤ 9223372036854775807) :
    Calls Try.prog 24 #[.pointer (some ⟨p, 0, none⟩), .int .i64 i] w fun e w' => e = .returned (.bool (hasV bs i)) ∧ w = w' := by
  have c0 := h.c0
  by_cases a1 : 0 ≤ i
  · obtain ⟨k, rfl⟩ := Int.eq_ofNat_of_zero_le a1
    have e : hasV bs k = bit bs k := by unfold hasV; rw [decide_eq_true a1, Bool.true_and, Int.toNat_natCast]
    rw [e]
    by_cases a2 : k < bs.length
    · have hc := h.cell k a2
      clear h e
      generalize bs.length = n at *
      generalize bit bs k = b at *
      go_enter Try.func24, Try.ntmps24
      go_wp2_with fail
      go_ret
      exact ⟨rfl, rfl⟩
    · rw [bit_out bs k (by omega)]
      clear h e
      generalize bs.length = n at *
      go_enter Try.func24, Try.ntmps24
      go_wp2_with fail
      go_ret
      exact ⟨rfl, rfl⟩
  · have e : hasV bs i = false := by unfold hasV; rw [decide_eq_false a1, Bool.false_and]
    rw [e]
    clear h e
    go_enter Try.func24, Try.ntmps24
    go_wp2_with fail
    go_ret
    exact ⟨rfl, rfl⟩
end
section
variable {bs : List Bool} {p q : Nat}
theorem refCount_yes (w : World) (h : Rf w p q bs) (i n : Nat) (hin : i + n ≤ bs.length) :
    Calls Try.prog 35 #[.pointer (some ⟨p, 0, none⟩), .int .i64 i, .int .i64 n] w fun e w' => e = .returned (.tuple #[.int .i64 ((cnt (fun j => bit bs (i + j)) n : Nat) : Int), .int .i64 0]) ∧ w = w' := by
  have hf := h.few
  have hi := in_ok w h i n (by omega) (by omega) (by omega) (by omega)
  rw [(within_iff bs.length i n).2 (by omega)] at hi
  have c0 := h.c0
  have Hi := Lib.hid hi
  have hcell := Lib.hid h.cell
  clear hi h
  go_enter Try.func35, Try.ntmps35
  go_wp2_with fail
  refine (Hi.out).mono ?_
  rintro e w' ⟨rfl, rfl⟩
  go_wp2_with fail
  go_loop [8, 9] (fun c k => ∃ m : Nat, m ≤ n ∧ k = .int .i64 ((i + m : Nat) : Int) ∧ c = .int .i64 ((cnt (fun j => bit bs (i + j)) m : Nat) : Int)) (fun _ k => i + n - (intOf k).toNat)
  case atStart => exact ⟨0, Nat.zero_le _, rfl, rfl⟩
  case round =>
    obtain ⟨m, hm, rfl, rfl⟩ := hrel
    have hle := cnt_le (fun j => bit bs (i + j)) m
    by_cases hlt : m < n
    · have hc := hcell.out (i + m) (by omega)
      have hs : Hid (cnt (fun j => bit bs (i + j)) (m + 1) = cnt (fun j => bit bs (i + j)) m + (bit bs (i + m)).toNat) := Lib.hid rfl
      generalize cnt (fun j => bit bs (i + j)) m = c at *
      obtain ⟨x, hx⟩ : ∃ x, x = i + m := ⟨_, rfl⟩
      rw [← hx] at hc hs ⊢
      have hxl : x < bs.length := by omega
      have hxn : (x : Int) < (i : Int) + (n : Int) := by omega
      have Hx := Lib.hid hx
      cases hb : bit bs x with
      | true =>
        rw [hb] at hc hs
        clear hx hb
        go_wp2_with fail
        go_round
        case rel => exact ⟨m + 1, by omega, by rw [Hx.out]; go_num, by rw [hs.out]; go_num⟩
        case measure => simp [intOf] <;> omega
      | false =>
        rw [hb] at hc hs
        clear hx hb
        go_wp2_with fail
        go_round
        case rel => exact ⟨m + 1, by omega, by rw [Hx.out]; go_num, by rw [hs.out]; go_num⟩
        case measure => simp [intOf] <;> omega
    · obtain rfl : m = n := by omega
      go_wp2_with fail
      go_ret2
      exact ⟨rfl, rfl⟩
theorem refCount_ok (w : World) (h : Rf w p q bs) (i n : Int) (i1 : -9223372036854775808 ≤ i) (i2 : i ≤ 9223372036854775807) (n1 : -9223372036854775808 ≤ n) (n2 : n ≤ 9223372036854775807) :
    Calls Try.prog 35 #[.pointer (some ⟨p, 0, none⟩), .int .i64 i, .int .i64 n] w fun e w' => e = .returned (.tuple #[.int .i64 (cntI bs i n), .int .i64 (errOf (within bs.length i n))]) ∧ w = w' := by
  unfold cntI
  cases hin : within bs.length i n with
  | true =>
    obtain ⟨a, b, c⟩ := (within_iff _ _ _).1 hin
    have := refCount_yes w h i.toNat n.toNat (by omega)
    rw [Int.toNat_of_nonneg a, Int.toNat_of_nonneg b] at this
    exact this
  | false =>
    have hi := in_ok w h i n i1 i2 n1 n2
    rw [hin] at hi
    have Hi := Lib.hid hi
    clear hi h hin
    show Calls Try.prog 35 _ w fun e w' => e = .returned (.tuple #[.int .i64 0, .int .i64 2]) ∧ w = w'
    go_enter Try.func35, Try.ntmps35
    go_wp2_with fail
    refine (Hi.out).mono ?_
    rintro e w' ⟨rfl, rfl⟩
    go_wp2_with fail
    go_ret2
    exact ⟨rfl, rfl⟩
end
theorem runsTo_ne (bs : List Bool) (t : Nat) (h0 : 0 < t) (h : bit bs (t - 1) = true) : 0 < (runsTo bs t).length := by
  obtain ⟨s, rfl⟩ : ∃ s, t = s + 1 := ⟨t - 1, by omega⟩
  rw [show s + 1 - 1 = s by omega] at h
  show 0 < (if bit bs s then (if 0 < s ∧ bit bs (s - 1) = true then lastUp (runsTo bs s) else runsTo bs s ++ [(s, 1)]) else runsTo bs s).length
  rw [h, if_pos rfl]
  split
  · unfold lastUp
    rw [List.length_append, List.length_singleton]
    omega
  · rw [List.length_append, List.length_singleton]
    omega
theorem runsTo_within (bs : List Bool) : ∀ t, ∀ r ∈ runsTo bs t, r.1 + r.2 ≤ t
  | 0, r, h => by cases h
  | s + 1, r, h => by
    have ih := runsTo_within bs s
    have h' : r ∈ (if bit bs s then (if 0 < s ∧ bit bs (s - 1) = true then lastUp (runsTo bs s) else runsTo bs s ++ [(s, 1)]) else runsTo bs s) := h
    split at h'
    · split at h'
      · rename_i _ h2
        have hne := runsTo_ne bs s h2.1 h2.2
        unfold lastUp at h'
        rcases List.mem_append.1 h' with h3 | h3
        · have := ih r (List.dropLast_subset _ h3)
          omega
        · rw [List.mem_singleton.1 h3]
          have hl : (runsTo bs s).getLast?.getD (0, 0) ∈ runsTo bs s := by
            rw [List.getLast?_eq_getElem?, List.getElem?_eq_getElem (by omega)]
            exact List.getElem_mem _
          have := ih _ hl
          show _ + (_ + 1) ≤ _
          omega
      · rcases List.mem_append.1 h' with h3 | h3
        · have := ih r h3
          omega
        · rw [List.mem_singleton.1 h3]
          show s + 1 ≤ s + 1
          omega
    · have := ih r h'
      omega
theorem ownR_up {w : World} {g cap L : Nat} {rs : List (Nat × Nat)} (h : OwnR w (.slice (some ⟨g, 0, none⟩) rs.length cap) rs) (hL : rs.length = L + 1) :
    OwnR ((w.setCell ⟨g, L * 2, none⟩ (.int .i64 ((rs.getD L (0, 0)).1 : Int))).setCell ⟨g, L * 2 + 1, none⟩ (.int .i64 (((rs.getD L (0, 0)).2 : Int) + 1))) (.slice (some ⟨g, 0, none⟩) (L + 1) cap) (lastUp rs) := by
  obtain ⟨init, r, rfl⟩ : ∃ init r, rs = init ++ [r] := ⟨rs.dropLast, rs.getLast (by intro h0; rw [h0] at hL; cases hL), (List.dropLast_concat_getLast _).symm⟩
  have hLi : init.length = L := by rw [List.length_append, List.length_singleton] at hL; omega
  have hget : (init ++ [r]).getD L (0, 0) = r := by
    rw [List.getD, ← hLi, List.getElem?_append_right (Nat.le_refl _), Nat.sub_self]
    rfl
  rw [hget, lastUp_snoc]
  rcases h.2 with ⟨h1, _⟩ | ⟨g', cap', cur, h1, _, hg, hc, hm, hs, ht⟩
  · cases h1
  · injection h1 with h1 h2 h3
    injection h1 with h1
    injection h1 with h1
    subst h1 h3
    have hh : Has w g 29 cur.toList := by unfold Has; rw [Array.toArray_toList]; exact hg
    have h2' := (hh.put (L * 2) (.int .i64 (r.1 : Int))).put (L * 2 + 1) (.int .i64 ((r.2 : Int) + 1))
    refine ⟨by rw [runCells_length], .inr ⟨g, cap, ((cur.toList.set (L * 2) (.int .i64 (r.1 : Int))).set (L * 2 + 1) (.int .i64 ((r.2 : Int) + 1))).toArray, ?_, Nat.zero_le _, h2', ?_, hm, ?_, ?_⟩⟩
    · rw [List.length_append, List.length_singleton, hLi]
    · rw [List.length_append, List.length_singleton, hLi]
      rw [hL] at hc
      exact hc
    · simp [hs]
    · show (((cur.toList.set (L * 2) (.int .i64 (r.1 : Int))).set (L * 2 + 1) (.int .i64 ((r.2 : Int) + 1))).take ((init ++ [(r.1, r.2 + 1)]).length * 2)) = runCells (init ++ [(r.1, r.2 + 1)])
      have hn : (init ++ [(r.1, r.2 + 1)]).length = (init ++ [r]).length := by rw [List.length_append, List.length_append]; rfl
      rw [List.take_set, List.take_set, hn, ht, runCells_append, runCells_append]
      have hrl : (runCells init).length = L * 2 := by rw [runCells_length, hLi]
      show ((runCells init ++ [Value.int .i64 (r.1 : Int), Value.int .i64 (r.2 : Int)]).set (L * 2) _).set (L * 2 + 1) _ = runCells init ++ [Value.int .i64 (r.1 : Int), Value.int .i64 ((r.2 + 1 : Nat) : Int)]
      rw [List.set_append_right _ _ (by omega), List.set_append_right _ _ (by omega), hrl, Nat.sub_self, show L * 2 + 1 - L * 2 = 1 by omega]
      rfl
theorem getD_ext (a b : List (Nat × Nat)) (h : a.length = b.length) (e : ∀ j, j < a.length → a.getD j (0, 0) = b.getD j (0, 0)) : a = b := by
  apply List.ext_getElem h
  intro j h1 h2
  have := e j h1
  rw [List.getD, List.getD, List.getElem?_eq_getElem h1, List.getElem?_eq_getElem h2] at this
  exact this
theorem sameRuns_ok (w : World) (v1 v2 : Value) (r1 r2 : List (Nat × Nat)) (h1 : OwnR w v1 r1) (h2 : OwnR w v2 r2) (hl1 : r1.length ≤ 65536) (hl2 : r2.length ≤ 65536) :
    Calls Try.prog 18 #[v1, v2] w fun e w' => e = .returned (.bool (decide (r1 = r2))) ∧ ∃ k, w' = w.drewN k := by
  have hv1 : ∃ A c, v1 = .slice A r1.length c := by
    rcases h1.form with ⟨rfl, rfl⟩ | ⟨g, cap, rfl, _⟩
    · exact ⟨none, 0, rfl⟩
    · exact ⟨_, _, rfl⟩
  have hv2 : ∃ A c, v2 = .slice A r2.length c := by
    rcases h2.form with ⟨rfl, rfl⟩ | ⟨g, cap, rfl, _⟩
    · exact ⟨none, 0, rfl⟩
    · exact ⟨_, _, rfl⟩
  obtain ⟨A1, c1, rfl⟩ := hv1
  obtain ⟨A2, c2, rfl⟩ := hv2
  by_cases hlen : r1.length = r2.length
  · by_cases hn : r1 = []
    · subst hn
      obtain rfl : r2 = [] := List.eq_nil_of_length_eq_zero hlen.symm
      rw [decide_eq_true rfl]
      clear h1 h2
      simp only [List.length_nil]
      go_enter Try.func18, Try.ntmps18
      go_wp2_with fail
      go_loopw [5] (fun k wr => k = .int .i64 0 ∧ w = wr) (fun _ _ => 0)
      case atStart => exact ⟨rfl, rfl⟩
      case round =>
        obtain ⟨rfl, rfl⟩ := hrel
        go_wp2_with fail
        go_ret
        exact ⟨rfl, 0, rfl⟩
    · have p1 : 0 < r1.length := by
        rcases Nat.eq_zero_or_pos r1.length with h | h
        · exact absurd (List.eq_nil_of_length_eq_zero h) hn
        · exact h
      obtain ⟨g1, rfl⟩ : ∃ g, A1 = some ⟨g, 0, none⟩ := by
        rcases h1.form with ⟨h, h'⟩ | ⟨g, cap, h, _⟩
        · exact absurd h' hn
        · injection h with h
          exact ⟨g, h⟩
      obtain ⟨g2, rfl⟩ : ∃ g, A2 = some ⟨g, 0, none⟩ := by
        rcases h2.form with ⟨h, h'⟩ | ⟨g, cap, h, _⟩
        · rw [h'] at hlen
          simp at hlen
          exact absurd hlen hn
        · injection h with h
          exact ⟨g, h⟩
      have hcell1 := Lib.hid (fun i (hi : i < r1.length) => (runCells_get r1 i hi).imp (h1.cell _ _) (h1.cell _ _))
      have hcell2 := Lib.hid (fun i (hi : i < r2.length) => (runCells_get r2 i hi).imp (h2.cell _ _) (h2.cell _ _))
      rw [← hlen] at hcell2 ⊢
      clear h1 h2
      generalize hN : r1.length = N at *
      have HN := Lib.hid hN
      have Hlen := Lib.hid hlen
      clear hN hlen hn
      go_enter Try.func18, Try.ntmps18
      go_wp2_with fail
      go_loopw [5] (fun k wr => ∃ t : Nat, t ≤ N ∧ k = .int .i64 (t : Int) ∧ Hid (∀ j, j < t → r1.getD j (0, 0) = r2.getD j (0, 0)) ∧ ∃ nd, wr = w.drewN nd) (fun k _ => N - (intOf k).toNat)
      case atStart => exact ⟨0, Nat.zero_le _, rfl, Lib.hid (fun j hj => absurd hj (by omega)), 0, rfl⟩
      case round =>
        obtain ⟨t, ht, rfl, hr, nd, rfl⟩ := hrel
        by_cases hlt : t < N
        · obtain ⟨x1, x2⟩ := hcell1.out t hlt
          obtain ⟨y1, y2⟩ := hcell2.out t hlt
          rw [Nat.mul_comm] at x1 x2 y1 y2
          obtain ⟨a, ha⟩ : ∃ a, a = r1.getD t (0, 0) := ⟨_, rfl⟩
          obtain ⟨b, hb⟩ : ∃ b, b = r2.getD t (0, 0) := ⟨_, rfl⟩
          rw [← ha] at x1 x2
          rw [← hb] at y1 y2
          have Ha := Lib.hid ha
          have Hb := Lib.hid hb
          clear ha hb
          obtain ⟨a1, a2⟩ := a
          obtain ⟨b1, b2⟩ := b
          simp only at x1 x2 y1 y2
          have hne : ∀ (_ : (a1, a2) ≠ (b1, b2)), r1 ≠ r2 := fun h e => h (by rw [Ha.out, Hb.out, e])
          by_cases e1 : a1 = b1
          · by_cases e2 : a2 = b2
            · subst e1 e2
              have Hr : Hid (∀ j, j < t + 1 → r1.getD j (0, 0) = r2.getD j (0, 0)) := Lib.hid (fun j hj => by
                by_cases hjt : j = t
                · subst hjt
                  rw [← Ha.out, ← Hb.out]
                · exact hr.out j (by omega))
              clear hne hr
              go_wp2_with fail
              go_quiet (fail)
              go_wp2_with fail
              go_roundw
              case rel => exact ⟨t + 1, by omega, by go_num, Hr, nd + nq, by first | rfl | rw [World.drewN_drewN]⟩
              case measure => simp [intOf] <;> omega
            · subst e1
              have e3 : ¬ (a2 : Int) = (b2 : Int) := by omega
              have Hne := Lib.hid (hne (fun h => e2 (congrArg Prod.snd h)))
              clear hne hr e2
              go_wp2_with fail
              go_quiet (fail)
              go_wp2_with fail
              go_ret
              exact ⟨by rw [decide_eq_false Hne.out]; rfl, nd + nq, by first | rfl | rw [World.drewN_drewN]⟩
          · have e3 : ¬ (a1 : Int) = (b1 : Int) := by omega
            have Hne := Lib.hid (hne (fun h => e1 (congrArg Prod.fst h)))
            clear hne hr e1
            go_wp2_with fail
            go_quiet (fail)
            go_wp2_with fail
            go_ret
            exact ⟨by rw [decide_eq_false Hne.out]; rfl, nd + nq, by first | rfl | rw [World.drewN_drewN]⟩
        · obtain rfl : t = N := by omega
          have he : r1 = r2 := getD_ext r1 r2 (by rw [HN.out]; exact Hlen.out) (by rw [HN.out]; exact hr.out)
          have He := Lib.hid he
          clear he
          go_wp2_with fail
          go_ret
          exact ⟨by rw [decide_eq_true He.out]; rfl, nd, rfl⟩
  · rw [decide_eq_false (fun h => hlen (by rw [h]))]
    have hl : ¬ (r1.length : Int) = (r2.length : Int) := by omega
    clear h1 h2
    generalize r1.length = n1 at *
    generalize r2.length = n2 at *
    go_enter Try.func18, Try.ntmps18
    go_wp2_with fail
    go_ret
    exact ⟨rfl, 0, rfl⟩
theorem refRuns_ok (bs : List Bool) (p q : Nat) (w : World) (h : Rf w p q bs) :
    Calls Try.prog 34 #[.pointer (some ⟨p, 0, none⟩)] w (RunsPost w bs) := by
  have hf := h.few
  have H := Lib.hid h
  clear h
  generalize hn : bs.length = n at *
  have Hn := Lib.hid hn
  clear hn
  go_enter Try.func34, Try.ntmps34
  go_wp2_with fail
  go_loopw [3, 4] (fun l k wr => ∃ t : Nat, t ≤ n ∧ k = .int .i64 (t : Int) ∧ Hid (OwnR wr l (runsTo bs t) ∧ FreshV w l ∧ Kept [] w wr)) (fun _ k _ => n - (intOf k).toNat)
  case atStart => exact ⟨0, Nat.zero_le _, rfl, Lib.hid ⟨OwnR.nil _, .inl rfl, Kept.refl _ _⟩⟩
  case round =>
    obtain ⟨t, ht, rfl, hr⟩ := hrel
    have c0 := (H.out.keep0 hr.out.2.2).c0
    rw [Hn.out] at c0
    by_cases hlt : t < n
    · have hc := (H.out.keep0 hr.out.2.2).cell t (by rw [Hn.out]; exact hlt)
      have hstep : Hid (runsTo bs (t + 1) = if bit bs t then (if 0 < t ∧ bit bs (t - 1) = true then lastUp (runsTo bs t) else runsTo bs t ++ [(t, 1)]) else runsTo bs t) := Lib.hid rfl
      have hlen := runsTo_length bs t
      cases hb : bit bs t with
      | false =>
        rw [hb] at hc hstep
        have HE : Hid (runsTo bs (t + 1) = runsTo bs t) := Lib.hid (by rw [hstep.out, if_neg (by decide)])
        clear hb hstep
        go_wp2_with fail
        go_roundw
        case rel => exact ⟨t + 1, by omega, by go_num, Lib.hid (by rw [HE.out]; exact hr.out)⟩
        case measure => simp [intOf]; omega
      | true =>
        rw [hb] at hc hstep
        by_cases h0 : 0 < t
        · have hc1 := (H.out.keep0 hr.out.2.2).cell (t - 1) (by rw [Hn.out]; omega)
          have et : ((t : Int) - 1) = ((t - 1 : Nat) : Int) := by omega
          cases hb1 : bit bs (t - 1) with
          | true =>
            rw [hb1] at hc1
            have HE : Hid (runsTo bs (t + 1) = lastUp (runsTo bs t)) := Lib.hid (by rw [hstep.out, if_pos rfl, if_pos ⟨h0, hb1⟩])
            have hne := runsTo_ne bs t h0 hb1
            clear hb hb1 hstep
            rcases hr.out.1.form with ⟨hx, hy⟩ | ⟨g, cap, hx, hg, hcap⟩
            · rw [hy] at hne
              exact absurd hne (by decide)
            · obtain ⟨L, hL⟩ : ∃ L, (runsTo bs t).length = L + 1 := ⟨(runsTo bs t).length - 1, by omega⟩
              have hl := runCells_get (runsTo bs t) L (by omega)
              subst hx
              have d0 := hr.out.1.cell _ _ hl.1
              have d1 := hr.out.1.cell _ _ hl.2
              rw [hL] at hcap ⊢
              obtain ⟨ra, hra⟩ : ∃ ra, ra = ((runsTo bs t).getD L (0, 0)).1 := ⟨_, rfl⟩
              obtain ⟨rl, hrl⟩ : ∃ rl, rl = ((runsTo bs t).getD L (0, 0)).2 := ⟨_, rfl⟩
              rw [← hra, Nat.mul_comm] at d0
              rw [← hrl, Nat.mul_comm] at d1
              have fg : ∀ j, wr.frozen? ⟨g, j, none⟩ = false := fun j => by
                rcases hr.out.1.2 with ⟨h1, _⟩ | ⟨g', cap', cur, h1, _, hg', _⟩
                · cases h1
                · injection h1 with h1
                  injection h1 with h1
                  injection h1 with h1
                  subst h1
                  exact frozen_of_row wr g j cur _ hg'
              have f0 := fg (L * 2)
              have f1 := fg (L * 2 + 1)
              have hrb : rl ≤ 65536 := by
                have hmem : (runsTo bs t).getD L (0, 0) ∈ runsTo bs t := by
                  rw [List.getD, List.getElem?_eq_getElem (by omega)]
                  exact List.getElem_mem _
                have := runsTo_within bs t _ hmem
                omega
              clear fg
              have Hra := Lib.hid hra
              have Hrl := Lib.hid hrl
              clear hra hrl
              have el : ((L + 1 : Nat) : Int) - 1 = (L : Int) := by omega
              clear hl
              have HU := Lib.hid (ownR_up hr.out.1 hL)
              rw [← Hra.out, ← Hrl.out] at HU
              have HK := Lib.hid hr.out.2.2
              have HF := Lib.hid hr.out.2.1
              rw [hL] at HF
              have hfr : w.heap.size ≤ g := by
                rcases HF.out with h1 | ⟨b, h1, h2⟩
                · cases h1
                · injection h1 with h1
                  rw [← h1] at h2
                  exact h2
              have hLb : L ≤ 65536 := by omega
              clear hr hL
              go_wp2_with fail
              go_roundw
              case rel => exact ⟨t + 1, by omega, by go_num, Lib.hid ⟨by rw [HE.out]; exact HU.out.keep0 ((Kept.refl [] _).alloc _), HF.out, ((HK.out.setCell _ _ (.inr hfr)).setCell _ _ (.inr hfr)).alloc _⟩⟩
              case measure => simp [intOf] <;> omega
          | false =>
            rw [hb1] at hc1
            have HE : Hid (runsTo bs (t + 1) = runsTo bs t ++ [(t, 1)]) := Lib.hid (by rw [hstep.out, if_pos rfl, if_neg (by rw [hb1]; simp)])
            skip
            clear hb hb1 hstep et
            have hB := Has.new wr 29 [.int .i64 (t : Int), .int .i64 1]
            have h0' : (wr.alloc (.cells #[.int .i64 (t : Int), .int .i64 1] 29)).cell? ⟨wr.heap.size, 0, none⟩ = some (.int .i64 ((t : Nat) : Int)) := hB.cell 0
            have h1' : (wr.alloc (.cells #[.int .i64 (t : Int), .int .i64 1] 29)).cell? ⟨wr.heap.size, 1, none⟩ = some (.int .i64 ((1 : Nat) : Int)) := hB.cell 1
            have hka : Kept [] wr (wr.alloc (.cells #[.int .i64 (t : Int), .int .i64 1] 29)) := (Kept.refl [] wr).alloc _
            have HO3 := Lib.hid (hr.out.1.keep0 hka)
            have H0 := Lib.hid h0'
            have H1 := Lib.hid h1'
            have Hka := Lib.hid (hr.out.2.2.trans hka)
            have HF := Lib.hid hr.out.2.1
            clear hB h0' h1' hka
            generalize hrs0 : runsTo bs t = rs at *
            go_wp2_with (at_builtin; (refine append_run rfl (.tmp 51) (.tmp 54) rfl u3 rs rfl HO3.out wr.heap.size 1 (t, 1) rfl H0.out H1.out (by omega) ?_))
            intro v' w3 hO hG hV
            have hk3 : Kept [] w w3 := own_grown Hka.out HF.out hG
            rw [← World.size_alloc wr (.cells #[.int .i64 (t : Int), .int .i64 1] 29)] at hV
            have hF3 := own_fresh Hka.out HF.out hV
            have HNew : Hid (OwnR w3 v' (runsTo bs (t + 1)) ∧ FreshV w v' ∧ Kept [] w w3) := Lib.hid ⟨by rw [HE.out]; exact hO, hF3, hk3⟩
            clear hk3 hO hF3 hG hV H0 H1 HO3 Hka
            go_wp2_with fail
            go_roundw
            case rel => exact ⟨t + 1, by omega, by go_num, HNew⟩
            case measure => simp [intOf] <;> omega
        · have HE : Hid (runsTo bs (t + 1) = runsTo bs t ++ [(t, 1)]) := Lib.hid (by rw [hstep.out, if_pos rfl, if_neg (by omega)])
          clear hb hstep
          have hB := Has.new wr 29 [.int .i64 (t : Int), .int .i64 1]
          have h0' : (wr.alloc (.cells #[.int .i64 (t : Int), .int .i64 1] 29)).cell? ⟨wr.heap.size, 0, none⟩ = some (.int .i64 ((t : Nat) : Int)) := hB.cell 0
          have h1' : (wr.alloc (.cells #[.int .i64 (t : Int), .int .i64 1] 29)).cell? ⟨wr.heap.size, 1, none⟩ = some (.int .i64 ((1 : Nat) : Int)) := hB.cell 1
          have hka : Kept [] wr (wr.alloc (.cells #[.int .i64 (t : Int), .int .i64 1] 29)) := (Kept.refl [] wr).alloc _
          have HO3 := Lib.hid (hr.out.1.keep0 hka)
          have H0 := Lib.hid h0'
          have H1 := Lib.hid h1'
          have Hka := Lib.hid (hr.out.2.2.trans hka)
          have HF := Lib.hid hr.out.2.1
          clear hB h0' h1' hka
          generalize hrs0 : runsTo bs t = rs at *
          go_wp2_with (at_builtin; (refine append_run rfl (.tmp 51) (.tmp 54) rfl u3 rs rfl HO3.out wr.heap.size 1 (t, 1) rfl H0.out H1.out (by omega) ?_))
          intro v' w3 hO hG hV
          have hk3 : Kept [] w w3 := own_grown Hka.out HF.out hG
          rw [← World.size_alloc wr (.cells #[.int .i64 (t : Int), .int .i64 1] 29)] at hV
          have hF3 := own_fresh Hka.out HF.out hV
          have HNew : Hid (OwnR w3 v' (runsTo bs (t + 1)) ∧ FreshV w v' ∧ Kept [] w w3) := Lib.hid ⟨by rw [HE.out]; exact hO, hF3, hk3⟩
          clear hk3 hO hF3 hG hV H0 H1 HO3 Hka
          go_wp2_with fail
          go_roundw
          case rel => exact ⟨t + 1, by omega, by go_num, HNew⟩
          case measure => simp [intOf] <;> omega
    · obtain rfl : t = n := by omega
      go_wp2_with fail
      go_ret
      exact ⟨_, rfl, by have := hr.out.1; unfold runsV; rw [Hn.out]; exact this, hr.out.2.1, hr.out.2.2⟩
theorem ownR_of_has {w : World} {g : Nat} {rs : List (Nat × Nat)} (h : Has w g 29 (runCells rs)) (hl : rs.length ≤ 65536) : OwnR w (.slice (some ⟨g, 0, none⟩) rs.length rs.length) rs :=
  ⟨runCells_length rs, .inr ⟨g, rs.length, (runCells rs).toArray, rfl, Nat.zero_le _, h, Nat.le_refl _, by unfold maxLen; omega, by rw [List.size_toArray, runCells_length], by
    show ((runCells rs).take (rs.length * 2)) = runCells rs
    rw [← runCells_length, List.take_length]⟩⟩
end Go.Proofs.Ytbgonppichdhiaa.Bt
