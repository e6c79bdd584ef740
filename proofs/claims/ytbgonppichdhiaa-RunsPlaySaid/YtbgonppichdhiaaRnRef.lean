/-
  The document's set, number by number: its memory, and the contracts of New, May, Add, Cut, List, Total.
-/
import Derived.Test.YtbgonppichdhiaaRnCut
import Derived.Test.YtbgonppichdhiaaRnCopy
import Derived.StillTailTactics
namespace Go.Proofs.Ytbgonppichdhiaa.Rn
open Go.RowKit Go.Proofs.Ytbgonppichdhiaa.Ar Go.Proofs.Ytbgonppichdhiaa.Bt Go.Proofs.Ytbgonppichdhiaa.Lk Go.Sort
set_option linter.unusedVariables false

/-- The document's set at r, whose bits at p, q are these runs. -/
structure RefAt (w : World) (r p q : Nat) (rs : List R) : Prop where
  head : Has w r 45 [.pointer (some ⟨p, 0, none⟩)]
  bits : ∃ bs, Rf w p q bs ∧ bs.length = 65536 ∧ ∀ j, bit bs j = has rs j
namespace RefAt
variable {w w' : World} {r p q : Nat} {rs : List R}
theorem kept {S : List Nat} (h : RefAt w r p q rs) (k : Kept S w w') (h1 : r ∉ S) (h2 : p ∉ S) (h3 : q ∉ S) : RefAt w' r p q rs :=
  ⟨h.head.kept k h1, let ⟨bs, a, b, c⟩ := h.bits; ⟨bs, a.kept k h2 h3, b, c⟩⟩
theorem keep0 (h : RefAt w r p q rs) (k : Kept [] w w') : RefAt w' r p q rs := h.kept k (by simp) (by simp) (by simp)
theorem c0 (h : RefAt w r p q rs) : w.cell? ⟨r, 0, none⟩ = some (.pointer (some ⟨p, 0, none⟩)) := h.head.cell 0
theorem apart (h : RefAt w r p q rs) {b : Nat} {ns : List Nd} (hs : Rs w b ns) : r ∉ blocks b ns ∧ p ∉ blocks b ns ∧ q ∉ blocks b ns := by
  obtain ⟨bs, hb, _⟩ := h.bits
  exact ⟨hs.other h.head (by decide) (by decide), hs.other hb.head (by decide) (by decide), hs.other hb.row (by decide) (by decide)⟩
theorem lt (h : RefAt w r p q rs) : r < w.heap.size ∧ p < w.heap.size ∧ q < w.heap.size := by
  obtain ⟨bs, hb, _⟩ := h.bits
  exact ⟨h.head.lt, hb.head.lt, hb.row.lt⟩
theorem ne (h : RefAt w r p q rs) : r ≠ q := by
  obtain ⟨bs, hb, _⟩ := h.bits
  exact Has.block_type h.head hb.row (by decide)
end RefAt
theorem bit_none (n j : Nat) : bit (List.replicate n false) j = false := by
  unfold bit
  rw [List.getD, List.getElem?_replicate]
  split <;> rfl
theorem refNewR_ok (w : World) : Calls Try.prog 9 #[] w fun e w' => ∃ r p q, e = .returned (.pointer (some ⟨r, 0, none⟩)) ∧ RefAt w' r p q [] ∧ (w.heap.size ≤ r ∧ w.heap.size ≤ p ∧ w.heap.size ≤ q) ∧ Kept [] w w' := by
  have hN := refNew_ok 65536 (Nat.le_refl _) w
  have hl : (List.replicate 65536 false).length = 65536 := List.length_replicate
  have hb := bit_none 65536
  generalize List.replicate 65536 false = bs at *
  have HN := Lib.hid hN
  have Hl := Lib.hid hl
  have Hb := Lib.hid hb
  clear hN hl hb
  go_enter Try.func9, Try.ntmps9
  go_wp2_with fail
  refine HN.out.mono ?_
  rintro e w1 ⟨rfl, hR, hk⟩
  have HR := Lib.hid hR
  have Hk := Lib.hid hk
  clear hR hk
  go_wp2_with fail
  go_ret
  have hk2 : Kept [] w1 (w1.alloc (.cells #[.pointer (some ⟨w.heap.size + 1, 0, none⟩)] 45)) := (Kept.refl [] w1).alloc _
  refine ⟨_, _, _, rfl, ⟨Has.new w1 _ [.pointer (some ⟨w.heap.size + 1, 0, none⟩)], bs, HR.out.keep0 hk2, Hl.out, fun j => by rw [Hb.out]; rfl⟩, ⟨?_, by omega, Nat.le_refl _⟩, Hk.out.trans hk2⟩
  exact Hk.out.more
theorem mayR_ok (a n : Int) (w : World) (a1 : -9223372036854775808 ≤ a) (a2 : a ≤ 9223372036854775807) (n1 : -9223372036854775808 ≤ n) (n2 : n ≤ 9223372036854775807) :
    Calls Try.prog 37 #[runV a n] w fun e w' => e = .returned (.bool (valid a n)) ∧ Kept [] w w' := by
  unfold runV
  by_cases h0 : 0 ≤ a
  · by_cases h1 : 1 ≤ n
    · by_cases h2 : a ≤ 65536
      · by_cases h3 : n ≤ 65536 - a
        · rw [(valid_iff a n).2 ⟨h0, h1, h3⟩]
          go_enter Try.func37, Try.ntmps37
          go_wp2_with fail
          go_ret
          exact ⟨rfl, (Kept.refl [] w).alloc _⟩
        · rw [show valid a n = false from decide_eq_false (by omega)]
          go_enter Try.func37, Try.ntmps37
          go_wp2_with fail
          go_ret
          exact ⟨rfl, (Kept.refl [] w).alloc _⟩
      · rw [show valid a n = false from decide_eq_false (by omega)]
        go_enter Try.func37, Try.ntmps37
        go_wp2_with fail
        go_ret
        exact ⟨rfl, (Kept.refl [] w).alloc _⟩
    · rw [show valid a n = false from decide_eq_false (by omega)]
      go_enter Try.func37, Try.ntmps37
      go_wp2_with fail
      go_ret
      exact ⟨rfl, (Kept.refl [] w).alloc _⟩
  · rw [show valid a n = false from decide_eq_false (by omega)]
    go_enter Try.func37, Try.ntmps37
    go_wp2_with fail
    go_ret
    exact ⟨rfl, (Kept.refl [] w).alloc _⟩
/-- How many of these are there. -/
def cntR (rs : List R) (a n : Nat) : Nat := cnt (fun j => has rs (a + j)) n
theorem cntR_free {rs : List R} (h : Fine 0 rs) (a n : Nat) (hn : 1 ≤ n) : freeB rs a n = decide (cntR rs a n = 0) := by
  rw [Bool.eq_iff_iff, decide_eq_true_iff, free_iff h a n hn]
  unfold cntR
  constructor
  · exact fun hh => cnt_false _ _ fun j hj => hh (a + j) (by omega) (by omega)
  · intro hh j j1 j2
    cases hb : has rs j with
    | false => rfl
    | true =>
      have := cnt_pos (fun j => has rs (a + j)) n ⟨j - a, by omega, by show has rs (a + (j - a)) = true; rw [show a + (j - a) = j by omega]; exact hb⟩
      omega
theorem cntR_all {rs : List R} (h : Fine 0 rs) (a n : Nat) (hn : 1 ≤ n) : allB rs a n = decide (cntR rs a n = n) := by
  rw [Bool.eq_iff_iff, decide_eq_true_iff, all_iff h a n hn]
  unfold cntR
  constructor
  · exact fun hh => cnt_true _ _ fun j hj => hh (a + j) (by omega) (by omega)
  · intro hh j j1 j2
    cases hb : has rs j with
    | true => rfl
    | false =>
      have := cnt_lt (fun j => has rs (a + j)) n ⟨j - a, by omega, by show has rs (a + (j - a)) = false; rw [show a + (j - a) = j by omega]; exact hb⟩
      omega
theorem cntR_le (rs : List R) (a n : Nat) : cntR rs a n ≤ n := cnt_le _ _
theorem countR_ok (w : World) {r p q : Nat} {rs : List R} (h : RefAt w r p q rs) (a n : Nat) (hv : a + n ≤ 65536) :
    Calls Try.prog 35 #[.pointer (some ⟨p, 0, none⟩), .int .i64 a, .int .i64 n] w fun e w' => e = .returned (.tuple #[.int .i64 ((cntR rs a n : Nat) : Int), .int .i64 0]) ∧ ∃ k, w' = w.drewN k := by
  obtain ⟨bs, hb, hl, hm⟩ := h.bits
  have hc := refCount_yes w hb a n (by omega)
  rw [cnt_congr n fun j _ => hm (a + j)] at hc
  exact hc.mono fun e w' ⟨he, hw⟩ => ⟨he, 0, by rw [← hw]; rfl⟩
theorem layR_ok (w : World) {r p q : Nat} {rs rs' : List R} (h : RefAt w r p q rs) (a n : Nat) (hv : a + n ≤ 65536) (st : Bool) (hst : ∀ j, has rs' j = if a ≤ j ∧ j < a + n then st else has rs j) :
    Calls Try.prog 38 #[.pointer (some ⟨p, 0, none⟩), .int .i64 a, .int .i64 n, .bool st] w fun e w' => e = .returned (.int .i64 0) ∧ RefAt w' r p q rs' ∧ Kept [q] w w' := by
  obtain ⟨bs, hb, hl, hm⟩ := h.bits
  refine (refLay_yes w hb a n (by omega) st).mono ?_
  rintro e w' ⟨he, hR, hk⟩
  refine ⟨he, ⟨h.head.kept hk (by simp; exact h.ne), _, hR, by rw [laid_length]; exact hl, fun j => ?_⟩, hk⟩
  rw [hst j]
  by_cases hj : j < 65536
  · rw [laid_bit _ _ _ _ j (by omega), hm j]
  · rw [bit_out _ _ (by rw [laid_length]; omega), if_neg (by omega), ← hm j, bit_out _ _ (by omega)]
theorem listR_ok (w : World) {r p q : Nat} {rs : List R} (h : RefAt w r p q rs) (hf : Fine 0 rs) :
    Calls Try.prog 20 #[.pointer (some ⟨r, 0, none⟩)] w fun e w' => ∃ v, e = .returned v ∧ OwnR w' v rs ∧ FreshV w v ∧ Kept [] w w' := by
  obtain ⟨bs, hb, hl, hm⟩ := h.bits
  have hR := refRuns_ok bs p q w hb
  have hrs := runs_of hl hf hm
  have HR : Hid (Calls Try.prog 34 #[.pointer (some ⟨p, 0, none⟩)] w fun e w' => ∃ v, e = .returned v ∧ OwnR w' v rs ∧ FreshV w v ∧ Kept [] w w') := Lib.hid (hR.mono fun e w' ⟨v, he, hO, hF, hk⟩ => ⟨v, he, by rw [← hrs]; exact hO, hF, hk⟩)
  have c0 := h.c0
  clear hR hrs hb hl hm h hf
  go_enter Try.func20, Try.ntmps20
  go_wp2_with fail
  refine HR.out.mono ?_
  rintro e w1 ⟨v, rfl, hO, hF, hk⟩
  have HO := Lib.hid hO
  have HF := Lib.hid hF
  have Hk := Lib.hid hk
  clear hO hF hk
  go_wp2_with fail
  go_ret
  exact ⟨v, rfl, HO.out, HF.out, Hk.out⟩
theorem totalR_ok (w : World) {r p q : Nat} {rs : List R} (h : RefAt w r p q rs) (hf : Fine 0 rs) :
    Calls Try.prog 22 #[.pointer (some ⟨r, 0, none⟩)] w fun e w' => e = .returned (.int .i64 ((total rs : Nat) : Int)) ∧ Kept [] w w' := by
  have hc := countR_ok w h 0 65536 (Nat.le_refl _)
  have hct : cntR rs 0 65536 = total rs := by
    rw [← cnt_all hf]
    unfold cntR
    exact cnt_congr _ fun j _ => by rw [Nat.zero_add]
  rw [hct] at hc
  have HC : Hid (Calls Try.prog 35 #[.pointer (some ⟨p, 0, none⟩), .int .i64 0, .int .i64 65536] w fun e w' => e = .returned (.tuple #[.int .i64 ((total rs : Nat) : Int), .int .i64 0]) ∧ ∃ k, w' = w.drewN k) := Lib.hid hc
  have c0 := h.c0
  clear hc hct h hf
  go_enter Try.func22, Try.ntmps22
  go_wp2_with fail
  refine HC.out.mono ?_
  rintro e w1 ⟨rfl, k, rfl⟩
  go_wp2_with fail
  go_ret
  exact ⟨rfl, (Kept.refl [] w).drewN _⟩
end Go.Proofs.Ytbgonppichdhiaa.Rn
