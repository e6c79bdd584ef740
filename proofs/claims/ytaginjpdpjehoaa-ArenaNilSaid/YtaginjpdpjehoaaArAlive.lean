/-
  The chapter's examples, which each law of the layer asks besides.
-/
import Derived.Test.YtaginjpdpjehoaaArSame
namespace Go.Proofs.Ytaginjpdpjehoaa.Ar
open Go.RowKit

/-- An arena of the call's own. -/
def Mine (w x : World) (p q : Nat) (ws : List Int) (n : Int) : Prop := w.heap.size ≤ p ∧ w.heap.size ≤ q ∧ Arena x p q ws n ∧ Kept [] w x
theorem Mine.next {w x y : World} {p q : Nat} {ws vs : List Int} {n m : Int} (h : Mine w x p q ws n) (hA : Arena y p q vs m) (hK : Kept [p, q] x y) : Mine w y p q vs m := by
  obtain ⟨h1, h2, _, h4⟩ := h
  refine ⟨h1, h2, hA, h4.forget hK fun i hi => ?_⟩
  rcases List.mem_cons.1 hi with rfl | hi
  · exact h1
  · rcases List.mem_cons.1 hi with rfl | hi
    · exact h2
    · cases hi
theorem Mine.stay {w x y : World} {p q : Nat} {ws : List Int} {n : Int} (h : Mine w x p q ws n) (hK : Kept [] x y) : Mine w y p q ws n :=
  ⟨h.1, h.2.1, h.2.2.1.keep0 hK, h.2.2.2.trans hK⟩
def a1 : List Int := 1 :: List.replicate 15 0
def a2 : List Int := 1 :: 2 :: List.replicate 14 0
def a3 : List Int := 1 :: 1 :: 2 :: List.replicate 13 0
def a4 : List Int := 1 :: 2 :: 2 :: List.replicate 13 0

section
variable {p q : Nat} {w x : World}
theorem step1 (h : Mine w x p q (List.replicate 16 0) 0) : Calls Try.prog 13 #[.pointer (some ⟨p, 0, none⟩), .int .i64 0, .int .u64 1] x fun e y => e = .returned (.int .i64 0) ∧ Mine w y p q a1 1 := by
  refine (store_any h.2.2.1 0 1 (by omega) (by omega)).mono ?_
  rintro e y ⟨rfl, hA, hK⟩
  exact ⟨ret_int (by decide), h.next (by rw [show a1 = fillW (List.replicate 16 0) 0 1 1 by decide, show (1 : Int) = fillN (List.replicate 16 0) 0 0 1 by decide]; exact hA) hK⟩
theorem step2 (h : Mine w x p q a1 1) : Calls Try.prog 13 #[.pointer (some ⟨p, 0, none⟩), .int .i64 1, .int .u64 2] x fun e y => e = .returned (.int .i64 0) ∧ Mine w y p q a2 2 := by
  refine (store_any h.2.2.1 1 2 (by omega) (by omega)).mono ?_
  rintro e y ⟨rfl, hA, hK⟩
  rw [show fillW a1 1 1 2 = a2 by decide, show fillN a1 1 1 1 = 2 by decide] at hA
  exact ⟨ret_int (by decide), h.next hA hK⟩
theorem step3 (h : Mine w x p q a2 2) : Calls Try.prog 18 #[.pointer (some ⟨p, 0, none⟩), .int .i64 1, .int .i64 0, .int .i64 2] x fun e y => e = .returned (.int .i64 0) ∧ Mine w y p q a3 4 := by
  refine (move_any h.2.2.1 1 0 2 (by omega) (by omega) (by omega) (by omega) (by omega) (by omega)).mono ?_
  rintro e y ⟨rfl, hA, hK⟩
  rw [show moveW a2 1 0 2 = a3 by decide, show moveN a2 2 1 0 2 = 4 by decide] at hA
  exact ⟨ret_int (by decide), h.next hA hK⟩
theorem step4 (h : Mine w x p q a3 4) : Calls Try.prog 19 #[.pointer (some ⟨p, 0, none⟩), .int .i64 0, .int .i64 3] x fun e y => ∃ g, e = .returned (.tuple #[.slice (some ⟨g, 0, none⟩) 3 3, .int .i64 0]) ∧ Mine w y p q a3 4 ∧ Row y g [1, 1, 2] ∧ x.heap.size ≤ g := by
  refine (words_ok h.2.2.1 0 3 (by decide)).mono ?_
  rintro e y ⟨g, rfl, hg, hH, hK⟩
  exact ⟨g, rfl, h.stay hK, hH, hg⟩
theorem step5 (h : Mine w x p q a3 4) {g : Nat} (hg : Row x g [1, 1, 2]) (hp : g ≠ p) (hq : g ≠ q) : Calls Try.prog 18 #[.pointer (some ⟨p, 0, none⟩), .int .i64 0, .int .i64 1, .int .i64 2] x fun e y => e = .returned (.int .i64 0) ∧ Mine w y p q a4 6 ∧ Row y g [1, 1, 2] := by
  refine (move_any h.2.2.1 0 1 2 (by omega) (by omega) (by omega) (by omega) (by omega) (by omega)).mono ?_
  rintro e y ⟨rfl, hA, hK⟩
  rw [show moveW a3 0 1 2 = a4 by decide, show moveN a3 4 0 1 2 = 6 by decide] at hA
  exact ⟨ret_int (by decide), h.next hA hK, Has.kept hg hK (by simp; omega)⟩
theorem step6 (h : Mine w x p q a4 6) {g : Nat} (hg : Row x g [1, 1, 2]) : Calls Try.prog 19 #[.pointer (some ⟨p, 0, none⟩), .int .i64 0, .int .i64 3] x fun e y => ∃ k, e = .returned (.tuple #[.slice (some ⟨k, 0, none⟩) 3 3, .int .i64 0]) ∧ Mine w y p q a4 6 ∧ Row y g [1, 1, 2] ∧ Row y k [1, 2, 2] := by
  refine (words_ok h.2.2.1 0 3 (by decide)).mono ?_
  rintro e y ⟨k, rfl, hk, hH, hK⟩
  exact ⟨k, rfl, h.stay hK, Has.keep0 hg hK, hH⟩
theorem step7 (h : Mine w x p q a4 6) : Calls Try.prog 21 #[.pointer (some ⟨p, 0, none⟩), .int .i64 16] x fun e y => e = .returned (.tuple #[.int .u64 0, .int .i64 2]) ∧ x = y := by
  refine (load_any h.2.2.1 16 (by omega) (by omega)).mono ?_
  rintro e y ⟨rfl, rfl⟩
  exact ⟨by rw [show loadV a4 16 = 0 by decide, show errOf (within a4.length 16 1) = 2 by decide], rfl⟩
theorem step9 (h : Mine w x p q a4 6) : Calls Try.prog 14 #[.pointer (some ⟨p, 0, none⟩), .int .i64 15, .int .i64 2, .int .u64 0] x fun e y => e = .returned (.int .i64 2) ∧ Mine w y p q a4 6 := by
  refine (fill_any h.2.2.1 15 2 0 (by omega) (by omega) (by omega) (by omega)).mono ?_
  rintro e y ⟨rfl, hA, hK⟩
  rw [show fillW a4 15 2 0 = a4 by decide, show fillN a4 6 15 2 = 6 by decide] at hA
  exact ⟨ret_int (by decide), h.next hA hK⟩
/-- Three words that were laid anew are the ones that a row has. -/
theorem step8 {g : Nat} (a b c : Int) (hg : Row x g [a, b, c]) : Calls Try.prog 20 #[.slice (some ⟨g, 0, none⟩) 3 3, .slice (some ⟨x.heap.size, 0, none⟩) 3 3] (x.alloc (.cells #[.int .u64 a, .int .u64 b, .int .u64 c] 32))
    fun e y => e = .returned (.bool true) ∧ ∃ k, y = (x.alloc (.cells #[.int .u64 a, .int .u64 b, .int .u64 c] 32)).drewN k := by
  have h1 : Row (x.alloc (.cells #[.int .u64 a, .int .u64 b, .int .u64 c] 32)) x.heap.size [a, b, c] := Has.new x 32 (ints [a, b, c])
  have h2 : Row (x.alloc (.cells #[.int .u64 a, .int .u64 b, .int .u64 c] 32)) g [a, b, c] := Has.alloc hg _
  have h := same_any (some ⟨g, 0, none⟩) (some ⟨x.heap.size, 0, none⟩) [a, b, c] [a, b, c] 3 3 _ h2.seen h1.seen (by simp) (by simp)
  rw [sameB_self] at h
  exact h
end

set_option maxRecDepth 100000 in
set_option maxHeartbeats 1600000 in
theorem alive_any (w : World) : Calls Try.prog 7 #[] w fun e w' => e = .returned (.bool true) ∧ Kept [] w w' := by
  have hn := Lib.hid (new_ok 16 (by decide) w)
  have hb := Lib.hid (fun x => new_bad 17 (by decide) x)
  go_enter Try.func7, Try.ntmps7
  go_wp2_with fail
  refine hn.out.mono ?_; rintro e x0 ⟨p, q, rfl, hp, hq, hA, hK⟩
  have h0 : Hid (Mine w x0 p q (List.replicate 16 0) 0) := ⟨hp, hq, hA, hK⟩
  clear hp hq hA hK hn
  go_wp2_with fail
  refine (step1 h0.out).mono ?_; rintro e x1 ⟨rfl, h1'⟩
  have h1 := Lib.hid h1'
  clear h1' h0
  go_wp2_with fail
  refine (step2 h1.out).mono ?_; rintro e x2 ⟨rfl, h2'⟩
  have h2 := Lib.hid h2'
  clear h2' h1
  go_wp2_with fail
  refine (step3 h2.out).mono ?_; rintro e x3 ⟨rfl, h3'⟩
  have h3 := Lib.hid h3'
  clear h3' h2
  go_wp2_with fail
  refine (step4 h3.out).mono ?_; rintro e x4 ⟨g, rfl, h4', r4', hg⟩
  have h4 := Lib.hid h4'
  have r4 := Lib.hid r4'
  have hpq : Hid (g ≠ p ∧ g ≠ q) := ⟨by have := h3.out.2.2.1.head.lt; omega, by have := h3.out.2.2.1.row.lt; omega⟩
  clear h4' r4' h3 hg
  go_wp2_with fail
  refine (writes_any h4.out.2.2.1).mono ?_; rintro e x5 ⟨rfl, rfl⟩
  go_wp2_with fail
  refine (step5 h4.out r4.out hpq.out.1 hpq.out.2).mono ?_; rintro e x6 ⟨rfl, h6', r6'⟩
  have h6 := Lib.hid h6'
  have r6 := Lib.hid r6'
  clear h6' r6' h4 r4 hpq
  go_wp2_with fail
  refine (step6 h6.out r6.out).mono ?_; rintro e x7 ⟨k, rfl, h7', r7', s7'⟩
  have h7 := Lib.hid h7'
  have r7 := Lib.hid r7'
  have s7 := Lib.hid s7'
  clear h7' r7' s7' h6 r6
  go_wp2_with fail
  refine (step7 h7.out).mono ?_; rintro e x8 ⟨rfl, rfl⟩
  go_wp2_with fail
  refine (hb.out _).mono ?_; rintro e x9 ⟨rfl, rfl⟩
  go_wp2_with fail
  refine (step8 1 1 2 r7.out).mono ?_; rintro e x10 ⟨rfl, m, hx⟩
  have k10 : Hid (Kept [] x7 x10) := by subst hx; exact ((Kept.refl [] _).alloc _).drewN _
  have h10 := Lib.hid (h7.out.stay k10.out)
  have s10 := Lib.hid (Has.keep0 s7.out k10.out)
  clear hx h7 r7 s7 k10
  go_wp2_with fail
  refine (step8 1 2 2 s10.out).mono ?_; rintro e x11 ⟨rfl, m', hx⟩
  have k11 : Hid (Kept [] x10 x11) := by subst hx; exact ((Kept.refl [] _).alloc _).drewN _
  have h11 := Lib.hid (h10.out.stay k11.out)
  clear hx h10 s10 k11
  go_wp2_with fail
  refine (step9 h11.out).mono ?_; rintro e x12 ⟨rfl, h12'⟩
  have h12 := Lib.hid h12'
  clear h12' h11
  go_wp2_with fail
  go_ret
  exact ⟨rfl, h12.out.2.2.2⟩
end Go.Proofs.Ytaginjpdpjehoaa.Ar
