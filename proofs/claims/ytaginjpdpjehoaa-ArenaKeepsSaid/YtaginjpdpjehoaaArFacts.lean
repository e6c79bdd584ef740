/-
  Plain facts on rows of words for layer 2's laws: what is laid one by one, what a Move leaves, what a row of words that came in shows later.
-/
import Derived.Test.YtaginjpdpjehoaaArAlive
namespace Go.Proofs.Ytaginjpdpjehoaa.Ar
open Go.RowKit

/-- The first j words of l, then 0s. -/
def laid (l : List Int) (j : Nat) : List Int := l.take j ++ List.replicate (l.length - j) 0
theorem laid_length (l : List Int) (j : Nat) (h : j ≤ l.length) : (laid l j).length = l.length := by
  unfold laid
  rw [List.length_append, List.length_take, List.length_replicate]
  omega
theorem laid_zero (l : List Int) : laid l 0 = List.replicate l.length 0 := by simp [laid]
theorem laid_all (l : List Int) : laid l l.length = l := by simp [laid]
theorem laid_step (l : List Int) (j : Nat) (h : j < l.length) : fillW (laid l j) j 1 (l.getD j 0) = laid l (j + 1) := by
  have hr : within (laid l j).length (j : Int) 1 = true := (within_iff _ _ _).2 ⟨by omega, by omega, by rw [laid_length l j (by omega)]; omega⟩
  unfold fillW
  rw [if_pos hr, Int.toNat_natCast, show (1 : Int).toNat = 1 from rfl]
  unfold putW laid
  have h1 : (l.take j).length = j := by rw [List.length_take]; omega
  rw [List.take_left' h1, List.length_replicate, List.drop_append, h1, List.drop_of_length_le (by omega), List.nil_append, Nat.add_sub_cancel_left, List.drop_replicate, List.replicate_one, ← List.append_assoc]
  congr 1
  · rw [List.take_succ_eq_append_getElem h, List.getD, List.getElem?_eq_getElem h, Option.getD_some]
theorem laid_count (l : List Int) (j : Nat) (h : j < l.length) (h2 : l.length ≤ 65536) : fillN (laid l j) j j 1 = ((j + 1 : Nat) : Int) := by
  have hr : within (laid l j).length (j : Int) 1 = true := (within_iff _ _ _).2 ⟨by omega, by omega, by rw [laid_length l j (by omega)]; omega⟩
  unfold fillN
  rw [if_pos hr, addU_small _ _ (by omega) (by omega)]
  omega

theorem putW_get (ws : List Int) (i : Nat) (l : List Int) (j : Nat) (h : i + l.length ≤ ws.length) :
    (putW ws i l).getD j 0 = if i ≤ j ∧ j < i + l.length then l.getD (j - i) 0 else ws.getD j 0 := by
  have h1 : (ws.take i).length = i := by rw [List.length_take]; omega
  unfold putW
  rw [List.getD, List.getD, List.getD]
  by_cases a : j < i
  · rw [if_neg (by omega), List.getElem?_append_left (by omega), List.getElem?_take_of_lt a]
  · rw [List.getElem?_append_right (by omega), h1]
    by_cases b : j < i + l.length
    · rw [if_pos (by omega), List.getElem?_append_left (by omega)]
    · rw [if_neg (by omega), List.getElem?_append_right (by omega), List.getElem?_drop, show i + l.length + (j - i - l.length) = j by omega]
theorem moveB_iff (l : List Int) (to fr k : Int) : moveB l to fr k = true ↔ 0 ≤ fr ∧ 0 ≤ to ∧ 0 ≤ k ∧ k ≤ (l.length : Int) - fr ∧ k ≤ (l.length : Int) - to := by
  unfold moveB
  rw [Bool.and_eq_true_iff, within_iff, within_iff]
  omega
theorem moveB_not (l : List Int) (to fr k : Int) (h : ¬ (0 ≤ fr ∧ 0 ≤ to ∧ 0 ≤ k ∧ k ≤ (l.length : Int) - fr ∧ k ≤ (l.length : Int) - to)) : moveB l to fr k = false := by
  cases hm : moveB l to fr k
  · rfl
  · exact absurd ((moveB_iff _ _ _ _).1 hm) h
theorem moved_get (l : List Int) (to fr k i : Nat) (h1 : fr + k ≤ l.length) (h2 : to + k ≤ l.length) :
    (putW l to ((l.drop fr).take k)).getD i 0 = if to ≤ i ∧ i < to + k then l.getD (fr + i - to) 0 else l.getD i 0 := by
  have hl : ((l.drop fr).take k).length = k := by rw [List.length_take, List.length_drop]; omega
  rw [putW_get _ _ _ _ (by omega), hl]
  by_cases h : to ≤ i ∧ i < to + k
  · rw [if_pos h, if_pos h, cut_get _ _ _ _ (by omega), show fr + (i - to) = fr + i - to by omega]
  · rw [if_neg h, if_neg h]
theorem moved_apart (l : List Int) (to fr k : Nat) (h1 : fr + k ≤ l.length) (h2 : to + k ≤ l.length) (h : fr + k ≤ to ∨ to + k ≤ fr) :
    ((putW l to ((l.drop fr).take k)).drop fr).take k = (l.drop fr).take k := by
  have hl : ((l.drop fr).take k).length = k := by rw [List.length_take, List.length_drop]; omega
  have hp : (putW l to ((l.drop fr).take k)).length = l.length := putW_length _ _ _ (by omega)
  have hl2 : (((putW l to ((l.drop fr).take k)).drop fr).take k).length = k := by rw [List.length_take, List.length_drop, hp]; omega
  refine list_ext _ _ (by omega) fun j hj => ?_
  rw [cut_get _ _ _ _ (by omega), cut_get _ _ _ _ (by omega), moved_get l to fr k _ h1 h2, if_neg (by omega)]

section
variable {p q : Nat} {w x : World}
theorem lay_one {l : List Int} {j : Nat} (h : Mine w x p q (laid l j) j) (hj : j < l.length) (hl : l.length ≤ 65536) :
    Calls Try.prog 13 #[.pointer (some ⟨p, 0, none⟩), .int .i64 j, .int .u64 (l.getD j 0)] x fun e y => e = .returned (.int .i64 0) ∧ Mine w y p q (laid l (j + 1)) ((j + 1 : Nat) : Int) := by
  refine (store_any h.2.2.1 j (l.getD j 0) (by omega) (by omega)).mono ?_
  rintro e y ⟨rfl, hA, hK⟩
  rw [laid_step l j hj, laid_count l j hj hl] at hA
  have hr : within (laid l j).length (j : Int) 1 = true := (within_iff _ _ _).2 ⟨by omega, by omega, by rw [laid_length l j (by omega)]; omega⟩
  exact ⟨ret_int (by rw [hr]; rfl), h.next hA hK⟩
theorem Mine.ofNew {c : Nat} {l : List Int} (hc : c = l.length) (hp : w.heap.size ≤ p) (hq : w.heap.size ≤ q) (hA : Arena x p q (List.replicate c 0) 0) (hK : Kept [] w x) : Mine w x p q (laid l 0) ((0 : Nat) : Int) := by
  subst hc
  rw [laid_zero]
  exact ⟨hp, hq, hA, hK⟩
/-- All words of an arena of the call's own. -/
theorem all_words {ws : List Int} {n : Int} {L : Nat} (h : Mine w x p q ws n) (hL : ws.length = L) :
    Calls Try.prog 19 #[.pointer (some ⟨p, 0, none⟩), .int .i64 0, .int .i64 L] x fun e y => ∃ g, e = .returned (.tuple #[.slice (some ⟨g, 0, none⟩) L L, .int .i64 0]) ∧ Mine w y p q ws n ∧ Row y g ws ∧ x.heap.size ≤ g := by
  have hr : within ws.length 0 (L : Int) = true := (within_iff _ _ _).2 ⟨by omega, by omega, by omega⟩
  refine (words_ok h.2.2.1 0 L hr).mono ?_
  rintro e y ⟨g, rfl, hg, hH, hK⟩
  have e1 : cutW ws 0 (L : Int) = ws := by unfold cutW; rw [Int.toNat_natCast]; exact List.take_of_length_le (by simp; omega)
  rw [e1] at hH
  exact ⟨g, by rw [Int.toNat_natCast], h.stay hK, hH, hg⟩
/-- Some of them. -/
theorem some_words {ws : List Int} {n : Int} (h : Mine w x p q ws n) (i k : Nat) (hr : i + k ≤ ws.length) :
    Calls Try.prog 19 #[.pointer (some ⟨p, 0, none⟩), .int .i64 i, .int .i64 k] x fun e y => ∃ g, e = .returned (.tuple #[.slice (some ⟨g, 0, none⟩) k k, .int .i64 0]) ∧ Mine w y p q ws n ∧ Row y g ((ws.drop i).take k) ∧ x.heap.size ≤ g := by
  have hr : within ws.length (i : Int) (k : Int) = true := (within_iff _ _ _).2 ⟨by omega, by omega, by omega⟩
  refine (words_ok h.2.2.1 i k hr).mono ?_
  rintro e y ⟨g, rfl, hg, hH, hK⟩
  exact ⟨g, by rw [Int.toNat_natCast], h.stay hK, hH, hg⟩
end
end Go.Proofs.Ytaginjpdpjehoaa.Ar
