/-
  The contracts of package arena's Move (whatever the ranges), clone and Words.
-/
import Derived.Test.YtpnjblledbihcaaDoorArMove
import Derived.Laws.MakeOwn
namespace Go.Proofs.YtpnjblledbihcaaDoor.Ar
open Go.RowKit

theorem putW_all (ws : List Int) (i : Nat) (l : List Int) (h : i = 0) (h2 : l.length = ws.length) : putW ws i l = l := by
  subst h
  unfold putW
  rw [List.take_zero, List.nil_append, List.drop_eq_nil_of_le (by omega), List.append_nil]

section
variable {p q : Nat} {ws : List Int} {n : Int} {w : World}
end

theorem seen_piece {w : World} {q : Nat} {ws : List Int} (h : Has w q 22 (ints ws)) (i k : Int) (hr : within ws.length i k = true) : Seen w (pieceAt q i k) (cutW ws i k) := by
  obtain ⟨a, b, c⟩ := (within_iff _ _ _).1 hr
  intro hne
  have hk : k ≠ 0 := by
    rintro rfl
    exact hne (by simp [cutW])
  refine ⟨q, i.toNat, if_neg hk, h.lt, fun j v hv => ?_⟩
  rw [h.cell]
  exact ints_cut ws i.toNat k.toNat j v hv

set_option maxHeartbeats 400000 in
theorem clone_any (A : Option Addr) (l : List Int) (c : Nat) (hl : l.length ≤ 65536) (w : World) (h : Seen w A l) :
    Calls Tryd.prog 71 #[.slice A l.length c] w fun e w' => ∃ g, e = .returned (.slice (some ⟨g, 0, none⟩) l.length l.length) ∧ w.heap.size ≤ g ∧ Has w' g 22 (ints l) ∧ Kept [] w w' := by
  have hm := run_make_words l.length (by omega) w
  have hH := Has.new w 22 (ints (List.replicate l.length 0))
  have hK := (Kept.refl [] w).alloc (.cells (ints (List.replicate l.length 0)).toArray 22)
  generalize hO : (Obj.cells (ints (List.replicate l.length 0)).toArray 22) = O at *
  by_cases h0 : l = []
  · subst h0
    have hfin : ∃ g, (Ending.returned (.slice (some ⟨w.heap.size, 0, none⟩) 0 0)) = .returned (.slice (some ⟨g, 0, none⟩) ([] : List Int).length ([] : List Int).length) ∧ w.heap.size ≤ g ∧ Has (w.alloc O) g 22 (ints []) ∧ Kept [] w (w.alloc O) :=
      ⟨_, rfl, Nat.le_refl _, hH, hK⟩
    have Hfin := Lib.hid hfin
    clear hfin hH hK hO h hl
    simp only [List.length_nil] at *
    rw [show ((0 : Nat) : Int) = 0 from rfl] at hm
    go_enter Tryd.func71, Tryd.ntmps71
    go_wp2_with (with_reducible refine wpList_copy_nothing rfl (.tmp 7) (.tmp 8) 28 28 rfl 22 Tryd.underlying28 size_u64 _ _ _ _ _ _ rfl rfl rfl ?_)
    go_ret
    exact Hfin.out
  · obtain ⟨g, f, rfl, hg, hc⟩ := h h0
    have hsrc : ∀ j v, (ints l)[j]? = some v → (w.alloc O).cell? ((⟨g, f, none⟩ : Addr).add j) = some v := fun j v hv => by
      rw [add_at, World.cell?_alloc_lt w O _ hg]
      exact hc j v hv
    have hput : (ints (List.replicate l.length 0)).toArray.toList.take 0 ++ (ints l ++ (ints (List.replicate l.length 0)).toArray.toList.drop (0 + (ints l).length)) = ints l := by
      show (ints (List.replicate l.length 0)).take 0 ++ (ints l ++ (ints (List.replicate l.length 0)).drop (0 + (ints l).length)) = ints l
      rw [ints_put, putW_all _ 0 l rfl (by simp)]
    have hfin : ∃ g', (Ending.returned (.slice (some ⟨w.heap.size, 0, none⟩) l.length l.length)) = .returned (.slice (some ⟨g', 0, none⟩) l.length l.length) ∧ w.heap.size ≤ g' ∧
        Has ((w.alloc O).setRow w.heap.size (ints l).toArray) g' 22 (ints l) ∧ Kept [] w ((w.alloc O).setRow w.heap.size (ints l).toArray) :=
      ⟨_, rfl, Nat.le_refl _, hH.row _, hK.setRow _ _ (.inr (Nat.le_refl _))⟩
    have Hfin := Lib.hid hfin
    have HH := Lib.hid (show (w.alloc O).heap[w.heap.size]? = some (.cells (ints (List.replicate l.length 0)).toArray 22 (0, 0)) from hH)
    have Hsrc := Lib.hid hsrc
    have Hput := Lib.hid hput
    have Hmin := Lib.hid (show (ints l).length = Nat.min l.length l.length by rw [ints_length]; exact (Nat.min_self _).symm)
    have Hfit := Lib.hid (show 0 + (ints l).length ≤ (ints (List.replicate l.length 0)).toArray.size by simp [ints_length])
    have H1 := Lib.hid (ints_one l)
    clear hfin hH hK hO h hc hsrc hput h0
    generalize hn : l.length = N at *
    clear hn
    go_enter Tryd.func71, Tryd.ntmps71
    go_wp2_with (with_reducible refine wpList_copy_own rfl (.tmp 7) (.tmp 8) 28 28 rfl 22 Tryd.underlying28 size_u64 w.heap.size 0 N N ⟨g, f, none⟩ N c rfl rfl (ints (List.replicate N 0)).toArray 22 HH.out (ints l) Hmin.out Hsrc.out Hfit.out H1.out ?_; rw [Hput.out])
    go_ret
    exact Hfin.out

section
variable {p q : Nat} {ws : List Int} {n : Int} {w : World}
theorem words_ok (h : Arena w p q ws n) (i k : Int) (hr : within ws.length i k = true) :
    Calls Tryd.prog 53 #[.pointer (some ⟨p, 0, none⟩), .int .i64 i, .int .i64 k] w fun e w' =>
      ∃ g, e = .returned (.tuple #[.slice (some ⟨g, 0, none⟩) k.toNat k.toNat, .int .i64 0]) ∧ w.heap.size ≤ g ∧ Has w' g 22 (ints (cutW ws i k)) ∧ Kept [] w w' := by
  have hl := cutW_length ws i k hr
  obtain ⟨a, b, c⟩ := (within_iff _ _ _).1 hr
  have hs := h.short
  have hc := clone_any (pieceAt q i k) (cutW ws i k) k.toNat (by omega) w (seen_piece h.row i k hr)
  rw [hl] at hc
  have H := Lib.hid (cut_ok h i k hr)
  have HC := Lib.hid hc
  clear hl hc hr h a b c hs
  generalize cutW ws i k = l at *
  go_enter Tryd.func53, Tryd.ntmps53
  go_wp2_with fail
  refine H.out.mono ?_; rintro e w' ⟨rfl, rfl⟩
  go_wp2_with fail
  refine HC.out.mono ?_; rintro e w' ⟨g, rfl, hg, hH, hK⟩
  have HF := Lib.hid (And.intro hg (And.intro hH hK))
  clear hg hH hK H HC
  go_wp2_with fail
  go_ret2
  exact ⟨g, rfl, HF.out⟩
theorem words_bad (h : Arena w p q ws n) (i k : Int) (hr : within ws.length i k = false) (h1 : -9223372036854775808 ≤ i) (h2 : i ≤ 9223372036854775807) (h3 : -9223372036854775808 ≤ k) (h4 : k ≤ 9223372036854775807) :
    Calls Tryd.prog 53 #[.pointer (some ⟨p, 0, none⟩), .int .i64 i, .int .i64 k] w fun e w' => e = .returned (.tuple #[.slice none 0 0, .int .i64 2]) ∧ w = w' := by
  have H := Lib.hid (cut_bad h i k hr h1 h2 h3 h4)
  clear hr h
  go_enter Tryd.func53, Tryd.ntmps53
  go_wp2_with fail
  refine H.out.mono ?_; rintro e w' ⟨rfl, rfl⟩
  go_wp2_with fail
  go_ret2
  exact ⟨rfl, rfl⟩
end
end Go.Proofs.YtpnjblledbihcaaDoor.Ar
