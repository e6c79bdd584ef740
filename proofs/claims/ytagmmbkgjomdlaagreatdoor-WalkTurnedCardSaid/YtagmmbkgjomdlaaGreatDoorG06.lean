/-
  Several texts in one: ArFill, ArMove, ArWords, ArNew.
-/
import Derived.Test.YtagmmbkgjomdlaaGreatDoorG05
import Derived.Laws.CopyOwn
import Derived.Laws.MakeOwn
import Derived.Deep.QuietTactic
import Derived.BigQuiet
import Derived.Deep.RegionWith
import Derived.RegionTactic
/-
  The contracts of package arena's Load, Fill and Store.
-/
namespace Go.Proofs.YtagmmbkgjomdlaaGreatDoor.Ar
open Go.RowKit

theorem replicate_step (ws : List Int) (i j : Nat) (v : Int) (h : i + j < ws.length) : (putW ws i (List.replicate j v)).set (i + j) v = putW ws i (List.replicate (j + 1) v) := by
  unfold putW
  have h1 : (ws.take i).length = i := by rw [List.length_take]; omega
  rw [List.set_append_right _ _ (by omega), h1, Nat.add_sub_cancel_left, List.set_append_right _ _ (by simp), List.length_replicate, Nat.sub_self, List.length_replicate, List.drop_eq_getElem_cons h, List.set_cons_zero, List.replicate_succ', List.append_assoc]
  simp [Nat.add_assoc]

section
variable {p q : Nat} {ws : List Int} {n : Int} {w : World}
theorem load_any (h : Arena w p q ws n) (i : Int) (h1 : -9223372036854775808 ≤ i) (h2 : i ≤ 9223372036854775807) :
    Calls Tryz.prog 32 #[.pointer (some ⟨p, 0, none⟩), .int .i64 i] w fun e w' => e = .returned (.tuple #[.int .u64 (loadV ws i), .int .i64 (errOf (within ws.length i 1))]) ∧ w = w' := by
  cases hr : within ws.length i 1
  · have e1 : loadV ws i = 0 := by unfold loadV; rw [hr]; rfl
    have H := Lib.hid (cut_bad h i 1 hr h1 h2 (by omega) (by omega))
    rw [e1, show errOf false = 2 from rfl]
    clear e1 hr h
    go_enter Tryz.func32, Tryz.ntmps32
    go_wp2_with fail
    refine H.out.mono ?_; rintro e w' ⟨rfl, rfl⟩
    go_wp2_with fail
    go_ret2
    exact ⟨rfl, rfl⟩
  · obtain ⟨a, b, c⟩ := (within_iff _ _ _).1 hr
    have e1 : loadV ws i = ws.getD i.toNat 0 := by unfold loadV; rw [hr]; rfl
    have e2 : pieceAt q i 1 = some ⟨q, i.toNat, none⟩ := if_neg (by omega)
    have hc := cut_ok h i 1 hr
    rw [e2] at hc
    have H := Lib.hid hc
    have hx := h.row.cell i.toNat
    rw [ints_get ws i.toNat (by omega)] at hx
    rw [e1, show errOf true = 0 from rfl]
    clear e1 e2 hr hc h a b c
    generalize ws.getD i.toNat 0 = x at *
    go_enter Tryz.func32, Tryz.ntmps32
    go_wp2_with fail
    refine H.out.mono ?_; rintro e w' ⟨rfl, rfl⟩
    go_wp2_with fail
    go_ret2
    exact ⟨rfl, rfl⟩

set_option maxHeartbeats 400000 in
theorem fill_any (h : Arena w p q ws n) (i k v : Int) (h1 : -9223372036854775808 ≤ i) (h2 : i ≤ 9223372036854775807) (h3 : -9223372036854775808 ≤ k) (h4 : k ≤ 9223372036854775807) :
    Calls Tryz.prog 69 #[.pointer (some ⟨p, 0, none⟩), .int .i64 i, .int .i64 k, .int .u64 v] w fun e w' =>
      e = .returned (.int .i64 (errOf (within ws.length i k))) ∧ Arena w' p q (fillW ws i k v) (fillN ws n i k) ∧ Kept [p, q] w w' := by
  cases hr : within ws.length i k
  · have e1 : fillW ws i k v = ws := by unfold fillW; rw [hr]; rfl
    have e2 : fillN ws n i k = n := by unfold fillN; rw [hr]; rfl
    have H := Lib.hid (cut_bad h i k hr h1 h2 h3 h4)
    rw [e1, e2, show errOf false = 2 from rfl]
    clear e1 e2 hr
    have HA := Lib.hid h
    clear h
    go_enter Tryz.func69, Tryz.ntmps69
    go_wp2_with fail
    refine H.out.mono ?_; rintro e w' ⟨rfl, rfl⟩
    go_wp2_with fail
    go_ret
    exact ⟨rfl, HA.out, Kept.refl _ _⟩
  · obtain ⟨a, b, c⟩ := (within_iff _ _ _).1 hr
    have e1 : fillW ws i k v = putW ws i.toNat (List.replicate k.toNat v) := by unfold fillW; rw [hr]; rfl
    have e2 : fillN ws n i k = addU n k := by unfold fillN; rw [hr]; rfl
    have H := Lib.hid (cut_ok h i k hr)
    have hs := h.short
    rw [e1, e2, show errOf true = 0 from rfl]
    clear e1 e2 hr
    obtain ⟨i, rfl⟩ := Int.eq_ofNat_of_zero_le a
    obtain ⟨k, rfl⟩ := Int.eq_ofNat_of_zero_le b
    simp only [Int.toNat_natCast] at *
    have HA := Lib.hid h
    clear h a b
    go_enter Tryz.func69, Tryz.ntmps69
    go_wp2_with fail
    refine H.out.mono ?_; rintro e w' ⟨rfl, rfl⟩
    go_wp2_with fail
    clear H
    go_loopw [23] (fun t wr => ∃ j : Nat, j ≤ k ∧ t = .int .i64 j ∧ Arena wr p q (putW ws i (List.replicate j v)) n ∧ Kept [p, q] w wr) (fun t _ => k - (intOf t).toNat)
    case atStart => exact ⟨0, Nat.zero_le _, rfl, by rw [show putW ws i (List.replicate 0 v) = ws by simp [putW]]; exact HA.out, Kept.refl _ _⟩
    case round =>
      obtain ⟨j, hj, rfl, hA, hK⟩ := hrel
      have hlen : (putW ws i (List.replicate j v)).length = ws.length := putW_length _ _ _ (by rw [List.length_replicate]; omega)
      by_cases hlt : j < k
      · have ea : pieceAt q (i : Int) (k : Int) = some ⟨q, i, none⟩ := by unfold pieceAt; rw [if_neg (by omega), Int.toNat_natCast]
        have hc := hA.row.cell (i + j)
        rw [ints_get _ _ (by omega)] at hc
        have hf := hA.row.free (i + j)
        have hN : ∀ x, x = wr.setCell ⟨q, i + j, none⟩ (.int .u64 v) → Arena x p q (putW ws i (List.replicate (j + 1) v)) n ∧ Kept [p, q] w x := by
          rintro _ rfl
          have hl2 : (putW ws i (List.replicate (j + 1) v)).length = (putW ws i (List.replicate j v)).length := by rw [hlen]; exact putW_length _ _ _ (by rw [List.length_replicate]; omega)
          refine ⟨⟨?_, ?_, by rw [hl2]; exact hA.short⟩, hK.setCell _ _ (.inl (by simp))⟩
          · rw [hl2]
            exact hA.head.beside _ hA.ne _
          · have e := hA.row.put (i + j) (.int .u64 v)
            rw [ints_set, replicate_step ws i j v (by omega)] at e
            exact e
        generalize (putW ws i (List.replicate j v)).getD (i + j) 0 = x at *
        have HN := Lib.hid hN
        clear hN hA hK hlen HA
        rw [ea]
        clear ea
        go_wp2
        go_roundw
        case rel => exact ⟨j + 1, by omega, by go_num, HN.out _ rfl⟩
        case measure => simp [intOf]; omega
      · obtain rfl : j = k := by omega
        have hw := wrote_any hA (j : Int) (by omega) (by omega)
        have HW := Lib.hid hw
        have HK := Lib.hid hK
        clear hw hA hK hlen HA
        go_wp2_with fail
        refine HW.out.mono ?_; rintro e w2 ⟨rfl, hA2, hK2⟩
        have HA2 := Lib.hid hA2
        have HK2 := Lib.hid (HK.out.trans (hK2.mono (T := [p, q]) (by simp)))
        clear hA2 hK2 HK
        go_wp2_with fail
        go_ret
        exact ⟨rfl, HA2.out, HK2.out⟩
theorem store_any (h : Arena w p q ws n) (i v : Int) (h1 : -9223372036854775808 ≤ i) (h2 : i ≤ 9223372036854775807) :
    Calls Tryz.prog 33 #[.pointer (some ⟨p, 0, none⟩), .int .i64 i, .int .u64 v] w fun e w' =>
      e = .returned (.int .i64 (errOf (within ws.length i 1))) ∧ Arena w' p q (fillW ws i 1 v) (fillN ws n i 1) ∧ Kept [p, q] w w' := by
  have H := Lib.hid (fill_any h i 1 v h1 h2 (by omega) (by omega))
  clear h
  go_enter Tryz.func33, Tryz.ntmps33
  go_wp2_with fail
  refine H.out.mono ?_; rintro e w' ⟨rfl, hA, hK⟩
  have HA := Lib.hid hA
  have HK := Lib.hid hK
  clear hA hK H
  go_wp2_with fail
  go_ret
  exact ⟨rfl, HA.out, HK.out⟩
end
end Go.Proofs.YtagmmbkgjomdlaaGreatDoor.Ar

/-
  The contract of package arena's Move.
-/
namespace Go.Proofs.YtagmmbkgjomdlaaGreatDoor.Ar
open Go.RowKit

theorem ints_put (ws : List Int) (i : Nat) (l : List Int) : (ints ws).take i ++ (ints l ++ (ints ws).drop (i + (ints l).length)) = ints (putW ws i l) := by
  unfold ints putW
  simp only [List.map_append, List.map_take, List.map_drop, List.length_map]

section
variable {p q : Nat} {ws : List Int} {n : Int} {w : World}
theorem Arena.laid (h : Arena w p q ws n) (i : Nat) (l : List Int) (hl : i + l.length ≤ ws.length) : Arena (w.setRow q (ints (putW ws i l)).toArray) p q (putW ws i l) n := by
  have e := putW_length ws i l hl
  refine ⟨?_, h.row.row _, by rw [e]; exact h.short⟩
  rw [e]
  exact h.head.otherRow q h.ne _

end
end Go.Proofs.YtagmmbkgjomdlaaGreatDoor.Ar

/-
  The contracts of package arena's Move (whatever the ranges), clone and Words.
-/
namespace Go.Proofs.YtagmmbkgjomdlaaGreatDoor.Ar
open Go.RowKit

theorem putW_all (ws : List Int) (i : Nat) (l : List Int) (h : i = 0) (h2 : l.length = ws.length) : putW ws i l = l := by
  subst h
  unfold putW
  rw [List.take_zero, List.nil_append, List.drop_eq_nil_of_le (by omega), List.append_nil]

section
variable {p q : Nat} {ws : List Int} {n : Int} {w : World}
end

theorem seen_piece {w : World} {q : Nat} {ws : List Int} (h : Has w q 32 (ints ws)) (i k : Int) (hr : within ws.length i k = true) : Seen w (pieceAt q i k) (cutW ws i k) := by
  obtain ⟨a, b, c⟩ := (within_iff _ _ _).1 hr
  intro hne
  have hk : k ≠ 0 := by
    rintro rfl
    exact hne (by simp [cutW])
  refine ⟨q, i.toNat, if_neg hk, h.lt, fun j v hv => ?_⟩
  rw [h.cell]
  exact ints_cut ws i.toNat k.toNat j v hv

set_option maxHeartbeats 400000 in
theorem clone_any (A : Option Addr) (l : List Int) (c : Nat) (hl : l.length ≤ 65536) (w : World) (h : Seen w A l) :
    Calls Tryz.prog 172 #[.slice A l.length c] w fun e w' => ∃ g, e = .returned (.slice (some ⟨g, 0, none⟩) l.length l.length) ∧ w.heap.size ≤ g ∧ Has w' g 32 (ints l) ∧ Kept [] w w' := by
  have hm := run_make_words l.length (by omega) w
  have hH := Has.new w 32 (ints (List.replicate l.length 0))
  have hK := (Kept.refl [] w).alloc (.cells (ints (List.replicate l.length 0)).toArray 32)
  generalize hO : (Obj.cells (ints (List.replicate l.length 0)).toArray 32) = O at *
  by_cases h0 : l = []
  · subst h0
    have hfin : ∃ g, (Ending.returned (.slice (some ⟨w.heap.size, 0, none⟩) 0 0)) = .returned (.slice (some ⟨g, 0, none⟩) ([] : List Int).length ([] : List Int).length) ∧ w.heap.size ≤ g ∧ Has (w.alloc O) g 32 (ints []) ∧ Kept [] w (w.alloc O) :=
      ⟨_, rfl, Nat.le_refl _, hH, hK⟩
    have Hfin := Lib.hid hfin
    clear hfin hH hK hO h hl
    simp only [List.length_nil] at *
    rw [show ((0 : Nat) : Int) = 0 from rfl] at hm
    go_enter Tryz.func172, Tryz.ntmps172
    go_wp2_with (with_reducible refine wpList_copy_nothing rfl (.tmp 7) (.tmp 8) 49 49 rfl 32 Tryz.underlying49 size_u64 _ _ _ _ _ _ rfl rfl rfl ?_)
    go_ret
    exact Hfin.out
  · obtain ⟨g, f, rfl, hg, hc⟩ := h h0
    have hsrc : ∀ j v, (ints l)[j]? = some v → (w.alloc O).cell? ((⟨g, f, none⟩ : Addr).add j) = some v := fun j v hv => by
      rw [add_at, World.cell?_alloc_lt w O _ hg]
      exact hc j v hv
    have hput : (ints (List.replicate l.length 0)).toArray.toList.take 0 ++ (ints l ++ (ints (List.replicate l.length 0)).toArray.toList.drop (0 + (ints l).length)) = ints l := by
      show (ints (List.replicate l.length 0)).take 0 ++ (ints l ++ (ints (List.replicate l.length 0)).drop (0 + (ints l).length)) = ints l
      rw [ints_put, putW_all _ 0 l rfl (by simp)]
    have hfin : ∃ g', (Ending.returned (.slice (some ⟨w.heap.size, 0, none⟩) l.length l.length)) = .returned (.slice (some ⟨g', 0, none⟩) l.length l.length) ∧ w.heap.size ≤ g' ∧
        Has ((w.alloc O).setRow w.heap.size (ints l).toArray) g' 32 (ints l) ∧ Kept [] w ((w.alloc O).setRow w.heap.size (ints l).toArray) :=
      ⟨_, rfl, Nat.le_refl _, hH.row _, hK.setRow _ _ (.inr (Nat.le_refl _))⟩
    have Hfin := Lib.hid hfin
    have HH := Lib.hid (show (w.alloc O).heap[w.heap.size]? = some (.cells (ints (List.replicate l.length 0)).toArray 32 (0, 0)) from hH)
    have Hsrc := Lib.hid hsrc
    have Hput := Lib.hid hput
    have Hmin := Lib.hid (show (ints l).length = Nat.min l.length l.length by rw [ints_length]; exact (Nat.min_self _).symm)
    have Hfit := Lib.hid (show 0 + (ints l).length ≤ (ints (List.replicate l.length 0)).toArray.size by simp [ints_length])
    have H1 := Lib.hid (ints_one l)
    clear hfin hH hK hO h hc hsrc hput h0
    generalize hn : l.length = N at *
    clear hn
    go_enter Tryz.func172, Tryz.ntmps172
    go_wp2_with (with_reducible refine wpList_copy_own rfl (.tmp 7) (.tmp 8) 49 49 rfl 32 Tryz.underlying49 size_u64 w.heap.size 0 N N ⟨g, f, none⟩ N c rfl rfl (ints (List.replicate N 0)).toArray 32 HH.out (ints l) Hmin.out Hsrc.out Hfit.out H1.out ?_; rw [Hput.out])
    go_ret
    exact Hfin.out

section
variable {p q : Nat} {ws : List Int} {n : Int} {w : World}
theorem words_ok (h : Arena w p q ws n) (i k : Int) (hr : within ws.length i k = true) :
    Calls Tryz.prog 158 #[.pointer (some ⟨p, 0, none⟩), .int .i64 i, .int .i64 k] w fun e w' =>
      ∃ g, e = .returned (.tuple #[.slice (some ⟨g, 0, none⟩) k.toNat k.toNat, .int .i64 0]) ∧ w.heap.size ≤ g ∧ Has w' g 32 (ints (cutW ws i k)) ∧ Kept [] w w' := by
  have hl := cutW_length ws i k hr
  obtain ⟨a, b, c⟩ := (within_iff _ _ _).1 hr
  have hs := h.short
  have hc := clone_any (pieceAt q i k) (cutW ws i k) k.toNat (by omega) w (seen_piece h.row i k hr)
  rw [hl] at hc
  have H := Lib.hid (cut_ok h i k hr)
  have HC := Lib.hid hc
  clear hl hc hr h a b c hs
  generalize cutW ws i k = l at *
  go_enter Tryz.func158, Tryz.ntmps158
  go_wp2_with fail
  refine H.out.mono ?_; rintro e w' ⟨rfl, rfl⟩
  go_wp2_with fail
  refine HC.out.mono ?_; rintro e w' ⟨g, rfl, hg, hH, hK⟩
  have HF := Lib.hid (And.intro hg (And.intro hH hK))
  clear hg hH hK H HC
  go_wp2_with fail
  go_ret2
  exact ⟨g, rfl, HF.out⟩
end
end Go.Proofs.YtagmmbkgjomdlaaGreatDoor.Ar

/-
  The contracts of package arena's New and Copy, and of the document's Same and May.
-/
namespace Go.Proofs.YtagmmbkgjomdlaaGreatDoor.Ar
open Go.RowKit

/-- The numbers of words that an arena may have. -/
def mayB (n : Int) : Bool := decide (16 ≤ n ∧ n ≤ 65536 ∧ n.tmod 2 = 0)
theorem mayB_iff (n : Int) : mayB n = true ↔ 16 ≤ n ∧ n ≤ 65536 ∧ n.tmod 2 = 0 := by unfold mayB; exact decide_eq_true_iff

theorem new_ok (c : Nat) (hm : mayB (c : Int) = true) (w : World) :
    Calls Tryz.prog 82 #[.int .i64 c] w fun e w' => ∃ p q, e = .returned (.tuple #[.pointer (some ⟨p, 0, none⟩), .int .i64 0]) ∧ w.heap.size ≤ p ∧ w.heap.size ≤ q ∧ Arena w' p q (List.replicate c 0) 0 ∧ Kept [] w w' := by
  obtain ⟨h1, h2, h3⟩ := (mayB_iff _).1 hm
  have hmk := run_make_words c (by omega)
  have hmod : (c : Int) % 2 = 0 := by rw [Int.tmod_eq_emod_of_nonneg (by omega)] at h3; exact h3
  have hfin : ∀ x, x = (w.alloc (.cells (ints (List.replicate c 0)).toArray 32)).alloc (.cells #[.slice (some ⟨w.heap.size, 0, none⟩) c c, .int .u64 0] 185) →
      ∃ p q, (Ending.returned (.tuple #[.pointer (some ⟨w.heap.size + 1, 0, none⟩), .int .i64 0])) = .returned (.tuple #[.pointer (some ⟨p, 0, none⟩), .int .i64 0]) ∧ w.heap.size ≤ p ∧ w.heap.size ≤ q ∧ Arena x p q (List.replicate c 0) 0 ∧ Kept [] w x := by
    rintro _ rfl
    have ha := (Has.new w 32 (ints (List.replicate c 0))).alloc (.cells #[.slice (some ⟨w.heap.size, 0, none⟩) c c, .int .u64 0] 185)
    have hb := Has.new (w.alloc (.cells (ints (List.replicate c 0)).toArray 32)) 185 [.slice (some ⟨w.heap.size, 0, none⟩) c c, .int .u64 0]
    rw [World.size_alloc] at hb
    refine ⟨_, w.heap.size, rfl, by omega, by omega, ⟨?_, ha, by rw [List.length_replicate]; omega⟩, ((Kept.refl [] w).alloc _).alloc _⟩
    rw [List.length_replicate]
    exact hb
  have Hfin := Lib.hid hfin
  have hd : ((c : Int) % 2 != 0) = false := by rw [hmod]; rfl
  clear hfin hm h3
  generalize ints (List.replicate c 0) = M at *
  clear hmod
  go_enter Tryz.func82, Tryz.ntmps82
  go_wp2
  go_ret2
  exact Hfin.out _ rfl
theorem new_bad (c : Int) (hm : mayB c = false) (w : World) :
    Calls Tryz.prog 82 #[.int .i64 c] w fun e w' => e = .returned (.tuple #[.pointer none, .int .i64 2]) ∧ w = w' := by
  have hn : ¬ (16 ≤ c ∧ c ≤ 65536 ∧ c.tmod 2 = 0) := fun hh => by rw [(mayB_iff _).2 hh] at hm; cases hm
  clear hm
  by_cases h1 : c < 16
  · go_enter Tryz.func82, Tryz.ntmps82
    go_wp2
    go_ret2
    exact ⟨rfl, rfl⟩
  · by_cases h2 : 65536 < c
    · go_enter Tryz.func82, Tryz.ntmps82
      go_wp2
      go_ret2
      exact ⟨rfl, rfl⟩
    · have h3 : c % 2 ≠ 0 := fun hh => hn ⟨by omega, by omega, by rw [Int.tmod_eq_emod_of_nonneg (by omega)]; exact hh⟩
      have hd : (c % 2 != 0) = true := by simpa using h3
      clear hn h3
      go_enter Tryz.func82, Tryz.ntmps82
      go_wp2
      go_ret2
      exact ⟨rfl, rfl⟩
end Go.Proofs.YtagmmbkgjomdlaaGreatDoor.Ar
