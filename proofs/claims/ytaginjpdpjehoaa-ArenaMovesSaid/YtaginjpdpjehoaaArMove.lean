/-
  The contract of package arena's Move.
-/
import Derived.Test.YtaginjpdpjehoaaArFill
import Derived.Laws.CopyOwn
namespace Go.Proofs.Ytaginjpdpjehoaa.Ar
open Go.RowKit

theorem ints_put (ws : List Int) (i : Nat) (l : List Int) : (ints ws).take i ++ (ints l ++ (ints ws).drop (i + (ints l).length)) = ints (putW ws i l) := by
  unfold ints putW
  simp only [List.map_append, List.map_take, List.map_drop, List.length_map]

section
variable {p q : Nat} {ws : List Int} {n : Int} {w : World}
theorem Arena.laid (h : Arena w p q ws n) (i : Nat) (l : List Int) (hl : i + l.length ≤ ws.length) : Arena (w.setRow q (ints (putW ws i l)).toArray) p q (putW ws i l) n := by
  have e := putW_length ws i l hl
  refine ⟨?_, h.row.row _, by rw [e]; exact h.short⟩
  rw [e]
  exact h.head.otherRow q h.ne _

set_option maxHeartbeats 400000 in
theorem move_ok (h : Arena w p q ws n) (to fr k : Nat) (ht : to + k ≤ ws.length) (hf : fr + k ≤ ws.length) :
    Calls Try.prog 18 #[.pointer (some ⟨p, 0, none⟩), .int .i64 to, .int .i64 fr, .int .i64 k] w fun e w' =>
      e = .returned (.int .i64 0) ∧ Arena w' p q (putW ws to ((ws.drop fr).take k)) (addU n k) ∧ Kept [p, q] w w' := by
  have hs := h.short
  have r1 : within ws.length (to : Int) (k : Int) = true := (within_iff _ _ _).2 ⟨by omega, by omega, by omega⟩
  have r2 : within ws.length (fr : Int) (k : Int) = true := (within_iff _ _ _).2 ⟨by omega, by omega, by omega⟩
  have H1 := Lib.hid (cut_ok h to k r1)
  have H2 := Lib.hid (cut_ok h fr k r2)
  clear r1 r2
  have hl : ((ws.drop fr).take k).length = k := by rw [List.length_take, List.length_drop]; omega
  by_cases hk : k = 0
  · subst hk
    have e : putW ws to ((ws.drop fr).take 0) = ws := by simp [putW]
    have hw := wrote_any h 0 (by omega) (by omega)
    rw [e]
    have HW := Lib.hid hw
    clear hl e hw h
    go_enter Try.func18, Try.ntmps18
    go_wp2_with fail
    refine H1.out.mono ?_; rintro e w' ⟨rfl, rfl⟩
    go_wp2_with fail
    refine H2.out.mono ?_; rintro e w' ⟨rfl, rfl⟩
    clear H1 H2
    go_wp2_with (with_reducible refine wpList_copy_nothing rfl (.tmp 33) (.tmp 34) 40 40 rfl 32 Try.underlying40 size_u64 _ _ _ _ _ _ rfl rfl rfl ?_)
    refine HW.out.mono ?_; rintro e w' ⟨rfl, hA, hK⟩
    have HA := Lib.hid hA
    have HK := Lib.hid (hK.mono (T := [p, q]) (by simp))
    clear hA hK HW
    go_wp2_with fail
    go_ret
    exact ⟨rfl, HA.out, HK.out⟩
  · have e1 : pieceAt q (to : Int) (k : Int) = some ⟨q, to, none⟩ := by unfold pieceAt; rw [if_neg (by omega), Int.toNat_natCast]
    have e2 : pieceAt q (fr : Int) (k : Int) = some ⟨q, fr, none⟩ := by unfold pieceAt; rw [if_neg (by omega), Int.toNat_natCast]
    rw [e1, Int.toNat_natCast] at H1
    rw [e2, Int.toNat_natCast] at H2
    have hrow := Lib.hid (show w.heap[q]? = some (.cells (ints ws).toArray 32 (0, 0)) from h.row)
    have hsrc : ∀ j v, (ints ((ws.drop fr).take k))[j]? = some v → w.cell? ((⟨q, fr, none⟩ : Addr).add j) = some v := fun j v hv => by
      rw [add_at, h.row.cell]; exact ints_cut ws fr k j v hv
    have hlen : (ints ((ws.drop fr).take k)).length = k := (ints_length _).trans hl
    have hput := ints_put ws to ((ws.drop fr).take k)
    have hA1 := h.laid to ((ws.drop fr).take k) (by rw [hl]; exact ht)
    have hK1 := (Kept.refl [p, q] w).setRow q (ints (putW ws to ((ws.drop fr).take k))).toArray (.inl (by simp))
    have hw := wrote_any hA1 k (by omega) (by omega)
    have h1 := ints_one ((ws.drop fr).take k)
    have hfit : to + (ints ((ws.drop fr).take k)).length ≤ (ints ws).toArray.size := by rw [hlen]; simp [ints_length]; exact ht
    have hmin : (ints ((ws.drop fr).take k)).length = Nat.min k k := by rw [hlen]; exact (Nat.min_self k).symm
    have hcast : goInt (ints ((ws.drop fr).take k)).length = .int .i64 (k : Int) := by rw [hlen]; rfl
    generalize hm : ints ((ws.drop fr).take k) = M at *
    generalize putW ws to ((ws.drop fr).take k) = R at *
    have HM := Lib.hid hm
    have Hsrc := Lib.hid hsrc
    have Hput := Lib.hid (show (ints ws).toArray.toList.take to ++ (M ++ (ints ws).toArray.toList.drop (to + M.length)) = ints R from hput)
    have HW := Lib.hid hw
    have HK1 := Lib.hid hK1
    have H1c := Lib.hid h1
    have Hfit := Lib.hid hfit
    have Hmin := Lib.hid hmin
    have Hcast := Lib.hid hcast
    clear hm hsrc hput hw hK1 h1 hA1 hl hlen e1 e2 h hfit hmin hcast
    go_enter Try.func18, Try.ntmps18
    go_wp2_with fail
    refine H1.out.mono ?_; rintro e w' ⟨rfl, rfl⟩
    go_wp2_with fail
    refine H2.out.mono ?_; rintro e w' ⟨rfl, rfl⟩
    clear H1 H2
    go_wp2_with (with_reducible refine wpList_copy_own rfl (.tmp 33) (.tmp 34) 40 40 rfl 32 Try.underlying40 size_u64 q to k k ⟨q, fr, none⟩ k k rfl rfl (ints ws).toArray 32 hrow.out M Hmin.out Hsrc.out Hfit.out H1c.out ?_; rw [Hput.out, Hcast.out])
    refine HW.out.mono ?_; rintro e w' ⟨rfl, hA, hK⟩
    have HA := Lib.hid hA
    have HK := Lib.hid (HK1.out.trans (hK.mono (T := [p, q]) (by simp)))
    clear hA hK HW
    go_wp2_with fail
    go_ret
    exact ⟨rfl, HA.out, HK.out⟩
end
end Go.Proofs.Ytaginjpdpjehoaa.Ar
