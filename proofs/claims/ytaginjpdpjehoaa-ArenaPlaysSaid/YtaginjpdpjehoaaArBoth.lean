/-
  An arena beside the document's row: the law's Same.
-/
import Derived.Test.YtaginjpdpjehoaaArRefMove
import Derived.Deep.RegionWith
import Derived.Deep.QuietTactic
import Derived.BigQuiet
namespace Go.Proofs.Ytaginjpdpjehoaa.Ar
open Go.RowKit

/-- The arena and the document's row have the same words and the same count; they share no block. -/
structure Pair (w : World) (p q r g cap : Nat) (ws : List Int) (n : Int) : Prop where
  ar : Arena w p q ws n
  rf : Ref w r g cap ws n
  apart : q ≠ g
namespace Pair
variable {w w' : World} {p q r g cap : Nat} {ws : List Int} {n : Int}
theorem keep0 (h : Pair w p q r g cap ws n) (k : Kept [] w w') : Pair w' p q r g cap ws n := ⟨h.ar.keep0 k, h.rf.keep0 k, h.apart⟩
theorem pr (h : Pair w p q r g cap ws n) : p ≠ r := h.ar.head.block_type h.rf.head (by decide)
theorem pg (h : Pair w p q r g cap ws n) : p ≠ g := h.rf.row.block_type h.ar.head (by decide)
theorem qr (h : Pair w p q r g cap ws n) : q ≠ r := h.ar.row.block_type h.rf.head (by decide)
/-- Behind a call of each of the two that does the same to them. -/
theorem step (h : Pair w p q r g cap ws n) {w2 : World} {vs : List Int} {m : Int} (hA : Arena w' p q vs m) (hK : Kept [p, q] w w') (hF : After w' w2 r g vs m) : ∃ g' cap', Pair w2 p q r g' cap' vs m ∧ Kept [p, q, r] w w2 := by
  obtain ⟨g', cap', hg, hR, hK2⟩ := hF
  have h1 := h.pr
  have h2 := h.qr
  refine ⟨g', cap', ⟨hA.kept hK2 (by simp; exact h1) (by simp; exact h2), hR, ?_⟩, (hK.mono (by simp)).trans (hK2.mono (by simp))⟩
  rcases hg with hg | hg
  · have := hA.row.lt
    omega
  · rw [hg]; exact h.apart
end Pair

set_option maxHeartbeats 800000 in
theorem lawSame_any {w : World} {p q r g cap : Nat} {ws : List Int} {n : Int} (h : Pair w p q r g cap ws n) :
    Calls Try.prog 17 #[.pointer (some ⟨p, 0, none⟩), .pointer (some ⟨r, 0, none⟩)] w fun e w' => e = .returned (.bool true) ∧ Kept [] w w' := by
  have hr : within ws.length 0 (ws.length : Int) = true := (within_iff _ _ _).2 ⟨by omega, by omega, by omega⟩
  have HL := Lib.hid (len_any h.ar)
  have HW := Lib.hid (words_ok h.ar 0 ws.length hr)
  have HP := Lib.hid h
  have hs := h.ar.short
  have hcut : cutW ws 0 (ws.length : Int) = ws := by unfold cutW; rw [Int.toNat_natCast]; exact List.take_of_length_le (by simp)
  rw [hcut] at HW
  clear hr h hcut
  go_enter Try.func17, Try.ntmps17
  go_wp2_with fail
  refine HL.out.mono ?_; rintro e w' ⟨rfl, rfl⟩
  go_wp2_with fail
  refine HW.out.mono ?_; rintro e x ⟨b, rfl, hb, hH, hK⟩
  rw [Int.toNat_natCast]
  have hp := HP.out.keep0 hK
  have c0 := hp.rf.c0
  have c1 := hp.rf.c1
  have C20 := Lib.hid (fun (y : World) (hy : Kept [] x y) => same_any (some ⟨b, 0, none⟩) (some ⟨g, 0, none⟩) ws ws ws.length cap y (Row.seen (hH.keep0 hy)) ((hp.keep0 hy).rf.seen) (by omega) (by omega))
  have C16 := Lib.hid (fun (y : World) (hy : Kept [] x y) => writes_any (hp.keep0 hy).ar)
  have HK := Lib.hid hK
  clear hb hH hK hp HP HW HL
  rw [sameB_self] at C20
  go_wp2_with fail
  go_region_with (first | (go_at_call 20; refine (C20.out _ ?_).mono ?_; (first | exact Kept.refl _ _ | exact (Kept.refl _ _).drewN _); rintro e y ⟨rfl, m, rfl⟩) | (go_at_call 16; refine (C16.out _ ?_).mono ?_; (first | exact Kept.refl _ _ | exact (Kept.refl _ _).drewN _); rintro e y ⟨rfl, rfl⟩))
  all_goals
    go_wp2_with fail
    go_ret
    exact ⟨rfl, HK.out.drewN _⟩
end Go.Proofs.Ytaginjpdpjehoaa.Ar
