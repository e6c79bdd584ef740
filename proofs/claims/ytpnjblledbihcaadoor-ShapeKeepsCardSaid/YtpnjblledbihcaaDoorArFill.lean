/-
  The contracts of package arena's Load, Fill and Store.
-/
import Derived.Test.YtpnjblledbihcaaDoorArCut
namespace Go.Proofs.YtpnjblledbihcaaDoor.Ar
open Go.RowKit

theorem replicate_step (ws : List Int) (i j : Nat) (v : Int) (h : i + j < ws.length) : (putW ws i (List.replicate j v)).set (i + j) v = putW ws i (List.replicate (j + 1) v) := by
  unfold putW
  have h1 : (ws.take i).length = i := by rw [List.length_take]; omega
  rw [List.set_append_right _ _ (by omega), h1, Nat.add_sub_cancel_left, List.set_append_right _ _ (by simp), List.length_replicate, Nat.sub_self, List.length_replicate, List.drop_eq_getElem_cons h, List.set_cons_zero, List.replicate_succ', List.append_assoc]
  simp [Nat.add_assoc]

section
variable {p q : Nat} {ws : List Int} {n : Int} {w : World}
theorem load_any (h : Arena w p q ws n) (i : Int) (h1 : -9223372036854775808 ≤ i) (h2 : i ≤ 9223372036854775807) :
    Calls Tryd.prog 37 #[.pointer (some ⟨p, 0, none⟩), .int .i64 i] w fun e w' => e = .returned (.tuple #[.int .u64 (loadV ws i), .int .i64 (errOf (within ws.length i 1))]) ∧ w = w' := by
  cases hr : within ws.length i 1
  · have e1 : loadV ws i = 0 := by unfold loadV; rw [hr]; rfl
    have H := Lib.hid (cut_bad h i 1 hr h1 h2 (by omega) (by omega))
    rw [e1, show errOf false = 2 from rfl]
    clear e1 hr h
    go_enter Tryd.func37, Tryd.ntmps37
    go_wp2_with fail
    refine H.out.mono ?_; rintro e w' ⟨rfl, rfl⟩
    go_wp2_with fail
    go_ret2
    exact ⟨rfl, rfl⟩
  · obtain ⟨a, b, c⟩ := (within_iff _ _ _).1 hr
    have e1 : loadV ws i = ws.getD i.toNat 0 := by unfold loadV; rw [hr]; rfl
    have e2 : pieceAt q i 1 = some ⟨q, i.toNat, none⟩ := if_neg (by omega)
    have hc := cut_ok h i 1 hr
    rw [e2] at hc
    have H := Lib.hid hc
    have hx := h.row.cell i.toNat
    rw [ints_get ws i.toNat (by omega)] at hx
    rw [e1, show errOf true = 0 from rfl]
    clear e1 e2 hr hc h a b c
    generalize ws.getD i.toNat 0 = x at *
    go_enter Tryd.func37, Tryd.ntmps37
    go_wp2_with fail
    refine H.out.mono ?_; rintro e w' ⟨rfl, rfl⟩
    go_wp2_with fail
    go_ret2
    exact ⟨rfl, rfl⟩

set_option maxHeartbeats 400000 in
theorem fill_any (h : Arena w p q ws n) (i k v : Int) (h1 : -9223372036854775808 ≤ i) (h2 : i ≤ 9223372036854775807) (h3 : -9223372036854775808 ≤ k) (h4 : k ≤ 9223372036854775807) :
    Calls Tryd.prog 57 #[.pointer (some ⟨p, 0, none⟩), .int .i64 i, .int .i64 k, .int .u64 v] w fun e w' =>
      e = .returned (.int .i64 (errOf (within ws.length i k))) ∧ Arena w' p q (fillW ws i k v) (fillN ws n i k) ∧ Kept [p, q] w w' := by
  cases hr : within ws.length i k
  · have e1 : fillW ws i k v = ws := by unfold fillW; rw [hr]; rfl
    have e2 : fillN ws n i k = n := by unfold fillN; rw [hr]; rfl
    have H := Lib.hid (cut_bad h i k hr h1 h2 h3 h4)
    rw [e1, e2, show errOf false = 2 from rfl]
    clear e1 e2 hr
    have HA := Lib.hid h
    clear h
    go_enter Tryd.func57, Tryd.ntmps57
    go_wp2_with fail
    refine H.out.mono ?_; rintro e w' ⟨rfl, rfl⟩
    go_wp2_with fail
    go_ret
    exact ⟨rfl, HA.out, Kept.refl _ _⟩
  · obtain ⟨a, b, c⟩ := (within_iff _ _ _).1 hr
    have e1 : fillW ws i k v = putW ws i.toNat (List.replicate k.toNat v) := by unfold fillW; rw [hr]; rfl
    have e2 : fillN ws n i k = addU n k := by unfold fillN; rw [hr]; rfl
    have H := Lib.hid (cut_ok h i k hr)
    have hs := h.short
    rw [e1, e2, show errOf true = 0 from rfl]
    clear e1 e2 hr
    obtain ⟨i, rfl⟩ := Int.eq_ofNat_of_zero_le a
    obtain ⟨k, rfl⟩ := Int.eq_ofNat_of_zero_le b
    simp only [Int.toNat_natCast] at *
    have HA := Lib.hid h
    clear h a b
    go_enter Tryd.func57, Tryd.ntmps57
    go_wp2_with fail
    refine H.out.mono ?_; rintro e w' ⟨rfl, rfl⟩
    go_wp2_with fail
    clear H
    go_loopw [23] (fun t wr => ∃ j : Nat, j ≤ k ∧ t = .int .i64 j ∧ Arena wr p q (putW ws i (List.replicate j v)) n ∧ Kept [p, q] w wr) (fun t _ => k - (intOf t).toNat)
    case atStart => exact ⟨0, Nat.zero_le _, rfl, by rw [show putW ws i (List.replicate 0 v) = ws by simp [putW]]; exact HA.out, Kept.refl _ _⟩
    case round =>
      obtain ⟨j, hj, rfl, hA, hK⟩ := hrel
      have hlen : (putW ws i (List.replicate j v)).length = ws.length := putW_length _ _ _ (by rw [List.length_replicate]; omega)
      by_cases hlt : j < k
      · have ea : pieceAt q (i : Int) (k : Int) = some ⟨q, i, none⟩ := by unfold pieceAt; rw [if_neg (by omega), Int.toNat_natCast]
        have hc := hA.row.cell (i + j)
        rw [ints_get _ _ (by omega)] at hc
        have hf := hA.row.free (i + j)
        have hN : ∀ x, x = wr.setCell ⟨q, i + j, none⟩ (.int .u64 v) → Arena x p q (putW ws i (List.replicate (j + 1) v)) n ∧ Kept [p, q] w x := by
          rintro _ rfl
          have hl2 : (putW ws i (List.replicate (j + 1) v)).length = (putW ws i (List.replicate j v)).length := by rw [hlen]; exact putW_length _ _ _ (by rw [List.length_replicate]; omega)
          refine ⟨⟨?_, ?_, by rw [hl2]; exact hA.short⟩, hK.setCell _ _ (.inl (by simp))⟩
          · rw [hl2]
            exact hA.head.beside _ hA.ne _
          · have e := hA.row.put (i + j) (.int .u64 v)
            rw [ints_set, replicate_step ws i j v (by omega)] at e
            exact e
        generalize (putW ws i (List.replicate j v)).getD (i + j) 0 = x at *
        have HN := Lib.hid hN
        clear hN hA hK hlen HA
        rw [ea]
        clear ea
        go_wp2
        go_roundw
        case rel => exact ⟨j + 1, by omega, by go_num, HN.out _ rfl⟩
        case measure => simp [intOf]; omega
      · obtain rfl : j = k := by omega
        have hw := wrote_any hA (j : Int) (by omega) (by omega)
        have HW := Lib.hid hw
        have HK := Lib.hid hK
        clear hw hA hK hlen HA
        go_wp2_with fail
        refine HW.out.mono ?_; rintro e w2 ⟨rfl, hA2, hK2⟩
        have HA2 := Lib.hid hA2
        have HK2 := Lib.hid (HK.out.trans (hK2.mono (T := [p, q]) (by simp)))
        clear hA2 hK2 HK
        go_wp2_with fail
        go_ret
        exact ⟨rfl, HA2.out, HK2.out⟩
theorem store_any (h : Arena w p q ws n) (i v : Int) (h1 : -9223372036854775808 ≤ i) (h2 : i ≤ 9223372036854775807) :
    Calls Tryd.prog 46 #[.pointer (some ⟨p, 0, none⟩), .int .i64 i, .int .u64 v] w fun e w' =>
      e = .returned (.int .i64 (errOf (within ws.length i 1))) ∧ Arena w' p q (fillW ws i 1 v) (fillN ws n i 1) ∧ Kept [p, q] w w' := by
  have H := Lib.hid (fill_any h i 1 v h1 h2 (by omega) (by omega))
  clear h
  go_enter Tryd.func46, Tryd.ntmps46
  go_wp2_with fail
  refine H.out.mono ?_; rintro e w' ⟨rfl, hA, hK⟩
  have HA := Lib.hid hA
  have HK := Lib.hid hK
  clear hA hK H
  go_wp2_with fail
  go_ret
  exact ⟨rfl, HA.out, HK.out⟩
end
end Go.Proofs.YtpnjblledbihcaaDoor.Ar
