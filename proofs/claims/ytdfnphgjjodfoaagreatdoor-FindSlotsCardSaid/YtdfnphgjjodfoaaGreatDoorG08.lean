/-
  Several texts in one: ArMem, ArCut, ArFill, ArMove.
-/
import Derived.Test.YtdfnphgjjodfoaaGreatDoorG01
import Derived.WalkKit
import Derived.Lib.Hide
import Derived.Laws.OwnMore
import Derived.Laws.Rows
import Derived.Deep.Draws
import Derived.Test.YtdfnphgjjodfoaaGreatDoorProg
import Derived.Outline
import Derived.WalkSpells
import Derived.Laws.CopyOwn
/-
  Memory of package arena and of the document's answer, told by blocks: what a block holds, which blocks may have turned.
-/
namespace Go.Proofs.YtdfnphgjjodfoaaGreatDoor.Ar
open Go.RowKit

/-- An arena at block p, its words at block q. -/
structure Arena (w : World) (p q : Nat) (ws : List Int) (n : Int) : Prop where
  head : Has w p 143 [.slice (some ⟨q, 0, none⟩) ws.length ws.length, .int .u64 n]
  row : Has w q 24 (ints ws)
  short : ws.length ≤ 65536

namespace Arena
variable {w w' : World} {p q : Nat} {ws : List Int} {n : Int}
theorem ne (h : Arena w p q ws n) : p ≠ q := by
  rintro rfl
  have e := h.head.symm.trans h.row
  injection e with e
  injection e with _ e
  exact absurd e (by decide)
theorem kept {S : List Nat} (h : Arena w p q ws n) (k : Kept S w w') (hp : p ∉ S) (hq : q ∉ S) : Arena w' p q ws n := ⟨h.head.kept k hp, h.row.kept k hq, h.short⟩
theorem keep0 (h : Arena w p q ws n) (k : Kept [] w w') : Arena w' p q ws n := h.kept k (by simp) (by simp)
theorem drewN (h : Arena w p q ws n) (k : Nat) : Arena (w.drewN k) p q ws n := ⟨h.head, h.row, h.short⟩
end Arena

/-! ### What the calls answer, as plain functions -/
/-- k words from the word i on lie within L. -/
def within (L : Nat) (i k : Int) : Bool := decide (0 ≤ i ∧ 0 ≤ k ∧ i + k ≤ L)
theorem within_iff (L : Nat) (i k : Int) : within L i k = true ↔ 0 ≤ i ∧ 0 ≤ k ∧ i + k ≤ L := by unfold within; exact decide_eq_true_iff
/-- OK or ErrArg. -/
def errOf (b : Bool) : Int := if b then 0 else 2
/-- l laid over ws from the word i on. -/
def putW (ws : List Int) (i : Nat) (l : List Int) : List Int := ws.take i ++ (l ++ ws.drop (i + l.length))
theorem putW_length (ws : List Int) (i : Nat) (l : List Int) (h : i + l.length ≤ ws.length) : (putW ws i l).length = ws.length := by
  unfold putW
  simp only [List.length_append, List.length_take, List.length_drop]
  omega
def loadV (ws : List Int) (i : Int) : Int := if within ws.length i 1 then ws.getD i.toNat 0 else 0
def fillW (ws : List Int) (i k v : Int) : List Int := if within ws.length i k then putW ws i.toNat (List.replicate k.toNat v) else ws
def fillN (ws : List Int) (n i k : Int) : Int := if within ws.length i k then addU n k else n
theorem fillW_length (ws : List Int) (i k v : Int) : (fillW ws i k v).length = ws.length := by
  unfold fillW
  split
  · rename_i h
    obtain ⟨a, b, c⟩ := (within_iff _ _ _).1 h
    exact putW_length _ _ _ (by rw [List.length_replicate]; omega)
  · rfl
end Go.Proofs.YtdfnphgjjodfoaaGreatDoor.Ar

/-
  The contracts of package arena's functions that only read: Len, Writes, cut, Load; and of wrote.
-/
namespace Go.Proofs.YtdfnphgjjodfoaaGreatDoor.Ar
open Go.RowKit

/-! ### nil -/
theorem len_nil (w : World) : Calls Tryz.prog 82 #[.pointer none] w fun e w' => e = .returned (.int .i64 0) ∧ w = w' := by
  go_enter Tryz.func82, Tryz.ntmps82
  go_wp2
  go_ret
  exact ⟨rfl, rfl⟩
/-! ### An arena -/
section
variable {p q : Nat} {ws : List Int} {n : Int} {w : World}
theorem Arena.c0 (h : Arena w p q ws n) : w.cell? ⟨p, 0, none⟩ = some (.slice (some ⟨q, 0, none⟩) ws.length ws.length) := h.head.cell 0
theorem Arena.c1 (h : Arena w p q ws n) : w.cell? ⟨p, 1, none⟩ = some (.int .u64 n) := h.head.cell 1
theorem len_any (h : Arena w p q ws n) : Calls Tryz.prog 82 #[.pointer (some ⟨p, 0, none⟩)] w fun e w' => e = .returned (.int .i64 ws.length) ∧ w = w' := by
  have c := h.c0
  have hs := h.short
  go_enter Tryz.func82, Tryz.ntmps82
  go_wp2
  go_ret
  exact ⟨rfl, rfl⟩
/-- The address of a piece: an empty one keeps the row's head. -/
def pieceAt (q : Nat) (i k : Int) : Option Addr := if k = 0 then some ⟨q, 0, none⟩ else some ⟨q, i.toNat, none⟩
theorem cut_ok (h : Arena w p q ws n) (i k : Int) (hr : within ws.length i k = true) :
    Calls Tryz.prog 48 #[.pointer (some ⟨p, 0, none⟩), .int .i64 i, .int .i64 k] w fun e w' => e = .returned (.tuple #[.slice (pieceAt q i k) k.toNat k.toNat, .int .i64 0]) ∧ w = w' := by
  obtain ⟨a, b, c⟩ := (within_iff _ _ _).1 hr
  have cc := h.c0
  have hs := h.short
  clear hr h
  generalize ws.length = L at *
  obtain ⟨i, rfl⟩ := Int.eq_ofNat_of_zero_le a
  obtain ⟨k, rfl⟩ := Int.eq_ofNat_of_zero_le b
  by_cases hk : k = 0
  · subst hk
    have hA : pieceAt q (i : Int) ((0 : Nat) : Int) = some ⟨q, 0, none⟩ := if_pos rfl
    rw [hA]
    clear hA
    go_enter Tryz.func48, Tryz.ntmps48
    go_wp2
    go_ret2
    exact ⟨by simp, rfl⟩
  · have hA : pieceAt q (i : Int) (k : Int) = some ⟨q, i, none⟩ := by unfold pieceAt; rw [if_neg (by omega), Int.toNat_natCast]
    rw [hA, Int.toNat_natCast]
    clear hA
    go_enter Tryz.func48, Tryz.ntmps48
    go_wp2
    go_ret2
    exact ⟨by simp, rfl⟩
theorem cut_bad (h : Arena w p q ws n) (i k : Int) (hr : within ws.length i k = false) (h1 : -9223372036854775808 ≤ i) (h2 : i ≤ 9223372036854775807) (h3 : -9223372036854775808 ≤ k) (h4 : k ≤ 9223372036854775807) :
    Calls Tryz.prog 48 #[.pointer (some ⟨p, 0, none⟩), .int .i64 i, .int .i64 k] w fun e w' => e = .returned (.tuple #[.slice none 0 0, .int .i64 2]) ∧ w = w' := by
  have hn : ¬ (0 ≤ i ∧ 0 ≤ k ∧ i + k ≤ (ws.length : Int)) := fun hh => by rw [(within_iff _ _ _).2 hh] at hr; cases hr
  have cc := h.c0
  have hs := h.short
  clear hr h
  generalize ws.length = L at *
  by_cases ha : i < 0
  · go_enter Tryz.func48, Tryz.ntmps48
    go_wp2
    go_ret2
    exact ⟨rfl, rfl⟩
  · by_cases hb : k < 0
    · go_enter Tryz.func48, Tryz.ntmps48
      go_wp2
      go_ret2
      exact ⟨rfl, rfl⟩
    · have hc : (L : Int) - i < k := by omega
      go_enter Tryz.func48, Tryz.ntmps48
      go_wp2
      go_ret2
      exact ⟨rfl, rfl⟩
theorem wrote_any (h : Arena w p q ws n) (k : Int) (hk : 0 ≤ k) (hk2 : k ≤ 9223372036854775807) :
    Calls Tryz.prog 135 #[.pointer (some ⟨p, 0, none⟩), .int .i64 k] w fun e w' => e = .returned (.tuple #[]) ∧ Arena w' p q ws (addU n k) ∧ Kept [p] w w' := by
  have c := h.c1
  have cf := h.head.free 1
  have hP : ∀ w', w' = w.setCell ⟨p, 1, none⟩ (.int .u64 (addU n k)) → Arena w' p q ws (addU n k) ∧ Kept [p] w w' := by
    rintro _ rfl
    exact ⟨⟨h.head.put 1 _, h.row.beside _ (Ne.symm h.ne) _, h.short⟩, (Kept.refl _ _).setCell _ _ (.inl (by simp))⟩
  have HP := Lib.hid hP
  clear hP h
  go_enter Tryz.func135, Tryz.ntmps135
  go_wp2
  go_end0
  exact ⟨rfl, HP.out _ rfl⟩
end
end Go.Proofs.YtdfnphgjjodfoaaGreatDoor.Ar

/-
  The contracts of package arena's Load, Fill and Store.
-/
namespace Go.Proofs.YtdfnphgjjodfoaaGreatDoor.Ar
open Go.RowKit

theorem replicate_step (ws : List Int) (i j : Nat) (v : Int) (h : i + j < ws.length) : (putW ws i (List.replicate j v)).set (i + j) v = putW ws i (List.replicate (j + 1) v) := by
  unfold putW
  have h1 : (ws.take i).length = i := by rw [List.length_take]; omega
  rw [List.set_append_right _ _ (by omega), h1, Nat.add_sub_cancel_left, List.set_append_right _ _ (by simp), List.length_replicate, Nat.sub_self, List.length_replicate, List.drop_eq_getElem_cons h, List.set_cons_zero, List.replicate_succ', List.append_assoc]
  simp [Nat.add_assoc]

section
variable {p q : Nat} {ws : List Int} {n : Int} {w : World}
theorem load_any (h : Arena w p q ws n) (i : Int) (h1 : -9223372036854775808 ≤ i) (h2 : i ≤ 9223372036854775807) :
    Calls Tryz.prog 23 #[.pointer (some ⟨p, 0, none⟩), .int .i64 i] w fun e w' => e = .returned (.tuple #[.int .u64 (loadV ws i), .int .i64 (errOf (within ws.length i 1))]) ∧ w = w' := by
  cases hr : within ws.length i 1
  · have e1 : loadV ws i = 0 := by unfold loadV; rw [hr]; rfl
    have H := Lib.hid (cut_bad h i 1 hr h1 h2 (by omega) (by omega))
    rw [e1, show errOf false = 2 from rfl]
    clear e1 hr h
    go_enter Tryz.func23, Tryz.ntmps23
    go_wp2_with fail
    refine H.out.mono ?_; rintro e w' ⟨rfl, rfl⟩
    go_wp2_with fail
    go_ret2
    exact ⟨rfl, rfl⟩
  · obtain ⟨a, b, c⟩ := (within_iff _ _ _).1 hr
    have e1 : loadV ws i = ws.getD i.toNat 0 := by unfold loadV; rw [hr]; rfl
    have e2 : pieceAt q i 1 = some ⟨q, i.toNat, none⟩ := if_neg (by omega)
    have hc := cut_ok h i 1 hr
    rw [e2] at hc
    have H := Lib.hid hc
    have hx := h.row.cell i.toNat
    rw [ints_get ws i.toNat (by omega)] at hx
    rw [e1, show errOf true = 0 from rfl]
    clear e1 e2 hr hc h a b c
    generalize ws.getD i.toNat 0 = x at *
    go_enter Tryz.func23, Tryz.ntmps23
    go_wp2_with fail
    refine H.out.mono ?_; rintro e w' ⟨rfl, rfl⟩
    go_wp2_with fail
    go_ret2
    exact ⟨rfl, rfl⟩

set_option maxHeartbeats 400000 in
theorem fill_any (h : Arena w p q ws n) (i k v : Int) (h1 : -9223372036854775808 ≤ i) (h2 : i ≤ 9223372036854775807) (h3 : -9223372036854775808 ≤ k) (h4 : k ≤ 9223372036854775807) :
    Calls Tryz.prog 93 #[.pointer (some ⟨p, 0, none⟩), .int .i64 i, .int .i64 k, .int .u64 v] w fun e w' =>
      e = .returned (.int .i64 (errOf (within ws.length i k))) ∧ Arena w' p q (fillW ws i k v) (fillN ws n i k) ∧ Kept [p, q] w w' := by
  cases hr : within ws.length i k
  · have e1 : fillW ws i k v = ws := by unfold fillW; rw [hr]; rfl
    have e2 : fillN ws n i k = n := by unfold fillN; rw [hr]; rfl
    have H := Lib.hid (cut_bad h i k hr h1 h2 h3 h4)
    rw [e1, e2, show errOf false = 2 from rfl]
    clear e1 e2 hr
    have HA := Lib.hid h
    clear h
    go_enter Tryz.func93, Tryz.ntmps93
    go_wp2_with fail
    refine H.out.mono ?_; rintro e w' ⟨rfl, rfl⟩
    go_wp2_with fail
    go_ret
    exact ⟨rfl, HA.out, Kept.refl _ _⟩
  · obtain ⟨a, b, c⟩ := (within_iff _ _ _).1 hr
    have e1 : fillW ws i k v = putW ws i.toNat (List.replicate k.toNat v) := by unfold fillW; rw [hr]; rfl
    have e2 : fillN ws n i k = addU n k := by unfold fillN; rw [hr]; rfl
    have H := Lib.hid (cut_ok h i k hr)
    have hs := h.short
    rw [e1, e2, show errOf true = 0 from rfl]
    clear e1 e2 hr
    obtain ⟨i, rfl⟩ := Int.eq_ofNat_of_zero_le a
    obtain ⟨k, rfl⟩ := Int.eq_ofNat_of_zero_le b
    simp only [Int.toNat_natCast] at *
    have HA := Lib.hid h
    clear h a b
    go_enter Tryz.func93, Tryz.ntmps93
    go_wp2_with fail
    refine H.out.mono ?_; rintro e w' ⟨rfl, rfl⟩
    go_wp2_with fail
    clear H
    go_loopw [23] (fun t wr => ∃ j : Nat, j ≤ k ∧ t = .int .i64 j ∧ Arena wr p q (putW ws i (List.replicate j v)) n ∧ Kept [p, q] w wr) (fun t _ => k - (intOf t).toNat)
    case atStart => exact ⟨0, Nat.zero_le _, rfl, by rw [show putW ws i (List.replicate 0 v) = ws by simp [putW]]; exact HA.out, Kept.refl _ _⟩
    case round =>
      obtain ⟨j, hj, rfl, hA, hK⟩ := hrel
      have hlen : (putW ws i (List.replicate j v)).length = ws.length := putW_length _ _ _ (by rw [List.length_replicate]; omega)
      by_cases hlt : j < k
      · have ea : pieceAt q (i : Int) (k : Int) = some ⟨q, i, none⟩ := by unfold pieceAt; rw [if_neg (by omega), Int.toNat_natCast]
        have hc := hA.row.cell (i + j)
        rw [ints_get _ _ (by omega)] at hc
        have hf := hA.row.free (i + j)
        have hN : ∀ x, x = wr.setCell ⟨q, i + j, none⟩ (.int .u64 v) → Arena x p q (putW ws i (List.replicate (j + 1) v)) n ∧ Kept [p, q] w x := by
          rintro _ rfl
          have hl2 : (putW ws i (List.replicate (j + 1) v)).length = (putW ws i (List.replicate j v)).length := by rw [hlen]; exact putW_length _ _ _ (by rw [List.length_replicate]; omega)
          refine ⟨⟨?_, ?_, by rw [hl2]; exact hA.short⟩, hK.setCell _ _ (.inl (by simp))⟩
          · rw [hl2]
            exact hA.head.beside _ hA.ne _
          · have e := hA.row.put (i + j) (.int .u64 v)
            rw [ints_set, replicate_step ws i j v (by omega)] at e
            exact e
        generalize (putW ws i (List.replicate j v)).getD (i + j) 0 = x at *
        have HN := Lib.hid hN
        clear hN hA hK hlen HA
        rw [ea]
        clear ea
        go_wp2
        go_roundw
        case rel => exact ⟨j + 1, by omega, by go_num, HN.out _ rfl⟩
        case measure => simp [intOf]; omega
      · obtain rfl : j = k := by omega
        have hw := wrote_any hA (j : Int) (by omega) (by omega)
        have HW := Lib.hid hw
        have HK := Lib.hid hK
        clear hw hA hK hlen HA
        go_wp2_with fail
        refine HW.out.mono ?_; rintro e w2 ⟨rfl, hA2, hK2⟩
        have HA2 := Lib.hid hA2
        have HK2 := Lib.hid (HK.out.trans (hK2.mono (T := [p, q]) (by simp)))
        clear hA2 hK2 HK
        go_wp2_with fail
        go_ret
        exact ⟨rfl, HA2.out, HK2.out⟩
theorem store_any (h : Arena w p q ws n) (i v : Int) (h1 : -9223372036854775808 ≤ i) (h2 : i ≤ 9223372036854775807) :
    Calls Tryz.prog 92 #[.pointer (some ⟨p, 0, none⟩), .int .i64 i, .int .u64 v] w fun e w' =>
      e = .returned (.int .i64 (errOf (within ws.length i 1))) ∧ Arena w' p q (fillW ws i 1 v) (fillN ws n i 1) ∧ Kept [p, q] w w' := by
  have H := Lib.hid (fill_any h i 1 v h1 h2 (by omega) (by omega))
  clear h
  go_enter Tryz.func92, Tryz.ntmps92
  go_wp2_with fail
  refine H.out.mono ?_; rintro e w' ⟨rfl, hA, hK⟩
  have HA := Lib.hid hA
  have HK := Lib.hid hK
  clear hA hK H
  go_wp2_with fail
  go_ret
  exact ⟨rfl, HA.out, HK.out⟩
end
end Go.Proofs.YtdfnphgjjodfoaaGreatDoor.Ar

/-
  The contract of package arena's Move.
-/
namespace Go.Proofs.YtdfnphgjjodfoaaGreatDoor.Ar
open Go.RowKit

section
variable {p q : Nat} {ws : List Int} {n : Int} {w : World}
theorem Arena.laid (h : Arena w p q ws n) (i : Nat) (l : List Int) (hl : i + l.length ≤ ws.length) : Arena (w.setRow q (ints (putW ws i l)).toArray) p q (putW ws i l) n := by
  have e := putW_length ws i l hl
  refine ⟨?_, h.row.row _, by rw [e]; exact h.short⟩
  rw [e]
  exact h.head.otherRow q h.ne _

end
end Go.Proofs.YtdfnphgjjodfoaaGreatDoor.Ar
