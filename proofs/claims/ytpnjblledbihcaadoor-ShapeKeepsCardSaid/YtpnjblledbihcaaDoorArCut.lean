/-
  The contracts of package arena's functions that only read: Len, Writes, cut, Load; and of wrote.
-/
import Derived.Test.YtpnjblledbihcaaDoorProg
import Derived.Test.YtpnjblledbihcaaDoorArMem
import Derived.WalkKit
import Derived.Outline
import Derived.WalkSpells
import Derived.Lib.Hide
namespace Go.Proofs.YtpnjblledbihcaaDoor.Ar
open Go.RowKit

/-! ### nil -/
theorem len_nil (w : World) : Calls Tryd.prog 54 #[.pointer none] w fun e w' => e = .returned (.int .i64 0) ∧ w = w' := by
  go_enter Tryd.func54, Tryd.ntmps54
  go_wp2
  go_ret
  exact ⟨rfl, rfl⟩
theorem cut_nil (i k : Int) (w : World) : Calls Tryd.prog 60 #[.pointer none, .int .i64 i, .int .i64 k] w fun e w' => e = .returned (.tuple #[.slice none 0 0, .int .i64 1]) ∧ w = w' := by
  go_enter Tryd.func60, Tryd.ntmps60
  go_wp2
  go_ret2
  exact ⟨rfl, rfl⟩
theorem load_nil (i : Int) (w : World) : Calls Tryd.prog 37 #[.pointer none, .int .i64 i] w fun e w' => e = .returned (.tuple #[.int .u64 0, .int .i64 1]) ∧ w = w' := by
  go_enter Tryd.func37, Tryd.ntmps37
  go_wp2_with fail
  refine (cut_nil i 1 _).mono ?_; rintro e w' ⟨rfl, rfl⟩
  go_wp2_with fail
  go_ret2
  exact ⟨rfl, rfl⟩
theorem words_nil (i k : Int) (w : World) : Calls Tryd.prog 53 #[.pointer none, .int .i64 i, .int .i64 k] w fun e w' => e = .returned (.tuple #[.slice none 0 0, .int .i64 1]) ∧ w = w' := by
  go_enter Tryd.func53, Tryd.ntmps53
  go_wp2_with fail
  refine (cut_nil i k _).mono ?_; rintro e w' ⟨rfl, rfl⟩
  go_wp2_with fail
  go_ret2
  exact ⟨rfl, rfl⟩
theorem fill_nil (i k v : Int) (w : World) : Calls Tryd.prog 57 #[.pointer none, .int .i64 i, .int .i64 k, .int .u64 v] w fun e w' => e = .returned (.int .i64 1) ∧ w = w' := by
  go_enter Tryd.func57, Tryd.ntmps57
  go_wp2_with fail
  refine (cut_nil i k _).mono ?_; rintro e w' ⟨rfl, rfl⟩
  go_wp2_with fail
  go_ret
  exact ⟨rfl, rfl⟩
theorem store_nil (i v : Int) (w : World) : Calls Tryd.prog 46 #[.pointer none, .int .i64 i, .int .u64 v] w fun e w' => e = .returned (.int .i64 1) ∧ w = w' := by
  go_enter Tryd.func46, Tryd.ntmps46
  go_wp2_with fail
  refine (fill_nil i 1 v _).mono ?_; rintro e w' ⟨rfl, rfl⟩
  go_wp2_with fail
  go_ret
  exact ⟨rfl, rfl⟩
/-! ### An arena -/
section
variable {p q : Nat} {ws : List Int} {n : Int} {w : World}
theorem Arena.c0 (h : Arena w p q ws n) : w.cell? ⟨p, 0, none⟩ = some (.slice (some ⟨q, 0, none⟩) ws.length ws.length) := h.head.cell 0
theorem Arena.c1 (h : Arena w p q ws n) : w.cell? ⟨p, 1, none⟩ = some (.int .u64 n) := h.head.cell 1
theorem len_any (h : Arena w p q ws n) : Calls Tryd.prog 54 #[.pointer (some ⟨p, 0, none⟩)] w fun e w' => e = .returned (.int .i64 ws.length) ∧ w = w' := by
  have c := h.c0
  have hs := h.short
  go_enter Tryd.func54, Tryd.ntmps54
  go_wp2
  go_ret
  exact ⟨rfl, rfl⟩
/-- The address of a piece: an empty one keeps the row's head. -/
def pieceAt (q : Nat) (i k : Int) : Option Addr := if k = 0 then some ⟨q, 0, none⟩ else some ⟨q, i.toNat, none⟩
theorem cut_ok (h : Arena w p q ws n) (i k : Int) (hr : within ws.length i k = true) :
    Calls Tryd.prog 60 #[.pointer (some ⟨p, 0, none⟩), .int .i64 i, .int .i64 k] w fun e w' => e = .returned (.tuple #[.slice (pieceAt q i k) k.toNat k.toNat, .int .i64 0]) ∧ w = w' := by
  obtain ⟨a, b, c⟩ := (within_iff _ _ _).1 hr
  have cc := h.c0
  have hs := h.short
  clear hr h
  generalize ws.length = L at *
  obtain ⟨i, rfl⟩ := Int.eq_ofNat_of_zero_le a
  obtain ⟨k, rfl⟩ := Int.eq_ofNat_of_zero_le b
  by_cases hk : k = 0
  · subst hk
    have hA : pieceAt q (i : Int) ((0 : Nat) : Int) = some ⟨q, 0, none⟩ := if_pos rfl
    rw [hA]
    clear hA
    go_enter Tryd.func60, Tryd.ntmps60
    go_wp2
    go_ret2
    exact ⟨by simp, rfl⟩
  · have hA : pieceAt q (i : Int) (k : Int) = some ⟨q, i, none⟩ := by unfold pieceAt; rw [if_neg (by omega), Int.toNat_natCast]
    rw [hA, Int.toNat_natCast]
    clear hA
    go_enter Tryd.func60, Tryd.ntmps60
    go_wp2
    go_ret2
    exact ⟨by simp, rfl⟩
theorem cut_bad (h : Arena w p q ws n) (i k : Int) (hr : within ws.length i k = false) (h1 : -9223372036854775808 ≤ i) (h2 : i ≤ 9223372036854775807) (h3 : -9223372036854775808 ≤ k) (h4 : k ≤ 9223372036854775807) :
    Calls Tryd.prog 60 #[.pointer (some ⟨p, 0, none⟩), .int .i64 i, .int .i64 k] w fun e w' => e = .returned (.tuple #[.slice none 0 0, .int .i64 2]) ∧ w = w' := by
  have hn : ¬ (0 ≤ i ∧ 0 ≤ k ∧ i + k ≤ (ws.length : Int)) := fun hh => by rw [(within_iff _ _ _).2 hh] at hr; cases hr
  have cc := h.c0
  have hs := h.short
  clear hr h
  generalize ws.length = L at *
  by_cases ha : i < 0
  · go_enter Tryd.func60, Tryd.ntmps60
    go_wp2
    go_ret2
    exact ⟨rfl, rfl⟩
  · by_cases hb : k < 0
    · go_enter Tryd.func60, Tryd.ntmps60
      go_wp2
      go_ret2
      exact ⟨rfl, rfl⟩
    · have hc : (L : Int) - i < k := by omega
      go_enter Tryd.func60, Tryd.ntmps60
      go_wp2
      go_ret2
      exact ⟨rfl, rfl⟩
theorem wrote_any (h : Arena w p q ws n) (k : Int) (hk : 0 ≤ k) (hk2 : k ≤ 9223372036854775807) :
    Calls Tryd.prog 74 #[.pointer (some ⟨p, 0, none⟩), .int .i64 k] w fun e w' => e = .returned (.tuple #[]) ∧ Arena w' p q ws (addU n k) ∧ Kept [p] w w' := by
  have c := h.c1
  have cf := h.head.free 1
  have hP : ∀ w', w' = w.setCell ⟨p, 1, none⟩ (.int .u64 (addU n k)) → Arena w' p q ws (addU n k) ∧ Kept [p] w w' := by
    rintro _ rfl
    exact ⟨⟨h.head.put 1 _, h.row.beside _ (Ne.symm h.ne) _, h.short⟩, (Kept.refl _ _).setCell _ _ (.inl (by simp))⟩
  have HP := Lib.hid hP
  clear hP h
  go_enter Tryd.func74, Tryd.ntmps74
  go_wp2
  go_end0
  exact ⟨rfl, HP.out _ rfl⟩
end
end Go.Proofs.YtpnjblledbihcaaDoor.Ar
