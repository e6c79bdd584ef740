/-
  Addresses and granules: the contracts of Addr, Word, first, within, and of the document's Addr and Word.
-/
import Derived.Test.YtpnjblledbihcaaDoorProg
import Derived.Test.YtpnjblledbihcaaDoorArFill
import Derived.WalkKit
namespace Go.Proofs.YtpnjblledbihcaaDoor.Sh
open Go.RowKit Go.Proofs.YtpnjblledbihcaaDoor.Ar
set_option linter.unusedVariables false

def addrR (g : Int) : Int := if g < 0 then 0 else 1048576 + 2 * g
def wordB (u : Int) : Bool := decide (1048576 ≤ u ∧ u < 1114112)
def wordR (u : Int) : Int := if 1048576 ≤ u ∧ u < 1114112 then u - 1048576 else 0
section
variable {w : World}
theorem addr_ok (g : Int) (hg : g ≤ 1099511627776) : Calls Tryd.prog 10 #[.int .i64 g] w fun e w' => e = .returned (.int .u64 (addrR g)) ∧ w = w' := by
  unfold addrR
  by_cases h : g < 0
  · rw [if_pos h]
    go_enter Tryd.func10, Tryd.ntmps10
    go_wp2
    go_ret
    exact ⟨rfl, rfl⟩
  · rw [if_neg h]
    obtain ⟨n, rfl⟩ := Int.eq_ofNat_of_zero_le (Int.not_lt.1 h)
    go_enter Tryd.func10, Tryd.ntmps10
    go_wp2
    go_ret
    exact ⟨ret_int (by omega), rfl⟩
theorem daddr_ok (g : Int) (hg : g ≤ 1099511627776) : Calls Tryd.prog 11 #[.int .i64 g] w fun e w' => e = .returned (.int .u64 (addrR g)) ∧ w = w' := by
  unfold addrR
  by_cases h : g < 0
  · rw [if_pos h]
    go_enter Tryd.func11, Tryd.ntmps11
    go_wp2
    go_ret
    exact ⟨rfl, rfl⟩
  · rw [if_neg h]
    obtain ⟨n, rfl⟩ := Int.eq_ofNat_of_zero_le (Int.not_lt.1 h)
    go_enter Tryd.func11, Tryd.ntmps11
    go_wp2
    go_ret
    exact ⟨ret_int (by omega), rfl⟩
set_option maxRecDepth 100000 in
theorem word_ok (u : Int) (h0 : 0 ≤ u) (h1 : u < 18446744073709551616) : Calls Tryd.prog 8 #[.int .u64 u] w fun e w' => e = .returned (.tuple #[.int .i64 (wordR u), .bool (wordB u)]) ∧ w = w' := by
  unfold wordR wordB
  by_cases h : 1048576 ≤ u ∧ u < 1114112
  · rw [if_pos h, decide_eq_true h]
    have hw : IntKind.u64.wrap (u - 1048576) = u - 1048576 := by rw [IntKind.wrap_u64]; omega
    have k0 : 0 ≤ u - 1048576 := by omega
    have k1 : u - 1048576 < 65536 := by omega
    clear h h0 h1
    go_enter Tryd.func8, Tryd.ntmps8
    go_wp2
    go_ret2
    exact ⟨by simp, rfl⟩
  · rw [if_neg h, decide_eq_false h]
    have hw : 65536 ≤ IntKind.u64.wrap (u - 1048576) := by rw [IntKind.wrap_u64]; omega
    clear h h0 h1
    go_enter Tryd.func8, Tryd.ntmps8
    go_wp2_with fail
    generalize IntKind.u64.wrap (u - 1048576) = k at *
    go_wp2
    go_ret2
    exact ⟨rfl, rfl⟩
set_option maxRecDepth 100000 in
theorem dword_ok (u : Int) (h0 : 0 ≤ u) (h1 : u < 18446744073709551616) : Calls Tryd.prog 9 #[.int .u64 u] w fun e w' => e = .returned (.tuple #[.int .i64 (wordR u), .bool (wordB u)]) ∧ w = w' := by
  unfold wordR wordB
  by_cases h : u < 1048576
  · rw [if_neg (by omega), decide_eq_false (by omega)]
    go_enter Tryd.func9, Tryd.ntmps9
    go_wp2
    go_ret2
    exact ⟨rfl, rfl⟩
  · by_cases h2 : 1114112 ≤ u
    · rw [if_neg (by omega), decide_eq_false (by omega)]
      go_enter Tryd.func9, Tryd.ntmps9
      go_wp2
      go_ret2
      exact ⟨rfl, rfl⟩
    · rw [if_pos (by omega), decide_eq_true (by omega)]
      go_enter Tryd.func9, Tryd.ntmps9
      go_wp2
      go_ret2
      exact ⟨rfl, rfl⟩
theorem first_ok (g : Int) (h0 : -4611686018427387904 ≤ g) (h1 : g ≤ 4611686018427387903) : Calls Tryd.prog 41 #[.int .i64 g] w fun e w' => e = .returned (.int .i64 (2 * g)) ∧ w = w' := by
  go_enter Tryd.func41, Tryd.ntmps41
  go_wp2
  go_ret
  exact ⟨ret_int (by omega), rfl⟩
/-- So many granules, from the granule g on, are in an arena of L words. -/
def inG (L : Nat) (g z : Int) : Bool := decide (0 ≤ g ∧ z ≤ (L : Int) / 2 - g)
theorem inG_iff (L : Nat) (g z : Int) : inG L g z = true ↔ 0 ≤ g ∧ z ≤ (L : Int) / 2 - g := by unfold inG; exact decide_eq_true_iff
variable {p q : Nat} {ws : List Int} {n : Int}
set_option maxRecDepth 100000 in
theorem within_ok (h : Arena w p q ws n) (g z : Int) (g1 : g ≤ 9223372036854775807) (z0 : -9223372036854775808 ≤ z) (z1 : z ≤ 9223372036854775807) :
    Calls Tryd.prog 40 #[.pointer (some ⟨p, 0, none⟩), .int .i64 g, .int .i64 z] w fun e w' => e = .returned (.bool (inG ws.length g z)) ∧ w = w' := by
  have HL0 := Lib.hid (len_any h)
  have hs := h.short
  unfold inG
  clear h
  generalize ws.length = L at *
  by_cases h0 : g < 0
  · rw [decide_eq_false (by omega)]
    go_enter Tryd.func40, Tryd.ntmps40
    go_wp2_with fail
    go_ret
    exact ⟨rfl, rfl⟩
  · have h0' : 0 ≤ g := by omega
    have ed : (L : Int).tdiv 2 = (L : Int) / 2 := Int.tdiv_eq_ediv_of_nonneg (by omega)
    by_cases h1 : z ≤ (L : Int) / 2 - g
    · rw [decide_eq_true ⟨h0', h1⟩]
      go_enter Tryd.func40, Tryd.ntmps40
      go_wp2_with fail
      refine HL0.out.mono ?_
      rintro e w1 ⟨rfl, rfl⟩
      go_wp2_with fail
      go_ret
      exact ⟨rfl, rfl⟩
    · rw [decide_eq_false (by omega)]
      go_enter Tryd.func40, Tryd.ntmps40
      go_wp2_with fail
      refine HL0.out.mono ?_
      rintro e w1 ⟨rfl, rfl⟩
      go_wp2_with fail
      go_ret
      exact ⟨ret_bool (decide_eq_false (by omega)), rfl⟩
end
end Go.Proofs.YtpnjblledbihcaaDoor.Sh
