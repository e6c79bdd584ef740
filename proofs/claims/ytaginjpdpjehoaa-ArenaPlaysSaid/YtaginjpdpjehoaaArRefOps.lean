/-
  The document's row of words: Load, Store, Words, Fill, Move.
-/
import Derived.Test.YtaginjpdpjehoaaArPut
namespace Go.Proofs.Ytaginjpdpjehoaa.Ar
open Go.RowKit

theorem Put.behind {w w1 x : World} {p : Nat} {ws : List Int} {n : Int} (hk : Kept [] w w1) (h : Put w1 x p ws n) : Put w x p ws n := by
  obtain ⟨g, cap, hg, hR, hK⟩ := h
  exact ⟨g, cap, Nat.le_trans hk.more hg, hR, (hk.none [p]).trans hK⟩
/-- What a call that may be refused leaves: the same, or what was put. -/
def After (w x : World) (p g : Nat) (vs : List Int) (m : Int) : Prop := ∃ g' cap', (w.heap.size ≤ g' ∨ g' = g) ∧ Ref x p g' cap' vs m ∧ Kept [p] w x
theorem After.same {w : World} {p g cap : Nat} {ws : List Int} {n : Int} (h : Ref w p g cap ws n) : After w w p g ws n := ⟨g, cap, .inr rfl, h, Kept.refl _ _⟩
theorem After.ofPut {w x : World} {p g : Nat} {vs : List Int} {m : Int} (h : Put w x p vs m) : After w x p g vs m := by
  obtain ⟨g', cap', h1, h2, h3⟩ := h
  exact ⟨g', cap', .inl h1, h2, h3⟩

section
variable {p g cap : Nat} {ws : List Int} {n : Int} {w : World}
theorem refLoad_any (h : Ref w p g cap ws n) (i : Int) (h1 : -9223372036854775808 ≤ i) (h2 : i ≤ 9223372036854775807) :
    Calls Try.prog 25 #[.pointer (some ⟨p, 0, none⟩), .int .i64 i] w fun e w' => e = .returned (.tuple #[.int .u64 (loadV ws i), .int .i64 (errOf (within ws.length i 1))]) ∧ w = w' := by
  have hh := has_any h i 1 h1 h2 (by omega) (by omega)
  cases hr : within ws.length i 1
  · have e1 : loadV ws i = 0 := by unfold loadV; rw [hr]; rfl
    rw [hr] at hh
    rw [e1, show errOf false = 2 from rfl]
    have H := Lib.hid hh
    clear hh hr e1 h
    go_enter Try.func25, Try.ntmps25
    go_wp2_with fail
    refine H.out.mono ?_; rintro e w' ⟨rfl, rfl⟩
    go_wp2_with fail
    go_ret2
    exact ⟨rfl, rfl⟩
  · obtain ⟨a, b, c⟩ := (within_iff _ _ _).1 hr
    have e1 : loadV ws i = ws.getD i.toNat 0 := by unfold loadV; rw [hr]; rfl
    rw [hr] at hh
    rw [e1, show errOf true = 0 from rfl]
    have H := Lib.hid hh
    have c0 := h.c0
    have hx := h.row.cell i.toNat _ (ints_get ws i.toNat (by omega))
    have hs := h.short
    generalize ws.getD i.toNat 0 = x at *
    clear hh hr e1 h
    go_enter Try.func25, Try.ntmps25
    go_wp2_with fail
    refine H.out.mono ?_; rintro e w' ⟨rfl, rfl⟩
    go_wp2_with fail
    go_ret2
    exact ⟨rfl, rfl⟩

theorem refStore_any (h : Ref w p g cap ws n) (i v : Int) (h1 : -9223372036854775808 ≤ i) (h2 : i ≤ 9223372036854775807) :
    Calls Try.prog 26 #[.pointer (some ⟨p, 0, none⟩), .int .i64 i, .int .u64 v] w fun e w' =>
      e = .returned (.int .i64 (errOf (within ws.length i 1))) ∧ After w w' p g (fillW ws i 1 v) (fillN ws n i 1) := by
  have hh := has_any h i 1 h1 h2 (by omega) (by omega)
  cases hr : within ws.length i 1
  · have e1 : fillW ws i 1 v = ws := by unfold fillW; rw [hr]; rfl
    have e2 : fillN ws n i 1 = n := by unfold fillN; rw [hr]; rfl
    rw [hr] at hh
    rw [e1, e2, show errOf false = 2 from rfl]
    have H := Lib.hid hh
    have HR := Lib.hid (After.same h)
    clear hh hr e1 e2 h
    go_enter Try.func26, Try.ntmps26
    go_wp2_with fail
    refine H.out.mono ?_; rintro e w' ⟨rfl, rfl⟩
    go_wp2_with fail
    go_ret
    exact ⟨rfl, HR.out⟩
  · obtain ⟨a, b, c⟩ := (within_iff _ _ _).1 hr
    have e1 : fillW ws i 1 v = putW ws i.toNat [v] := by unfold fillW; rw [hr]; rfl
    have e2 : fillN ws n i 1 = addU n 1 := by unfold fillN; rw [hr]; rfl
    rw [hr] at hh
    rw [e1, e2, show errOf true = 0 from rfl]
    have H := Lib.hid hh
    obtain ⟨i, rfl⟩ := Int.eq_ofNat_of_zero_le a
    simp only [Int.toNat_natCast]
    have hK := (Kept.refl [] w).alloc (.cells #[.int .u64 v] 32)
    have hS : Seen (w.alloc (.cells #[.int .u64 v] 32)) (some ⟨w.heap.size, 0, none⟩) [v] := Row.seen (Has.new w 32 (ints [v]))
    have hp := put_any (h.keep0 hK) i (some ⟨w.heap.size, 0, none⟩) 1 [v] (by simp; omega) hS (fun h => by cases h)
    have HP := Lib.hid (show Calls Try.prog 31 #[.pointer (some ⟨p, 0, none⟩), .int .i64 i, .slice (some ⟨w.heap.size, 0, none⟩) 1 1] (w.alloc (.cells #[.int .u64 v] 32)) fun e w' => e = .returned (.tuple #[]) ∧ Put w w' p (putW ws i [v]) (addU n 1) from
      hp.mono fun e w' ⟨h1, h2⟩ => ⟨h1, Put.behind hK h2⟩)
    clear hh hr e1 e2 h hp hS hK
    go_enter Try.func26, Try.ntmps26
    go_wp2_with fail
    refine H.out.mono ?_; rintro e w' ⟨rfl, rfl⟩
    go_wp2_with fail
    refine HP.out.mono ?_; rintro e w' ⟨rfl, hP⟩
    have HQ := Lib.hid (After.ofPut (g := g) hP)
    clear hP HP H
    go_wp2_with fail
    go_ret
    exact ⟨rfl, HQ.out⟩

set_option maxHeartbeats 400000 in
theorem refWords_ok (h : Ref w p g cap ws n) (i k : Nat) (hr : i + k ≤ ws.length) :
    Calls Try.prog 29 #[.pointer (some ⟨p, 0, none⟩), .int .i64 i, .int .i64 k] w fun e w' =>
      ∃ A c, e = .returned (.tuple #[.slice A k c, .int .i64 0]) ∧ Back w w' A c ((ws.drop i).take k) := by
  have hs := h.short
  have hh := has_any h (i : Int) (k : Int) (by omega) (by omega) (by omega) (by omega)
  rw [(within_iff ws.length (i : Int) (k : Int)).2 ⟨by omega, by omega, by omega⟩] at hh
  have H := Lib.hid hh
  have hl : ((ws.drop i).take k).length = k := by rw [List.length_take, List.length_drop]; omega
  have HL := Lib.hid (show ((ws.drop i).take k).length = i + k - i by rw [hl]; omega)
  have c0 := h.c0
  have hrm := h.room
  have hcl := h.capl
  unfold maxLen at hcl
  have hend : ∀ y v, w.grownBy y (Value.slice none 0 0).ownBlock → Own y v ((ws.drop i).take k) → ∃ A c, v = .slice A k c ∧ Back w y A c ((ws.drop i).take k) := by
    intro y v hG hO
    obtain ⟨A, c, e, hb⟩ := back_own (own_grown (Kept.refl [] w) (.inl rfl) hG) hO
    rw [hl] at e
    exact ⟨A, c, e, hb⟩
  have HEnd := Lib.hid hend
  have hseen := h.seen
  rcases Nat.lt_or_ge i cap with hcap | hcap
  · have hs2 := seen_sub hseen i k
    rw [Nat.zero_add] at hs2
    have HS := Lib.hid hs2
    clear hh hl hend hseen hs2 h
    go_enter Try.func29, Try.ntmps29
    go_wp2_with fail
    refine H.out.mono ?_; rintro e w' ⟨rfl, rfl⟩
    go_wp2_with (at_builtin; (refine append_words rfl (.const (.slice none 0 0)) (.tmp 21) rfl (.slice none 0 0) [] rfl (Own.nil _) (some ⟨g, i, none⟩) (i + k - i) (cap - i) ((ws.drop i).take k) rfl HL.out (fun h => by cases h) HS.out (show 0 + (i + k - i) ≤ 1073741824 by omega) ?_))
    intro v1 w1 hO hG _
    obtain ⟨A, c, rfl, hb⟩ := HEnd.out w1 v1 hG hO
    have HB := Lib.hid hb
    clear hb hO hG HEnd HS H
    go_wp2_with fail
    go_ret2
    exact ⟨A, c, rfl, HB.out⟩
  · obtain rfl : cap = i := by omega
    have hk0 : k = 0 := by omega
    have HS := Lib.hid (show Seen w (some ⟨g, 0, none⟩) ((ws.drop cap).take k) from fun hne => absurd (by rw [hk0]; rfl) hne)
    clear hh hl hend hseen h
    go_enter Try.func29, Try.ntmps29
    have hk1 : k ≤ 0 := by omega
    clear hk0
    go_wp2_with fail
    refine H.out.mono ?_; rintro e w' ⟨rfl, rfl⟩
    go_wp2_with (at_builtin; (refine append_words rfl (.const (.slice none 0 0)) (.tmp 21) rfl (.slice none 0 0) [] rfl (Own.nil _) (some ⟨g, 0, none⟩) (cap + k - cap) 0 ((ws.drop cap).take k) rfl HL.out (fun h => by cases h) HS.out (show 0 + (cap + k - cap) ≤ 1073741824 by omega) ?_))
    intro v1 w1 hO hG _
    obtain ⟨A, c, rfl, hb⟩ := HEnd.out w1 v1 hG (by first | exact hO | simpa using hO)
    have HB := Lib.hid hb
    clear hb hO hG HEnd HS H
    go_wp2_with fail
    go_ret2
    exact ⟨A, c, rfl, HB.out⟩
theorem refWords_bad (h : Ref w p g cap ws n) (i k : Int) (hr : within ws.length i k = false) (h1 : -9223372036854775808 ≤ i) (h2 : i ≤ 9223372036854775807) (h3 : -9223372036854775808 ≤ k) (h4 : k ≤ 9223372036854775807) :
    Calls Try.prog 29 #[.pointer (some ⟨p, 0, none⟩), .int .i64 i, .int .i64 k] w fun e w' => e = .returned (.tuple #[.slice none 0 0, .int .i64 2]) ∧ w = w' := by
  have hh := has_any h i k h1 h2 h3 h4
  rw [hr] at hh
  have H := Lib.hid hh
  clear hh hr h
  go_enter Try.func29, Try.ntmps29
  go_wp2_with fail
  refine H.out.mono ?_; rintro e w' ⟨rfl, rfl⟩
  go_wp2_with fail
  go_ret2
  exact ⟨rfl, rfl⟩
end
end Go.Proofs.Ytaginjpdpjehoaa.Ar
