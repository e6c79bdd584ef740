/-
  The document's row of words: Fill and Move.
-/
import Derived.Test.YtaginjpdpjehoaaArRefOps
namespace Go.Proofs.Ytaginjpdpjehoaa.Ar
open Go.RowKit

section
variable {p g cap : Nat} {ws : List Int} {n : Int} {w : World}
/-- put, as it stands behind a call that made its words. -/
theorem put_back (h : Ref w p g cap ws n) {y : World} {A : Option Addr} {c : Nat} {l : List Int} {k : Nat} (hb : Back w y A c l) (hk : l.length = k) (i : Nat) (hl : i + k ≤ ws.length) :
    Calls Try.prog 31 #[.pointer (some ⟨p, 0, none⟩), .int .i64 i, .slice A k c] y fun e w' => e = .returned (.tuple #[]) ∧ After w w' p g (putW ws i l) (addU n k) := by
  subst hk
  refine (put_any (h.keep0 hb.2.2) i A c l hl hb.2.1 hb.1).mono ?_
  rintro e w' ⟨he, hP⟩
  exact ⟨he, After.ofPut (Put.behind hb.2.2 hP)⟩

set_option maxHeartbeats 800000 in
theorem refMove_any (h : Ref w p g cap ws n) (dst fr k : Int) (t1 : -9223372036854775808 ≤ dst) (t2 : dst ≤ 9223372036854775807) (f1 : -9223372036854775808 ≤ fr) (f2 : fr ≤ 9223372036854775807) (k1 : -9223372036854775808 ≤ k) (k2 : k ≤ 9223372036854775807) :
    Calls Try.prog 27 #[.pointer (some ⟨p, 0, none⟩), .int .i64 dst, .int .i64 fr, .int .i64 k] w fun e w' =>
      e = .returned (.int .i64 (errOf (moveB ws dst fr k))) ∧ After w w' p g (moveW ws dst fr k) (moveN ws n dst fr k) := by
  cases hF : within ws.length fr k
  · have hr : moveB ws dst fr k = false := by unfold moveB; rw [hF, Bool.and_false]
    have e1 : moveW ws dst fr k = ws := by unfold moveW; rw [hr]; rfl
    have e2 : moveN ws n dst fr k = n := by unfold moveN; rw [hr]; rfl
    rw [hr, e1, e2, show errOf false = 2 from rfl]
    have H := Lib.hid (refWords_bad h fr k hF f1 f2 k1 k2)
    have HR := Lib.hid (After.same h)
    clear e1 e2 hr hF h
    go_enter Try.func27, Try.ntmps27
    go_wp2_with fail
    refine H.out.mono ?_; rintro e w' ⟨rfl, rfl⟩
    go_wp2_with fail
    go_ret
    exact ⟨rfl, HR.out⟩
  · obtain ⟨a1, a2, a3⟩ := (within_iff _ _ _).1 hF
    obtain ⟨fr, rfl⟩ := Int.eq_ofNat_of_zero_le a1
    obtain ⟨k, rfl⟩ := Int.eq_ofNat_of_zero_le a2
    have H := Lib.hid (refWords_ok h fr k (by omega))
    have hlen : ((ws.drop fr).take k).length = k := by rw [List.length_take, List.length_drop]; omega
    have HL := Lib.hid hlen
    cases hD : within ws.length dst (k : Int)
    · have hr : moveB ws dst fr k = false := by unfold moveB; rw [hD, Bool.false_and]
      have e1 : moveW ws dst fr k = ws := by unfold moveW; rw [hr]; rfl
      have e2 : moveN ws n dst fr k = n := by unfold moveN; rw [hr]; rfl
      rw [hr, e1, e2, show errOf false = 2 from rfl]
      have HR := Lib.hid h
      have HD := Lib.hid hD
      clear e1 e2 hr hF hD hlen h
      go_enter Try.func27, Try.ntmps27
      go_wp2_with fail
      refine H.out.mono ?_; rintro e y ⟨A, c, rfl, hb⟩
      have hh := has_any (HR.out.keep0 hb.2.2) dst (k : Int) t1 t2 k1 k2
      rw [HD.out] at hh
      have HH := Lib.hid hh
      have HA : Hid (After w y p g ws n) := ⟨g, cap, .inr rfl, HR.out.keep0 hb.2.2, hb.2.2.none [p]⟩
      clear hb hh H HL
      go_wp2_with fail
      refine HH.out.mono ?_; rintro e w' ⟨rfl, rfl⟩
      go_wp2_with fail
      go_ret
      exact ⟨rfl, HA.out⟩
    · obtain ⟨b1, b2, b3⟩ := (within_iff _ _ _).1 hD
      obtain ⟨dst, rfl⟩ := Int.eq_ofNat_of_zero_le b1
      have hr : moveB ws (dst : Int) fr k = true := by unfold moveB; rw [hD, hF]; rfl
      have e1 : moveW ws (dst : Int) fr k = putW ws dst ((ws.drop fr).take k) := by unfold moveW cutW; rw [hr]; rfl
      have e2 : moveN ws n (dst : Int) fr k = addU n k := by unfold moveN; rw [hr]; rfl
      rw [hr, e1, e2, show errOf true = 0 from rfl]
      have HR := Lib.hid h
      have HD := Lib.hid hD
      have Hle := Lib.hid (show dst + k ≤ ws.length by omega)
      clear e1 e2 hr hF hD hlen h
      generalize (ws.drop fr).take k = M at *
      go_enter Try.func27, Try.ntmps27
      go_wp2_with fail
      refine H.out.mono ?_; rintro e y ⟨A, c, rfl, hb⟩
      have hh := has_any (HR.out.keep0 hb.2.2) (dst : Int) (k : Int) t1 t2 k1 k2
      rw [HD.out] at hh
      have HH := Lib.hid hh
      have HP := Lib.hid (put_back HR.out hb HL.out dst Hle.out)
      clear hb hh H
      go_wp2_with fail
      refine HH.out.mono ?_; rintro e w' ⟨rfl, rfl⟩
      go_wp2_with fail
      refine HP.out.mono ?_; rintro e w' ⟨rfl, hA⟩
      have HA := Lib.hid hA
      clear hA HP HH
      go_wp2_with fail
      go_ret
      exact ⟨rfl, HA.out⟩

set_option maxHeartbeats 800000 in
theorem refFill_any (h : Ref w p g cap ws n) (i k v : Int) (h1 : -9223372036854775808 ≤ i) (h2 : i ≤ 9223372036854775807) (h3 : -9223372036854775808 ≤ k) (h4 : k ≤ 9223372036854775807) :
    Calls Try.prog 28 #[.pointer (some ⟨p, 0, none⟩), .int .i64 i, .int .i64 k, .int .u64 v] w fun e w' =>
      e = .returned (.int .i64 (errOf (within ws.length i k))) ∧ After w w' p g (fillW ws i k v) (fillN ws n i k) := by
  have hh := has_any h i k h1 h2 h3 h4
  cases hr : within ws.length i k
  · have e1 : fillW ws i k v = ws := by unfold fillW; rw [hr]; rfl
    have e2 : fillN ws n i k = n := by unfold fillN; rw [hr]; rfl
    rw [hr] at hh
    rw [e1, e2, show errOf false = 2 from rfl]
    have H := Lib.hid hh
    have HR := Lib.hid (After.same h)
    clear hh hr e1 e2 h
    go_enter Try.func28, Try.ntmps28
    go_wp2_with fail
    refine H.out.mono ?_; rintro e w' ⟨rfl, rfl⟩
    go_wp2_with fail
    go_ret
    exact ⟨rfl, HR.out⟩
  · obtain ⟨a, b, c⟩ := (within_iff _ _ _).1 hr
    have e1 : fillW ws i k v = putW ws i.toNat (List.replicate k.toNat v) := by unfold fillW; rw [hr]; rfl
    have e2 : fillN ws n i k = addU n k := by unfold fillN; rw [hr]; rfl
    rw [hr] at hh
    rw [e1, e2, show errOf true = 0 from rfl]
    have H := Lib.hid hh
    have hs := h.short
    obtain ⟨i, rfl⟩ := Int.eq_ofNat_of_zero_le a
    obtain ⟨k, rfl⟩ := Int.eq_ofNat_of_zero_le b
    simp only [Int.toNat_natCast]
    have HR := Lib.hid h
    have Hle := Lib.hid (show i + k ≤ ws.length by omega)
    have hks : k ≤ 65536 := by omega
    clear hh hr e1 e2 h hs a b c
    go_enter Try.func28, Try.ntmps28
    go_wp2_with fail
    refine H.out.mono ?_; rintro e w' ⟨rfl, rfl⟩
    clear H
    go_wp2_with fail
    go_loopw [9, 10] (fun s t wr => ∃ j : Nat, j ≤ k ∧ t = .int .i64 j ∧ Hid (Own wr s (List.replicate j v) ∧ (s.ownBlock = none ∨ ∃ b, s.ownBlock = some b ∧ w.heap.size ≤ b) ∧ Kept [] w wr)) (fun _ t _ => k - (intOf t).toNat)
    case atStart => exact ⟨0, Nat.zero_le _, rfl, Own.nil w, .inl rfl, Kept.refl _ _⟩
    case round =>
      obtain ⟨j, hj, rfl, hS⟩ := hrel
      by_cases hlt : j < k
      · have HK := Lib.hid ((Kept.refl [] wr).alloc (.cells #[.int .u64 v] 32))
        have HSe : Hid (Seen (wr.alloc (.cells #[.int .u64 v] 32)) (some ⟨wr.heap.size, 0, none⟩) [v]) := Row.seen (Has.new wr 32 (ints [v]))
        have HO := Lib.hid (hS.out.1.keep0 HK.out)
        go_wp2_with (at_builtin; (refine append_words rfl (.tmp 21) (.tmp 23) rfl u9 (List.replicate j v) rfl HO.out (some ⟨wr.heap.size, 0, none⟩) 1 1 [v] rfl rfl (fun h => by cases h) HSe.out (by rw [List.length_replicate]; omega) ?_))
        intro s2 w2 hO2 hG2 hB2
        have hK2 := own_grown (hS.out.2.2.trans HK.out) hS.out.2.1 hG2
        have hF2 := own_fresh (v' := s2) (hS.out.2.2.trans HK.out) hS.out.2.1 (by rw [World.size_alloc]; exact hB2)
        have hO3 : Own w2 s2 (List.replicate (j + 1) v) := by rw [List.replicate_succ']; exact hO2
        have HN := Lib.hid (And.intro hO3 (And.intro hF2 hK2))
        clear hO2 hO3 hG2 hB2 hK2 hF2 hS HK HSe HO
        go_wp2_with fail
        go_roundw
        case rel => exact ⟨j + 1, by omega, by go_num, HN⟩
        case measure => simp [intOf]; omega
      · obtain rfl : j = k := by omega
        obtain ⟨A, c, rfl, hb⟩ := back_own hS.out.2.2 hS.out.1
        rw [List.length_replicate]
        have HP := Lib.hid (put_back HR.out hb (List.length_replicate) i Hle.out)
        clear hS hb hlt hj
        go_wp2_with fail
        refine HP.out.mono ?_; rintro e w' ⟨rfl, hA⟩
        have HA := Lib.hid hA
        clear hA HP
        go_wp2_with fail
        go_ret
        exact ⟨rfl, HA.out⟩
end
end Go.Proofs.Ytaginjpdpjehoaa.Ar
