/-
  The document's row of bools: Next, Prev and Count.
-/
import Derived.Test.YtkkjdoadmfeebaaDoorBtRef
namespace Go.Proofs.YtkkjdoadmfeebaaDoor.Bt
open Go.RowKit Go.Proofs.YtkkjdoadmfeebaaDoor.Ar Go.Proofs.YtkkjdoadmfeebaaDoor.Wd
set_option linter.unusedVariables false
section
variable {bs : List Bool} {p q : Nat}
theorem nextV_one (f : Nat → Bool) (k s : Nat) (h : f s = true) : nextV f (k + 1) s = some s := by
  show (if f s then some s else _) = _
  rw [h, if_pos rfl]
theorem nextV_more (f : Nat → Bool) (k s : Nat) (h : f s = false) : nextV f (k + 1) s = nextV f k (s + 1) := by
  show (if f s then some s else nextV f k (s + 1)) = _
  rw [h, if_neg (by decide)]
theorem refNext_ok (w : World) (h : Rf w p q bs) (i : Int) (i1 : -9223372036854775808 ≤ i) (i2 : i ≤ 9223372036854775807) (st : Bool) :
    Calls Tryd.prog 30 #[.pointer (some ⟨p, 0, none⟩), .int .i64 i, .bool st] w fun e w' => e = .returned (.tuple #[.int .i64 (atI (nextO bs i st)), .bool (nextO bs i st).isSome]) ∧ w = w' := by
  have c0 := h.c0
  have hf := h.few
  have hcell := Lib.hid h.cell
  have Emax := Lib.hid (show max i 0 = ((i.toNat : Nat) : Int) by omega)
  obtain ⟨o, ho⟩ : ∃ o, o = nextO bs i st := ⟨_, rfl⟩
  rw [← ho]
  have Ho := Lib.hid ho
  clear h ho
  generalize hn : bs.length = n at *
  have Hn := Lib.hid hn
  clear hn
  go_enter Tryd.func30, Tryd.ntmps30
  go_wp2_with fail
  rw [Emax.out]
  go_loop [8] (fun k => ∃ t : Nat, (t : Int) ≤ 9223372036854775807 ∧ k = .int .i64 (t : Int) ∧ Hid (nextV (fun j => bit bs j == st) (n - t) t = o)) (fun k => n - (intOf k).toNat)
  case atStart => exact ⟨i.toNat, by omega, rfl, Lib.hid (by rw [Ho.out, ← Hn.out]; rfl)⟩
  case round =>
    obtain ⟨t, ht, rfl, hr⟩ := hrel
    by_cases hlt : t < n
    · have hc := hcell.out t hlt
      have hk : n - t = (n - (t + 1)) + 1 := by omega
      cases hb : (bit bs t == st) with
      | true =>
        have Hend : Hid (o = some t) := Lib.hid (by
          have := hr.out
          rw [hk, nextV_one _ _ _ hb] at this
          exact this.symm)
        have Hb := Lib.hid hb
        clear hr hk
        generalize bit bs t = b at *
        go_wp2_with fail
        go_ret2
        exact ⟨by rw [Hend.out]; rfl, rfl⟩
      | false =>
        have hr2 : Hid (nextV (fun j => bit bs j == st) (n - (t + 1)) (t + 1) = o) := Lib.hid (by
          have := hr.out
          rw [hk, nextV_more _ _ _ hb] at this
          exact this)
        clear hr hk
        generalize bit bs t = b at *
        go_wp2_with fail
        go_round
        case rel => exact ⟨t + 1, by omega, by go_num, hr2⟩
        case measure => simp [intOf] <;> omega
    · have Hend : Hid (o = none) := Lib.hid (by
        have := hr.out
        rw [show n - t = 0 by omega] at this
        exact this.symm)
      clear hr
      go_wp2_with fail
      go_ret2
      exact ⟨by rw [Hend.out]; rfl, rfl⟩
theorem refPrev_ok (w : World) (h : Rf w p q bs) (i : Int) (i1 : -9223372036854775808 ≤ i) (i2 : i ≤ 9223372036854775807) :
    Calls Tryd.prog 31 #[.pointer (some ⟨p, 0, none⟩), .int .i64 i] w fun e w' => e = .returned (.tuple #[.int .i64 (atI (prevO bs i)), .bool (prevO bs i).isSome]) ∧ w = w' := by
  have c0 := h.c0
  have hf := h.few
  have hcell := Lib.hid h.cell
  obtain ⟨o, ho⟩ : ∃ o, o = prevO bs i := ⟨_, rfl⟩
  rw [← ho]
  have Ho := Lib.hid ho
  clear h ho
  generalize hn : bs.length = n at *
  have Hn := Lib.hid hn
  clear hn
  go_enter Tryd.func31, Tryd.ntmps31
  go_wp2_with fail
  go_loop [6] (fun k => ∃ z : Int, -9223372036854775808 ≤ z ∧ z < n ∧ k = .int .i64 z ∧ Hid (prevV (bit bs) (z + 1).toNat = o)) (fun k => (intOf k + 1).toNat)
  case atStart => exact ⟨_, by omega, by omega, rfl, Lib.hid (by rw [Ho.out, ← Hn.out]; rfl)⟩
  case round =>
    obtain ⟨z, z1, z2, rfl, hr⟩ := hrel
    by_cases hlt : 0 ≤ z
    · obtain ⟨t, rfl⟩ := Int.eq_ofNat_of_zero_le hlt
      have hc := hcell.out t (by omega)
      have hk : ((t : Int) + 1).toNat = t + 1 := by omega
      have hk2 : ((t : Int) - 1 + 1).toNat = t := by omega
      cases hb : bit bs t with
      | true =>
        have Hend : Hid (o = some t) := Lib.hid (by
          have h1 := hr.out
          rw [hk] at h1
          have h2 : (if bit bs t then some t else prevV (bit bs) t) = o := h1
          rw [hb, if_pos rfl] at h2
          exact h2.symm)
        rw [hb] at hc
        clear hr hk hk2 hb
        go_wp2_with fail
        go_ret2
        exact ⟨by rw [Hend.out]; rfl, rfl⟩
      | false =>
        have hr2 : Hid (prevV (bit bs) ((t : Int) - 1 + 1).toNat = o) := Lib.hid (by
          have h1 := hr.out
          rw [hk] at h1
          have h2 : (if bit bs t then some t else prevV (bit bs) t) = o := h1
          rw [hb, if_neg (by decide)] at h2
          rw [hk2]
          exact h2)
        rw [hb] at hc
        clear hr hk hk2 hb
        go_wp2_with fail
        go_round
        case rel => exact ⟨(t : Int) - 1, by omega, by omega, rfl, hr2⟩
        case measure => simp [intOf] <;> omega
    · have Hend : Hid (o = none) := Lib.hid (by
        have := hr.out
        rw [show (z + 1).toNat = 0 by omega] at this
        exact this.symm)
      clear hr
      go_wp2_with fail
      go_ret2
      exact ⟨by rw [Hend.out]; rfl, rfl⟩
theorem refCount_yes (w : World) (h : Rf w p q bs) (i n : Nat) (hin : i + n ≤ bs.length) :
    Calls Tryd.prog 32 #[.pointer (some ⟨p, 0, none⟩), .int .i64 i, .int .i64 n] w fun e w' => e = .returned (.tuple #[.int .i64 ((cnt (fun j => bit bs (i + j)) n : Nat) : Int), .int .i64 0]) ∧ w = w' := by
  have hf := h.few
  have hi := in_ok w h i n (by omega) (by omega) (by omega) (by omega)
  rw [(within_iff bs.length i n).2 (by omega)] at hi
  have c0 := h.c0
  have Hi := Lib.hid hi
  have hcell := Lib.hid h.cell
  clear hi h
  go_enter Tryd.func32, Tryd.ntmps32
  go_wp2_with fail
  refine (Hi.out).mono ?_
  rintro e w' ⟨rfl, rfl⟩
  go_wp2_with fail
  go_loop [8, 9] (fun c k => ∃ m : Nat, m ≤ n ∧ k = .int .i64 ((i + m : Nat) : Int) ∧ c = .int .i64 ((cnt (fun j => bit bs (i + j)) m : Nat) : Int)) (fun _ k => i + n - (intOf k).toNat)
  case atStart => exact ⟨0, Nat.zero_le _, rfl, rfl⟩
  case round =>
    obtain ⟨m, hm, rfl, rfl⟩ := hrel
    have hle := cnt_le (fun j => bit bs (i + j)) m
    by_cases hlt : m < n
    · have hc := hcell.out (i + m) (by omega)
      have hs : Hid (cnt (fun j => bit bs (i + j)) (m + 1) = cnt (fun j => bit bs (i + j)) m + (bit bs (i + m)).toNat) := Lib.hid rfl
      generalize cnt (fun j => bit bs (i + j)) m = c at *
      obtain ⟨x, hx⟩ : ∃ x, x = i + m := ⟨_, rfl⟩
      rw [← hx] at hc hs ⊢
      have hxl : x < bs.length := by omega
      have hxn : (x : Int) < (i : Int) + (n : Int) := by omega
      have Hx := Lib.hid hx
      cases hb : bit bs x with
      | true =>
        rw [hb] at hc hs
        clear hx hb
        go_wp2_with fail
        go_round
        case rel => exact ⟨m + 1, by omega, by rw [Hx.out]; go_num, by rw [hs.out]; go_num⟩
        case measure => simp [intOf] <;> omega
      | false =>
        rw [hb] at hc hs
        clear hx hb
        go_wp2_with fail
        go_round
        case rel => exact ⟨m + 1, by omega, by rw [Hx.out]; go_num, by rw [hs.out]; go_num⟩
        case measure => simp [intOf] <;> omega
    · obtain rfl : m = n := by omega
      go_wp2_with fail
      go_ret2
      exact ⟨rfl, rfl⟩
theorem refCount_ok (w : World) (h : Rf w p q bs) (i n : Int) (i1 : -9223372036854775808 ≤ i) (i2 : i ≤ 9223372036854775807) (n1 : -9223372036854775808 ≤ n) (n2 : n ≤ 9223372036854775807) :
    Calls Tryd.prog 32 #[.pointer (some ⟨p, 0, none⟩), .int .i64 i, .int .i64 n] w fun e w' => e = .returned (.tuple #[.int .i64 (cntI bs i n), .int .i64 (errOf (within bs.length i n))]) ∧ w = w' := by
  unfold cntI
  cases hin : within bs.length i n with
  | true =>
    obtain ⟨a, b, c⟩ := (within_iff _ _ _).1 hin
    have := refCount_yes w h i.toNat n.toNat (by omega)
    rw [Int.toNat_of_nonneg a, Int.toNat_of_nonneg b] at this
    exact this
  | false =>
    have hi := in_ok w h i n i1 i2 n1 n2
    rw [hin] at hi
    have Hi := Lib.hid hi
    clear hi h hin
    show Calls Tryd.prog 32 _ w fun e w' => e = .returned (.tuple #[.int .i64 0, .int .i64 2]) ∧ w = w'
    go_enter Tryd.func32, Tryd.ntmps32
    go_wp2_with fail
    refine (Hi.out).mono ?_
    rintro e w' ⟨rfl, rfl⟩
    go_wp2_with fail
    go_ret2
    exact ⟨rfl, rfl⟩
end
end Go.Proofs.YtkkjdoadmfeebaaDoor.Bt
