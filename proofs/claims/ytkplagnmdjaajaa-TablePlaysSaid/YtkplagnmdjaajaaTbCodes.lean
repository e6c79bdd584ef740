/-
  TableCodes, walked.
-/
import Derived.Test.YtkplagnmdjaajaaTbAlive
import Derived.Test.YtkplagnmdjaajaaTbRead
import Derived.Test.YtkplagnmdjaajaaTbDocRead
import Derived.Test.YtkplagnmdjaajaaTbDocPut
import Derived.Test.YtkplagnmdjaajaaTbDoc2
namespace Go.Proofs.Ytkplagnmdjaajaa.Tb
open Go.RowKit Go.Proofs.Ytkplagnmdjaajaa.Ar Go.Maps
set_option linter.unusedVariables false

theorem newF_made {l : List Ty} (h : (newF [] l).2 = 0) (hok : ∀ x ∈ l, x.ok) : newF [] l = (l, 0) ∧ (∀ x ∈ l, x.ok ∧ x.fit) ∧ l.length ≤ 64 := by
  obtain ⟨h1, h2⟩ := newF_zero [] h
  refine ⟨newF_len [] h, fun x hx => ⟨hok x hx, h1 x hx⟩, ?_⟩
  by_cases hn : l = []
  · subst hn; decide
  · have := h2 hn
    simpa using this
theorem made_len {w w' : World} {p : Nat} {A : Option Addr} {c : Nat} {l : List Ty} (h : Made w w' p A c l) : l.length ≤ 100000 := Nat.le_trans h.1.len (by decide)
theorem readF_len (s : ByteArray) (h : s.size ≤ 4096) : (readF s).1.length ≤ 100000 := by
  unfold readF
  split
  · exact Nat.zero_le _
  · split
    · rename_i h1
      rw [newF_len [] h1]
      show ([] ++ tysAt s 1 (bt s 0)).length ≤ _
      rw [List.nil_append, tysAt_length]
      have := bt_lt s 0
      omega
    · exact Nat.zero_le _
theorem readF_err (s : ByteArray) : (readF s).2 = 0 ∨ readF s = ([], 7) := by
  unfold readF
  split
  · exact .inr rfl
  · split
    · rename_i h1
      exact .inl h1
    · exact .inr rfl
set_option maxRecDepth 100000 in
set_option maxHeartbeats 8000000 in
theorem codes_main {w : World} {A : Option Addr} {c : Nat} {l : List Ty} {s : ByteArray} (hS : Seen w A l) (hok : ∀ x ∈ l, x.ok) (hl : ¬ (l.length : Int) > 100) (hs : ¬ (s.size : Int) > 4096) :
    Calls Try.prog 4 #[.slice A l.length c, .string s] w fun e w' => e = .returned (.bool true) ∧ Kept [] w w' := by
  have HAl := Lib.hid alive_ok
  have HRd := Lib.hid (read_ok s (by unfold maxLen; omega) w)
  have HDR := Lib.hid (fun y => dread_ok s (by unfold maxLen; omega) y)
  have HS := Lib.hid hS
  have HOK := Lib.hid hok
  have HNw := Lib.hid (fun y (k : Kept [] w y) => new_ok c (hS.keep0 k) hok (by omega))
  have hrl := readF_len s (by omega)
  clear hS hok
  have hre := readF_err s
  generalize readF s = R at *
  obtain ⟨L, er⟩ := R
  simp only at hre hrl
  go_enter Try.func4, Try.ntmps4
  go_wp2_with fail
  refine HRd.out.mono ?_
  rintro e w1 (⟨h0, p, A1, c1, rfl, hm⟩ | ⟨h0, rfl, hk1⟩)
  · simp only at h0 hm
    subst h0
    have HM := Lib.hid hm
    have HAll := Lib.hid (fun y (k : Kept [] w1 y) => all_ok (hm.1.keep0 k))
    clear hm HRd hre
    go_wp2_with fail
    refine (HDR.out _).mono ?_
    rintro e w2 ⟨A3, c3, rfl, hb, _⟩
    have HB := Lib.hid hb
    clear hb HDR
    simp only
    go_wp2_with fail
    refine (HAll.out _ HB.out.2.2).mono ?_
    rintro e w3 ⟨A4, c4, rfl, hO4, hF4, hn4, hk4⟩
    have HSm := Lib.hid (same_ok (c := c4) (d := c3) (hO4.seen) (HB.out.2.1.keep0 hk4) hrl hrl)
    rw [decide_eq_true (rfl : L = L)] at HSm
    have HK4 := Lib.hid (HM.out.2.2.2.trans (HB.out.2.2.trans hk4))
    clear hO4 hF4 hn4 hk4 HAll HB HM
    go_wp2_with fail
    refine HSm.out.mono ?_
    rintro e w4 ⟨rfl, hk⟩
    have HKx := Lib.hid (HK4.out.trans hk)
    clear hk HSm HK4
    -- New of l, and what it puts
    go_wp2_with fail
    refine (HNw.out _ HKx.out).mono ?_
    rintro e w5 (⟨h0, p2, A2, c2, rfl, hm⟩ | ⟨h0, rfl, hk5⟩)
    · obtain ⟨e1, e2, e3⟩ := newF_made h0 HOK.out
      have hm2 : Made w4 w5 p2 A2 c2 l := by rw [e1] at hm; exact hm
      have HP := Lib.hid (put_ok hm2.1)
      have HK5 := Lib.hid (HKx.out.trans hm2.2.2.2)
      have HDP := Lib.hid (fun y (k : Kept [] w y) => dput_ok c (HS.out.keep0 k) e2 e3)
      clear h0 hm hm2 e1 e2 e3 HNw HKx
      generalize strOfNums (enc l) = S at *
      go_wp2_with fail
      refine HP.out.mono ?_
      rintro e w6 ⟨rfl, hk6⟩
      have HK6 := Lib.hid (HK5.out.trans hk6)
      clear hk6 HP HK5
      go_wp2_with fail
      refine (HDP.out _ HK6.out).mono ?_
      rintro e w7 ⟨rfl, hk7⟩
      have HK7 := Lib.hid (HK6.out.trans hk7)
      clear hk7 HDP HK6
      go_wp2_with fail
      refine (HAl.out _).mono ?_
      rintro e w8 ⟨rfl, hk8⟩
      have HK8 := Lib.hid (HK7.out.trans hk8)
      clear hk8 HK7
      go_wp2_with fail
      go_ret
      exact ⟨rfl, HK8.out⟩
    · have hbn : ((newF [] l).2 != 0) = true := by rw [bne_iff_ne]; exact h0
      have HK5 := Lib.hid (HKx.out.trans hk5)
      generalize (newF [] l).2 = er2 at *
      clear h0 hk5 HNw HKx
      go_wp2_with fail
      refine (HAl.out _).mono ?_
      rintro e w8 ⟨rfl, hk8⟩
      have HK8 := Lib.hid (HK5.out.trans hk8)
      clear hk8 HK5
      go_wp2_with fail
      go_ret
      exact ⟨rfl, HK8.out⟩
  · simp only at h0
    obtain ⟨rfl, rfl⟩ : L = [] ∧ er = 7 := by
      rcases hre with h | h
      · exact absurd h h0
      · exact ⟨congrArg Prod.fst h, congrArg Prod.snd h⟩
    have HK1 := Lib.hid hk1
    clear hk1 HRd hre h0
    simp only
    go_wp2_with fail
    refine (HDR.out _).mono ?_
    rintro e w2 ⟨A3, c3, rfl, hb, _⟩
    have HB := Lib.hid hb
    clear hb HDR
    simp only
    go_wp2_with fail
    refine (all_nil _).mono ?_
    rintro e w3 ⟨rfl, hk4⟩
    have HSm := Lib.hid (same_ok (w := w3) (A := none) (B := A3) (c := 0) (d := c3) (a := []) (b := []) (Seen.nil _ _) (Seen.nil _ _) (by decide) (by decide))
    rw [decide_eq_true (rfl : ([] : List Ty) = [])] at HSm
    have HK4 := Lib.hid (HK1.out.trans (HB.out.2.2.trans hk4))
    clear hk4 HB HK1
    simp only [List.length_nil] at HSm ⊢
    go_wp2_with fail
    refine HSm.out.mono ?_
    rintro e w4 ⟨rfl, hk⟩
    have HKx := Lib.hid (HK4.out.trans hk)
    clear hk HSm HK4
    -- New of l, and what it puts
    go_wp2_with fail
    refine (HNw.out _ HKx.out).mono ?_
    rintro e w5 (⟨h0, p2, A2, c2, rfl, hm⟩ | ⟨h0, rfl, hk5⟩)
    · obtain ⟨e1, e2, e3⟩ := newF_made h0 HOK.out
      have hm2 : Made w4 w5 p2 A2 c2 l := by rw [e1] at hm; exact hm
      have HP := Lib.hid (put_ok hm2.1)
      have HK5 := Lib.hid (HKx.out.trans hm2.2.2.2)
      have HDP := Lib.hid (fun y (k : Kept [] w y) => dput_ok c (HS.out.keep0 k) e2 e3)
      clear h0 hm hm2 e1 e2 e3 HNw HKx
      generalize strOfNums (enc l) = S at *
      go_wp2_with fail
      refine HP.out.mono ?_
      rintro e w6 ⟨rfl, hk6⟩
      have HK6 := Lib.hid (HK5.out.trans hk6)
      clear hk6 HP HK5
      go_wp2_with fail
      refine (HDP.out _ HK6.out).mono ?_
      rintro e w7 ⟨rfl, hk7⟩
      have HK7 := Lib.hid (HK6.out.trans hk7)
      clear hk7 HDP HK6
      go_wp2_with fail
      refine (HAl.out _).mono ?_
      rintro e w8 ⟨rfl, hk8⟩
      have HK8 := Lib.hid (HK7.out.trans hk8)
      clear hk8 HK7
      go_wp2_with fail
      go_ret
      exact ⟨rfl, HK8.out⟩
    · have hbn : ((newF [] l).2 != 0) = true := by rw [bne_iff_ne]; exact h0
      have HK5 := Lib.hid (HKx.out.trans hk5)
      generalize (newF [] l).2 = er2 at *
      clear h0 hk5 HNw HKx
      go_wp2_with fail
      refine (HAl.out _).mono ?_
      rintro e w8 ⟨rfl, hk8⟩
      have HK8 := Lib.hid (HK5.out.trans hk8)
      clear hk8 HK5
      go_wp2_with fail
      go_ret
      exact ⟨rfl, HK8.out⟩
set_option maxRecDepth 100000 in
set_option maxHeartbeats 1000000 in
theorem codes_walk {w : World} {A : Option Addr} {c : Nat} {l : List Ty} {s : ByteArray} (hS : Seen w A l) (hok : ∀ x ∈ l, x.ok) :
    Calls Try.prog 4 #[.slice A l.length c, .string s] w fun e w' => e = .returned (.bool true) ∧ Kept [] w w' := by
  by_cases hl : (l.length : Int) > 100
  · have HAl := Lib.hid alive_ok
    clear hS hok
    go_enter Try.func4, Try.ntmps4
    go_wp2_with fail
    refine (HAl.out _).mono ?_
    rintro e w1 ⟨rfl, hk⟩
    have HK := Lib.hid hk
    clear hk
    go_wp2_with fail
    go_ret
    exact ⟨rfl, HK.out⟩
  · by_cases hs : (s.size : Int) > 4096
    · have HAl := Lib.hid alive_ok
      clear hS hok
      go_enter Try.func4, Try.ntmps4
      go_wp2_with fail
      refine (HAl.out _).mono ?_
      rintro e w1 ⟨rfl, hk⟩
      have HK := Lib.hid hk
      clear hk
      go_wp2_with fail
      go_ret
      exact ⟨rfl, HK.out⟩
    · exact codes_main hS hok hl hs
end Go.Proofs.Ytkplagnmdjaajaa.Tb
