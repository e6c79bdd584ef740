/-
  TableBack, walked.
-/
import Derived.Test.YtkplagnmdjaajaaTbCodes
import Derived.Test.YtkplagnmdjaajaaTbCodec
namespace Go.Proofs.Ytkplagnmdjaajaa.Tb
open Go.RowKit Go.Proofs.Ytkplagnmdjaajaa.Ar Go.Maps
set_option linter.unusedVariables false

theorem readF_back {s : ByteArray} (h : (readF s).2 = 0) : strOfNums (enc (readF s).1) = s := by
  unfold readF at h ⊢
  split
  · rename_i hc
    rw [if_pos hc] at h
    cases h
  · rename_i hc
    rw [if_neg hc] at h
    split
    · rename_i h2
      rw [newF_len [] h2]
      show strOfNums (enc ([] ++ tysAt s 1 (bt s 0))) = s
      rw [List.nil_append]
      exact put_read (by omega)
    · rename_i h2
      rw [if_neg h2] at h
      cases h
theorem enc_length (l : List Ty) : (enc l).length = 1 + l.length * 10 := by
  unfold enc
  rw [List.length_cons, encL_length]
  omega
set_option maxRecDepth 100000 in
set_option maxHeartbeats 8000000 in
theorem back_main {w : World} {A : Option Addr} {c : Nat} {l : List Ty} {s : ByteArray} (hS : Seen w A l) (hok : ∀ x ∈ l, x.ok) (hl : ¬ (l.length : Int) > 100) (hs : ¬ (s.size : Int) > 4096) :
    Calls Try.prog 5 #[.slice A l.length c, .string s] w fun e w' => e = .returned (.bool true) ∧ Kept [] w w' := by
  have HAl := Lib.hid alive_ok
  have HRd := Lib.hid (fun y => read_ok s (by unfold maxLen; omega) y)
  have HS := Lib.hid hS
  have HOK := Lib.hid hok
  have HNw := Lib.hid (new_ok c hS hok (by omega))
  clear hS hok
  go_enter Try.func5, Try.ntmps5
  go_wp2_with fail
  refine HNw.out.mono ?_
  rintro e w1 (⟨h0, p, A1, c1, rfl, hm⟩ | ⟨h0, rfl, hk1⟩)
  · obtain ⟨e1, e2, e3⟩ := newF_made h0 HOK.out
    have hm2 : Made w w1 p A1 c1 l := by rw [e1] at hm; exact hm
    have HP := Lib.hid (put_ok hm2.1)
    have HK1 := Lib.hid hm2.2.2.2
    have hrp := read_put e2 e3
    have hsz : (strOfNums (enc l)).size ≤ maxLen := by rw [strOfNums_size, enc_length]; unfold maxLen; omega
    have HR2 := Lib.hid (fun y => read_ok (strOfNums (enc l)) hsz y)
    rw [hrp] at HR2
    clear h0 hm hm2 e1 e2 e3 HNw hrp hsz
    generalize strOfNums (enc l) = S at *
    go_wp2_with fail
    refine HP.out.mono ?_
    rintro e w2 ⟨rfl, hk2⟩
    have HK2 := Lib.hid (HK1.out.trans hk2)
    clear hk2 HP HK1
    go_wp2_with fail
    refine (HR2.out _).mono ?_
    rintro e w3 (⟨_, p3, A3, c3, rfl, hm⟩ | ⟨h0, _⟩)
    · have HAll := Lib.hid (all_ok hm.1)
      have HK3 := Lib.hid (HK2.out.trans hm.2.2.2)
      clear hm HR2 HK2
      go_wp2_with fail
      refine HAll.out.mono ?_
      rintro e w4 ⟨A4, c4, rfl, hO4, hF4, hn4, hk4⟩
      have HSm := Lib.hid (same_ok (c := c4) (d := c) hO4.seen (HS.out.keep0 (HK3.out.trans hk4)) (by omega) (by omega))
      rw [decide_eq_true (rfl : l = l)] at HSm
      have HK4 := Lib.hid (HK3.out.trans hk4)
      clear hO4 hF4 hn4 hk4 HAll HK3
      go_wp2_with fail
      refine HSm.out.mono ?_
      rintro e w4b ⟨rfl, hk⟩
      have HKx := Lib.hid (HK4.out.trans hk)
      clear hk HSm HK4
      go_wp2_with fail
      refine (HRd.out _).mono ?_
      rintro e w5 (⟨h0, p2, A2, c2, rfl, hm⟩ | ⟨h0, rfl, hk5⟩)
      · have HP := Lib.hid (put_ok hm.1)
        rw [readF_back h0] at HP
        have HK5 := Lib.hid (HKx.out.trans hm.2.2.2)
        clear h0 hm HRd HKx
        go_wp2_with fail
        refine HP.out.mono ?_
        rintro e w6 ⟨rfl, hk6⟩
        have HK6 := Lib.hid (HK5.out.trans hk6)
        clear hk6 HP HK5
        go_wp2_with fail
        refine (HAl.out _).mono ?_
        rintro e w8 ⟨rfl, hk8⟩
        have HK8 := Lib.hid (HK6.out.trans hk8)
        clear hk8 HK6
        go_wp2_with fail
        go_ret
        exact ⟨rfl, HK8.out⟩
      · have he : (readF s).2 = 7 := by
          rcases readF_err s with h | h
          · exact absurd h h0
          · rw [h]
        rw [he]
        have HK5 := Lib.hid (HKx.out.trans hk5)
        clear h0 hk5 HRd HKx he
        go_wp2_with fail
        refine (HAl.out _).mono ?_
        rintro e w8 ⟨rfl, hk8⟩
        have HK8 := Lib.hid (HK5.out.trans hk8)
        clear hk8 HK5
        go_wp2_with fail
        go_ret
        exact ⟨rfl, HK8.out⟩
    · exact absurd rfl h0
  · have hbn : ((newF [] l).2 == 0) = false := by rw [beq_eq_false_iff_ne]; exact h0
    have HKx := Lib.hid hk1
    generalize (newF [] l).2 = er2 at *
    clear h0 hk1 HNw
    go_wp2_with fail
    refine (HRd.out _).mono ?_
    rintro e w5 (⟨h0, p2, A2, c2, rfl, hm⟩ | ⟨h0, rfl, hk5⟩)
    · have HP := Lib.hid (put_ok hm.1)
      rw [readF_back h0] at HP
      have HK5 := Lib.hid (HKx.out.trans hm.2.2.2)
      clear h0 hm HRd HKx
      go_wp2_with fail
      refine HP.out.mono ?_
      rintro e w6 ⟨rfl, hk6⟩
      have HK6 := Lib.hid (HK5.out.trans hk6)
      clear hk6 HP HK5
      go_wp2_with fail
      refine (HAl.out _).mono ?_
      rintro e w8 ⟨rfl, hk8⟩
      have HK8 := Lib.hid (HK6.out.trans hk8)
      clear hk8 HK6
      go_wp2_with fail
      go_ret
      exact ⟨rfl, HK8.out⟩
    · have he : (readF s).2 = 7 := by
        rcases readF_err s with h | h
        · exact absurd h h0
        · rw [h]
      rw [he]
      have HK5 := Lib.hid (HKx.out.trans hk5)
      clear h0 hk5 HRd HKx he
      go_wp2_with fail
      refine (HAl.out _).mono ?_
      rintro e w8 ⟨rfl, hk8⟩
      have HK8 := Lib.hid (HK5.out.trans hk8)
      clear hk8 HK5
      go_wp2_with fail
      go_ret
      exact ⟨rfl, HK8.out⟩
set_option maxRecDepth 100000 in
set_option maxHeartbeats 1000000 in
theorem back_walk {w : World} {A : Option Addr} {c : Nat} {l : List Ty} {s : ByteArray} (hS : Seen w A l) (hok : ∀ x ∈ l, x.ok) :
    Calls Try.prog 5 #[.slice A l.length c, .string s] w fun e w' => e = .returned (.bool true) ∧ Kept [] w w' := by
  by_cases hl : (l.length : Int) > 100
  · have HAl := Lib.hid alive_ok
    clear hS hok
    go_enter Try.func5, Try.ntmps5
    go_wp2_with fail
    refine (HAl.out _).mono ?_
    rintro e w1 ⟨rfl, hk⟩
    have HK := Lib.hid hk
    clear hk
    go_wp2_with fail
    go_ret
    exact ⟨rfl, HK.out⟩
  · by_cases hs : (s.size : Int) > 4096
    · have HAl := Lib.hid alive_ok
      clear hS hok
      go_enter Try.func5, Try.ntmps5
      go_wp2_with fail
      refine (HAl.out _).mono ?_
      rintro e w1 ⟨rfl, hk⟩
      have HK := Lib.hid hk
      clear hk
      go_wp2_with fail
      go_ret
      exact ⟨rfl, HK.out⟩
    · exact back_main hS hok hl hs
end Go.Proofs.Ytkplagnmdjaajaa.Tb
