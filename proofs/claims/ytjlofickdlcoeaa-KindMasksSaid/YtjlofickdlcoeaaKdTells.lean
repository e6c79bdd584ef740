/-
  The walks of the laws KindTells and KindRefs.
-/
import Derived.Test.YtjlofickdlcoeaaKdAlive
namespace Go.Proofs.Ytjlofickdlcoeaa.Kd
open Go.RowKit Go.Proofs.Ytjlofickdlcoeaa.Ar Go.Proofs.Ytjlofickdlcoeaa.Ir
set_option linter.unusedVariables false

theorem err_at0 (k : Nat) (wd : Int) (mk : Nat) : err k wd mk 0 = if may k wd mk then 0 else 2 := by
  unfold err
  by_cases h : may k wd mk
  · rw [if_neg, if_pos h]
    · rfl
    · rintro (c | c | c)
      · exact c h
      · omega
      · omega
  · rw [if_pos (.inl h), if_neg h]
set_option maxRecDepth 100000 in
set_option maxHeartbeats 4000000 in
theorem tells_walk (k : Nat) (wd : Int) (mk : Nat) (n : Int) (hk : k < 256) (hm : mk < 18446744073709551616) (w : World) :
    Calls Try.prog 3 #[typV k wd mk, .int .i64 n] w fun e w' => e = .returned (.bool true) ∧ Kept [] w w' := by
  have H1 := Lib.hid (fun x => check_ok k wd mk hk hm x)
  have H2 := Lib.hid (fun x => may_ok k wd mk hm x)
  have H3 := Lib.hid (fun x => slots_ok k wd mk n hk hm x)
  have H4 := Lib.hid (fun x => slotsDoc_ok k wd mk n hm x)
  have H5 := Lib.hid (fun x => size_ok k wd mk n hk hm x)
  have H6 := Lib.hid (fun x => sizeDoc_ok k wd mk n hm x)
  have HV := Lib.hid (fun x => alive_ok x)
  have hka : ∀ (x : World) (o : Obj), Kept [] x (x.alloc o) := fun x o => (Kept.refl [] x).alloc o
  have hH : Has (w.alloc (.cells #[.int .u8 (k : Int), .int .i64 wd, .int .u64 (mk : Int)] 24)) w.heap.size 24 [.int .u8 (k : Int), .int .i64 wd, .int .u64 (mk : Int)] := Has.new w _ _
  unfold typV at *
  rw [err_at0] at H1
  generalize err k wd mk n = er at *
  generalize slotsR k wd mk n = sl at *
  generalize sizeR k wd mk n = sz at *
  have hc : ∃ (e0 : Int) (b : Bool), (if may k wd mk then (0 : Int) else 2) = e0 ∧ decide (may k wd mk) = b ∧ ((e0 = 0 ∧ b = true) ∨ (e0 = 2 ∧ b = false)) := by
    by_cases h : may k wd mk
    · exact ⟨0, true, if_pos h, decide_eq_true h, .inl ⟨rfl, rfl⟩⟩
    · exact ⟨2, false, if_neg h, decide_eq_false h, .inr ⟨rfl, rfl⟩⟩
  obtain ⟨e0, b, he, hb, hc⟩ := hc
  rw [he] at H1
  rw [hb] at H2
  clear he hb
  rcases hc with ⟨rfl, rfl⟩ | ⟨rfl, rfl⟩
  all_goals
    go_enter Try.func3, Try.ntmps3
    go_wp2_with fail
    refine (H1.out _).mono ?_
    rintro e W1 ⟨rfl, hk1⟩
    have K1 := Lib.hid ((hka w _).trans hk1)
    have B1 := Lib.hid (hH.keep0 hk1)
    clear hk1 hH
    generalize w.heap.size = B at *
    obtain ⟨x0, x1, x2⟩ := cells3 B1.out
    go_wp2_with fail
    refine (H2.out _).mono ?_
    rintro e W2 ⟨rfl, hk2⟩
    have K2 := Lib.hid (K1.out.trans hk2)
    have B2 := Lib.hid (B1.out.keep0 hk2)
    clear hk2 K1 B1 x0 x1 x2
    obtain ⟨x0, x1, x2⟩ := cells3 B2.out
    go_wp2_with fail
    refine (H3.out _).mono ?_
    rintro e W3 ⟨rfl, hk3⟩
    have K3 := Lib.hid (K2.out.trans hk3)
    have B3 := Lib.hid (B2.out.keep0 hk3)
    clear hk3 K2 B2 x0 x1 x2
    obtain ⟨x0, x1, x2⟩ := cells3 B3.out
    go_wp2_with fail
    refine (H4.out _).mono ?_
    rintro e W4 ⟨rfl, hk4⟩
    have K4 := Lib.hid (K3.out.trans hk4)
    have B4 := Lib.hid (B3.out.keep0 hk4)
    clear hk4 K3 B3 x0 x1 x2
    obtain ⟨x0, x1, x2⟩ := cells3 B4.out
    go_wp2_with fail
    refine (H5.out _).mono ?_
    rintro e W5 ⟨rfl, hk5⟩
    have K5 := Lib.hid (K4.out.trans hk5)
    have B5 := Lib.hid (B4.out.keep0 hk5)
    clear hk5 K4 B4 x0 x1 x2
    obtain ⟨x0, x1, x2⟩ := cells3 B5.out
    go_wp2_with fail
    refine (H6.out _).mono ?_
    rintro e W6 ⟨rfl, hk6⟩
    have K6 := Lib.hid (K5.out.trans hk6)
    clear hk6 K5 B5 x0 x1 x2
    go_wp2_with fail
    refine (HV.out _).mono ?_
    rintro e W7 ⟨rfl, hk7⟩
    have K7 := Lib.hid (K6.out.trans hk7)
    clear hk7 K6
    go_wp2_with fail
    go_ret
    exact ⟨rfl, K7.out⟩
set_option maxRecDepth 100000 in
set_option maxHeartbeats 4000000 in
theorem refs_walk (k : Nat) (wd : Int) (mk : Nat) (n s : Int) (hk : k < 256) (hm : mk < 18446744073709551616) (w : World) :
    Calls Try.prog 4 #[typV k wd mk, .int .i64 n, .int .i64 s] w fun e w' => e = .returned (.bool true) ∧ Kept [] w w' := by
  have H1 := Lib.hid (fun x => ref_ok k wd mk n s hk hm x)
  have H2 := Lib.hid (fun x => refDoc_ok k wd mk n s hm x)
  have H3 := Lib.hid (fun x => refs_ok k wd mk n hk hm x)
  have H4 := Lib.hid (fun x => refsDoc_ok k wd mk n hm x)
  have HV := Lib.hid (fun x => alive_ok x)
  have hka : ∀ (x : World) (o : Obj), Kept [] x (x.alloc o) := fun x o => (Kept.refl [] x).alloc o
  have hH : Has (w.alloc (.cells #[.int .u8 (k : Int), .int .i64 wd, .int .u64 (mk : Int)] 24)) w.heap.size 24 [.int .u8 (k : Int), .int .i64 wd, .int .u64 (mk : Int)] := Has.new w _ _
  have hlen : (refsR k wd mk n).length ≤ 65536 := by
    unfold refsR
    by_cases h : err k wd mk n = 0
    · rw [if_pos h]
      have := refsTo_length k wd mk (slots k wd n).toNat
      have := slots_bound h
      omega
    · rw [if_neg h]; exact Nat.zero_le _
  have HLen := Lib.hid hlen
  unfold typV RefsPost at *
  clear hlen
  generalize refB k wd mk n s = rb at *
  generalize refE k wd mk n s = re at *
  generalize err k wd mk n = er at *
  generalize refsR k wd mk n = L at *
  go_enter Try.func4, Try.ntmps4
  go_wp2_with fail
  refine (H1.out _).mono ?_
  rintro e W1 ⟨rfl, hk1⟩
  have K1 := Lib.hid ((hka w _).trans hk1)
  have B1 := Lib.hid (hH.keep0 hk1)
  clear hk1 hH
  generalize w.heap.size = B at *
  obtain ⟨x0, x1, x2⟩ := cells3 B1.out
  go_wp2_with fail
  refine (H2.out _).mono ?_
  rintro e W2 ⟨rfl, hk2⟩
  have K2 := Lib.hid (K1.out.trans hk2)
  have B2 := Lib.hid (B1.out.keep0 hk2)
  clear hk2 K1 B1 x0 x1 x2
  obtain ⟨x0, x1, x2⟩ := cells3 B2.out
  go_wp2_with fail
  refine (H3.out _).mono ?_
  rintro e W3 ⟨v1, rfl, hO3, hk3⟩
  have K3 := Lib.hid (K2.out.trans hk3)
  have B3 := Lib.hid (B2.out.keep0 hk3)
  have O3 := Lib.hid hO3
  clear hk3 hO3 K2 B2 x0 x1 x2
  obtain ⟨x0, x1, x2⟩ := cells3 B3.out
  go_wp2_with fail
  refine (H4.out _).mono ?_
  rintro e W4 ⟨v2, rfl, hO4, hk4⟩
  have K4 := Lib.hid (K3.out.trans hk4)
  have HS := Lib.hid (same_own (O3.out.keep0 hk4) hO4 HLen.out HLen.out)
  rw [decide_eq_true rfl] at HS
  clear hk4 hO4 K3 B3 O3 x0 x1 x2
  go_wp2_with fail
  refine HS.out.mono ?_
  rintro e W5 ⟨rfl, hk5⟩
  have K5 := Lib.hid (K4.out.trans hk5)
  clear hk5 K4
  go_wp2_with fail
  refine (HV.out _).mono ?_
  rintro e W7 ⟨rfl, hk7⟩
  have K7 := Lib.hid (K5.out.trans hk7)
  clear hk7 K5
  go_wp2_with fail
  go_ret
  exact ⟨rfl, K7.out⟩
end Go.Proofs.Ytjlofickdlcoeaa.Kd
