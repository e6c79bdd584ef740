/-
  The contracts of Check and Slots; what a layout's functions answer.
-/
import Derived.Test.YtflcnpmampaamaaDoorKdLay
namespace Go.Proofs.YtflcnpmampaamaaDoor.Kd
open Go.RowKit Go.Proofs.YtflcnpmampaamaaDoor.Ar Go.Maps
set_option linter.unusedVariables false

theorem err_zero {k : Nat} {wd : Int} {mk : Nat} {n : Int} (h : err k wd mk n = 0) : may k wd mk ∧ 0 ≤ n ∧ n ≤ 4096 ∧ (k = 1 → n = 0) := by
  unfold err at h
  by_cases c : ¬ may k wd mk ∨ n < 0 ∨ (0 < n ∧ k = 1)
  · rw [if_pos c] at h; cases h
  · rw [if_neg c] at h
    by_cases c2 : 4096 < n
    · rw [if_pos c2] at h; cases h
    · by_cases hm : may k wd mk
      · exact ⟨hm, by omega, by omega, by omega⟩
      · exact absurd (.inl hm) c
theorem may_kind {k : Nat} {wd : Int} {mk : Nat} (h : may k wd mk) : isKind k = true ∧ 0 ≤ wd ∧ wd ≤ 64 ∧ (k = 1 ∨ k = 2 ∨ k = 3 ∨ k = 4) ∧ (k = 3 → 1 ≤ wd ∧ wd ≤ 16) := by
  have hi := ((may_iff k wd mk).1 h).1
  have h1 := h.1
  have h4 : k = 1 ∨ k = 2 ∨ k = 3 ∨ k = 4 := of_decide_eq_true hi
  exact ⟨hi, by omega, by omega, h4, fun e => by omega⟩
theorem mul_bound {a b A B : Int} (h0 : 0 ≤ a) (h1 : a ≤ A) (h2 : 0 ≤ b) (h3 : b ≤ B) : 0 ≤ a * b ∧ a * b ≤ A * B :=
  ⟨Int.mul_nonneg h0 h2, Int.mul_le_mul h1 h3 h2 (by omega)⟩
theorem slots_bound {k : Nat} {wd : Int} {mk : Nat} {n : Int} (h : err k wd mk n = 0) : 0 ≤ slots k wd n ∧ slots k wd n ≤ 65536 := by
  obtain ⟨hm, h0, h1, _⟩ := err_zero h
  obtain ⟨_, w0, w1, _, w3⟩ := may_kind hm
  unfold slots
  by_cases c1 : k = 1
  · rw [if_pos c1]; omega
  · rw [if_neg c1]
    by_cases c3 : k = 3
    · rw [if_pos c3]
      exact mul_bound h0 h1 (by omega) (w3 c3).2
    · rw [if_neg c3]; omega
/-- What a layout's two functions are, and answer. -/
structure Fns (k : Nat) (wd : Int) (mk : Nat) (n : Int) (i j : Nat) : Prop where
  sl : slF k = fn i
  rf : rfF k = fn j
  inSl : ∀ args x, (callFunc i args).run Tryd.prog x = .ok (.enter i args) x
  inRf : ∀ args x, (callFunc j args).run Tryd.prog x = .ok (.enter j args) x
  doSl : ∀ x, Calls Tryd.prog i #[layV k wd mk n (mn k) (mx k) (hl k) (fn i) (fn j)] x fun e w' => e = .returned (.int .i64 (slots k wd n)) ∧ Kept [] x w'
  doRf : ∀ (s : Nat) x, (s : Int) < slots k wd n → Calls Tryd.prog j #[layV k wd mk n (mn k) (mx k) (hl k) (fn i) (fn j), .int .i64 (s : Int)] x fun e w' => e = .returned (.bool (isRef k wd mk s)) ∧ Kept [] x w'
theorem fns {k : Nat} {wd : Int} {mk : Nat} {n : Int} (h : err k wd mk n = 0) (hm : mk < 18446744073709551616) : ∃ i j, Fns k wd mk n i j := by
  have hb := slots_bound h
  obtain ⟨hy, h0, h1, _⟩ := err_zero h
  obtain ⟨_, w0, w1, hk, w3⟩ := may_kind hy
  rcases hk with rfl | rfl | rfl | rfl
  · refine ⟨_, _, rfl, rfl, fun _ _ => by kernel_rfl, fun _ _ => by kernel_rfl, fun x => words_ok _ _ _ _ _ _ _ _ _ x, fun s x hs => ?_⟩
    have hs' : (s : Int) < wd := hs
    have := masked_ok 1 wd.toNat mk n (mn 1) (mx 1) (hl 1) (fn 49) (fn 50) s x (by omega) (by omega) (by omega) hm
    rwa [Int.toNat_of_nonneg w0] at this
  · exact ⟨_, _, rfl, rfl, fun _ _ => by kernel_rfl, fun _ _ => by kernel_rfl, fun x => length_ok _ _ _ _ _ _ _ _ _ x, fun s x hs => always_ok _ _ _ _ _ _ _ _ _ _ x⟩
  · refine ⟨_, _, rfl, rfl, fun _ _ => by kernel_rfl, fun _ _ => by kernel_rfl, fun x => elements_ok _ _ _ _ _ _ _ _ _ x (by have : slots 3 wd n = n * wd := rfl; omega) (by have : slots 3 wd n = n * wd := rfl; omega), fun s x hs => ?_⟩
    have := masked_ok 3 wd.toNat mk n (mn 3) (mx 3) (hl 3) (fn 53) (fn 50) s x (by have := w3 rfl; omega) (by omega) (by omega) hm
    rwa [Int.toNat_of_nonneg w0] at this
  · exact ⟨_, _, rfl, rfl, fun _ _ => by kernel_rfl, fun _ _ => by kernel_rfl, fun x => length_ok _ _ _ _ _ _ _ _ _ x, fun s x hs => never_ok _ _ _ _ _ _ _ _ _ _ x⟩

set_option maxRecDepth 100000 in
theorem check_ok (k : Nat) (wd : Int) (mk : Nat) (hk : k < 256) (hm : mk < 18446744073709551616) (w : World) :
    Calls Tryd.prog 37 #[typV k wd mk] w fun e w' => e = .returned (.int .i64 (err k wd mk 0)) ∧ Kept [] w w' := by
  have HL := Lib.hid (fun x => layoutOf_ok k wd mk 0 hk hm x)
  have hka : ∀ (x : World) (o : Obj), Kept [] x (x.alloc o) := fun x o => (Kept.refl [] x).alloc o
  unfold typV layT layV lay0 at *
  by_cases h : err k wd mk 0 = 0
  · obtain ⟨F, G, e1, e2⟩ := fns_yes k (may_kind (err_zero h).1).1
    simp only [h, if_true, e1, e2] at HL ⊢
    clear h e1 e2
    generalize mn k = a1 at *
    generalize mx k = a2 at *
    generalize hl k = a3 at *
    go_enter Tryd.func37, Tryd.ntmps37
    go_wp2_with fail
    refine (HL.out _).mono ?_
    rintro e W1 ⟨rfl, hk1⟩
    have hk2 := Lib.hid ((hka w _).trans hk1)
    clear hk1
    go_wp2_with fail
    go_ret
    exact ⟨rfl, hk2.out.alloc _⟩
  · simp only [h, if_false] at HL
    generalize err k wd mk 0 = er at *
    go_enter Tryd.func37, Tryd.ntmps37
    go_wp2_with fail
    refine (HL.out _).mono ?_
    rintro e W1 ⟨rfl, hk1⟩
    have hk2 := Lib.hid ((hka w _).trans hk1)
    clear hk1
    go_wp2_with fail
    go_ret
    exact ⟨rfl, hk2.out.alloc _⟩
/-- What Slots answers. -/
def slotsR (k : Nat) (wd : Int) (mk : Nat) (n : Int) : Int := if err k wd mk n = 0 then slots k wd n else 0
set_option maxRecDepth 100000 in
theorem slots_ok (k : Nat) (wd : Int) (mk : Nat) (n : Int) (hk : k < 256) (hm : mk < 18446744073709551616) (w : World) :
    Calls Tryd.prog 44 #[typV k wd mk, .int .i64 n] w fun e w' => e = .returned (.tuple #[.int .i64 (slotsR k wd mk n), .int .i64 (err k wd mk n)]) ∧ Kept [] w w' := by
  have HL := Lib.hid (fun x => layoutOf_ok k wd mk n hk hm x)
  have hka : ∀ (x : World) (o : Obj), Kept [] x (x.alloc o) := fun x o => (Kept.refl [] x).alloc o
  unfold slotsR typV layT lay0 at *
  by_cases h : err k wd mk n = 0
  · obtain ⟨i, j, hF⟩ := fns h hm
    have HS := Lib.hid hF.doSl
    have e1 := hF.sl
    have e2 := hF.rf
    have cs := hF.inSl
    unfold fn layV at *
    simp only [h, if_true, e1, e2] at HL ⊢
    clear h hF e1 e2
    generalize mn k = a1 at *
    generalize mx k = a2 at *
    generalize hl k = a3 at *
    generalize slots k wd n = sl at *
    go_enter Tryd.func44, Tryd.ntmps44
    go_wp2_with fail
    refine (HL.out _).mono ?_
    rintro e W1 ⟨rfl, hk1⟩
    have hk2 := Lib.hid ((hka w _).trans hk1)
    clear hk1
    go_wp2_with fail
    refine (HS.out _).mono ?_
    rintro e W2 ⟨rfl, hk3⟩
    go_wp2_with fail
    go_ret2
    exact ⟨rfl, (hk2.out.alloc _).trans hk3⟩
  · simp only [h, if_false] at HL ⊢
    have he : (err k wd mk n != 0) = true := by rw [bne_iff_ne]; exact h
    generalize err k wd mk n = er at *
    go_enter Tryd.func44, Tryd.ntmps44
    go_wp2_with fail
    refine (HL.out _).mono ?_
    rintro e W1 ⟨rfl, hk1⟩
    have hk2 := Lib.hid ((hka w _).trans hk1)
    clear hk1
    go_wp2_with fail
    go_ret2
    exact ⟨rfl, hk2.out.alloc _⟩
end Go.Proofs.YtflcnpmampaamaaDoor.Kd
