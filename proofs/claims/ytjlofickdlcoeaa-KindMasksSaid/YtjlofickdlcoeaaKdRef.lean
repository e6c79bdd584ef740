/-
  The contracts of Size, Ref, and Refs.
-/
import Derived.Test.YtjlofickdlcoeaaKdSlots
import Derived.Test.YtjlofickdlcoeaaIntRow
namespace Go.Proofs.Ytjlofickdlcoeaa.Kd
open Go.RowKit Go.Proofs.Ytjlofickdlcoeaa.Ar Go.Proofs.Ytjlofickdlcoeaa.Ir Go.Maps
set_option linter.unusedVariables false

/-- What Size answers. -/
def sizeR (k : Nat) (wd : Int) (mk : Nat) (n : Int) : Int := if err k wd mk n = 0 then (slots k wd n + 2) / 2 else 0
set_option maxRecDepth 100000 in
theorem size_ok (k : Nat) (wd : Int) (mk : Nat) (n : Int) (hk : k < 256) (hm : mk < 18446744073709551616) (w : World) :
    Calls Try.prog 11 #[typV k wd mk, .int .i64 n] w fun e w' => e = .returned (.tuple #[.int .i64 (sizeR k wd mk n), .int .i64 (err k wd mk n)]) ∧ Kept [] w w' := by
  have HL := Lib.hid (fun x => slots_ok k wd mk n hk hm x)
  have hka : ∀ (x : World) (o : Obj), Kept [] x (x.alloc o) := fun x o => (Kept.refl [] x).alloc o
  unfold sizeR slotsR typV at *
  by_cases h : err k wd mk n = 0
  · obtain ⟨b0, b1⟩ := slots_bound h
    simp only [h, if_true] at HL ⊢
    clear h
    generalize slots k wd n = sl at *
    go_enter Try.func11, Try.ntmps11
    go_wp2_with fail
    refine (HL.out _).mono ?_
    rintro e W1 ⟨rfl, hk1⟩
    have hk2 := Lib.hid ((hka w _).trans hk1)
    clear hk1
    go_wp2_with fail
    go_ret2
    refine ⟨?_, hk2.out⟩
    show Ending.returned (.tuple #[.int .i64 _, _]) = _
    congr 5
    try omega
  · simp only [h, if_false] at HL ⊢
    have he : (err k wd mk n != 0) = true := by rw [bne_iff_ne]; exact h
    generalize err k wd mk n = er at *
    go_enter Try.func11, Try.ntmps11
    go_wp2_with fail
    refine (HL.out _).mono ?_
    rintro e W1 ⟨rfl, hk1⟩
    have hk2 := Lib.hid ((hka w _).trans hk1)
    clear hk1
    go_wp2_with fail
    go_ret2
    exact ⟨rfl, hk2.out⟩
/-- What Ref answers. -/
def refE (k : Nat) (wd : Int) (mk : Nat) (n s : Int) : Int := if err k wd mk n = 0 then (if s < 0 ∨ slots k wd n ≤ s then 2 else 0) else err k wd mk n
def refB (k : Nat) (wd : Int) (mk : Nat) (n s : Int) : Bool := if err k wd mk n = 0 then (if s < 0 ∨ slots k wd n ≤ s then false else isRef k wd mk s.toNat) else false
set_option maxRecDepth 100000 in
theorem ref_ok (k : Nat) (wd : Int) (mk : Nat) (n s : Int) (hk : k < 256) (hm : mk < 18446744073709551616) (w : World) :
    Calls Try.prog 14 #[typV k wd mk, .int .i64 n, .int .i64 s] w fun e w' => e = .returned (.tuple #[.bool (refB k wd mk n s), .int .i64 (refE k wd mk n s)]) ∧ Kept [] w w' := by
  have HL := Lib.hid (fun x => layoutOf_ok k wd mk n hk hm x)
  have hka : ∀ (x : World) (o : Obj), Kept [] x (x.alloc o) := fun x o => (Kept.refl [] x).alloc o
  unfold refB refE typV layT lay0 at *
  by_cases h : err k wd mk n = 0
  · obtain ⟨i, j, hF⟩ := fns h hm
    have HS := Lib.hid hF.doSl
    have HR := Lib.hid hF.doRf
    have e1 := hF.sl
    have e2 := hF.rf
    have cs := hF.inSl
    have cr := hF.inRf
    unfold fn layV at *
    simp only [h, if_true, e1, e2] at HL ⊢
    clear h hF e1 e2
    generalize mn k = a1 at *
    generalize mx k = a2 at *
    generalize hl k = a3 at *
    generalize slots k wd n = sl at *
    by_cases h1 : s < 0
    · rw [if_pos (.inl h1), if_pos (.inl h1)]
      go_enter Try.func14, Try.ntmps14
      go_wp2_with fail
      refine (HL.out _).mono ?_
      rintro e W1 ⟨rfl, hk1⟩
      have hk2 := Lib.hid ((hka w _).trans hk1)
      clear hk1
      go_wp2_with fail
      go_ret2
      exact ⟨rfl, hk2.out.alloc _⟩
    · by_cases h2 : sl ≤ s
      · rw [if_pos (.inr h2), if_pos (.inr h2)]
        go_enter Try.func14, Try.ntmps14
        go_wp2_with fail
        refine (HL.out _).mono ?_
        rintro e W1 ⟨rfl, hk1⟩
        have hk2 := Lib.hid ((hka w _).trans hk1)
        clear hk1
        go_wp2_with fail
        refine (HS.out _).mono ?_
        rintro e W2 ⟨rfl, hk3⟩
        have hk4 := Lib.hid ((hk2.out.alloc _).trans hk3)
        clear hk3 hk2
        go_wp2_with fail
        go_ret2
        exact ⟨rfl, hk4.out⟩
      · rw [if_neg (by omega), if_neg (by omega)]
        have HR' := Lib.hid (fun x => HR.out s.toNat x (by omega))
        rw [Int.toNat_of_nonneg (by omega)] at HR'
        generalize isRef k wd mk s.toNat = rb at *
        clear HR
        go_enter Try.func14, Try.ntmps14
        go_wp2_with fail
        refine (HL.out _).mono ?_
        rintro e W1 ⟨rfl, hk1⟩
        have hk2 := Lib.hid ((hka w _).trans hk1)
        clear hk1
        go_wp2_with fail
        refine (HS.out _).mono ?_
        rintro e W2 ⟨rfl, hk3⟩
        have hk4 := Lib.hid ((hk2.out.alloc _).trans hk3)
        have hl := (Has.new W1 _ (layL k wd mk n a1 a2 a3 (.func (.func i) #[] #[]) (.func (.func j) #[] #[]))).keep0 hk3
        obtain ⟨x0, x1, x2, x3, x4, x5, x6, x7, x8⟩ := cells9 hl
        clear hk3 hk2 hl
        go_wp2_with fail
        refine (HR'.out _).mono ?_
        rintro e W3 ⟨rfl, hk5⟩
        have hk6 := Lib.hid (hk4.out.trans hk5)
        clear hk5 hk4
        go_wp2_with fail
        go_ret2
        exact ⟨rfl, hk6.out⟩
  · simp only [h, if_false] at HL ⊢
    have he : (err k wd mk n != 0) = true := by rw [bne_iff_ne]; exact h
    generalize err k wd mk n = er at *
    go_enter Try.func14, Try.ntmps14
    go_wp2_with fail
    refine (HL.out _).mono ?_
    rintro e W1 ⟨rfl, hk1⟩
    have hk2 := Lib.hid ((hka w _).trans hk1)
    clear hk1
    go_wp2_with fail
    go_ret2
    exact ⟨rfl, hk2.out.alloc _⟩
end Go.Proofs.Ytjlofickdlcoeaa.Kd
