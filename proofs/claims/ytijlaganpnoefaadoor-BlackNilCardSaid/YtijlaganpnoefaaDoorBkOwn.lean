/-
  Stage 12, black: the program's list: Len, the last black one of a range, Has.
-/
import Derived.Test.YtijlaganpnoefaaDoorBkObj
import Derived.Test.YtijlaganpnoefaaDoorBkLast
import Derived.Test.YtijlaganpnoefaaDoorBtCopy
import Derived.LoopN
import Derived.RegionTactic
import Derived.Deep.RegionHeld3
namespace Go.Proofs.YtijlaganpnoefaaDoor.Bk
open Go.RowKit Go.Proofs.YtijlaganpnoefaaDoor.Ar
open Go.Proofs.YtijlaganpnoefaaDoor.Bt (Bv bit cntI prevO within)
set_option linter.unusedVariables false
section
variable {w x y : World} {s : Bs} {c d : List Bool}
theorem len_own (h : Obj2 w x s c d) : Calls Tryd.prog 22 #[.pointer (some ⟨s.p, 0, none⟩)] x fun e y => e = .returned (.int .i64 c.length) ∧ x = y := by
  have c0 := h.c0
  have HL := Lib.hid h.len_ok
  clear h
  go_enter Tryd.func22, Tryd.ntmps22
  go_wp2_with fail
  refine HL.out.mono ?_
  rintro e y ⟨rfl, rfl⟩
  go_wp2_with fail
  go_ret
  exact ⟨rfl, rfl⟩
/-- What last answers. -/
def LastPost (x : World) (ls : List Int) (a n : Int) (e : Ending) (y : World) : Prop := ∃ o : Option Nat, e = .returned (.tuple #[.int .i64 ((o.getD 0 : Nat) : Int), .bool o.isSome]) ∧ LastP ls a n o ∧ Kept [] x y
set_option maxRecDepth 100000 in
set_option maxHeartbeats 4000000 in
theorem last_own (h : Obj2 w x s c d) (a n : Int) (ha : I64 a) (hn : I64 n) : Calls Tryd.prog 31 #[.pointer (some ⟨s.p, 0, none⟩), .int .i64 a, .int .i64 n] x (LastPost x (ages c d) a n) := by
  have hf := h.few
  have hdl := h.len
  have hfd : d.length ≤ 65536 := by omega
  have c0 := h.c0
  have C0 := Lib.hid (fun y (k : Kept [] x y) => (h.keep0 k).c0)
  have C1 := Lib.hid (fun y (k : Kept [] x y) => (h.keep0 k).c1)
  have N0 := Lib.hid (fun y (k : Kept [] x y) => Bt.count_ok c s.p0 s.q0 y (h.r0.keep0 k) a n ha.1 ha.2 hn.1 hn.2)
  have N1 := Lib.hid (fun y (k : Kept [] x y) => Bt.count_ok d s.p1 s.q1 y (h.r1.keep0 k) a n ha.1 ha.2 hn.1 hn.2)
  have P0 := Lib.hid (fun y (k : Kept [] x y) (h1 : I64 (a + n - 1)) => Bt.prev_ok c s.p0 s.q0 y (h.r0.keep0 k) (a + n - 1) h1.1 h1.2)
  have P1 := Lib.hid (fun y (k : Kept [] x y) (h1 : I64 (a + n - 1)) => Bt.prev_ok d s.p1 s.q1 y (h.r1.keep0 k) (a + n - 1) h1.1 h1.2)
  have R0n := Lib.hid (row_no (c := c) (a := a) (n := n))
  have R0y := Lib.hid (row_yes (c := c) (a := a) (n := n))
  have R1n := Lib.hid (row_no (c := d) (a := a) (n := n))
  have R1y := Lib.hid (row_yes (c := d) (a := a) (n := n))
  have HB := Lib.hid (fun (o u : Option Nat) => last_both (c := c) (d := d) hdl (a := a) (n := n) (o := o) (u := u))
  clear h hdl
  unfold I64 at ha hn
  generalize hk0 : cntI c a n = m0 at *
  generalize hk1 : cntI d a n = m1 at *
  generalize Bt.errOf (within c.length a n) = e0 at *
  generalize Bt.errOf (within d.length a n) = e1 at *
  clear hk0 hk1
  have K0 : Hid (Kept [] x x) := Lib.hid (Kept.refl _ _)
  go_enter Tryd.func31, Tryd.ntmps31
  go_wp2_with fail
  refine wp_loop_rounds 3 ?_
  rw [rounds_succ]
  go_wp2_with fail
  refine (N0.out _ K0.out).mono ?_
  rintro e y0 ⟨rfl, k⟩
  have K1 := Lib.hid (K0.out.trans k)
  have d0 := C0.out _ K1.out
  clear k c0
  by_cases h0 : 0 < m0
  · obtain ⟨g0, hp, hr⟩ := R0y.out h0
    have hw := hr.1
    obtain ⟨w1, w2, w3⟩ := (Bt.within_iff _ _ _).1 hw
    have HR0 := Lib.hid hr
    have HP : Hid (Calls Tryd.prog 38 #[.pointer (some ⟨s.p0, 0, none⟩), .int .i64 (a + n - 1)] y0 fun e w' => e = .returned (.tuple #[.int .i64 (g0 : Int), .bool true]) ∧ Kept [] y0 w') := Lib.hid (by
      have := P0.out _ K1.out (by unfold I64; omega)
      rw [hp] at this
      exact this)
    clear hp hr hw
    go_wp2_with fail
    refine HP.out.mono ?_
    rintro e z0 ⟨rfl, k⟩
    have KK1 := Lib.hid (K1.out.trans k)
    clear k HP K1 d0
    have c1 := C1.out _ KK1.out
    have hmx : max (0 : Int) (g0 : Int) = (g0 : Int) := by omega
    go_wp2_with fail
    rw [rounds_succ]
    go_wp2_with fail
    refine (N1.out _ KK1.out).mono ?_
    rintro e y1 ⟨rfl, k⟩
    have K2 := Lib.hid (KK1.out.trans k)
    have d1 := C1.out _ K2.out
    clear k c1
    by_cases h1 : 0 < m1
    · obtain ⟨g1, hp, hr⟩ := R1y.out h1
      have hw := hr.1
      obtain ⟨w1, w2, w3⟩ := (Bt.within_iff _ _ _).1 hw
      have HR1 := Lib.hid hr
      have HP : Hid (Calls Tryd.prog 38 #[.pointer (some ⟨s.p1, 0, none⟩), .int .i64 (a + n - 1)] y1 fun e w' => e = .returned (.tuple #[.int .i64 (g1 : Int), .bool true]) ∧ Kept [] y1 w') := Lib.hid (by
        have := P1.out _ K2.out (by unfold I64; omega)
        rw [hp] at this
        exact this)
      clear hp hr hw
      go_wp2_with fail
      refine HP.out.mono ?_
      rintro e z1 ⟨rfl, k⟩
      have KK2 := Lib.hid (K2.out.trans k)
      clear k HP K2 d1
      have HF := Lib.hid (HB.out _ _ HR0.out HR1.out)
      have hmy : max (g0 : Int) (g1 : Int) = ((max g0 g1 : Nat) : Int) := by omega
      clear R0n R0y R1n R1y HB N0 N1 P0 P1 C0 C1
      go_wp2_with fail
      rw [rounds_succ]
      go_wp2_with fail
      go_ret2
      exact ⟨(some (max g0 g1)), rfl, HF.out, KK2.out⟩
    · have HR1 := Lib.hid (R1n.out (by omega))
      clear d1
      have HF := Lib.hid (HB.out _ _ HR0.out HR1.out)
      clear R0n R0y R1n R1y HB N0 N1 P0 P1 C0 C1
      go_wp2_with fail
      rw [rounds_succ]
      go_wp2_with fail
      go_ret2
      exact ⟨(some g0), rfl, HF.out, K2.out⟩
  · have HR0 := Lib.hid (R0n.out (by omega))
    clear d0
    have c1 := C1.out _ K1.out
    go_wp2_with fail
    rw [rounds_succ]
    go_wp2_with fail
    refine (N1.out _ K1.out).mono ?_
    rintro e y1 ⟨rfl, k⟩
    have K2 := Lib.hid (K1.out.trans k)
    have d1 := C1.out _ K2.out
    clear k c1
    by_cases h1 : 0 < m1
    · obtain ⟨g1, hp, hr⟩ := R1y.out h1
      have hw := hr.1
      obtain ⟨w1, w2, w3⟩ := (Bt.within_iff _ _ _).1 hw
      have HR1 := Lib.hid hr
      have HP : Hid (Calls Tryd.prog 38 #[.pointer (some ⟨s.p1, 0, none⟩), .int .i64 (a + n - 1)] y1 fun e w' => e = .returned (.tuple #[.int .i64 (g1 : Int), .bool true]) ∧ Kept [] y1 w') := Lib.hid (by
        have := P1.out _ K2.out (by unfold I64; omega)
        rw [hp] at this
        exact this)
      clear hp hr hw
      go_wp2_with fail
      refine HP.out.mono ?_
      rintro e z1 ⟨rfl, k⟩
      have KK2 := Lib.hid (K2.out.trans k)
      clear k HP K2 d1
      have HF := Lib.hid (HB.out _ _ HR0.out HR1.out)
      have hmy : max (0 : Int) (g1 : Int) = (g1 : Int) := by omega
      clear R0n R0y R1n R1y HB N0 N1 P0 P1 C0 C1
      go_wp2_with fail
      rw [rounds_succ]
      go_wp2_with fail
      go_ret2
      exact ⟨(some g1), rfl, HF.out, KK2.out⟩
    · have HR1 := Lib.hid (R1n.out (by omega))
      clear d1
      have HF := Lib.hid (HB.out _ _ HR0.out HR1.out)
      clear R0n R0y R1n R1y HB N0 N1 P0 P1 C0 C1
      go_wp2_with fail
      rw [rounds_succ]
      go_wp2_with fail
      go_ret2
      exact ⟨none, rfl, HF.out, K2.out⟩
theorem has_own (h : Obj2 w x s c d) (g : Int) (hg : I64 g) : Calls Tryd.prog 19 #[.pointer (some ⟨s.p, 0, none⟩), .int .i64 g] x fun e y => e = .returned (.bool (hasL (ages c d) g)) ∧ Kept [] x y := by
  have HL := Lib.hid (last_own h g 1 hg (by unfold I64; omega))
  clear h
  go_enter Tryd.func19, Tryd.ntmps19
  go_wp2_with fail
  refine HL.out.mono ?_
  rintro e y ⟨o, rfl, hl, k⟩
  have K := Lib.hid k
  have HS := Lib.hid (last_has hl)
  clear hl k HL
  go_wp2_with fail
  go_ret
  rw [← HS.out]
  exact ⟨rfl, K.out⟩
end
end Go.Proofs.YtijlaganpnoefaaDoor.Bk
