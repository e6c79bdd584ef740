/-
  Several texts in one: BkLast, BkOwn, BkOwnNew, BkOwnHit, BkBoth, BkOwnAll, BkOwnList, BkOwnTurn, BkOwnFirst, BkOwnCtr.
-/
import Derived.Test.YtijlaganpnoefaaDoorBkRows
import Derived.Test.YtijlaganpnoefaaDoorBkRoom
import Derived.Test.YtijlaganpnoefaaDoorBtCount
import Derived.Test.YtijlaganpnoefaaDoorBtPrev
import Derived.Test.YtijlaganpnoefaaDoorBkObj
import Derived.Test.YtijlaganpnoefaaDoorBtCopy
import Derived.LoopN
import Derived.RegionTactic
import Derived.Deep.RegionHeld3
import Derived.Test.YtijlaganpnoefaaDoorBtNew
import Derived.Deep.RegionWith
import Derived.Test.YtijlaganpnoefaaDoorBtRuns
import Derived.Test.YtijlaganpnoefaaDoorBkAges
/-
  Stage 12, black: the last one of a range of granules that is black, by both rows of bits; in numbers.
-/
namespace Go.Proofs.YtijlaganpnoefaaDoor.Bk
open Go.RowKit Go.Proofs.YtijlaganpnoefaaDoor.Ar
open Go.Proofs.YtijlaganpnoefaaDoor.Bt (bit cnt cntI prevO prevV prevV_hit within hasV)
set_option linter.unusedVariables false

theorem cnt_zero (f : Nat → Bool) : ∀ (n : Nat), cnt f n = 0 → ∀ j, j < n → f j = false
  | 0, _, j, h => by omega
  | n + 1, h, j, hj => by
    have e : cnt f n + (f n).toNat = 0 := h
    rcases Nat.lt_or_ge j n with h1 | h1
    · exact cnt_zero f n (by omega) j h1
    · rw [show j = n by omega]
      cases hf : f n
      · rfl
      · rw [hf] at e
        have : (true : Bool).toNat = 1 := rfl
        omega
theorem cnt_last (f : Nat → Bool) : ∀ (n : Nat), 0 < cnt f n → ∃ k, k < n ∧ f k = true ∧ ∀ j, k < j → j < n → f j = false
  | 0, h => by
    have : cnt f 0 = 0 := rfl
    omega
  | n + 1, h => by
    cases hf : f n
    · have e : cnt f (n + 1) = cnt f n + (f n).toNat := rfl
      rw [hf] at e
      have e0 : (false : Bool).toNat = 0 := rfl
      obtain ⟨k, h1, h2, h3⟩ := cnt_last f n (by omega)
      refine ⟨k, by omega, h2, fun j j1 j2 => ?_⟩
      rcases Nat.lt_or_ge j n with h | h
      · exact h3 j j1 h
      · rw [show j = n by omega, hf]
    · exact ⟨n, by omega, hf, fun j j1 j2 => by omega⟩
/-- o is the last one of the n from a on that is so, if all n are among L. -/
def RowP (f : Nat → Bool) (L : Nat) (a n : Int) : Option Nat → Prop
  | none => within L a n = true → ∀ j : Nat, a ≤ (j : Int) → (j : Int) < a + n → f j = false
  | some g => within L a n = true ∧ a ≤ (g : Int) ∧ (g : Int) < a + n ∧ f g = true ∧ ∀ j : Nat, g < j → (j : Int) < a + n → f j = false
theorem row_no {c : List Bool} {a n : Int} (h : ¬ 0 < cntI c a n) : RowP (bit c) c.length a n none := fun hw j j1 j2 => by
  obtain ⟨h1, h2, h3⟩ := (Bt.within_iff _ _ _).1 hw
  unfold Bt.cntI at h
  rw [if_pos hw] at h
  have := cnt_zero (fun j => bit c (a.toNat + j)) n.toNat (by omega) (j - a.toNat) (by omega)
  rw [show j = a.toNat + (j - a.toNat) by omega]
  exact this
theorem row_yes {c : List Bool} {a n : Int} (h : 0 < cntI c a n) : ∃ g : Nat, prevO c (a + n - 1) = some g ∧ RowP (bit c) c.length a n (some g) := by
  unfold Bt.cntI at h
  by_cases hw : within c.length a n = true
  · rw [if_pos hw] at h
    obtain ⟨h1, h2, h3⟩ := (Bt.within_iff _ _ _).1 hw
    obtain ⟨k, k1, k2, k3⟩ := cnt_last (fun j => bit c (a.toNat + j)) n.toNat (by omega)
    have hall : ∀ j : Nat, a.toNat + k < j → (j : Int) < a + n → bit c j = false := fun j j1 j2 => by
      have := k3 (j - a.toNat) (by omega) (by omega)
      rw [show j = a.toNat + (j - a.toNat) by omega]
      exact this
    refine ⟨a.toNat + k, ?_, hw, by omega, by omega, k2, hall⟩
    unfold Bt.prevO
    exact prevV_hit (bit c) (a.toNat + k) _ (by omega) k2 fun j j1 j2 => hall j j1 (by omega)
  · rw [if_neg hw] at h
    omega
def lastG : Option Nat → Option Nat → Option Nat
  | none, o => o
  | some a, none => some a
  | some a, some b => some (max a b)
theorem RowP.or {f g : Nat → Bool} {L : Nat} {a n : Int} : ∀ {o u : Option Nat}, RowP f L a n o → RowP g L a n u → RowP (fun j => f j || g j) L a n (lastG o u)
  | none, none, h, k => fun hw j j1 j2 => by
    show (f j || g j) = false
    rw [h hw j j1 j2, k hw j j1 j2]
    rfl
  | none, some v, h, ⟨hw, k1, k2, k3, k4⟩ => ⟨hw, k1, k2, by show (f v || g v) = true; rw [k3, Bool.or_true], fun j j1 j2 => by
    show (f j || g j) = false
    rw [h hw j (by omega) j2, k4 j j1 j2]
    rfl⟩
  | some u, none, ⟨hw, h1, h2, h3, h4⟩, k => ⟨hw, h1, h2, by show (f u || g u) = true; rw [h3, Bool.true_or], fun j j1 j2 => by
    show (f j || g j) = false
    rw [k hw j (by omega) j2, h4 j j1 j2]
    rfl⟩
  | some u, some v, ⟨hw, h1, h2, h3, h4⟩, ⟨_, k1, k2, k3, k4⟩ => by
    refine ⟨hw, by omega, by omega, ?_, fun j j1 j2 => ?_⟩
    · show (f (max u v) || g (max u v)) = true
      rcases Nat.le_total u v with e | e
      · rw [Nat.max_eq_right e, k3, Bool.or_true]
      · rw [Nat.max_eq_left e, h3, Bool.true_or]
    · show (f j || g j) = false
      rw [h4 j (by omega) j2, k4 j (by omega) j2]
      rfl
/-- What is told of the last black one. -/
def LastP (ls : List Int) (a n : Int) (o : Option Nat) : Prop := RowP (fun j => hasL ls (j : Int)) ls.length a n o
theorem last_both {c d : List Bool} (hl : d.length = c.length) {a n : Int} {o u : Option Nat} (h : RowP (bit c) c.length a n o) (k : RowP (bit d) d.length a n u) : LastP (ages c d) a n (lastG o u) := by
  have e : (fun j : Nat => hasL (ages c d) (j : Int)) = fun j => bit c j || bit d j := funext fun j => by
    have hb (e : List Bool) : hasV e (j : Int) = bit e j := by
      unfold Bt.hasV
      rw [Int.toNat_natCast, decide_eq_true (show (0 : Int) ≤ (j : Int) by omega), Bool.true_and]
    rw [ages_has hl, hb, hb]
  unfold LastP
  rw [e, ages_length]
  rw [hl] at k
  exact RowP.or h k
theorem last_has {ls : List Int} {g : Int} {o : Option Nat} (h : LastP ls g 1 o) : o.isSome = hasL ls g := by
  cases o with
  | none =>
    by_cases hw : within ls.length g 1 = true
    · obtain ⟨h1, h2, h3⟩ := (Bt.within_iff _ _ _).1 hw
      have h4 : hasL ls ((g.toNat : Nat) : Int) = false := h hw g.toNat (by omega) (by omega)
      rw [show ((g.toNat : Nat) : Int) = g by omega] at h4
      rw [h4]
      rfl
    · rw [Bt.within_iff] at hw
      unfold hasL
      rw [decide_eq_false (by omega)]
      rfl
  | some k =>
    obtain ⟨hw, h1, h2, h3, h4⟩ := h
    have h5 : hasL ls (k : Int) = true := h3
    rw [show (k : Int) = g by omega] at h5
    rw [h5]
    rfl
theorem room_all {ls : List Int} (ha : Aged ls) {g : Nat} : ∀ (n : Nat), (∀ j : Nat, g ≤ j → j < g + n → hasL ls (j : Int) = false) → g + n ≤ ls.length → roomTo ls g n = true
  | 0, _, _ => rfl
  | n + 1, h, hl => by
    rw [← room_step ha (g := g) (m := n) (by omega), room_all ha n (fun j j1 j2 => h j j1 (by omega)) (by omega)]
    have := h (g + n) (by omega) (by omega)
    rw [show ((g : Int) + (n : Int)) = ((g + n : Nat) : Int) by omega, this]
    rfl
end Go.Proofs.YtijlaganpnoefaaDoor.Bk

/-
  Stage 12, black: the program's list: Len, the last black one of a range, Has.
-/
namespace Go.Proofs.YtijlaganpnoefaaDoor.Bk
open Go.RowKit Go.Proofs.YtijlaganpnoefaaDoor.Ar
open Go.Proofs.YtijlaganpnoefaaDoor.Bt (Bv bit cntI prevO within)
set_option linter.unusedVariables false
section
variable {w x y : World} {s : Bs} {c d : List Bool}
theorem len_own (h : Obj2 w x s c d) : Calls Tryd.prog 22 #[.pointer (some ⟨s.p, 0, none⟩)] x fun e y => e = .returned (.int .i64 c.length) ∧ x = y := by
  have c0 := h.c0
  have HL := Lib.hid h.len_ok
  clear h
  go_enter Tryd.func22, Tryd.ntmps22
  go_wp2_with fail
  refine HL.out.mono ?_
  rintro e y ⟨rfl, rfl⟩
  go_wp2_with fail
  go_ret
  exact ⟨rfl, rfl⟩
/-- What last answers. -/
def LastPost (x : World) (ls : List Int) (a n : Int) (e : Ending) (y : World) : Prop := ∃ o : Option Nat, e = .returned (.tuple #[.int .i64 ((o.getD 0 : Nat) : Int), .bool o.isSome]) ∧ LastP ls a n o ∧ Kept [] x y
set_option maxRecDepth 100000 in
set_option maxHeartbeats 4000000 in
theorem last_own (h : Obj2 w x s c d) (a n : Int) (ha : I64 a) (hn : I64 n) : Calls Tryd.prog 31 #[.pointer (some ⟨s.p, 0, none⟩), .int .i64 a, .int .i64 n] x (LastPost x (ages c d) a n) := by
  have hf := h.few
  have hdl := h.len
  have hfd : d.length ≤ 65536 := by omega
  have c0 := h.c0
  have C0 := Lib.hid (fun y (k : Kept [] x y) => (h.keep0 k).c0)
  have C1 := Lib.hid (fun y (k : Kept [] x y) => (h.keep0 k).c1)
  have N0 := Lib.hid (fun y (k : Kept [] x y) => Bt.count_ok c s.p0 s.q0 y (h.r0.keep0 k) a n ha.1 ha.2 hn.1 hn.2)
  have N1 := Lib.hid (fun y (k : Kept [] x y) => Bt.count_ok d s.p1 s.q1 y (h.r1.keep0 k) a n ha.1 ha.2 hn.1 hn.2)
  have P0 := Lib.hid (fun y (k : Kept [] x y) (h1 : I64 (a + n - 1)) => Bt.prev_ok c s.p0 s.q0 y (h.r0.keep0 k) (a + n - 1) h1.1 h1.2)
  have P1 := Lib.hid (fun y (k : Kept [] x y) (h1 : I64 (a + n - 1)) => Bt.prev_ok d s.p1 s.q1 y (h.r1.keep0 k) (a + n - 1) h1.1 h1.2)
  have R0n := Lib.hid (row_no (c := c) (a := a) (n := n))
  have R0y := Lib.hid (row_yes (c := c) (a := a) (n := n))
  have R1n := Lib.hid (row_no (c := d) (a := a) (n := n))
  have R1y := Lib.hid (row_yes (c := d) (a := a) (n := n))
  have HB := Lib.hid (fun (o u : Option Nat) => last_both (c := c) (d := d) hdl (a := a) (n := n) (o := o) (u := u))
  clear h hdl
  unfold I64 at ha hn
  generalize hk0 : cntI c a n = m0 at *
  generalize hk1 : cntI d a n = m1 at *
  generalize Bt.errOf (within c.length a n) = e0 at *
  generalize Bt.errOf (within d.length a n) = e1 at *
  clear hk0 hk1
  have K0 : Hid (Kept [] x x) := Lib.hid (Kept.refl _ _)
  go_enter Tryd.func31, Tryd.ntmps31
  go_wp2_with fail
  refine wp_loop_rounds 3 ?_
  rw [rounds_succ]
  go_wp2_with fail
  refine (N0.out _ K0.out).mono ?_
  rintro e y0 ⟨rfl, k⟩
  have K1 := Lib.hid (K0.out.trans k)
  have d0 := C0.out _ K1.out
  clear k c0
  by_cases h0 : 0 < m0
  · obtain ⟨g0, hp, hr⟩ := R0y.out h0
    have hw := hr.1
    obtain ⟨w1, w2, w3⟩ := (Bt.within_iff _ _ _).1 hw
    have HR0 := Lib.hid hr
    have HP : Hid (Calls Tryd.prog 38 #[.pointer (some ⟨s.p0, 0, none⟩), .int .i64 (a + n - 1)] y0 fun e w' => e = .returned (.tuple #[.int .i64 (g0 : Int), .bool true]) ∧ Kept [] y0 w') := Lib.hid (by
      have := P0.out _ K1.out (by unfold I64; omega)
      rw [hp] at this
      exact this)
    clear hp hr hw
    go_wp2_with fail
    refine HP.out.mono ?_
    rintro e z0 ⟨rfl, k⟩
    have KK1 := Lib.hid (K1.out.trans k)
    clear k HP K1 d0
    have c1 := C1.out _ KK1.out
    have hmx : max (0 : Int) (g0 : Int) = (g0 : Int) := by omega
    go_wp2_with fail
    rw [rounds_succ]
    go_wp2_with fail
    refine (N1.out _ KK1.out).mono ?_
    rintro e y1 ⟨rfl, k⟩
    have K2 := Lib.hid (KK1.out.trans k)
    have d1 := C1.out _ K2.out
    clear k c1
    by_cases h1 : 0 < m1
    · obtain ⟨g1, hp, hr⟩ := R1y.out h1
      have hw := hr.1
      obtain ⟨w1, w2, w3⟩ := (Bt.within_iff _ _ _).1 hw
      have HR1 := Lib.hid hr
      have HP : Hid (Calls Tryd.prog 38 #[.pointer (some ⟨s.p1, 0, none⟩), .int .i64 (a + n - 1)] y1 fun e w' => e = .returned (.tuple #[.int .i64 (g1 : Int), .bool true]) ∧ Kept [] y1 w') := Lib.hid (by
        have := P1.out _ K2.out (by unfold I64; omega)
        rw [hp] at this
        exact this)
      clear hp hr hw
      go_wp2_with fail
      refine HP.out.mono ?_
      rintro e z1 ⟨rfl, k⟩
      have KK2 := Lib.hid (K2.out.trans k)
      clear k HP K2 d1
      have HF := Lib.hid (HB.out _ _ HR0.out HR1.out)
      have hmy : max (g0 : Int) (g1 : Int) = ((max g0 g1 : Nat) : Int) := by omega
      clear R0n R0y R1n R1y HB N0 N1 P0 P1 C0 C1
      go_wp2_with fail
      rw [rounds_succ]
      go_wp2_with fail
      go_ret2
      exact ⟨(some (max g0 g1)), rfl, HF.out, KK2.out⟩
    · have HR1 := Lib.hid (R1n.out (by omega))
      clear d1
      have HF := Lib.hid (HB.out _ _ HR0.out HR1.out)
      clear R0n R0y R1n R1y HB N0 N1 P0 P1 C0 C1
      go_wp2_with fail
      rw [rounds_succ]
      go_wp2_with fail
      go_ret2
      exact ⟨(some g0), rfl, HF.out, K2.out⟩
  · have HR0 := Lib.hid (R0n.out (by omega))
    clear d0
    have c1 := C1.out _ K1.out
    go_wp2_with fail
    rw [rounds_succ]
    go_wp2_with fail
    refine (N1.out _ K1.out).mono ?_
    rintro e y1 ⟨rfl, k⟩
    have K2 := Lib.hid (K1.out.trans k)
    have d1 := C1.out _ K2.out
    clear k c1
    by_cases h1 : 0 < m1
    · obtain ⟨g1, hp, hr⟩ := R1y.out h1
      have hw := hr.1
      obtain ⟨w1, w2, w3⟩ := (Bt.within_iff _ _ _).1 hw
      have HR1 := Lib.hid hr
      have HP : Hid (Calls Tryd.prog 38 #[.pointer (some ⟨s.p1, 0, none⟩), .int .i64 (a + n - 1)] y1 fun e w' => e = .returned (.tuple #[.int .i64 (g1 : Int), .bool true]) ∧ Kept [] y1 w') := Lib.hid (by
        have := P1.out _ K2.out (by unfold I64; omega)
        rw [hp] at this
        exact this)
      clear hp hr hw
      go_wp2_with fail
      refine HP.out.mono ?_
      rintro e z1 ⟨rfl, k⟩
      have KK2 := Lib.hid (K2.out.trans k)
      clear k HP K2 d1
      have HF := Lib.hid (HB.out _ _ HR0.out HR1.out)
      have hmy : max (0 : Int) (g1 : Int) = (g1 : Int) := by omega
      clear R0n R0y R1n R1y HB N0 N1 P0 P1 C0 C1
      go_wp2_with fail
      rw [rounds_succ]
      go_wp2_with fail
      go_ret2
      exact ⟨(some g1), rfl, HF.out, KK2.out⟩
    · have HR1 := Lib.hid (R1n.out (by omega))
      clear d1
      have HF := Lib.hid (HB.out _ _ HR0.out HR1.out)
      clear R0n R0y R1n R1y HB N0 N1 P0 P1 C0 C1
      go_wp2_with fail
      rw [rounds_succ]
      go_wp2_with fail
      go_ret2
      exact ⟨none, rfl, HF.out, K2.out⟩
theorem has_own (h : Obj2 w x s c d) (g : Int) (hg : I64 g) : Calls Tryd.prog 19 #[.pointer (some ⟨s.p, 0, none⟩), .int .i64 g] x fun e y => e = .returned (.bool (hasL (ages c d) g)) ∧ Kept [] x y := by
  have HL := Lib.hid (last_own h g 1 hg (by unfold I64; omega))
  clear h
  go_enter Tryd.func19, Tryd.ntmps19
  go_wp2_with fail
  refine HL.out.mono ?_
  rintro e y ⟨o, rfl, hl, k⟩
  have K := Lib.hid k
  have HS := Lib.hid (last_has hl)
  clear hl k HL
  go_wp2_with fail
  go_ret
  rw [← HS.out]
  exact ⟨rfl, K.out⟩
end
end Go.Proofs.YtijlaganpnoefaaDoor.Bk

/-
  Stage 12, black: the program's list: New, Copy.
-/
namespace Go.Proofs.YtijlaganpnoefaaDoor.Bk
open Go.RowKit Go.Proofs.YtijlaganpnoefaaDoor.Ar
open Go.Proofs.YtijlaganpnoefaaDoor.Bt (Bv hasV)
set_option linter.unusedVariables false
section
variable {w x y z : World} {s : Bs} {c d : List Bool}
theorem new_no12 (n : Int) (h : n < 0 ∨ 65536 < n) (x : World) : Calls Tryd.prog 9 #[.int .i64 n] x fun e y => e = .returned (.tuple #[.pointer none, .int .i64 2]) ∧ Kept [] x y := by
  have k0 : Kept [] x (x.alloc (.cells #[.pointer none, .pointer none] 50)) := (Kept.refl [] x).alloc _
  have HN := Lib.hid (Bt.new_no n h (x.alloc (.cells #[.pointer none, .pointer none] 50)))
  have K := Lib.hid k0
  clear k0 h
  go_enter Tryd.func9, Tryd.ntmps9
  go_wp2_with fail
  refine wp_loop_rounds 1 ?_
  rw [rounds_succ]
  go_wp2_with fail
  refine HN.out.mono ?_
  rintro e y ⟨rfl, rfl⟩
  go_wp2_with fail
  go_ret2
  exact ⟨rfl, K.out⟩
/-- Both rows have come into a new list. -/
theorem Obj2.made (hw : Kept [] w x) {p p0 q0 p1 q1 : Nat} (hh : Has y p 50 [.pointer (some ⟨p0, 0, none⟩), .pointer (some ⟨p1, 0, none⟩)]) (h0 : Bv y p0 q0 c) (h1 : Bv y p1 q1 d) (k : Kept [] x y) (hl : d.length = c.length) (hf : c.length ≤ 65536) (hne : q0 ≠ q1)
    (ha : ∀ i ∈ (Bs.mk p p0 q0 p1 q1).all, x.heap.size ≤ i) : Obj2 w y ⟨p, p0, q0, p1, q1⟩ c d :=
  ⟨hh, h0, h1, hl, hf, hne, fun i hi => by have := ha i hi; have := hw.more; omega, hw.trans k⟩
set_option maxRecDepth 100000 in
set_option maxHeartbeats 4000000 in
theorem new_yes12 (n : Nat) (hn : n ≤ 65536) (hw : Kept [] w x) : Calls Tryd.prog 9 #[.int .i64 n] x fun e y => ∃ s, e = .returned (.tuple #[.pointer (some ⟨s.p, 0, none⟩), .int .i64 0]) ∧ Obj2 w y s (List.replicate n false) (List.replicate n false) ∧ Kept [] x y ∧ ∀ i ∈ s.all, x.heap.size ≤ i := by
  have k0 : Kept [] x (x.alloc (.cells #[.pointer none, .pointer none] 50)) := (Kept.refl [] x).alloc _
  have hd0 : Has (x.alloc (.cells #[.pointer none, .pointer none] 50)) x.heap.size 50 [.pointer none, .pointer none] := Has.new x _ _
  have hs0 : (x.alloc (.cells #[.pointer none, .pointer none] 50)).heap.size = x.heap.size + 1 := by simp
  have HW := Lib.hid hw
  clear hw
  go_enter Tryd.func9, Tryd.ntmps9
  go_wp2_with fail
  generalize x.alloc (.cells #[.pointer none, .pointer none] 50) = x0 at *
  have HN0 := Lib.hid (Bt.newBv_ok n hn x0)
  have K0 := Lib.hid k0
  have HD0 := Lib.hid hd0
  have HS0 := Lib.hid hs0
  clear k0 hd0 hs0
  generalize hp : x.heap.size = p at *
  refine wp_loop_rounds 3 ?_
  rw [rounds_succ]
  go_wp2_with fail
  refine HN0.out.mono ?_
  rintro e x1 ⟨rfl, hv, k1⟩
  have hd1 := HD0.out.kept k1 (by simp)
  have f0 := hd1.free 0
  have c0 := hd1.cell 0
  simp only [List.getElem?_cons_zero] at c0
  have HV1 := Lib.hid hv
  have HD1 := Lib.hid hd1
  have K1 := Lib.hid k1
  clear hv hd1 k1 HN0 HD0
  generalize hp0 : x0.heap.size + 1 = p0 at *
  generalize hq0 : x0.heap.size = q0 at *
  go_wp2_with fail
  have hd2 : Has (x1.setCell ⟨p, 0, none⟩ (.pointer (some ⟨p0, 0, none⟩))) p 50 [.pointer (some ⟨p0, 0, none⟩), .pointer none] := HD1.out.put 0 (.pointer (some ⟨p0, 0, none⟩))
  have k2 : Kept [p] x1 (x1.setCell ⟨p, 0, none⟩ (.pointer (some ⟨p0, 0, none⟩))) := (Kept.refl _ _).setCell _ _ (.inl (by simp))
  have hd2 : Has (x1.setCell ⟨p, 0, none⟩ (.pointer (some ⟨p0, 0, none⟩))) p 50 [.pointer (some ⟨p0, 0, none⟩), .pointer none] := HD1.out.put 0 (.pointer (some ⟨p0, 0, none⟩))
  have k2 : Kept [p] x1 (x1.setCell ⟨p, 0, none⟩ (.pointer (some ⟨p0, 0, none⟩))) := (Kept.refl _ _).setCell _ _ (.inl (by simp))
  have HD2 := Lib.hid hd2
  have K2 := Lib.hid k2
  clear hd2 k2 HD1 c0 f0
  generalize x1.setCell ⟨p, 0, none⟩ (.pointer (some ⟨p0, 0, none⟩)) = x2 at *
  have HN1 := Lib.hid (Bt.newBv_ok n hn x2)
  rw [rounds_succ]
  go_wp2_with fail
  refine HN1.out.mono ?_
  rintro e x3 ⟨rfl, hv, k3⟩
  have hd3 := HD2.out.kept k3 (by simp)
  have f1 := hd3.free 1
  have c1 := hd3.cell 1
  simp only [List.getElem?_cons_succ, List.getElem?_cons_zero] at c1
  have HV3 := Lib.hid hv
  have HD3 := Lib.hid hd3
  have K3 := Lib.hid k3
  clear hv hd3 k3 HN1 HD2
  generalize hp1 : x2.heap.size + 1 = p1 at *
  generalize hq1 : x2.heap.size = q1 at *
  go_wp2_with fail
  have hd4 : Has (x3.setCell ⟨p, 1, none⟩ (.pointer (some ⟨p1, 0, none⟩))) p 50 [.pointer (some ⟨p0, 0, none⟩), .pointer (some ⟨p1, 0, none⟩)] := HD3.out.put 1 (.pointer (some ⟨p1, 0, none⟩))
  have k4 : Kept [p] x3 (x3.setCell ⟨p, 1, none⟩ (.pointer (some ⟨p1, 0, none⟩))) := (Kept.refl _ _).setCell _ _ (.inl (by simp))
  have hs := HS0.out
  have hlt := (vec_lt HV1.out).2
  have h21 := K2.out.more
  have kA : Kept [p] x0 (x3.setCell ⟨p, 1, none⟩ (.pointer (some ⟨p1, 0, none⟩))) := ((K1.out.none [p]).trans K2.out).trans ((K3.out.none [p]).trans k4)
  have HFin : Hid (Obj2 w (x3.setCell ⟨p, 1, none⟩ (.pointer (some ⟨p1, 0, none⟩))) ⟨p, p0, q0, p1, q1⟩ (List.replicate n false) (List.replicate n false) ∧ Kept [] x (x3.setCell ⟨p, 1, none⟩ (.pointer (some ⟨p1, 0, none⟩))) ∧ ∀ i ∈ (Bs.mk p p0 q0 p1 q1).all, x.heap.size ≤ i) := Lib.hid (by
    have hall : ∀ i ∈ (Bs.mk p p0 q0 p1 q1).all, x.heap.size ≤ i := fun i hi => by
      unfold Bs.all at hi
      simp only [List.mem_cons, List.not_mem_nil, or_false] at hi
      omega
    have kx : Kept [] x (x3.setCell ⟨p, 1, none⟩ (.pointer (some ⟨p1, 0, none⟩))) := K0.out.forget kA fun i hi => by rw [List.mem_singleton.1 hi]; omega
    exact ⟨Obj2.made HW.out hd4 (((HV1.out.kept K2.out (by simp; omega) (by simp; omega)).keep0 K3.out).kept k4 (by simp; omega) (by simp; omega)) (HV3.out.kept k4 (by simp; omega) (by simp; omega)) kx rfl (by rw [List.length_replicate]; exact hn) (by omega) hall, kx, hall⟩)
  clear hd4 k4 kA HV3 HV1 HD3 K3 K2 K1 K0 HW c1 f1
  rw [rounds_succ]
  go_wp2_with fail
  go_ret2
  exact ⟨⟨p, p0, q0, p1, q1⟩, rfl, HFin.out⟩
set_option maxRecDepth 100000 in
set_option maxHeartbeats 4000000 in
theorem copy_own (h : Obj2 w x s c d) : Calls Tryd.prog 12 #[.pointer (some ⟨s.p, 0, none⟩)] x fun e y => ∃ t, e = .returned (.pointer (some ⟨t.p, 0, none⟩)) ∧ Obj2 w y t c d ∧ Kept [] x y ∧ ∀ i ∈ t.all, x.heap.size ≤ i := by
  have k0 : Kept [] x (x.alloc (.cells #[.pointer none, .pointer none] 50)) := (Kept.refl [] x).alloc _
  have hd0 : Has (x.alloc (.cells #[.pointer none, .pointer none] 50)) x.heap.size 50 [.pointer none, .pointer none] := Has.new x _ _
  have hs0 : (x.alloc (.cells #[.pointer none, .pointer none] 50)).heap.size = x.heap.size + 1 := by simp
  have hlt := h.lt
  have HO := Lib.hid h
  clear h
  go_enter Tryd.func12, Tryd.ntmps12
  go_wp2_with fail
  generalize x.alloc (.cells #[.pointer none, .pointer none] 50) = x0 at *
  have HO0 := Lib.hid (HO.out.keep0 k0)
  have K0 := Lib.hid k0
  have HD0 := Lib.hid hd0
  have HS0 := Lib.hid hs0
  have c0 := HO0.out.c0
  clear k0 hd0 hs0 hlt
  generalize hp : x.heap.size = p at *
  have CA : Hid (∀ y, Kept [] x0 y → Calls Tryd.prog 26 #[.pointer (some ⟨s.p0, 0, none⟩)] y fun e z => ∃ g, e = .returned (.pointer (some ⟨g + 1, 0, none⟩)) ∧ Hid (Bv z (g + 1) g c ∧ Kept [] x0 z ∧ x0.heap.size ≤ g) ∧ z.cell? ⟨p, 0, none⟩ = some (.pointer none) ∧ z.frozen? ⟨p, 0, none⟩ = false) := Lib.hid fun y k => by
    refine (Bt.copy_ok c s.p0 s.q0 y (HO0.out.r0.keep0 k)).mono ?_
    rintro e z ⟨he, hv, kz⟩
    have hd := HD0.out.kept (k.trans kz) (by simp)
    exact ⟨_, he, Lib.hid ⟨hv, k.trans kz, k.more⟩, hd.cell 0, hd.free 0⟩
  go_wp2_with fail
  refine wp_loop_rounds 3 ?_
  rw [rounds_succ]
  go_wp2_with fail
  go_region_with (first | (go_at_call 26; refine (CA.out _ ?_).mono ?_; (first | exact Kept.refl _ _ | exact (Kept.refl _ _).drew | exact (Kept.refl _ _).drewN _); rintro e x1 ⟨g, rfl, h1, d0, f0⟩))
  all_goals
    have hd2 : Has (x1.setCell ⟨p, 0, none⟩ (.pointer (some ⟨g + 1, 0, none⟩))) p 50 [.pointer (some ⟨g + 1, 0, none⟩), .pointer none] := (HD0.out.kept h1.out.2.1 (by simp)).put 0 (.pointer (some ⟨g + 1, 0, none⟩))
    have k2 : Kept [p] x1 (x1.setCell ⟨p, 0, none⟩ (.pointer (some ⟨g + 1, 0, none⟩))) := (Kept.refl _ _).setCell _ _ (.inl (by simp))
    have hs := HS0.out
    have hgp := h1.out.2.2
    have hV1 := h1.out.1.kept k2 (by simp; omega) (by simp; omega)
    have hk2 : Kept [p] x0 (x1.setCell ⟨p, 0, none⟩ (.pointer (some ⟨g + 1, 0, none⟩))) := (h1.out.2.1.none [p]).trans k2
    have hspp : s.p ≠ p := by
      have := HO.out.lt s.p (by simp [Bs.all])
      omega
    have hO2 : Obj2 w (x1.setCell ⟨p, 0, none⟩ (.pointer (some ⟨g + 1, 0, none⟩))) s c d := HO0.out.kept hk2 (fun i hi => by have := HO.out.lt i hi; simp; omega) (fun i hi => by rw [List.mem_singleton.1 hi]; have := HO.out.start.more; omega)
    have c1 := hO2.c1
    have hg1 := (vec_lt hV1).1
    have HD2 := Lib.hid hd2
    have HV1 := Lib.hid hV1
    have HK2 := Lib.hid hk2
    have HO2 := Lib.hid hO2
    clear hd2 k2 hV1 hk2 hO2 h1 d0 f0 c0 CA HD0 HO0
    generalize x1.setCell ⟨p, 0, none⟩ (.pointer (some ⟨g + 1, 0, none⟩)) = x2 at *
    have CB : Hid (∀ y, Kept [] x2 y → Calls Tryd.prog 26 #[.pointer (some ⟨s.p1, 0, none⟩)] y fun e z => ∃ g', e = .returned (.pointer (some ⟨g' + 1, 0, none⟩)) ∧ Hid (Bv z (g' + 1) g' d ∧ Kept [] x2 z ∧ x2.heap.size ≤ g') ∧ z.cell? ⟨p, 1, none⟩ = some (.pointer none) ∧ z.frozen? ⟨p, 1, none⟩ = false) := Lib.hid fun y k => by
      refine (Bt.copy_ok d s.p1 s.q1 y (HO2.out.r1.keep0 k)).mono ?_
      rintro e z ⟨he, hv, kz⟩
      have hd := HD2.out.kept (k.trans kz) (by simp)
      exact ⟨_, he, Lib.hid ⟨hv, k.trans kz, k.more⟩, hd.cell 1, hd.free 1⟩
    go_wp2_with fail
    rw [rounds_succ]
    go_wp2_with fail
    go_region_with (first | (go_at_call 26; refine (CB.out _ ?_).mono ?_; (first | exact Kept.refl _ _ | exact (Kept.refl _ _).drew | exact (Kept.refl _ _).drewN _); rintro e x3 ⟨g', rfl, h3, d1, f1⟩))
    all_goals
      have hd4 : Has (x3.setCell ⟨p, 1, none⟩ (.pointer (some ⟨g' + 1, 0, none⟩))) p 50 [.pointer (some ⟨g + 1, 0, none⟩), .pointer (some ⟨g' + 1, 0, none⟩)] := (HD2.out.kept h3.out.2.1 (by simp)).put 1 (.pointer (some ⟨g' + 1, 0, none⟩))
      have k4 : Kept [p] x3 (x3.setCell ⟨p, 1, none⟩ (.pointer (some ⟨g' + 1, 0, none⟩))) := (Kept.refl _ _).setCell _ _ (.inl (by simp))
      have hgq := h3.out.2.2
      have HFin : Hid (Obj2 w (x3.setCell ⟨p, 1, none⟩ (.pointer (some ⟨g' + 1, 0, none⟩))) ⟨p, g + 1, g, g' + 1, g'⟩ c d ∧ Kept [] x (x3.setCell ⟨p, 1, none⟩ (.pointer (some ⟨g' + 1, 0, none⟩))) ∧ ∀ i ∈ (Bs.mk p (g + 1) g (g' + 1) g').all, x.heap.size ≤ i) := Lib.hid (by
        have hall : ∀ i ∈ (Bs.mk p (g + 1) g (g' + 1) g').all, x.heap.size ≤ i := fun i hi => by
          unfold Bs.all at hi
          simp only [List.mem_cons, List.not_mem_nil, or_false] at hi
          omega
        have kx : Kept [] x (x3.setCell ⟨p, 1, none⟩ (.pointer (some ⟨g' + 1, 0, none⟩))) := K0.out.forget (HK2.out.trans ((h3.out.2.1.none [p]).trans k4)) fun i hi => by rw [List.mem_singleton.1 hi]; omega
        exact ⟨Obj2.made HO.out.start hd4 ((HV1.out.keep0 h3.out.2.1).kept k4 (by simp; omega) (by simp; omega)) (h3.out.1.kept k4 (by simp; omega) (by simp; omega)) kx HO.out.len HO.out.few (by omega) hall, kx, hall⟩)
      clear hd4 k4 h3 d1 f1 c1 CB HO2 HK2 HV1 HD2 HO K0
      go_wp2_with fail
      rw [rounds_succ]
      go_wp2_with fail
      go_ret
      exact ⟨⟨p, g + 1, g, g' + 1, g'⟩, rfl, HFin.out⟩
end
end Go.Proofs.YtijlaganpnoefaaDoor.Bk

/-
  Stage 12, black: the program's list: Hit.
-/
namespace Go.Proofs.YtijlaganpnoefaaDoor.Bk
open Go.RowKit Go.Proofs.YtijlaganpnoefaaDoor.Ar
open Go.Proofs.YtijlaganpnoefaaDoor.Bt (Bv hasV)
set_option linter.unusedVariables false
section
variable {w x y z : World} {s : Bs} {c d : List Bool}
set_option maxRecDepth 100000 in
set_option maxHeartbeats 8000000 in
theorem hit_own (h : Obj2 w x s c d) {A : Option Addr} {cap : Nat} (gs : List Int) (hG : ∀ y, Kept [s.q0] x y → Ir.Seen y A gs) (hlen : gs.length ≤ 1000000) (hI : ∀ g ∈ gs, I64 g) :
    Calls Tryd.prog 13 #[.pointer (some ⟨s.p, 0, none⟩), .slice A gs.length cap] x fun e y => e = .returned (.int .i64 (hitE c.length gs)) ∧ ∃ c', Obj2 w y s c' d ∧ ages c' d = hitL (ages c d) gs ∧ Kept [s.q0] x y := by
  have hf := h.few
  have HB := Lib.hid h
  have HG := Lib.hid hG
  have HI := Lib.hid hI
  have H0 : Hid (inAll c.length (gs.take 0) = true) := Lib.hid rfl
  have HLn := Lib.hid (fun y (k : Kept [] x y) => len_own (h.keep0 k))
  have hno : inAll c.length gs = false → hitE c.length gs = 2 ∧ hitL (ages c d) gs = ages c d := fun e => by have := hit_no (ls := ages c d) (gs := gs) (by rw [ages_length]; exact e); rw [ages_length] at this; exact this
  have hyes : inAll c.length gs = true → hitE c.length gs = 0 ∧ hitL (ages c d) gs = hitAll (ages c d) gs := fun e => by have := hit_yes (ls := ages c d) (gs := gs) (by rw [ages_length]; exact e); rw [ages_length] at this; exact this
  have HNo := Lib.hid hno
  have HYes := Lib.hid hyes
  clear h hG hI hno hyes
  go_enter Tryd.func13, Tryd.ntmps13
  go_wp2_with fail
  go_loopw [13] (fun t wr => ∃ j : Nat, t = .int .i64 (j : Int) ∧ j ≤ gs.length ∧ Hid (inAll c.length (gs.take j) = true) ∧ Hid (Kept [] x wr)) (fun t _ => gs.length - (intOf t).toNat)
  case atStart => exact ⟨0, rfl, Nat.zero_le _, H0, Lib.hid (Kept.refl _ _)⟩
  case round =>
    clear H0
    obtain ⟨j, rfl, hj, hr, hk⟩ := hrel
    by_cases hlt : j < gs.length
    · obtain ⟨g0, f0, rfl, hc⟩ := (HG.out wr (hk.out.none _)).cells (by intro e; simp [e] at hlt)
      have ct := hc j hlt
      have HL := Lib.hid (HLn.out wr hk.out)
      have hm := num_mem hlt
      have hsn := inAll_snoc c.length (gs.take j) (gs.getD j 0)
      rw [← take_snoc hlt, hr.out, Bool.true_and] at hsn
      clear hc
      generalize gs.getD j 0 = g at *
      by_cases h0 : g < 0
      · have HN := Lib.hid (HNo.out (inAll_no hm (by omega)))
        clear hsn hm hr HNo HYes
        go_wp2_with fail
        go_ret
        rw [HN.out.1, HN.out.2]
        exact ⟨rfl, c, HB.out.keep0 hk.out, rfl, hk.out.none _⟩
      · by_cases h1 : g < (c.length : Int)
        · have HN : Hid (inAll c.length (gs.take (j + 1)) = true) := Lib.hid (by rw [hsn]; exact decide_eq_true ⟨by omega, h1⟩)
          clear hsn hm hr
          go_wp2_with fail
          refine HL.out.mono ?_
          rintro e y ⟨rfl, rfl⟩
          go_wp2_with fail
          go_roundw
          case rel => exact ⟨j + 1, by go_num, by omega, HN, hk⟩
          case measure => simp [intOf] <;> omega
        · have HN := Lib.hid (HNo.out (inAll_no hm (by omega)))
          clear hsn hm hr HNo HYes
          go_wp2_with fail
          refine HL.out.mono ?_
          rintro e y ⟨rfl, rfl⟩
          go_wp2_with fail
          go_ret
          rw [HN.out.1, HN.out.2]
          exact ⟨rfl, c, HB.out.keep0 hk.out, rfl, hk.out.none _⟩
    · obtain rfl : j = gs.length := by omega
      have hr1 := hr.out
      rw [List.take_length] at hr1
      have HA := Lib.hid hr1
      have HY := Lib.hid (HYes.out hr1)
      have H1 : Hid (∃ c', Obj2 w wr s c' d ∧ ages c' d = hitAll (ages c d) (gs.take 0) ∧ c'.length = c.length ∧ Kept [s.q0] x wr) := Lib.hid ⟨c, HB.out.keep0 hk.out, rfl, rfl, hk.out.none _⟩
      clear hr hr1 hk HNo HYes HLn
      go_wp2_with fail
      go_loopw [28] (fun t wi => ∃ k : Nat, t = .int .i64 (k : Int) ∧ k ≤ gs.length ∧ Hid (∃ c', Obj2 w wi s c' d ∧ ages c' d = hitAll (ages c d) (gs.take k) ∧ c'.length = c.length ∧ Kept [s.q0] x wi)) (fun t _ => gs.length - (intOf t).toNat)
      case atStart => exact ⟨0, rfl, Nat.zero_le _, H1⟩
      case round =>
        clear H1
        obtain ⟨k, rfl, hk, hi⟩ := hrel
        by_cases hkt : k < gs.length
        · obtain ⟨c', hO, hag, hcl, hkx⟩ := hi.out
          obtain ⟨g0, f0, rfl, hc⟩ := (HG.out wr hkx).cells (by intro e; simp [e] at hkt)
          have ct := hc k hkt
          have c0 := hO.c0
          have hin := inAll_mem HA.out (num_mem hkt)
          have hsn := hitAll_snoc (ages c d) (gs.take k) (gs.getD k 0)
          rw [← take_snoc hkt, ← hag, ← ages_set c' d (by omega), ← layB_one (c := c') (by omega)] at hsn
          have hi64 := HI.out _ (num_mem hkt)
          have HSet := Lib.hid (Bt.set_ok c' s.p0 s.q0 wr hO.r0 (gs.getD k 0) hi64.1 hi64.2)
          have hll : (Bt.layB c' (gs.getD k 0) 1 true).length = c'.length := Bt.layB_length _ _ _ _
          have HO := Lib.hid hO
          have HKx := Lib.hid hkx
          have HSn := Lib.hid hsn
          clear hc hO hag hkx hsn hi hin hi64
          generalize Bt.layB c' (gs.getD k 0) 1 true = c2 at *
          generalize Bt.errOf _ = er at *
          generalize gs.getD k 0 = g at *
          go_wp2_with fail
          refine HSet.out.mono ?_
          rintro e y ⟨rfl, hb, ky⟩
          have HN : Hid (∃ c', Obj2 w y s c' d ∧ ages c' d = hitAll (ages c d) (gs.take (k + 1)) ∧ c'.length = c.length ∧ Kept [s.q0] x y) := Lib.hid ⟨c2, HO.out.set0 hll hb ky, HSn.out.symm, hll.trans hcl, HKx.out.trans ky⟩
          clear hb ky HSet HO HKx HSn ct c0
          go_wp2_with fail
          go_roundw
          case rel => exact ⟨k + 1, by go_num, by omega, HN⟩
          case measure => simp [intOf] <;> omega
        · obtain rfl : k = gs.length := by omega
          obtain ⟨c', hO, hag, hcl, hkx⟩ := hi.out
          rw [List.take_length] at hag
          have HO : Hid (Obj2 w wr s c' d ∧ ages c' d = hitAll (ages c d) gs ∧ Kept [s.q0] x wr) := Lib.hid ⟨hO, hag, hkx⟩
          clear hO hag hkx hi
          go_wp2_with fail
          go_ret
          rw [HY.out.1, HY.out.2]
          exact ⟨rfl, c', HO.out.1, HO.out.2.1, HO.out.2.2⟩
end
end Go.Proofs.YtijlaganpnoefaaDoor.Bk

/-
  Stage 12, black: what both rows of bits tell together, in numbers: the runs of each laid into one row, the granules of the runs in order, the last one that is black.
-/
namespace Go.Proofs.YtijlaganpnoefaaDoor.Bk
open Go.RowKit Go.Proofs.YtijlaganpnoefaaDoor.Ar
open Go.Proofs.YtijlaganpnoefaaDoor.Bt (bit bit_out bit_ext laid laid_length laid_bit layB layB_length runsTo runsV runsTo_clear runsTo_set nextO nextO_some nextO_none endV endV_spec cnt within)
set_option linter.unusedVariables false

/-- From the bit e on, the runs l are what is set. -/
def Chain (bs : List Bool) : Nat → List (Nat × Nat) → Prop
  | e, [] => ∀ j, e ≤ j → j < bs.length → bit bs j = false
  | e, r :: l => e ≤ r.1 ∧ 1 ≤ r.2 ∧ r.1 + r.2 ≤ bs.length ∧ (∀ j, e ≤ j → j < r.1 → bit bs j = false) ∧ (∀ j, r.1 ≤ j → j < r.1 + r.2 → bit bs j = true) ∧ bit bs (r.1 + r.2) = false ∧ Chain bs (r.1 + r.2) l
theorem chain_from (bs : List Bool) : ∀ m e, bs.length - e < m → e ≤ bs.length → (e = 0 ∨ bit bs e = false) → ∃ l, runsV bs = runsTo bs e ++ l ∧ Chain bs e l
  | 0, e, h, _, _ => by omega
  | m + 1, e, h, he, hb => by
    cases hx : nextO bs (e : Int) true with
    | none =>
      have hz := nextO_none hx
      exact ⟨[], by rw [List.append_nil]; exact runsTo_clear he hz, hz⟩
    | some x =>
      obtain ⟨h1, h2, h3, h4⟩ := nextO_some hx
      obtain ⟨f1, f2, f3, f4⟩ := endV_spec h2 h3
      generalize endV bs x = f at *
      have hpre : x = 0 ∨ bit bs (x - 1) = false := by
        by_cases hxe : x = e
        · subst hxe
          rcases hb with hb | hb
          · exact .inl hb
          · rw [hb] at h3; cases h3
        · exact .inr (h4 (x - 1) (by omega) (by omega))
      obtain ⟨l, hl, hc⟩ := chain_from bs m f (by omega) f2 (.inr f3)
      refine ⟨(x, f - x) :: l, ?_, h1, by show 1 ≤ f - x; omega, by show x + (f - x) ≤ _; omega, h4, fun j j1 j2 => f4 j j1 (by have : j < x + (f - x) := j2; omega), ?_, ?_⟩
      · rw [hl, runsTo_set f1 hpre f4, runsTo_clear h1 h4, List.append_assoc]
        rfl
      · show bit bs (x + (f - x)) = false
        rw [show x + (f - x) = f by omega]
        exact f3
      · show Chain bs (x + (f - x)) l
        rw [show x + (f - x) = f by omega]
        exact hc
theorem chain_runs (bs : List Bool) : Chain bs 0 (runsV bs) := by
  obtain ⟨l, hl, hc⟩ := chain_from bs (bs.length + 1) 0 (by omega) (Nat.zero_le _) (.inl rfl)
  rw [hl]
  exact hc
theorem chain_mem {bs : List Bool} : ∀ {rs : List (Nat × Nat)} {e : Nat}, Chain bs e rs → ∀ r ∈ rs, 1 ≤ r.2 ∧ r.1 + r.2 ≤ bs.length
  | [], _, _, r, h => by cases h
  | x :: rs, e, ⟨h1, h2, h3, h4, h5, h6, h7⟩, r, h => by
    rcases List.mem_cons.1 h with rfl | h
    · exact ⟨h2, h3⟩
    · exact chain_mem h7 r h
/-- Both rows as one. -/
def orB (c d : List Bool) : List Bool := (List.range c.length).map fun j => bit c j || bit d j
theorem orB_length (c d : List Bool) : (orB c d).length = c.length := by unfold orB; rw [List.length_map, List.length_range]
theorem orB_bit (c d : List Bool) {j : Nat} (h : j < c.length) : bit (orB c d) j = (bit c j || bit d j) := by
  have e : bit (orB c d) j = (orB c d).getD j false := rfl
  rw [e, orB, List.getD_eq_getElem?_getD, List.getElem?_map, List.getElem?_range h]
  rfl
/-- Each of these runs is laid. -/
def layRuns (bs : List Bool) (rs : List (Nat × Nat)) : List Bool := rs.foldl (fun b r => layB b r.1 r.2 true) bs
theorem layRuns_snoc (bs : List Bool) (rs : List (Nat × Nat)) (r : Nat × Nat) : layRuns bs (rs ++ [r]) = layB (layRuns bs rs) r.1 r.2 true := by
  unfold layRuns
  rw [List.foldl_append]
  rfl
theorem layRuns_length : ∀ (rs : List (Nat × Nat)) (bs : List Bool), (layRuns bs rs).length = bs.length
  | [], _ => rfl
  | r :: rs, bs => (layRuns_length rs (layB bs r.1 r.2 true)).trans (layB_length _ _ _ _)
theorem layRuns_bit {d : List Bool} : ∀ {rs : List (Nat × Nat)} {e : Nat} (bs : List Bool), Chain d e rs → d.length = bs.length → ∀ j, j < bs.length → bit (layRuns bs rs) j = (bit bs j || (decide (e ≤ j) && bit d j))
  | [], e, bs, h, hl, j, hj => by
    show bit bs j = _
    by_cases hej : e ≤ j
    · rw [h j hej (by omega), Bool.and_false, Bool.or_false]
    · rw [decide_eq_false hej, Bool.false_and, Bool.or_false]
  | r :: rs, e, bs, ⟨h1, h2, h3, h4, h5, h6, h7⟩, hl, j, hj => by
    have hw : layB bs (r.1 : Int) (r.2 : Int) true = laid bs r.1 r.2 true := by
      unfold Bt.layB
      rw [if_pos ((Bt.within_iff _ _ _).2 (by omega)), Int.toNat_natCast, Int.toNat_natCast]
    show bit (layRuns (layB bs r.1 r.2 true) rs) j = _
    rw [layRuns_bit (layB bs r.1 r.2 true) h7 (by rw [layB_length]; exact hl) j (by rw [layB_length]; exact hj), hw, laid_bit _ _ _ _ j hj]
    by_cases a : j < e
    · rw [if_neg (by omega), decide_eq_false (show ¬ r.1 + r.2 ≤ j by omega), decide_eq_false (show ¬ e ≤ j by omega)]
    · rw [decide_eq_true (show e ≤ j by omega), Bool.true_and]
      by_cases b : j < r.1
      · rw [if_neg (by omega), decide_eq_false (show ¬ r.1 + r.2 ≤ j by omega), h4 j (by omega) b, Bool.false_and]
      · by_cases c : j < r.1 + r.2
        · rw [if_pos (by omega), h5 j (by omega) c, Bool.true_or, Bool.or_true]
        · rw [if_neg (by omega), decide_eq_true (show r.1 + r.2 ≤ j by omega), Bool.true_and]
theorem layRuns_both {c d : List Bool} (hl : d.length = c.length) : layRuns (layRuns (List.replicate c.length false) (runsV c)) (runsV d) = orB c d :=
  bit_ext (by rw [layRuns_length, layRuns_length, orB_length, List.length_replicate]) fun j hj => by
    have h1 : (layRuns (List.replicate c.length false) (runsV c)).length = c.length := by rw [layRuns_length, List.length_replicate]
    rw [layRuns_length, h1] at hj
    rw [layRuns_bit _ (chain_runs d) (by rw [h1]; exact hl) j (by rw [h1]; exact hj), layRuns_bit _ (chain_runs c) (by rw [List.length_replicate]) j (by rw [List.length_replicate]; exact hj), orB_bit c d hj, bit_no]
    simp
/-- The granules of a run; of runs. -/
def flat1 (r : Nat × Nat) : List Int := (List.range r.2).map fun k => ((r.1 + k : Nat) : Int)
def flatR (rs : List (Nat × Nat)) : List Int := rs.flatMap flat1
theorem flatR_snoc (rs : List (Nat × Nat)) (r : Nat × Nat) : flatR (rs ++ [r]) = flatR rs ++ flat1 r := by
  unfold flatR
  rw [List.flatMap_append]
  simp
theorem flatR_append (a b : List (Nat × Nat)) : flatR (a ++ b) = flatR a ++ flatR b := by
  unfold flatR
  exact List.flatMap_append
theorem flat1_len (r : Nat × Nat) : (flat1 r).length = r.2 := by unfold flat1; rw [List.length_map, List.length_range]
theorem take_next {rs : List (Nat × Nat)} {j : Nat} (h : j < rs.length) : rs.take j ++ [rs.getD j (0, 0)] = rs.take (j + 1) := by
  rw [List.getD_eq_getElem?_getD, List.getElem?_eq_getElem h]
  exact (List.take_succ_eq_append_getElem h).symm
theorem flat_bound {rs : List (Nat × Nat)} {j : Nat} (h : j < rs.length) : (flatR (rs.take j)).length + (rs.getD j (0, 0)).2 ≤ (flatR rs).length := by
  have e : flatR rs = flatR (rs.take j) ++ flat1 (rs.getD j (0, 0)) ++ flatR (rs.drop (j + 1)) := by
    rw [← flatR_snoc, take_next h, ← flatR_append, List.take_append_drop]
  rw [e, List.length_append, List.length_append, flat1_len]
  omega
theorem flat1_part (a k : Nat) : ((List.range k).map fun i => ((a + i : Nat) : Int)) ++ [((a + k : Nat) : Int)] = (List.range (k + 1)).map fun i => ((a + i : Nat) : Int) := by
  rw [List.range_succ, List.map_append]
  rfl
/-- Those from e on to f that are so. -/
def blk (f : Nat → Bool) : Nat → Nat → List Int
  | _, 0 => []
  | e, n + 1 => if f e = true then (e : Int) :: blk f (e + 1) n else blk f (e + 1) n
theorem blk_add (f : Nat → Bool) : ∀ (n e m : Nat), blk f e (n + m) = blk f e n ++ blk f (e + n) m
  | 0, e, m => by rw [Nat.zero_add]; rfl
  | n + 1, e, m => by
    rw [show n + 1 + m = (n + m) + 1 by omega]
    show (if f e = true then (e : Int) :: blk f (e + 1) (n + m) else blk f (e + 1) (n + m)) = (if f e = true then (e : Int) :: blk f (e + 1) n else blk f (e + 1) n) ++ _
    rw [blk_add f n (e + 1) m, show e + 1 + n = e + (n + 1) by omega]
    split <;> rfl
theorem blk_no (f : Nat → Bool) : ∀ (n e : Nat), (∀ j, e ≤ j → j < e + n → f j = false) → blk f e n = []
  | 0, _, _ => rfl
  | n + 1, e, h => by
    show (if f e = true then (e : Int) :: blk f (e + 1) n else blk f (e + 1) n) = []
    rw [if_neg (by rw [h e (Nat.le_refl _) (by omega)]; decide)]
    exact blk_no f n (e + 1) fun j h1 h2 => h j (by omega) (by omega)
theorem blk_yes (f : Nat → Bool) : ∀ (n e : Nat), (∀ j, e ≤ j → j < e + n → f j = true) → blk f e n = (List.range n).map fun k => ((e + k : Nat) : Int)
  | 0, _, _ => rfl
  | n + 1, e, h => by
    show (if f e = true then (e : Int) :: blk f (e + 1) n else blk f (e + 1) n) = _
    rw [if_pos (h e (Nat.le_refl _) (by omega)), blk_yes f n (e + 1) fun j h1 h2 => h j (by omega) (by omega), List.range_succ_eq_map, List.map_cons, List.map_map]
    congr 1
    apply List.map_congr_left
    intro k _
    show ((e + 1 + k : Nat) : Int) = ((e + (k + 1) : Nat) : Int)
    omega
theorem blk_length (f : Nat → Bool) : ∀ (n e : Nat), (blk f e n).length = cnt (fun j => f (e + j)) n
  | 0, _ => rfl
  | n + 1, e => by
    rw [blk_add f n e 1, List.length_append, blk_length f n e]
    show _ + (if f (e + n) = true then ((e + n : Nat) : Int) :: [] else []).length = cnt _ n + (f (e + n)).toNat
    cases f (e + n) <;> rfl
theorem flat_chain {bs : List Bool} : ∀ {rs : List (Nat × Nat)} {e : Nat}, Chain bs e rs → e ≤ bs.length → flatR rs = blk (bit bs) e (bs.length - e)
  | [], e, h, he => (blk_no _ _ _ fun j h1 h2 => h j h1 (by omega)).symm
  | r :: rs, e, ⟨h1, h2, h3, h4, h5, h6, h7⟩, he => by
    show flat1 r ++ flatR rs = _
    rw [flat_chain h7 h3, show bs.length - e = (r.1 - e) + (r.2 + (bs.length - (r.1 + r.2))) by omega, blk_add, blk_no _ (r.1 - e) e fun j j1 j2 => h4 j j1 (by omega), List.nil_append, show e + (r.1 - e) = r.1 by omega, blk_add, blk_yes _ r.2 r.1 h5]
    rfl
theorem flat_runs (bs : List Bool) : flatR (runsV bs) = blk (bit bs) 0 bs.length := flat_chain (chain_runs bs) (Nat.zero_le _)
theorem listFrom_blk (f : Nat → Bool) : ∀ (ls : List Int) (e : Nat), (∀ j, j < ls.length → decide (0 < ls.getD j 0) = f (e + j)) → listFrom e ls = blk f e ls.length
  | [], _, _ => rfl
  | x :: ls, e, h => by
    have h0 := h 0 (by simp)
    have hr := listFrom_blk f ls (e + 1) fun j hj => by
      have := h (j + 1) (by simpa using hj)
      rw [show e + 1 + j = e + (j + 1) by omega, ← this]
      rfl
    show (if 0 < x then (e : Int) :: listFrom (e + 1) ls else listFrom (e + 1) ls) = if f e = true then (e : Int) :: blk f (e + 1) ls.length else blk f (e + 1) ls.length
    rw [hr]
    have h1 : decide (0 < x) = f e := h0
    by_cases hx : 0 < x
    · rw [if_pos hx, if_pos (by rw [← h1]; exact decide_eq_true hx)]
    · rw [if_neg hx, if_neg (by rw [← h1, decide_eq_false hx]; decide)]
theorem listL_or {c d : List Bool} (hl : d.length = c.length) : listL (ages c d) = blk (bit (orB c d)) 0 c.length := by
  unfold listL
  rw [listFrom_blk (bit (orB c d)) (ages c d) 0, ages_length]
  intro j hj
  rw [ages_length] at hj
  rw [ages_get c d hj, Nat.zero_add, orB_bit c d hj]
  cases bit c j <;> cases bit d j <;> rfl
theorem list_flat {c d : List Bool} (hl : d.length = c.length) : flatR (runsV (orB c d)) = listL (ages c d) := by rw [flat_runs, orB_length, listL_or hl]
theorem list_cnt {c d : List Bool} (hl : d.length = c.length) : Bt.cntI (orB c d) 0 (c.length : Nat) = ((listL (ages c d)).length : Nat) := by
  unfold Bt.cntI
  rw [if_pos ((Bt.within_iff _ _ _).2 (by rw [orB_length]; omega)), listL_or hl, blk_length]
  rfl
end Go.Proofs.YtijlaganpnoefaaDoor.Bk

/-
  Stage 12, black: the program's list: both rows as one.
-/
namespace Go.Proofs.YtijlaganpnoefaaDoor.Bk
open Go.RowKit Go.Proofs.YtijlaganpnoefaaDoor.Ar
open Go.Proofs.YtijlaganpnoefaaDoor.Bt (Bv OwnR FreshV runsV runCells runCells_get layB tableKeep)
set_option linter.unusedVariables false
theorem accAt_len (c : List Bool) : (layRuns (List.replicate c.length false) (runsV c)).length = c.length := (layRuns_length _ _).trans List.length_replicate
/-- A row of runs of the call's own, as a value. -/
theorem ownR_form {y z : World} {v : Value} {rs : List (Nat × Nat)} (ho : OwnR z v rs) (hf : FreshV y v) : ∃ A cap, v = .slice A rs.length cap ∧ (rs ≠ [] → ∃ g, A = some ⟨g, 0, none⟩ ∧ y.heap.size ≤ g) := by
  rcases ho.form with ⟨h1, h2⟩ | ⟨g, cap, h1, _⟩
  · exact ⟨none, 0, by rw [h2]; exact h1, fun h => absurd h2 h⟩
  · refine ⟨_, cap, h1, fun _ => ⟨g, rfl, ?_⟩⟩
    subst h1
    rcases hf with hf | ⟨b, hb, hle⟩
    · cases hf
    · obtain rfl : g = b := Option.some.inj hb
      exact hle
section
variable {w x y : World} {s : Bs} {c d : List Bool}
set_option maxRecDepth 100000 in
set_option maxHeartbeats 8000000 in
theorem all_own (h : Obj2 w x s c d) (hT : Wd.Table x) : Calls Tryd.prog 32 #[.pointer (some ⟨s.p, 0, none⟩)] x fun e y => ∃ p q, e = .returned (.pointer (some ⟨p, 0, none⟩)) ∧ Bv y p q (orB c d) ∧ Kept [] x y := by
  have hf := h.few
  have hdl := h.len
  have HLen := Lib.hid (len_own h)
  have C0 := Lib.hid (fun y (k : Kept [] x y) => (h.keep0 k).c0)
  have C1 := Lib.hid (fun y (k : Kept [] x y) => (h.keep0 k).c1)
  have HN := Lib.hid (Bt.newBv_ok c.length hf x)
  have HB := Lib.hid (layRuns_both hdl)
  have HAL := Lib.hid (accAt_len c)
  have HR0 := Lib.hid (fun y (k : Kept [] x y) => Bt.runs_ok c s.p0 s.q0 y (h.r0.keep0 k) (tableKeep hT k))
  have HR1 := Lib.hid (fun y (k : Kept [] x y) => Bt.runs_ok d s.p1 s.q1 y (h.r1.keep0 k) (tableKeep hT k))
  have HC0 := Lib.hid (chain_mem (chain_runs c))
  have HC1 := Lib.hid (chain_mem (chain_runs d))
  have i0 : ∀ w, (Instr.index 48 (.agg #[.pointer (some ⟨s.p0, 0, none⟩), .pointer (some ⟨s.p1, 0, none⟩)]) (.int .i64 0)).run Tryd.prog w = .ok (.pointer (some ⟨s.p0, 0, none⟩)) w := fun _ => by kernel_rfl
  have i1 : ∀ w, (Instr.index 48 (.agg #[.pointer (some ⟨s.p0, 0, none⟩), .pointer (some ⟨s.p1, 0, none⟩)]) (.int .i64 1)).run Tryd.prog w = .ok (.pointer (some ⟨s.p1, 0, none⟩)) w := fun _ => by kernel_rfl
  have hcl0 : (List.replicate c.length false).length = c.length := List.length_replicate
  clear h hT
  go_enter Tryd.func32, Tryd.ntmps32
  go_wp2_with fail
  refine HLen.out.mono ?_
  rintro e y ⟨rfl, rfl⟩
  clear HLen
  go_wp2_with fail
  refine HN.out.mono ?_
  rintro e y0 ⟨rfl, hv, k⟩
  have HV0 := Lib.hid hv
  have K0 := Lib.hid k
  have hq0 : x.heap.size ≤ x.heap.size := Nat.le_refl _
  have c0 := C0.out _ k
  have c1 := C1.out _ k
  clear hv k HN C0 C1
  generalize hpp : x.heap.size + 1 = p at *
  generalize hqq : x.heap.size = q at hpp hq0 HV0
  go_wp2_with fail
  refine wp_loop_rounds 3 ?_
  rw [rounds_succ]
  go_wp2_with fail
  refine (HR0.out _ K0.out).mono ?_
  rintro e y1 ⟨v, rfl, hown, hfr, k⟩
  obtain ⟨B, rcap, rfl, hB⟩ := ownR_form hown hfr
  have hqlt := (vec_lt HV0.out).2
  have HOwn := Lib.hid hown
  have HBg : Hid (runsV c ≠ [] → ∃ g, B = some ⟨g, 0, none⟩ ∧ g ≠ q) := Lib.hid fun h => let ⟨g, h1, h2⟩ := hB h; ⟨g, h1, by omega⟩
  have HK1 := Lib.hid (K0.out.trans k)
  have H0 : Hid (Bv y1 p q (layRuns (List.replicate c.length false) ((runsV c).take 0)) ∧ Kept [q] y1 y1) := Lib.hid ⟨HV0.out.keep0 k, Kept.refl _ _⟩
  clear hown hfr hB hqlt k HV0 K0 HR0 c0 c1
  have hal : (List.replicate c.length false).length = c.length := hcl0
  have hrl : (runsV c).length ≤ 65536 := Nat.le_trans (Bt.runsTo_length c c.length) (by omega)
  generalize hrs : runsV c = rs at *
  generalize hac : (List.replicate c.length false) = acc at *
  go_wp2_with fail
  go_loopw [27] (fun t wr => ∃ j : Nat, t = .int .i64 (j : Int) ∧ j ≤ rs.length ∧ Hid (Bv wr p q (layRuns acc (rs.take j)) ∧ Kept [q] y1 wr)) (fun t _ => rs.length - (intOf t).toNat)
  case atStart => exact ⟨0, rfl, Nat.zero_le _, H0⟩
  case round =>
    clear H0
    obtain ⟨j, rfl, hj, hr⟩ := hrel
    by_cases hlt : j < rs.length
    · obtain ⟨g, rfl, hgq⟩ := HBg.out (fun h0 => by rw [h0] at hlt; simp at hlt)
      have hO : OwnR wr (.slice (some ⟨g, 0, none⟩) rs.length rcap) rs := HOwn.out.kept hr.out.2 (fun i hi => by rw [List.mem_singleton.1 hi]; intro he; exact hgq (Option.some.inj he))
      have hcell := (runCells_get rs j hlt).imp (hO.cell _ _) (hO.cell _ _)
      have hmem : rs.getD j (0, 0) ∈ rs := by
        rw [List.getD_eq_getElem?_getD, List.getElem?_eq_getElem hlt]
        exact List.getElem_mem hlt
      have hb := HC0.out _ hmem
      have hsn := layRuns_snoc acc (rs.take j) (rs.getD j (0, 0))
      have htk : rs.take j ++ [rs.getD j (0, 0)] = rs.take (j + 1) := by
        rw [List.getD_eq_getElem?_getD, List.getElem?_eq_getElem hlt]
        exact (List.take_succ_eq_append_getElem hlt).symm
      rw [htk] at hsn
      rw [Nat.mul_comm] at hcell
      generalize rs.getD j (0, 0) = r at *
      obtain ⟨a, n⟩ := r
      obtain ⟨k0, k1⟩ := hcell
      simp only at k0 k1 hb hsn
      have hlen : (layRuns acc (rs.take j)).length = c.length := (layRuns_length _ _).trans hal
      have HSet := Lib.hid (fun z (k : Kept [] wr z) => Bt.setRun_ok (layRuns acc (rs.take j)) p q z (hr.out.1.keep0 k) (a : Int) (n : Int) (by omega) (by omega) (by omega) (by omega))
      have HK := Lib.hid hr.out.2
      have HSn := Lib.hid hsn
      generalize Bt.errOf _ = er at *
      clear hO hmem hb hsn htk hlen hr
      go_wp2_with fail
      refine (HSet.out _ ((Kept.refl _ _).alloc _)).mono ?_
      rintro e z ⟨rfl, hb, kz⟩
      have HN : Hid (Bv z p q (layRuns acc (rs.take (j + 1))) ∧ Kept [q] y1 z) := Lib.hid ⟨by rw [HSn.out]; exact hb, (HK.out.trans ((Kept.refl _ _).alloc _)).trans kz⟩
      clear hb kz HSet HK HSn k0 k1
      go_wp2_with fail
      go_roundw
      case rel => exact ⟨j + 1, by go_num, by omega, HN⟩
      case measure => simp [intOf] <;> omega
    · obtain rfl : j = rs.length := by omega
      have hb := hr.out.1
      rw [List.take_length, ← hac, ← hrs] at hb
      have HV1 := Lib.hid hb
      have K1 := Lib.hid (HK1.out.forget hr.out.2 (fun i hi => by rw [List.mem_singleton.1 hi]; omega))
      clear hb hr HOwn HBg HK1 HC0 hal hj hlt
      subst hrs hac
      go_wp2_with fail
      rw [rounds_succ]
      go_wp2_with fail
      refine (HR1.out _ K1.out).mono ?_
      rintro e y1 ⟨v, rfl, hown, hfr, k⟩
      obtain ⟨B, rcap, rfl, hB⟩ := ownR_form hown hfr
      have hqlt := (vec_lt HV1.out).2
      have HOwn := Lib.hid hown
      have HBg : Hid (runsV d ≠ [] → ∃ g, B = some ⟨g, 0, none⟩ ∧ g ≠ q) := Lib.hid fun h => let ⟨g, h1, h2⟩ := hB h; ⟨g, h1, by omega⟩
      have HK1 := Lib.hid (K1.out.trans k)
      have H0 : Hid (Bv y1 p q (layRuns (layRuns (List.replicate c.length false) (runsV c)) ((runsV d).take 0)) ∧ Kept [q] y1 y1) := Lib.hid ⟨HV1.out.keep0 k, Kept.refl _ _⟩
      clear hown hfr hB hqlt k HV1 K1 HR1
      have hal : (layRuns (List.replicate c.length false) (runsV c)).length = c.length := HAL.out
      have hrl : (runsV d).length ≤ 65536 := Nat.le_trans (Bt.runsTo_length d d.length) (by omega)
      generalize hrs : runsV d = rs at *
      generalize hac : (layRuns (List.replicate c.length false) (runsV c)) = acc at *
      go_wp2_with fail
      go_loopw [27] (fun t wr => ∃ j : Nat, t = .int .i64 (j : Int) ∧ j ≤ rs.length ∧ Hid (Bv wr p q (layRuns acc (rs.take j)) ∧ Kept [q] y1 wr)) (fun t _ => rs.length - (intOf t).toNat)
      case atStart => exact ⟨0, rfl, Nat.zero_le _, H0⟩
      case round =>
        clear H0
        obtain ⟨j, rfl, hj, hr⟩ := hrel
        by_cases hlt : j < rs.length
        · obtain ⟨g, rfl, hgq⟩ := HBg.out (fun h0 => by rw [h0] at hlt; simp at hlt)
          have hO : OwnR wr (.slice (some ⟨g, 0, none⟩) rs.length rcap) rs := HOwn.out.kept hr.out.2 (fun i hi => by rw [List.mem_singleton.1 hi]; intro he; exact hgq (Option.some.inj he))
          have hcell := (runCells_get rs j hlt).imp (hO.cell _ _) (hO.cell _ _)
          have hmem : rs.getD j (0, 0) ∈ rs := by
            rw [List.getD_eq_getElem?_getD, List.getElem?_eq_getElem hlt]
            exact List.getElem_mem hlt
          have hb := HC1.out _ hmem
          have hsn := layRuns_snoc acc (rs.take j) (rs.getD j (0, 0))
          have htk : rs.take j ++ [rs.getD j (0, 0)] = rs.take (j + 1) := by
            rw [List.getD_eq_getElem?_getD, List.getElem?_eq_getElem hlt]
            exact (List.take_succ_eq_append_getElem hlt).symm
          rw [htk] at hsn
          rw [Nat.mul_comm] at hcell
          generalize rs.getD j (0, 0) = r at *
          obtain ⟨a, n⟩ := r
          obtain ⟨k0, k1⟩ := hcell
          simp only at k0 k1 hb hsn
          have hlen : (layRuns acc (rs.take j)).length = c.length := (layRuns_length _ _).trans hal
          have HSet := Lib.hid (fun z (k : Kept [] wr z) => Bt.setRun_ok (layRuns acc (rs.take j)) p q z (hr.out.1.keep0 k) (a : Int) (n : Int) (by omega) (by omega) (by omega) (by omega))
          have HK := Lib.hid hr.out.2
          have HSn := Lib.hid hsn
          generalize Bt.errOf _ = er at *
          clear hO hmem hb hsn htk hlen hr
          go_wp2_with fail
          refine (HSet.out _ ((Kept.refl _ _).alloc _)).mono ?_
          rintro e z ⟨rfl, hb, kz⟩
          have HN : Hid (Bv z p q (layRuns acc (rs.take (j + 1))) ∧ Kept [q] y1 z) := Lib.hid ⟨by rw [HSn.out]; exact hb, (HK.out.trans ((Kept.refl _ _).alloc _)).trans kz⟩
          clear hb kz HSet HK HSn k0 k1
          go_wp2_with fail
          go_roundw
          case rel => exact ⟨j + 1, by go_num, by omega, HN⟩
          case measure => simp [intOf] <;> omega
        · obtain rfl : j = rs.length := by omega
          have hb := hr.out.1
          rw [List.take_length, ← hac, ← hrs] at hb
          have HV2 := Lib.hid hb
          have K2 := Lib.hid (HK1.out.forget hr.out.2 (fun i hi => by rw [List.mem_singleton.1 hi]; omega))
          clear hb hr HOwn HBg HK1 HC1 hal hj hlt
          subst hrs hac
          go_wp2_with fail
          rw [rounds_succ]
          go_wp2_with fail
          go_ret
          exact ⟨p, q, rfl, by rw [← HB.out]; exact HV2.out, K2.out⟩
end
end Go.Proofs.YtijlaganpnoefaaDoor.Bk

/-
  Stage 12, black: the program's list: Count, List.
-/
namespace Go.Proofs.YtijlaganpnoefaaDoor.Bk
open Go.RowKit Go.Proofs.YtijlaganpnoefaaDoor.Ar
open Go.Proofs.YtijlaganpnoefaaDoor.Bt (Bv OwnR FreshV runsV runCells runCells_get tableKeep cntI)
set_option linter.unusedVariables false
section
variable {w x y : World} {s : Bs} {c d : List Bool}
theorem count_own (h : Obj2 w x s c d) (hT : Wd.Table x) :
    Calls Tryd.prog 21 #[.pointer (some ⟨s.p, 0, none⟩)] x fun e y => e = .returned (.int .i64 (listL (ages c d)).length) ∧ Kept [] x y := by
  have hf := h.few
  have HA := Lib.hid (all_own h hT)
  have HCnt := Lib.hid (list_cnt (c := c) (d := d) h.len)
  have hol := orB_length c d
  clear h hT
  go_enter Tryd.func21, Tryd.ntmps21
  go_wp2_with fail
  refine HA.out.mono ?_
  rintro e y ⟨p, q, rfl, hb, k⟩
  have HL : Hid (Calls Tryd.prog 34 #[.pointer (some ⟨p, 0, none⟩)] y fun e z => e = .returned (.int .i64 (c.length : Nat)) ∧ y = z) := Lib.hid (by
    obtain ⟨_, v, _⟩ := hb
    have := Bt.len_ok y v
    rw [hol] at this
    exact this)
  have HC := Lib.hid (Bt.count_ok (orB c d) p q y hb 0 (c.length : Nat) (by omega) (by omega) (by omega) (by omega))
  rw [HCnt.out] at HC
  have K := Lib.hid k
  generalize Bt.errOf _ = er at *
  clear hb k HA HCnt
  go_wp2_with fail
  refine HL.out.mono ?_
  rintro e z ⟨rfl, rfl⟩
  go_wp2_with fail
  refine HC.out.mono ?_
  rintro e z ⟨rfl, k⟩
  have KK := Lib.hid (K.out.trans k)
  clear k K HC HL
  go_wp2_with fail
  go_ret
  exact ⟨rfl, KK.out⟩
set_option maxRecDepth 100000 in
set_option maxHeartbeats 8000000 in
theorem list_own (h : Obj2 w x s c d) (hT : Wd.Table x) :
    Calls Tryd.prog 23 #[.pointer (some ⟨s.p, 0, none⟩)] x fun e y => ∃ v, e = .returned v ∧ Ir.Own y v (listL (ages c d)) ∧ Fresh x v ∧ Kept [] x y := by
  have hf := h.few
  have HA := Lib.hid (all_own h hT)
  have hlf := list_flat (c := c) (d := d) h.len
  have hll : (flatR (runsV (orB c d))).length ≤ 65536 := by
    have := list_len (ages c d)
    rw [ages_length] at this
    rw [hlf]
    omega
  have HLF := Lib.hid hlf
  have HCh := Lib.hid (chain_mem (chain_runs (orB c d)))
  have hol := orB_length c d
  have hrl : (runsV (orB c d)).length ≤ 65536 := Nat.le_trans (Bt.runsTo_length _ _) (by omega)
  have HT := Lib.hid hT
  clear h hT hlf
  go_enter Tryd.func23, Tryd.ntmps23
  go_wp2_with fail
  refine HA.out.mono ?_
  rintro e y ⟨p, q, rfl, hb, k⟩
  have HR := Lib.hid (Bt.runs_ok (orB c d) p q y hb (tableKeep HT.out k))
  have K := Lib.hid k
  clear hb k HA HT
  go_wp2_with fail
  refine HR.out.mono ?_
  rintro e y1 ⟨v, rfl, hown, hfr, k⟩
  obtain ⟨B, rcap, rfl, hB⟩ := ownR_form hown hfr
  have HBg : Hid (runsV (orB c d) ≠ [] → ∃ g, B = some ⟨g, 0, none⟩) := Lib.hid fun h => let ⟨g, h1, h2⟩ := hB h; ⟨g, h1⟩
  have HK := Lib.hid (K.out.trans k)
  have HOwn := Lib.hid hown
  have H0 : Hid (Ir.Own y1 (.slice none 0 0) (flatR ((runsV (orB c d)).take 0)) ∧ Fresh y1 (.slice none 0 0) ∧ Kept [] y1 y1) := Lib.hid ⟨Ir.Own.nil _, .inl rfl, Kept.refl _ _⟩
  clear hown hfr hB k K HR
  generalize hrs : runsV (orB c d) = rs at *
  go_wp2_with fail
  go_loopw [3, 11] (fun v t wr => ∃ j : Nat, t = .int .i64 (j : Int) ∧ j ≤ rs.length ∧ Hid (Ir.Own wr v (flatR (rs.take j)) ∧ Fresh y1 v ∧ Kept [] y1 wr)) (fun _ t _ => rs.length - (intOf t).toNat)
  case atStart => exact ⟨0, rfl, Nat.zero_le _, H0⟩
  case round =>
    clear H0
    obtain ⟨j, rfl, hj, hr⟩ := hrel
    generalize u3 = v at *
    generalize wr = x2 at *
    by_cases hlt : j < rs.length
    · obtain ⟨g, rfl⟩ := HBg.out (fun h0 => by rw [h0] at hlt; simp at hlt)
      have hO := HOwn.out.keep0 hr.out.2.2
      have hcell := (runCells_get rs j hlt).imp (hO.cell _ _) (hO.cell _ _)
      have hmem : rs.getD j (0, 0) ∈ rs := by
        rw [List.getD_eq_getElem?_getD, List.getElem?_eq_getElem hlt]
        exact List.getElem_mem hlt
      have hb := HCh.out _ hmem
      have hfb := flat_bound hlt
      have hsn := flatR_snoc (rs.take j) (rs.getD j (0, 0))
      rw [take_next hlt] at hsn
      rw [Nat.mul_comm] at hcell
      generalize rs.getD j (0, 0) = r at *
      obtain ⟨a, n⟩ := r
      obtain ⟨k0, k1⟩ := hcell
      simp only at k0 k1 hb hsn hfb
      have HSn : Hid (flatR (rs.take (j + 1)) = flatR (rs.take j) ++ (List.range n).map fun i => ((a + i : Nat) : Int)) := Lib.hid hsn
      have hnb : ∀ b, v.ownBlock = some b → b < x2.heap.size := fun b hb => (World.ownsRow.lt hr.out.1 b hb).2
      have kx : Kept [] x2 (x2.alloc (.cells #[.int .i64 (a : Int), .int .i64 (n : Int)] 64)) := (Kept.refl _ _).alloc _
      have cx : (x2.alloc (.cells #[.int .i64 (a : Int), .int .i64 (n : Int)] 64)).cell? ⟨x2.heap.size, 0, none⟩ = some (.int .i64 (a : Int)) := (Has.new x2 64 [.int .i64 (a : Int), .int .i64 (n : Int)]).cell 0
      generalize flatR (rs.take j) = fl at *
      have H1 : Hid (Ir.Own (x2.alloc (.cells #[.int .i64 (a : Int), .int .i64 (n : Int)] 64)) v (fl ++ (List.range 0).map fun i => ((a + i : Nat) : Int)) ∧ Fresh y1 v ∧ Kept [] y1 (x2.alloc (.cells #[.int .i64 (a : Int), .int .i64 (n : Int)] 64)) ∧ v.ownBlock ≠ some x2.heap.size ∧ (x2.alloc (.cells #[.int .i64 (a : Int), .int .i64 (n : Int)] 64)).cell? ⟨x2.heap.size, 0, none⟩ = some (.int .i64 (a : Int))) :=
        Lib.hid ⟨by rw [List.range_zero, List.map_nil, List.append_nil]; exact hr.out.1.keep0 kx, hr.out.2.1, hr.out.2.2.trans kx, fun e => by have := hnb _ e; omega, cx⟩
      clear hO hmem hsn hr hnb kx cx
      go_wp2_with fail
      generalize x2.alloc (.cells #[.int .i64 (a : Int), .int .i64 (n : Int)] 64) = x3 at *
      generalize x2.heap.size = bx at *
      clear k0 k1
      go_loopw [3, 17] (fun v t wi => ∃ k : Nat, t = .int .i64 (k : Int) ∧ k ≤ n ∧ Hid (Ir.Own wi v (fl ++ (List.range k).map fun i => ((a + i : Nat) : Int)) ∧ Fresh y1 v ∧ Kept [] y1 wi ∧ v.ownBlock ≠ some bx ∧ wi.cell? ⟨bx, 0, none⟩ = some (.int .i64 (a : Int)))) (fun _ t _ => n - (intOf t).toNat)
      case atStart => exact ⟨0, rfl, Nat.zero_le _, H1⟩
      case round =>
        clear H1
        obtain ⟨k, rfl, hk, hi⟩ := hrel
        generalize u3 = v at *
        generalize wr = x4 at *
        by_cases hkt : k < n
        · have ca := hi.out.2.2.2.2
          have kx : Kept [] x4 (x4.alloc (.cells #[.int .i64 ((a : Int) + (k : Int))] 3)) := (Kept.refl _ _).alloc _
          have HSe : Hid (Ir.Seen (x4.alloc (.cells #[.int .i64 ((a : Int) + (k : Int))] 3)) (some ⟨x4.heap.size, 0, none⟩) [(a : Int) + (k : Int)]) := Lib.hid (Ir.Row.seen (l := [(a : Int) + (k : Int)]) (Has.new x4 3 [.int .i64 ((a : Int) + (k : Int))]))
          have HOa := Lib.hid (hi.out.1.keep0 kx)
          have HV := Lib.hid hi.out.2.1
          have HKa := Lib.hid (hi.out.2.2.1.trans kx)
          have HNe := Lib.hid hi.out.2.2.2.1
          have HCa := Lib.hid ((World.cell?_of_block (kx.old _ (World.block_lt_of_cell? _ _ ca) (by simp))).trans ca)
          have HPt : Hid (fl ++ ((List.range (k + 1)).map fun i => ((a + i : Nat) : Int)) = (fl ++ (List.range k).map fun i => ((a + i : Nat) : Int)) ++ [(a : Int) + (k : Int)]) := Lib.hid (by rw [← flat1_part, List.append_assoc, Int.natCast_add])
          have hrl2 : (fl ++ (List.range k).map fun i => ((a + i : Nat) : Int)).length + 1 ≤ 1073741824 := by
            rw [List.length_append, List.length_map, List.length_range]
            omega
          generalize (fl ++ (List.range k).map fun i => ((a + i : Nat) : Int)) = pr at *
          clear kx hi
          go_wp2_with (at_builtin; (refine Ir.append_numbers rfl (.tmp 20) (.tmp 25) rfl v pr rfl HOa.out (some ⟨x4.heap.size, 0, none⟩) 1 1 [(a : Int) + (k : Int)] rfl rfl (fun h => by cases h) HSe.out (by exact hrl2) ?_))
          intro v' w4 o4 g4 b4
          have hk4 := own_grown HKa.out HV.out g4
          have hf4 := own_fresh (v' := v') HKa.out HV.out (by rw [World.size_alloc]; exact b4)
          have hc4 := g4.cell HCa.out (fun e => HNe.out e.symm)
          have hn4 : v'.ownBlock ≠ some bx := by
            have hlt := World.block_lt_of_cell? _ _ HCa.out
            rcases b4 with b4 | b4
            · rw [b4]; exact HNe.out
            · rw [b4]
              intro e
              have e2 := Option.some.inj e
              have : bx < (x4.alloc (.cells #[.int .i64 ((a : Int) + (k : Int))] 3)).heap.size := hlt
              rw [World.size_alloc] at this
              omega
          have HN : Hid (Ir.Own w4 v' (fl ++ (List.range (k + 1)).map fun i => ((a + i : Nat) : Int)) ∧ Fresh y1 v' ∧ Kept [] y1 w4 ∧ v'.ownBlock ≠ some bx ∧ w4.cell? ⟨bx, 0, none⟩ = some (.int .i64 (a : Int))) := Lib.hid ⟨by rw [HPt.out]; exact o4, hf4, hk4, hn4, hc4⟩
          clear o4 g4 b4 hk4 hf4 hc4 hn4 HSe HOa HKa HV HNe HCa HPt ca
          go_wp2_with fail
          go_roundw
          case rel => exact ⟨k + 1, by go_num, by omega, HN⟩
          case measure => simp [intOf] <;> omega
        · obtain rfl : k = n := by omega
          have HN : Hid (Ir.Own x4 v (flatR (rs.take (j + 1))) ∧ Fresh y1 v ∧ Kept [] y1 x4) := Lib.hid ⟨by rw [HSn.out]; exact hi.out.1, hi.out.2.1, hi.out.2.2.1⟩
          clear hi HSn
          go_wp2_with fail
          go_roundw
          case rel => exact ⟨j + 1, by go_num, by omega, HN⟩
          case measure => simp [intOf] <;> omega
    · obtain rfl : j = rs.length := by omega
      have ho := hr.out.1
      rw [List.take_length, HLF.out] at ho
      have HO := Lib.hid ho
      have HV : Hid (Fresh x v) := Lib.hid (by
        rcases hr.out.2.1 with h1 | ⟨b, h1, h2⟩
        · exact .inl h1
        · exact .inr ⟨b, h1, Nat.le_trans HK.out.more h2⟩)
      have HK2 := Lib.hid (HK.out.trans hr.out.2.2)
      clear ho hr HLF HCh HOwn HBg
      go_wp2_with fail
      go_ret
      exact ⟨_, rfl, HO.out, HV.out, HK2.out⟩
end
end Go.Proofs.YtijlaganpnoefaaDoor.Bk

/-
  Stage 12, black: the program's list: Turn.
-/
namespace Go.Proofs.YtijlaganpnoefaaDoor.Bk
open Go.RowKit Go.Proofs.YtijlaganpnoefaaDoor.Ar
open Go.Proofs.YtijlaganpnoefaaDoor.Bt (Bv hasV)
set_option linter.unusedVariables false
section
variable {w x y z : World} {s : Bs} {c d e : List Bool}
/-- A new row has come in at the array's head, the old ones have gone one place on. -/
theorem Obj2.turned (h : Obj2 w x s c d) (k : Kept [] x y) {np nq : Nat} (hn : Bv y np nq e) (hl : e.length = c.length) (hf : x.heap.size ≤ np ∧ x.heap.size ≤ nq) (kz : Kept [s.p] y z)
    (hh : Has z s.p 50 [.pointer (some ⟨np, 0, none⟩), .pointer (some ⟨s.p0, 0, none⟩)]) : Obj2 w z ⟨s.p, np, nq, s.p0, s.q0⟩ e c := by
  obtain ⟨e1, e2, e3, e4, e5, e6⟩ := h.apart
  have h1 := h.keep0 k
  have hlt := h.lt
  have hp := hlt s.p (by simp [Bs.all])
  have hq0 := hlt s.q0 (by simp [Bs.all])
  have hw := h.own
  have hm := h.start.more
  refine ⟨hh, hn.kept kz (by simp; omega) (by simp; omega), h1.r0.kept kz (by simpa using Ne.symm e1) (by simpa using Ne.symm e2), hl.symm, by rw [hl]; exact h.few, (show nq ≠ s.q0 by omega), fun i hi => ?_, h1.start.forget kz fun i hi => by rw [List.mem_singleton.1 hi]; exact hw _ (by simp [Bs.all])⟩
  unfold Bs.all at hi
  simp only [List.mem_cons, List.not_mem_nil, or_false] at hi
  rcases hi with rfl | rfl | rfl | rfl | rfl
  · exact hw _ (by simp [Bs.all])
  · omega
  · omega
  · exact hw _ (by simp [Bs.all])
  · exact hw _ (by simp [Bs.all])
set_option maxRecDepth 100000 in
set_option maxHeartbeats 4000000 in
theorem turn_own (h : Obj2 w x s c d) (hT : Wd.Table w) :
    Calls Tryd.prog 14 #[.pointer (some ⟨s.p, 0, none⟩)] x fun e y => e = .returned (.int .i64 (ones (ages c d))) ∧ ∃ np nq, Obj2 w y ⟨s.p, np, nq, s.p0, s.q0⟩ (List.replicate c.length false) c ∧ Kept s.all x y ∧ x.heap.size ≤ np ∧ x.heap.size ≤ nq := by
  have HC1 := Lib.hid (count_own h (Bt.tableKeep hT h.start))
  have hb1 : (listL (ages c d)).length ≤ 65536 := by have := list_len (ages c d); rw [ages_length] at this; have := h.few; omega
  have hb2 : (listL (turnL (ages c d))).length ≤ 65536 := by have := list_len (turnL (ages c d)); rw [turnL_length, ages_length] at this; have := h.few; omega
  have htc := turn_count (ages_aged c d)
  rw [ages_turn] at hb2 htc
  have HF := Lib.hid h.few
  have HO := Lib.hid h
  have HT := Lib.hid hT
  clear h hT
  generalize ones (ages c d) = o at *
  go_enter Tryd.func14, Tryd.ntmps14
  go_wp2_with fail
  refine HC1.out.mono ?_
  rintro e x1 ⟨rfl, k1⟩
  have H1 := Lib.hid (HO.out.keep0 k1)
  have HL := Lib.hid (len_own H1.out)
  have K1 := Lib.hid k1
  clear HC1 k1
  go_wp2_with fail
  refine HL.out.mono ?_
  rintro e x2 ⟨rfl, rfl⟩
  have HN := Lib.hid (Bt.newBv_ok c.length HF.out x1)
  clear HL
  go_wp2_with fail
  refine HN.out.mono ?_
  rintro e x2 ⟨rfl, hv, k2⟩
  have HV := Lib.hid hv
  have K2 := Lib.hid k2
  have h2 := H1.out.keep0 k2
  have c0 := h2.c0
  have f0 := h2.f 0
  have HD := Lib.hid h2.head
  clear HN hv k2 h2
  generalize hnp : x1.heap.size + 1 = np at *
  generalize hnq : x1.heap.size = nq at *
  go_wp2_with fail
  refine wp_loop_rounds 3 ?_
  rw [rounds_succ]
  go_wp2_with fail
  go_region
  all_goals
    have hd3 : Has (x2.setCell ⟨s.p, 0, none⟩ (.pointer (some ⟨np, 0, none⟩))).drew s.p 50 [.pointer (some ⟨np, 0, none⟩), .pointer (some ⟨s.p1, 0, none⟩)] := HD.out.put 0 (.pointer (some ⟨np, 0, none⟩))
    have k3 : Kept [s.p] x2 (x2.setCell ⟨s.p, 0, none⟩ (.pointer (some ⟨np, 0, none⟩))).drew := ((Kept.refl _ _).setCell _ _ (.inl (by simp))).drew
    have c1 := hd3.cell 1
    have f1 := hd3.free 1
    simp only [List.getElem?_cons_succ, List.getElem?_cons_zero] at c1
    have HD3 := Lib.hid hd3
    have K3 := Lib.hid k3
    clear hd3 k3 HD c0 f0
    generalize (x2.setCell ⟨s.p, 0, none⟩ (.pointer (some ⟨np, 0, none⟩))).drew = x3 at *
    go_wp2_with fail
    rw [rounds_succ]
    go_wp2_with fail
    go_region
    all_goals
      have hd4 : Has (x3.setCell ⟨s.p, 1, none⟩ (.pointer (some ⟨s.p0, 0, none⟩))).drew s.p 50 [.pointer (some ⟨np, 0, none⟩), .pointer (some ⟨s.p0, 0, none⟩)] := HD3.out.put 1 (.pointer (some ⟨s.p0, 0, none⟩))
      have k4 : Kept [s.p] x2 (x3.setCell ⟨s.p, 1, none⟩ (.pointer (some ⟨s.p0, 0, none⟩))).drew := (K3.out.setCell _ _ (.inl (by simp))).drew
      have ho4 := H1.out.turned K2.out HV.out List.length_replicate (by omega) k4 hd4
      have HO4 := Lib.hid ho4
      have K4 := Lib.hid ((K1.out.trans K2.out).none s.all |>.trans (k4.mono (fun i hi => by rw [List.mem_singleton.1 hi]; simp [Bs.all])))
      have HC2 := Lib.hid (count_own ho4 (Bt.tableKeep HT.out ho4.start))
      clear ho4 hd4 k4 HD3 K3 K2 HV H1 c1 f1
      generalize (x3.setCell ⟨s.p, 1, none⟩ (.pointer (some ⟨s.p0, 0, none⟩))).drew = x4 at *
      generalize (listL (ages c d)).length = n1 at *
      generalize (listL (ages (List.replicate c.length false) c)).length = n2 at *
      subst htc
      go_wp2_with fail
      rw [rounds_succ]
      go_wp2_with fail
      refine HC2.out.mono ?_
      rintro e x5 ⟨rfl, k5⟩
      have HO5 := Lib.hid (HO4.out.keep0 k5)
      have K5 := Lib.hid (K4.out.trans (k5.none _))
      clear k5 HC2
      go_wp2_with fail
      go_ret
      exact ⟨rfl, np, nq, HO5.out, K5.out, by have := K1.out.more; omega, by have := K1.out.more; omega⟩
end
end Go.Proofs.YtijlaganpnoefaaDoor.Bk

/-
  Stage 12, black: the program's list: First.
-/
namespace Go.Proofs.YtijlaganpnoefaaDoor.Bk
open Go.RowKit Go.Proofs.YtijlaganpnoefaaDoor.Ar
set_option linter.unusedVariables false
section
variable {w x y z : World} {s : Bs} {c d : List Bool}
set_option maxRecDepth 100000 in
set_option maxHeartbeats 16000000 in
theorem first_own (h : Obj2 w x s c d) (a b n : Int) (a1 : I64 a) (b1 : I64 b) (n1 : I64 n) :
    Calls Tryd.prog 17 #[.pointer (some ⟨s.p, 0, none⟩), .int .i64 a, .int .i64 b, .int .i64 n] x fun e y => e = .returned (.tuple #[.int .i64 ((firstL (ages c d) a b n).getD 0), .bool (firstL (ages c d) a b n).isSome]) ∧ Kept [] x y := by
  unfold I64 at a1 b1 n1
  have hf : (ages c d).length ≤ 65536 := by rw [ages_length]; exact h.few
  have HLen := Lib.hid (len_own h)
  rw [← ages_length c d] at HLen
  have HLast := Lib.hid (fun y (k : Kept [] x y) g m hg hm => last_own (h.keep0 k) g m hg hm)
  have HAged := Lib.hid (ages_aged c d)
  clear h
  generalize ages c d = ls at *
  by_cases hn : n < 1
  · rw [first_bad (.inl hn)]
    clear HLen HLast HAged
    go_enter Tryd.func17, Tryd.ntmps17
    go_wp2_with fail
    go_ret2
    exact ⟨rfl, Kept.refl _ _⟩
  · obtain ⟨n0, rfl⟩ := Int.eq_ofNat_of_zero_le (show 0 ≤ n by omega)
    have hn1 : 1 ≤ n0 := by omega
    have hEb : 0 ≤ min (max b 0) (ls.length : Int) ∧ min (max b 0) (ls.length : Int) ≤ (ls.length : Int) := by omega
    have hAb : 0 ≤ max a 0 ∧ max a 0 ≤ 9223372036854775807 := by omega
    have HNone := Lib.hid (fun (h : ∀ g0 : Nat, max a 0 ≤ (g0 : Int) → (g0 : Int) + (n0 : Int) ≤ min (max b 0) (ls.length : Int) → roomTo ls g0 n0 = false) => first_of_none (ls := ls) (a := a) (b := b) (n := n0) fun g0 h1 h2 => h g0 h1 (by unfold endL at h2; omega))
    have HSome := Lib.hid (fun (v : Nat) (h1 : max a 0 ≤ (v : Int)) (h2 : (v : Int) + (n0 : Int) ≤ min (max b 0) (ls.length : Int)) (h3 : roomTo ls v n0 = true) (h4 : ∀ g0 : Nat, max a 0 ≤ (g0 : Int) → g0 < v → roomTo ls g0 n0 = false) => first_of_some (ls := ls) (a := a) (b := b) (n := n0) (v := v) hn1 h1 (by unfold endL; omega) h3 h4)
    have H0 : Hid ((∀ g0 : Nat, max a 0 ≤ (g0 : Int) → g0 < (max a 0).toNat → roomTo ls g0 n0 = false) ∧ Kept [] x x) := Lib.hid ⟨fun g0 h1 h2 => by omega, Kept.refl _ _⟩
    generalize firstL ls a b (n0 : Int) = F at *
    go_enter Tryd.func17, Tryd.ntmps17
    go_wp2_with fail
    refine HLen.out.mono ?_
    rintro e y ⟨rfl, rfl⟩
    clear HLen
    go_wp2_with fail
    generalize min (max b 0) (ls.length : Int) = E at *
    generalize max a 0 = A at *
    go_loopw [11] (fun t wr => ∃ g : Nat, t = .int .i64 (g : Int) ∧ A ≤ (g : Int) ∧ (g : Int) ≤ 9223372036854775807 ∧ Hid ((∀ g0 : Nat, A ≤ (g0 : Int) → g0 < g → roomTo ls g0 n0 = false) ∧ Kept [] x wr)) (fun t _ => (E - intOf t).toNat)
    case atStart => exact ⟨A.toNat, by go_num, by omega, by omega, H0⟩
    case round =>
      clear H0
      obtain ⟨g, rfl, hg0, hg1, hr⟩ := hrel
      by_cases hlt : (n0 : Int) ≤ E - (g : Int)
      · have HL := Lib.hid (HLast.out _ hr.out.2 (g : Int) (n0 : Int) (by unfold I64; omega) (by unfold I64; omega))
        go_wp2_with fail
        refine HL.out.mono ?_
        rintro e y ⟨o, rfl, hl, k⟩
        have HK := Lib.hid (hr.out.2.trans k)
        clear k HL
        cases o with
        | none =>
          have hroom : roomTo ls g n0 = true := room_all HAged.out n0 (fun j j1 j2 => hl ((Bt.within_iff _ _ _).2 (by omega)) j (by omega) (by omega)) (by omega)
          have HF := Lib.hid (HSome.out g hg0 (by omega) hroom hr.out.1)
          clear hl hroom hr HSome HNone HLast HAged
          simp only [Option.isSome_none, Option.getD_none]
          go_wp2_with fail
          go_ret2
          rw [HF.out]
          exact ⟨rfl, HK.out⟩
        | some v =>
          obtain ⟨hw, v1, v2, v3, v4⟩ := hl
          have HN : Hid ((∀ g0 : Nat, A ≤ (g0 : Int) → g0 < v + 1 → roomTo ls g0 n0 = false) ∧ Kept [] x y) := Lib.hid ⟨fun g0 h1 h2 => by
            rcases Nat.lt_or_ge g0 g with h3 | h3
            · exact hr.out.1 g0 h1 h3
            · exact room_black v3 n0 g0 (by omega) (by omega), HK.out⟩
          clear hw v3 v4 hr HK
          simp only [Option.isSome_some, Option.getD_some]
          go_wp2_with fail
          go_roundw
          case rel => exact ⟨v + 1, by go_num, by omega, by omega, HN⟩
          case measure => simp [intOf] <;> omega
      · have HF := Lib.hid (HNone.out fun g0 h1 h2 => hr.out.1 g0 h1 (by omega))
        have HK := Lib.hid hr.out.2
        clear hr HNone HSome HLast HAged
        go_wp2_with fail
        go_ret2
        rw [HF.out]
        exact ⟨rfl, HK.out⟩
end
end Go.Proofs.YtijlaganpnoefaaDoor.Bk

/-
  Stage 12, black: the program's list keeps all contracts.
-/
namespace Go.Proofs.YtijlaganpnoefaaDoor.Bk
open Go.RowKit Go.Proofs.YtijlaganpnoefaaDoor.Ar
set_option linter.unusedVariables false
/-- A list of a law's own making; the table of the lowest bits stands. -/
def Pt (w x : World) (p : Nat) (T : List Nat) (ls : List Int) : Prop := Wd.Table w ∧ Pb w x p T ls
theorem ownCtr : Ctr Wd.Table Pt where
  gkeep := fun h k => Bt.tableKeep h k
  kept := fun ⟨hT, s, c, d, hp, ht, hl, h⟩ k h1 h2 => ⟨hT, s, c, d, hp, ht, hl, h.kept k (by rw [ht]; exact h1) h2⟩
  fresh := fun ⟨hT, s, c, d, hp, ht, hl, h⟩ i hi => ⟨h.own i (by rw [ht]; exact hi), h.lt i (by rw [ht]; exact hi)⟩
  start := fun ⟨hT, s, c, d, hp, ht, hl, h⟩ => h.start
  aged := fun ⟨hT, s, c, d, hp, ht, hl, h⟩ => by rw [← hl]; exact ⟨ages_aged c d, by rw [ages_length]; exact h.few⟩
  new_no := fun n _ _ hn => new_no12 n hn _
  new_yes := fun n hT hk hn => (new_yes12 n hn hk).mono fun e y ⟨s, he, h, k, hf⟩ => ⟨s.p, s.all, he, ⟨hT, s, _, _, rfl, rfl, ages_new n, h⟩, k, hf⟩
  hit := fun gs ⟨hT, s, c, d, hp, ht, hl, h⟩ hG hlen hI => by
    subst hp ht hl
    refine (hit_own h gs (fun y k => hG y (k.mono fun i hi => by rw [List.mem_singleton.1 hi]; simp [Bs.all])) hlen hI).mono fun e y ⟨he, c', h', ha, k⟩ => ?_
    rw [ages_length]
    exact ⟨he, s.all, ⟨hT, s, c', d, rfl, rfl, ha, h'⟩, k.mono fun i hi => by rw [List.mem_singleton.1 hi]; simp [Bs.all], fun i hi => .inl hi⟩
  turn := fun ⟨hT, s, c, d, hp, ht, hl, h⟩ => by
    subst hp ht hl
    refine (turn_own h hT).mono fun e y ⟨he, np, nq, h', k, h1, h2⟩ => ⟨he, (Bs.mk s.p np nq s.p0 s.q0).all, ⟨hT, ⟨s.p, np, nq, s.p0, s.q0⟩, _, _, rfl, rfl, (ages_turn c d).symm, h'⟩, k, fun i hi => ?_⟩
    unfold Bs.all at hi ⊢
    simp only [List.mem_cons, List.not_mem_nil, or_false] at hi ⊢
    rcases hi with rfl | rfl | rfl | rfl | rfl <;> simp_all
  has := fun g ⟨hT, s, c, d, hp, ht, hl, h⟩ hg => by subst hp hl; exact has_own h g hg
  len := fun ⟨hT, s, c, d, hp, ht, hl, h⟩ => by subst hp hl; rw [ages_length]; exact (len_own h).mono fun e y ⟨he, hy⟩ => ⟨he, hy ▸ Kept.refl _ _⟩
  count := fun ⟨hT, s, c, d, hp, ht, hl, h⟩ => by subst hp hl; exact count_own h (Bt.tableKeep hT h.start)
  list := fun ⟨hT, s, c, d, hp, ht, hl, h⟩ => by subst hp hl; exact list_own h (Bt.tableKeep hT h.start)
  first := fun a b n ⟨hT, s, c, d, hp, ht, hl, h⟩ ha hb hn => by subst hp hl; exact first_own h a b n ha hb hn
  copy := fun ⟨hT, s, c, d, hp, ht, hl, h⟩ => by subst hp hl; exact (copy_own h).mono fun e y ⟨t, he, h', k, hf⟩ => ⟨t.p, t.all, he, ⟨hT, t, c, d, rfl, rfl, rfl, h'⟩, k, hf⟩
section
variable {x : World}
theorem hit_nil12 {A : Option Addr} {n c : Nat} : Calls Tryd.prog 13 #[.pointer none, .slice A n c] x fun e y => e = .returned (.int .i64 1) ∧ x = y := by
  go_enter Tryd.func13, Tryd.ntmps13
  go_wp2_with fail
  go_ret
  exact ⟨rfl, rfl⟩
theorem turn_nil12 : Calls Tryd.prog 14 #[.pointer none] x fun e y => e = .returned (.int .i64 0) ∧ x = y := by
  go_enter Tryd.func14, Tryd.ntmps14
  go_wp2_with fail
  go_ret
  exact ⟨rfl, rfl⟩
theorem last_nil12 (g n : Int) : Calls Tryd.prog 31 #[.pointer none, .int .i64 g, .int .i64 n] x fun e y => e = .returned (.tuple #[.int .i64 0, .bool false]) ∧ x = y := by
  go_enter Tryd.func31, Tryd.ntmps31
  go_wp2_with fail
  go_ret2
  exact ⟨rfl, rfl⟩
theorem has_nil12 (g : Int) : Calls Tryd.prog 19 #[.pointer none, .int .i64 g] x fun e y => e = .returned (.bool false) ∧ x = y := by
  have HL := Lib.hid (last_nil12 (x := x) g 1)
  go_enter Tryd.func19, Tryd.ntmps19
  go_wp2_with fail
  refine HL.out.mono ?_
  rintro e y ⟨rfl, rfl⟩
  go_wp2_with fail
  go_ret
  exact ⟨rfl, rfl⟩
theorem len_nil12 : Calls Tryd.prog 22 #[.pointer none] x fun e y => e = .returned (.int .i64 0) ∧ x = y := by
  go_enter Tryd.func22, Tryd.ntmps22
  go_wp2_with fail
  go_ret
  exact ⟨rfl, rfl⟩
theorem all_nil12 : Calls Tryd.prog 32 #[.pointer none] x fun e y => e = .returned (.pointer none) ∧ x = y := by
  go_enter Tryd.func32, Tryd.ntmps32
  go_wp2_with fail
  go_ret
  exact ⟨rfl, rfl⟩
theorem list_nil12 : Calls Tryd.prog 23 #[.pointer none] x fun e y => e = .returned (.slice none 0 0) ∧ Kept [] x y := by
  have HA := Lib.hid (all_nil12 (x := x))
  have HR := Lib.hid (Bt.runs_nil x)
  go_enter Tryd.func23, Tryd.ntmps23
  go_wp2_with fail
  refine HA.out.mono ?_
  rintro e y ⟨rfl, rfl⟩
  go_wp2_with fail
  refine HR.out.mono ?_
  rintro e y ⟨rfl, k⟩
  have K := Lib.hid k
  clear k HR HA
  go_wp2_with fail
  refine wp_loop_rounds 1 ?_
  rw [rounds_succ]
  go_wp2_with fail
  go_ret
  exact ⟨rfl, K.out⟩
theorem count_nil12 : Calls Tryd.prog 21 #[.pointer none] x fun e y => e = .returned (.int .i64 0) ∧ Kept [] x y := by
  have HA := Lib.hid (all_nil12 (x := x))
  have HL := Lib.hid (Bt.len_nil x)
  have HC := Lib.hid (Bt.count_nil x 0 0)
  go_enter Tryd.func21, Tryd.ntmps21
  go_wp2_with fail
  refine HA.out.mono ?_
  rintro e y ⟨rfl, rfl⟩
  go_wp2_with fail
  refine HL.out.mono ?_
  rintro e y ⟨rfl, rfl⟩
  go_wp2_with fail
  refine HC.out.mono ?_
  rintro e y ⟨rfl, k⟩
  have K := Lib.hid k
  clear k HC HL HA
  go_wp2_with fail
  go_ret
  exact ⟨rfl, K.out⟩
theorem copy_nil12 : Calls Tryd.prog 12 #[.pointer none] x fun e y => e = .returned (.pointer none) ∧ x = y := by
  go_enter Tryd.func12, Tryd.ntmps12
  go_wp2_with fail
  go_ret
  exact ⟨rfl, rfl⟩
theorem first_nil12 (a b n : Int) (ha : I64 a) (hn1 : I64 n) : Calls Tryd.prog 17 #[.pointer none, .int .i64 a, .int .i64 b, .int .i64 n] x fun e y => e = .returned (.tuple #[.int .i64 0, .bool false]) ∧ x = y := by
  unfold I64 at ha hn1
  have HL := Lib.hid (len_nil12 (x := x))
  go_enter Tryd.func17, Tryd.ntmps17
  by_cases hn : n < 1
  · go_wp2_with fail
    go_ret2
    exact ⟨rfl, rfl⟩
  · have hE : min (max b 0) 0 = 0 := by omega
    have hA : 0 ≤ max a 0 ∧ max a 0 ≤ 9223372036854775807 := by omega
    go_wp2_with fail
    refine HL.out.mono ?_
    rintro e y ⟨rfl, rfl⟩
    go_wp2_with fail
    generalize max a 0 = A at *
    have hlt : ¬ n ≤ 0 - A := by omega
    refine wp_loop_rounds 1 ?_
    rw [rounds_succ]
    go_wp2_with fail
    go_ret2
    exact ⟨rfl, rfl⟩
end
theorem ownNil : CtrNil Wd.Table where
  hit := fun _ => hit_nil12.mono fun e y ⟨he, hy⟩ => ⟨he, hy ▸ Kept.refl _ _⟩
  turn := fun _ => turn_nil12.mono fun e y ⟨he, hy⟩ => ⟨he, hy ▸ Kept.refl _ _⟩
  has := fun g _ _ => (has_nil12 g).mono fun e y ⟨he, hy⟩ => ⟨he, hy ▸ Kept.refl _ _⟩
  len := fun _ => len_nil12.mono fun e y ⟨he, hy⟩ => ⟨he, hy ▸ Kept.refl _ _⟩
  count := fun _ => count_nil12
  list := fun _ => list_nil12.mono fun e y ⟨he, hk⟩ => ⟨_, he, Ir.Own.nil _, hk⟩
  first := fun a b n _ ha _ hn => (first_nil12 a b n ha hn).mono fun e y ⟨he, hy⟩ => ⟨he, hy ▸ Kept.refl _ _⟩
  copy := fun _ => copy_nil12.mono fun e y ⟨he, hy⟩ => ⟨he, hy ▸ Kept.refl _ _⟩
end Go.Proofs.YtijlaganpnoefaaDoor.Bk
