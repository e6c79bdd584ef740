/-
  Several texts in one: BkObj, BkOwn, BkOwnNew.
-/
import Derived.Test.YtoagghileebokaaGreatDoorG36
import Derived.Test.YtoagghileebokaaGreatDoorG42
import Derived.Test.YtoagghileebokaaGreatDoorG41
import Derived.Test.YtoagghileebokaaGreatDoorG22
import Derived.LoopN
import Derived.RegionTactic
import Derived.Deep.RegionHeld3
import Derived.Test.YtoagghileebokaaGreatDoorG21
import Derived.Deep.RegionWith
/-
  Stage 12, black: a list as an object in memory: two vectors of bits in an array.
-/
namespace Go.Proofs.YtoagghileebokaaGreatDoor.Bk
open Go.RowKit Go.Proofs.YtoagghileebokaaGreatDoor.Ar
open Go.Proofs.YtoagghileebokaaGreatDoor.Bt (Bv hasV)
set_option linter.unusedVariables false
/-- Its blocks: the list, the first row's vector and words, the second row's. -/
structure Bs where
  p : Nat
  p0 : Nat
  q0 : Nat
  p1 : Nat
  q1 : Nat
def Bs.all (s : Bs) : List Nat := [s.p, s.p0, s.q0, s.p1, s.q1]
structure Obj2 (w x : World) (s : Bs) (c d : List Bool) : Prop where
  head : Has x s.p 106 [.pointer (some ⟨s.p0, 0, none⟩), .pointer (some ⟨s.p1, 0, none⟩)]
  r0 : Bv x s.p0 s.q0 c
  r1 : Bv x s.p1 s.q1 d
  len : d.length = c.length
  few : c.length ≤ 65536
  ne : s.q0 ≠ s.q1
  own : ∀ i ∈ s.all, w.heap.size ≤ i
  start : Kept [] w x
theorem vec_lt {w : World} {p q : Nat} {bs : List Bool} (h : Bv w p q bs) : p < w.heap.size ∧ q < w.heap.size := let ⟨_, hV, _⟩ := h; ⟨hV.head.lt, hV.row.lt⟩
section
variable {w x y : World} {s : Bs} {c d : List Bool}
theorem Obj2.lt (h : Obj2 w x s c d) : ∀ i ∈ s.all, i < x.heap.size := fun i hi => by
  obtain ⟨a0, b0⟩ := vec_lt h.r0
  obtain ⟨a1, b1⟩ := vec_lt h.r1
  have := h.head.lt
  unfold Bs.all at hi
  simp only [List.mem_cons, List.not_mem_nil, or_false] at hi
  rcases hi with rfl | rfl | rfl | rfl | rfl <;> assumption
theorem Obj2.kept (h : Obj2 w x s c d) {S : List Nat} (k : Kept S x y) (hT : ∀ i ∈ s.all, i ∉ S) (hS : ∀ i ∈ S, w.heap.size ≤ i) : Obj2 w y s c d :=
  ⟨h.head.kept k (hT _ (by simp [Bs.all])), h.r0.kept k (hT _ (by simp [Bs.all])) (hT _ (by simp [Bs.all])), h.r1.kept k (hT _ (by simp [Bs.all])) (hT _ (by simp [Bs.all])), h.len, h.few, h.ne, h.own, h.start.forget k hS⟩
theorem Obj2.keep0 (h : Obj2 w x s c d) (k : Kept [] x y) : Obj2 w y s c d := h.kept k (fun _ _ hi => by cases hi) (fun _ hi => by cases hi)
/-- No vector's block is the list's own. -/
theorem Obj2.apart (h : Obj2 w x s c d) : s.p ≠ s.p0 ∧ s.p ≠ s.q0 ∧ s.p ≠ s.p1 ∧ s.p ≠ s.q1 ∧ s.p1 ≠ s.q0 ∧ s.p0 ≠ s.q1 := by
  obtain ⟨w0, v0, _⟩ := h.r0
  obtain ⟨w1, v1, _⟩ := h.r1
  exact ⟨Has.block_type h.head v0.head (by decide), Has.block_type h.head v0.row (by decide), Has.block_type h.head v1.head (by decide), Has.block_type h.head v1.row (by decide), Has.block_type v1.head v0.row (by decide), Has.block_type v0.head v1.row (by decide)⟩
/-- The first row's vector has turned. -/
theorem Obj2.set0 (h : Obj2 w x s c d) {c' : List Bool} (hl : c'.length = c.length) (hb : Bv y s.p0 s.q0 c') (k : Kept [s.q0] x y) : Obj2 w y s c' d := by
  obtain ⟨e1, e2, e3, e4, e5, e6⟩ := h.apart
  exact ⟨h.head.kept k (by simpa using e2), hb, h.r1.kept k (by simpa using e5) (by simpa using Ne.symm h.ne), h.len.trans hl.symm, by rw [hl]; exact h.few, h.ne, h.own, h.start.forget k (fun i hi => by rw [List.mem_singleton.1 hi]; exact h.own _ (by simp [Bs.all]))⟩
theorem Obj2.c0 (h : Obj2 w x s c d) : x.cell? ⟨s.p, 0, none⟩ = some (.pointer (some ⟨s.p0, 0, none⟩)) := h.head.cell 0
theorem Obj2.c1 (h : Obj2 w x s c d) : x.cell? ⟨s.p, 1, none⟩ = some (.pointer (some ⟨s.p1, 0, none⟩)) := h.head.cell 1
theorem Obj2.f (h : Obj2 w x s c d) (i : Nat) : x.frozen? ⟨s.p, i, none⟩ = false := h.head.free i
theorem Obj2.len_ok (h : Obj2 w x s c d) : Calls Tryz.prog 74 #[.pointer (some ⟨s.p0, 0, none⟩)] x fun e y => e = .returned (.int .i64 c.length) ∧ x = y := let ⟨_, v, _⟩ := h.r0; Bt.len_ok x v
end
/-- For the laws. -/
def Pb (w x : World) (p : Nat) (T : List Nat) (ls : List Int) : Prop := ∃ s c d, s.p = p ∧ s.all = T ∧ ages c d = ls ∧ Obj2 w x s c d
end Go.Proofs.YtoagghileebokaaGreatDoor.Bk

/-
  Stage 12, black: the program's list: Len, the last black one of a range, Has.
-/
namespace Go.Proofs.YtoagghileebokaaGreatDoor.Bk
open Go.RowKit Go.Proofs.YtoagghileebokaaGreatDoor.Ar
open Go.Proofs.YtoagghileebokaaGreatDoor.Bt (Bv bit cntI prevO)
set_option linter.unusedVariables false
section
variable {w x y : World} {s : Bs} {c d : List Bool}
theorem len_own (h : Obj2 w x s c d) : Calls Tryz.prog 44 #[.pointer (some ⟨s.p, 0, none⟩)] x fun e y => e = .returned (.int .i64 c.length) ∧ x = y := by
  have c0 := h.c0
  have HL := Lib.hid h.len_ok
  clear h
  go_enter Tryz.func44, Tryz.ntmps44
  go_wp2_with fail
  refine HL.out.mono ?_
  rintro e y ⟨rfl, rfl⟩
  go_wp2_with fail
  go_ret
  exact ⟨rfl, rfl⟩
/-- What last answers. -/
def LastPost (x : World) (ls : List Int) (a n : Int) (e : Ending) (y : World) : Prop := ∃ o : Option Nat, e = .returned (.tuple #[.int .i64 ((o.getD 0 : Nat) : Int), .bool o.isSome]) ∧ LastP ls a n o ∧ Kept [] x y
set_option maxRecDepth 100000 in
set_option maxHeartbeats 4000000 in
theorem last_own (h : Obj2 w x s c d) (a n : Int) (ha : I64 a) (hn : I64 n) : Calls Tryz.prog 35 #[.pointer (some ⟨s.p, 0, none⟩), .int .i64 a, .int .i64 n] x (LastPost x (ages c d) a n) := by
  have hf := h.few
  have hdl := h.len
  have hfd : d.length ≤ 65536 := by omega
  have c0 := h.c0
  have C0 := Lib.hid (fun y (k : Kept [] x y) => (h.keep0 k).c0)
  have C1 := Lib.hid (fun y (k : Kept [] x y) => (h.keep0 k).c1)
  have N0 := Lib.hid (fun y (k : Kept [] x y) => Bt.count_ok c s.p0 s.q0 y (h.r0.keep0 k) a n ha.1 ha.2 hn.1 hn.2)
  have N1 := Lib.hid (fun y (k : Kept [] x y) => Bt.count_ok d s.p1 s.q1 y (h.r1.keep0 k) a n ha.1 ha.2 hn.1 hn.2)
  have P0 := Lib.hid (fun y (k : Kept [] x y) (h1 : I64 (a + n - 1)) => Bt.prev_ok c s.p0 s.q0 y (h.r0.keep0 k) (a + n - 1) h1.1 h1.2)
  have P1 := Lib.hid (fun y (k : Kept [] x y) (h1 : I64 (a + n - 1)) => Bt.prev_ok d s.p1 s.q1 y (h.r1.keep0 k) (a + n - 1) h1.1 h1.2)
  have R0n := Lib.hid (row_no (c := c) (a := a) (n := n))
  have R0y := Lib.hid (row_yes (c := c) (a := a) (n := n))
  have R1n := Lib.hid (row_no (c := d) (a := a) (n := n))
  have R1y := Lib.hid (row_yes (c := d) (a := a) (n := n))
  have HB := Lib.hid (fun (o u : Option Nat) => last_both (c := c) (d := d) hdl (a := a) (n := n) (o := o) (u := u))
  clear h hdl
  unfold I64 at ha hn
  generalize hk0 : cntI c a n = m0 at *
  generalize hk1 : cntI d a n = m1 at *
  generalize Bt.errOf (Bt.within c.length a n) = e0 at *
  generalize Bt.errOf (Bt.within d.length a n) = e1 at *
  clear hk0 hk1
  have K0 : Hid (Kept [] x x) := Lib.hid (Kept.refl _ _)
  go_enter Tryz.func35, Tryz.ntmps35
  go_wp2_with fail
  refine wp_loop_rounds 3 ?_
  rw [rounds_succ]
  go_wp2_with fail
  refine (N0.out _ K0.out).mono ?_
  rintro e y0 ⟨rfl, k⟩
  have K1 := Lib.hid (K0.out.trans k)
  have d0 := C0.out _ K1.out
  clear k c0
  by_cases h0 : 0 < m0
  · obtain ⟨g0, hp, hr⟩ := R0y.out h0
    have hw := hr.1
    obtain ⟨w1, w2, w3⟩ := (Bt.within_iff _ _ _).1 hw
    have HR0 := Lib.hid hr
    have HP : Hid (Calls Tryz.prog 62 #[.pointer (some ⟨s.p0, 0, none⟩), .int .i64 (a + n - 1)] y0 fun e w' => e = .returned (.tuple #[.int .i64 (g0 : Int), .bool true]) ∧ Kept [] y0 w') := Lib.hid (by
      have := P0.out _ K1.out (by unfold I64; omega)
      rw [hp] at this
      exact this)
    clear hp hr hw
    go_wp2_with fail
    refine HP.out.mono ?_
    rintro e z0 ⟨rfl, k⟩
    have KK1 := Lib.hid (K1.out.trans k)
    clear k HP K1 d0
    have c1 := C1.out _ KK1.out
    have hmx : max (0 : Int) (g0 : Int) = (g0 : Int) := by omega
    go_wp2_with fail
    rw [rounds_succ]
    go_wp2_with fail
    refine (N1.out _ KK1.out).mono ?_
    rintro e y1 ⟨rfl, k⟩
    have K2 := Lib.hid (KK1.out.trans k)
    have d1 := C1.out _ K2.out
    clear k c1
    by_cases h1 : 0 < m1
    · obtain ⟨g1, hp, hr⟩ := R1y.out h1
      have hw := hr.1
      obtain ⟨w1, w2, w3⟩ := (Bt.within_iff _ _ _).1 hw
      have HR1 := Lib.hid hr
      have HP : Hid (Calls Tryz.prog 62 #[.pointer (some ⟨s.p1, 0, none⟩), .int .i64 (a + n - 1)] y1 fun e w' => e = .returned (.tuple #[.int .i64 (g1 : Int), .bool true]) ∧ Kept [] y1 w') := Lib.hid (by
        have := P1.out _ K2.out (by unfold I64; omega)
        rw [hp] at this
        exact this)
      clear hp hr hw
      go_wp2_with fail
      refine HP.out.mono ?_
      rintro e z1 ⟨rfl, k⟩
      have KK2 := Lib.hid (K2.out.trans k)
      clear k HP K2 d1
      have HF := Lib.hid (HB.out _ _ HR0.out HR1.out)
      have hmy : max (g0 : Int) (g1 : Int) = ((max g0 g1 : Nat) : Int) := by omega
      clear R0n R0y R1n R1y HB N0 N1 P0 P1 C0 C1
      go_wp2_with fail
      rw [rounds_succ]
      go_wp2_with fail
      go_ret2
      exact ⟨(some (max g0 g1)), rfl, HF.out, KK2.out⟩
    · have HR1 := Lib.hid (R1n.out (by omega))
      clear d1
      have HF := Lib.hid (HB.out _ _ HR0.out HR1.out)
      clear R0n R0y R1n R1y HB N0 N1 P0 P1 C0 C1
      go_wp2_with fail
      rw [rounds_succ]
      go_wp2_with fail
      go_ret2
      exact ⟨(some g0), rfl, HF.out, K2.out⟩
  · have HR0 := Lib.hid (R0n.out (by omega))
    clear d0
    have c1 := C1.out _ K1.out
    go_wp2_with fail
    rw [rounds_succ]
    go_wp2_with fail
    refine (N1.out _ K1.out).mono ?_
    rintro e y1 ⟨rfl, k⟩
    have K2 := Lib.hid (K1.out.trans k)
    have d1 := C1.out _ K2.out
    clear k c1
    by_cases h1 : 0 < m1
    · obtain ⟨g1, hp, hr⟩ := R1y.out h1
      have hw := hr.1
      obtain ⟨w1, w2, w3⟩ := (Bt.within_iff _ _ _).1 hw
      have HR1 := Lib.hid hr
      have HP : Hid (Calls Tryz.prog 62 #[.pointer (some ⟨s.p1, 0, none⟩), .int .i64 (a + n - 1)] y1 fun e w' => e = .returned (.tuple #[.int .i64 (g1 : Int), .bool true]) ∧ Kept [] y1 w') := Lib.hid (by
        have := P1.out _ K2.out (by unfold I64; omega)
        rw [hp] at this
        exact this)
      clear hp hr hw
      go_wp2_with fail
      refine HP.out.mono ?_
      rintro e z1 ⟨rfl, k⟩
      have KK2 := Lib.hid (K2.out.trans k)
      clear k HP K2 d1
      have HF := Lib.hid (HB.out _ _ HR0.out HR1.out)
      have hmy : max (0 : Int) (g1 : Int) = (g1 : Int) := by omega
      clear R0n R0y R1n R1y HB N0 N1 P0 P1 C0 C1
      go_wp2_with fail
      rw [rounds_succ]
      go_wp2_with fail
      go_ret2
      exact ⟨(some g1), rfl, HF.out, KK2.out⟩
    · have HR1 := Lib.hid (R1n.out (by omega))
      clear d1
      have HF := Lib.hid (HB.out _ _ HR0.out HR1.out)
      clear R0n R0y R1n R1y HB N0 N1 P0 P1 C0 C1
      go_wp2_with fail
      rw [rounds_succ]
      go_wp2_with fail
      go_ret2
      exact ⟨none, rfl, HF.out, K2.out⟩
theorem has_own (h : Obj2 w x s c d) (g : Int) (hg : I64 g) : Calls Tryz.prog 17 #[.pointer (some ⟨s.p, 0, none⟩), .int .i64 g] x fun e y => e = .returned (.bool (hasL (ages c d) g)) ∧ Kept [] x y := by
  have HL := Lib.hid (last_own h g 1 hg (by unfold I64; omega))
  clear h
  go_enter Tryz.func17, Tryz.ntmps17
  go_wp2_with fail
  refine HL.out.mono ?_
  rintro e y ⟨o, rfl, hl, k⟩
  have K := Lib.hid k
  have HS := Lib.hid (last_has hl)
  clear hl k HL
  go_wp2_with fail
  go_ret
  rw [← HS.out]
  exact ⟨rfl, K.out⟩
end
end Go.Proofs.YtoagghileebokaaGreatDoor.Bk

/-
  Stage 12, black: the program's list: New, Copy.
-/
namespace Go.Proofs.YtoagghileebokaaGreatDoor.Bk
open Go.RowKit Go.Proofs.YtoagghileebokaaGreatDoor.Ar
open Go.Proofs.YtoagghileebokaaGreatDoor.Bt (Bv hasV)
set_option linter.unusedVariables false
section
variable {w x y z : World} {s : Bs} {c d : List Bool}
/-- Both rows have come into a new list. -/
theorem Obj2.made (hw : Kept [] w x) {p p0 q0 p1 q1 : Nat} (hh : Has y p 106 [.pointer (some ⟨p0, 0, none⟩), .pointer (some ⟨p1, 0, none⟩)]) (h0 : Bv y p0 q0 c) (h1 : Bv y p1 q1 d) (k : Kept [] x y) (hl : d.length = c.length) (hf : c.length ≤ 65536) (hne : q0 ≠ q1)
    (ha : ∀ i ∈ (Bs.mk p p0 q0 p1 q1).all, x.heap.size ≤ i) : Obj2 w y ⟨p, p0, q0, p1, q1⟩ c d :=
  ⟨hh, h0, h1, hl, hf, hne, fun i hi => by have := ha i hi; have := hw.more; omega, hw.trans k⟩
set_option maxRecDepth 100000 in
set_option maxHeartbeats 4000000 in
theorem new_yes12 (n : Nat) (hn : n ≤ 65536) (hw : Kept [] w x) : Calls Tryz.prog 21 #[.int .i64 n] x fun e y => ∃ s, e = .returned (.tuple #[.pointer (some ⟨s.p, 0, none⟩), .int .i64 0]) ∧ Obj2 w y s (List.replicate n false) (List.replicate n false) ∧ Kept [] x y ∧ ∀ i ∈ s.all, x.heap.size ≤ i := by
  have k0 : Kept [] x (x.alloc (.cells #[.pointer none, .pointer none] 106)) := (Kept.refl [] x).alloc _
  have hd0 : Has (x.alloc (.cells #[.pointer none, .pointer none] 106)) x.heap.size 106 [.pointer none, .pointer none] := Has.new x _ _
  have hs0 : (x.alloc (.cells #[.pointer none, .pointer none] 106)).heap.size = x.heap.size + 1 := by simp
  have HW := Lib.hid hw
  clear hw
  go_enter Tryz.func21, Tryz.ntmps21
  go_wp2_with fail
  generalize x.alloc (.cells #[.pointer none, .pointer none] 106) = x0 at *
  have HN0 := Lib.hid (Bt.newBv_ok n hn x0)
  have K0 := Lib.hid k0
  have HD0 := Lib.hid hd0
  have HS0 := Lib.hid hs0
  clear k0 hd0 hs0
  generalize hp : x.heap.size = p at *
  refine wp_loop_rounds 3 ?_
  rw [rounds_succ]
  go_wp2_with fail
  refine HN0.out.mono ?_
  rintro e x1 ⟨rfl, hv, k1⟩
  have hd1 := HD0.out.kept k1 (by simp)
  have f0 := hd1.free 0
  have c0 := hd1.cell 0
  simp only [List.getElem?_cons_zero] at c0
  have HV1 := Lib.hid hv
  have HD1 := Lib.hid hd1
  have K1 := Lib.hid k1
  clear hv hd1 k1 HN0 HD0
  generalize hp0 : x0.heap.size + 1 = p0 at *
  generalize hq0 : x0.heap.size = q0 at *
  go_wp2_with fail
  have hd2 : Has (x1.setCell ⟨p, 0, none⟩ (.pointer (some ⟨p0, 0, none⟩))) p 106 [.pointer (some ⟨p0, 0, none⟩), .pointer none] := HD1.out.put 0 (.pointer (some ⟨p0, 0, none⟩))
  have k2 : Kept [p] x1 (x1.setCell ⟨p, 0, none⟩ (.pointer (some ⟨p0, 0, none⟩))) := (Kept.refl _ _).setCell _ _ (.inl (by simp))
  have hd2 : Has (x1.setCell ⟨p, 0, none⟩ (.pointer (some ⟨p0, 0, none⟩))) p 106 [.pointer (some ⟨p0, 0, none⟩), .pointer none] := HD1.out.put 0 (.pointer (some ⟨p0, 0, none⟩))
  have k2 : Kept [p] x1 (x1.setCell ⟨p, 0, none⟩ (.pointer (some ⟨p0, 0, none⟩))) := (Kept.refl _ _).setCell _ _ (.inl (by simp))
  have HD2 := Lib.hid hd2
  have K2 := Lib.hid k2
  clear hd2 k2 HD1 c0 f0
  generalize x1.setCell ⟨p, 0, none⟩ (.pointer (some ⟨p0, 0, none⟩)) = x2 at *
  have HN1 := Lib.hid (Bt.newBv_ok n hn x2)
  rw [rounds_succ]
  go_wp2_with fail
  refine HN1.out.mono ?_
  rintro e x3 ⟨rfl, hv, k3⟩
  have hd3 := HD2.out.kept k3 (by simp)
  have f1 := hd3.free 1
  have c1 := hd3.cell 1
  simp only [List.getElem?_cons_succ, List.getElem?_cons_zero] at c1
  have HV3 := Lib.hid hv
  have HD3 := Lib.hid hd3
  have K3 := Lib.hid k3
  clear hv hd3 k3 HN1 HD2
  generalize hp1 : x2.heap.size + 1 = p1 at *
  generalize hq1 : x2.heap.size = q1 at *
  go_wp2_with fail
  have hd4 : Has (x3.setCell ⟨p, 1, none⟩ (.pointer (some ⟨p1, 0, none⟩))) p 106 [.pointer (some ⟨p0, 0, none⟩), .pointer (some ⟨p1, 0, none⟩)] := HD3.out.put 1 (.pointer (some ⟨p1, 0, none⟩))
  have k4 : Kept [p] x3 (x3.setCell ⟨p, 1, none⟩ (.pointer (some ⟨p1, 0, none⟩))) := (Kept.refl _ _).setCell _ _ (.inl (by simp))
  have hs := HS0.out
  have hlt := (vec_lt HV1.out).2
  have h21 := K2.out.more
  have kA : Kept [p] x0 (x3.setCell ⟨p, 1, none⟩ (.pointer (some ⟨p1, 0, none⟩))) := ((K1.out.none [p]).trans K2.out).trans ((K3.out.none [p]).trans k4)
  have HFin : Hid (Obj2 w (x3.setCell ⟨p, 1, none⟩ (.pointer (some ⟨p1, 0, none⟩))) ⟨p, p0, q0, p1, q1⟩ (List.replicate n false) (List.replicate n false) ∧ Kept [] x (x3.setCell ⟨p, 1, none⟩ (.pointer (some ⟨p1, 0, none⟩))) ∧ ∀ i ∈ (Bs.mk p p0 q0 p1 q1).all, x.heap.size ≤ i) := Lib.hid (by
    have hall : ∀ i ∈ (Bs.mk p p0 q0 p1 q1).all, x.heap.size ≤ i := fun i hi => by
      unfold Bs.all at hi
      simp only [List.mem_cons, List.not_mem_nil, or_false] at hi
      omega
    have kx : Kept [] x (x3.setCell ⟨p, 1, none⟩ (.pointer (some ⟨p1, 0, none⟩))) := K0.out.forget kA fun i hi => by rw [List.mem_singleton.1 hi]; omega
    exact ⟨Obj2.made HW.out hd4 (((HV1.out.kept K2.out (by simp; omega) (by simp; omega)).keep0 K3.out).kept k4 (by simp; omega) (by simp; omega)) (HV3.out.kept k4 (by simp; omega) (by simp; omega)) kx rfl (by rw [List.length_replicate]; exact hn) (by omega) hall, kx, hall⟩)
  clear hd4 k4 kA HV3 HV1 HD3 K3 K2 K1 K0 HW c1 f1
  rw [rounds_succ]
  go_wp2_with fail
  go_ret2
  exact ⟨⟨p, p0, q0, p1, q1⟩, rfl, HFin.out⟩
end
end Go.Proofs.YtoagghileebokaaGreatDoor.Bk
