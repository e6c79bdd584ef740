/-
  Stage 12, black: the program's list: New, Copy.
-/
import Derived.Test.YtijlaganpnoefaaDoorBkOwn
import Derived.Test.YtijlaganpnoefaaDoorBtNew
import Derived.Deep.RegionWith
namespace Go.Proofs.YtijlaganpnoefaaDoor.Bk
open Go.RowKit Go.Proofs.YtijlaganpnoefaaDoor.Ar
open Go.Proofs.YtijlaganpnoefaaDoor.Bt (Bv hasV)
set_option linter.unusedVariables false
section
variable {w x y z : World} {s : Bs} {c d : List Bool}
theorem new_no12 (n : Int) (h : n < 0 ∨ 65536 < n) (x : World) : Calls Tryd.prog 9 #[.int .i64 n] x fun e y => e = .returned (.tuple #[.pointer none, .int .i64 2]) ∧ Kept [] x y := by
  have k0 : Kept [] x (x.alloc (.cells #[.pointer none, .pointer none] 50)) := (Kept.refl [] x).alloc _
  have HN := Lib.hid (Bt.new_no n h (x.alloc (.cells #[.pointer none, .pointer none] 50)))
  have K := Lib.hid k0
  clear k0 h
  go_enter Tryd.func9, Tryd.ntmps9
  go_wp2_with fail
  refine wp_loop_rounds 1 ?_
  rw [rounds_succ]
  go_wp2_with fail
  refine HN.out.mono ?_
  rintro e y ⟨rfl, rfl⟩
  go_wp2_with fail
  go_ret2
  exact ⟨rfl, K.out⟩
/-- Both rows have come into a new list. -/
theorem Obj2.made (hw : Kept [] w x) {p p0 q0 p1 q1 : Nat} (hh : Has y p 50 [.pointer (some ⟨p0, 0, none⟩), .pointer (some ⟨p1, 0, none⟩)]) (h0 : Bv y p0 q0 c) (h1 : Bv y p1 q1 d) (k : Kept [] x y) (hl : d.length = c.length) (hf : c.length ≤ 65536) (hne : q0 ≠ q1)
    (ha : ∀ i ∈ (Bs.mk p p0 q0 p1 q1).all, x.heap.size ≤ i) : Obj2 w y ⟨p, p0, q0, p1, q1⟩ c d :=
  ⟨hh, h0, h1, hl, hf, hne, fun i hi => by have := ha i hi; have := hw.more; omega, hw.trans k⟩
set_option maxRecDepth 100000 in
set_option maxHeartbeats 4000000 in
theorem new_yes12 (n : Nat) (hn : n ≤ 65536) (hw : Kept [] w x) : Calls Tryd.prog 9 #[.int .i64 n] x fun e y => ∃ s, e = .returned (.tuple #[.pointer (some ⟨s.p, 0, none⟩), .int .i64 0]) ∧ Obj2 w y s (List.replicate n false) (List.replicate n false) ∧ Kept [] x y ∧ ∀ i ∈ s.all, x.heap.size ≤ i := by
  have k0 : Kept [] x (x.alloc (.cells #[.pointer none, .pointer none] 50)) := (Kept.refl [] x).alloc _
  have hd0 : Has (x.alloc (.cells #[.pointer none, .pointer none] 50)) x.heap.size 50 [.pointer none, .pointer none] := Has.new x _ _
  have hs0 : (x.alloc (.cells #[.pointer none, .pointer none] 50)).heap.size = x.heap.size + 1 := by simp
  have HW := Lib.hid hw
  clear hw
  go_enter Tryd.func9, Tryd.ntmps9
  go_wp2_with fail
  generalize x.alloc (.cells #[.pointer none, .pointer none] 50) = x0 at *
  have HN0 := Lib.hid (Bt.newBv_ok n hn x0)
  have K0 := Lib.hid k0
  have HD0 := Lib.hid hd0
  have HS0 := Lib.hid hs0
  clear k0 hd0 hs0
  generalize hp : x.heap.size = p at *
  refine wp_loop_rounds 3 ?_
  rw [rounds_succ]
  go_wp2_with fail
  refine HN0.out.mono ?_
  rintro e x1 ⟨rfl, hv, k1⟩
  have hd1 := HD0.out.kept k1 (by simp)
  have f0 := hd1.free 0
  have c0 := hd1.cell 0
  simp only [List.getElem?_cons_zero] at c0
  have HV1 := Lib.hid hv
  have HD1 := Lib.hid hd1
  have K1 := Lib.hid k1
  clear hv hd1 k1 HN0 HD0
  generalize hp0 : x0.heap.size + 1 = p0 at *
  generalize hq0 : x0.heap.size = q0 at *
  go_wp2_with fail
  have hd2 : Has (x1.setCell ⟨p, 0, none⟩ (.pointer (some ⟨p0, 0, none⟩))) p 50 [.pointer (some ⟨p0, 0, none⟩), .pointer none] := HD1.out.put 0 (.pointer (some ⟨p0, 0, none⟩))
  have k2 : Kept [p] x1 (x1.setCell ⟨p, 0, none⟩ (.pointer (some ⟨p0, 0, none⟩))) := (Kept.refl _ _).setCell _ _ (.inl (by simp))
  have hd2 : Has (x1.setCell ⟨p, 0, none⟩ (.pointer (some ⟨p0, 0, none⟩))) p 50 [.pointer (some ⟨p0, 0, none⟩), .pointer none] := HD1.out.put 0 (.pointer (some ⟨p0, 0, none⟩))
  have k2 : Kept [p] x1 (x1.setCell ⟨p, 0, none⟩ (.pointer (some ⟨p0, 0, none⟩))) := (Kept.refl _ _).setCell _ _ (.inl (by simp))
  have HD2 := Lib.hid hd2
  have K2 := Lib.hid k2
  clear hd2 k2 HD1 c0 f0
  generalize x1.setCell ⟨p, 0, none⟩ (.pointer (some ⟨p0, 0, none⟩)) = x2 at *
  have HN1 := Lib.hid (Bt.newBv_ok n hn x2)
  rw [rounds_succ]
  go_wp2_with fail
  refine HN1.out.mono ?_
  rintro e x3 ⟨rfl, hv, k3⟩
  have hd3 := HD2.out.kept k3 (by simp)
  have f1 := hd3.free 1
  have c1 := hd3.cell 1
  simp only [List.getElem?_cons_succ, List.getElem?_cons_zero] at c1
  have HV3 := Lib.hid hv
  have HD3 := Lib.hid hd3
  have K3 := Lib.hid k3
  clear hv hd3 k3 HN1 HD2
  generalize hp1 : x2.heap.size + 1 = p1 at *
  generalize hq1 : x2.heap.size = q1 at *
  go_wp2_with fail
  have hd4 : Has (x3.setCell ⟨p, 1, none⟩ (.pointer (some ⟨p1, 0, none⟩))) p 50 [.pointer (some ⟨p0, 0, none⟩), .pointer (some ⟨p1, 0, none⟩)] := HD3.out.put 1 (.pointer (some ⟨p1, 0, none⟩))
  have k4 : Kept [p] x3 (x3.setCell ⟨p, 1, none⟩ (.pointer (some ⟨p1, 0, none⟩))) := (Kept.refl _ _).setCell _ _ (.inl (by simp))
  have hs := HS0.out
  have hlt := (vec_lt HV1.out).2
  have h21 := K2.out.more
  have kA : Kept [p] x0 (x3.setCell ⟨p, 1, none⟩ (.pointer (some ⟨p1, 0, none⟩))) := ((K1.out.none [p]).trans K2.out).trans ((K3.out.none [p]).trans k4)
  have HFin : Hid (Obj2 w (x3.setCell ⟨p, 1, none⟩ (.pointer (some ⟨p1, 0, none⟩))) ⟨p, p0, q0, p1, q1⟩ (List.replicate n false) (List.replicate n false) ∧ Kept [] x (x3.setCell ⟨p, 1, none⟩ (.pointer (some ⟨p1, 0, none⟩))) ∧ ∀ i ∈ (Bs.mk p p0 q0 p1 q1).all, x.heap.size ≤ i) := Lib.hid (by
    have hall : ∀ i ∈ (Bs.mk p p0 q0 p1 q1).all, x.heap.size ≤ i := fun i hi => by
      unfold Bs.all at hi
      simp only [List.mem_cons, List.not_mem_nil, or_false] at hi
      omega
    have kx : Kept [] x (x3.setCell ⟨p, 1, none⟩ (.pointer (some ⟨p1, 0, none⟩))) := K0.out.forget kA fun i hi => by rw [List.mem_singleton.1 hi]; omega
    exact ⟨Obj2.made HW.out hd4 (((HV1.out.kept K2.out (by simp; omega) (by simp; omega)).keep0 K3.out).kept k4 (by simp; omega) (by simp; omega)) (HV3.out.kept k4 (by simp; omega) (by simp; omega)) kx rfl (by rw [List.length_replicate]; exact hn) (by omega) hall, kx, hall⟩)
  clear hd4 k4 kA HV3 HV1 HD3 K3 K2 K1 K0 HW c1 f1
  rw [rounds_succ]
  go_wp2_with fail
  go_ret2
  exact ⟨⟨p, p0, q0, p1, q1⟩, rfl, HFin.out⟩
set_option maxRecDepth 100000 in
set_option maxHeartbeats 4000000 in
theorem copy_own (h : Obj2 w x s c d) : Calls Tryd.prog 12 #[.pointer (some ⟨s.p, 0, none⟩)] x fun e y => ∃ t, e = .returned (.pointer (some ⟨t.p, 0, none⟩)) ∧ Obj2 w y t c d ∧ Kept [] x y ∧ ∀ i ∈ t.all, x.heap.size ≤ i := by
  have k0 : Kept [] x (x.alloc (.cells #[.pointer none, .pointer none] 50)) := (Kept.refl [] x).alloc _
  have hd0 : Has (x.alloc (.cells #[.pointer none, .pointer none] 50)) x.heap.size 50 [.pointer none, .pointer none] := Has.new x _ _
  have hs0 : (x.alloc (.cells #[.pointer none, .pointer none] 50)).heap.size = x.heap.size + 1 := by simp
  have hlt := h.lt
  have HO := Lib.hid h
  clear h
  go_enter Tryd.func12, Tryd.ntmps12
  go_wp2_with fail
  generalize x.alloc (.cells #[.pointer none, .pointer none] 50) = x0 at *
  have HO0 := Lib.hid (HO.out.keep0 k0)
  have K0 := Lib.hid k0
  have HD0 := Lib.hid hd0
  have HS0 := Lib.hid hs0
  have c0 := HO0.out.c0
  clear k0 hd0 hs0 hlt
  generalize hp : x.heap.size = p at *
  have CA : Hid (∀ y, Kept [] x0 y → Calls Tryd.prog 26 #[.pointer (some ⟨s.p0, 0, none⟩)] y fun e z => ∃ g, e = .returned (.pointer (some ⟨g + 1, 0, none⟩)) ∧ Hid (Bv z (g + 1) g c ∧ Kept [] x0 z ∧ x0.heap.size ≤ g) ∧ z.cell? ⟨p, 0, none⟩ = some (.pointer none) ∧ z.frozen? ⟨p, 0, none⟩ = false) := Lib.hid fun y k => by
    refine (Bt.copy_ok c s.p0 s.q0 y (HO0.out.r0.keep0 k)).mono ?_
    rintro e z ⟨he, hv, kz⟩
    have hd := HD0.out.kept (k.trans kz) (by simp)
    exact ⟨_, he, Lib.hid ⟨hv, k.trans kz, k.more⟩, hd.cell 0, hd.free 0⟩
  go_wp2_with fail
  refine wp_loop_rounds 3 ?_
  rw [rounds_succ]
  go_wp2_with fail
  go_region_with (first | (go_at_call 26; refine (CA.out _ ?_).mono ?_; (first | exact Kept.refl _ _ | exact (Kept.refl _ _).drew | exact (Kept.refl _ _).drewN _); rintro e x1 ⟨g, rfl, h1, d0, f0⟩))
  all_goals
    have hd2 : Has (x1.setCell ⟨p, 0, none⟩ (.pointer (some ⟨g + 1, 0, none⟩))) p 50 [.pointer (some ⟨g + 1, 0, none⟩), .pointer none] := (HD0.out.kept h1.out.2.1 (by simp)).put 0 (.pointer (some ⟨g + 1, 0, none⟩))
    have k2 : Kept [p] x1 (x1.setCell ⟨p, 0, none⟩ (.pointer (some ⟨g + 1, 0, none⟩))) := (Kept.refl _ _).setCell _ _ (.inl (by simp))
    have hs := HS0.out
    have hgp := h1.out.2.2
    have hV1 := h1.out.1.kept k2 (by simp; omega) (by simp; omega)
    have hk2 : Kept [p] x0 (x1.setCell ⟨p, 0, none⟩ (.pointer (some ⟨g + 1, 0, none⟩))) := (h1.out.2.1.none [p]).trans k2
    have hspp : s.p ≠ p := by
      have := HO.out.lt s.p (by simp [Bs.all])
      omega
    have hO2 : Obj2 w (x1.setCell ⟨p, 0, none⟩ (.pointer (some ⟨g + 1, 0, none⟩))) s c d := HO0.out.kept hk2 (fun i hi => by have := HO.out.lt i hi; simp; omega) (fun i hi => by rw [List.mem_singleton.1 hi]; have := HO.out.start.more; omega)
    have c1 := hO2.c1
    have hg1 := (vec_lt hV1).1
    have HD2 := Lib.hid hd2
    have HV1 := Lib.hid hV1
    have HK2 := Lib.hid hk2
    have HO2 := Lib.hid hO2
    clear hd2 k2 hV1 hk2 hO2 h1 d0 f0 c0 CA HD0 HO0
    generalize x1.setCell ⟨p, 0, none⟩ (.pointer (some ⟨g + 1, 0, none⟩)) = x2 at *
    have CB : Hid (∀ y, Kept [] x2 y → Calls Tryd.prog 26 #[.pointer (some ⟨s.p1, 0, none⟩)] y fun e z => ∃ g', e = .returned (.pointer (some ⟨g' + 1, 0, none⟩)) ∧ Hid (Bv z (g' + 1) g' d ∧ Kept [] x2 z ∧ x2.heap.size ≤ g') ∧ z.cell? ⟨p, 1, none⟩ = some (.pointer none) ∧ z.frozen? ⟨p, 1, none⟩ = false) := Lib.hid fun y k => by
      refine (Bt.copy_ok d s.p1 s.q1 y (HO2.out.r1.keep0 k)).mono ?_
      rintro e z ⟨he, hv, kz⟩
      have hd := HD2.out.kept (k.trans kz) (by simp)
      exact ⟨_, he, Lib.hid ⟨hv, k.trans kz, k.more⟩, hd.cell 1, hd.free 1⟩
    go_wp2_with fail
    rw [rounds_succ]
    go_wp2_with fail
    go_region_with (first | (go_at_call 26; refine (CB.out _ ?_).mono ?_; (first | exact Kept.refl _ _ | exact (Kept.refl _ _).drew | exact (Kept.refl _ _).drewN _); rintro e x3 ⟨g', rfl, h3, d1, f1⟩))
    all_goals
      have hd4 : Has (x3.setCell ⟨p, 1, none⟩ (.pointer (some ⟨g' + 1, 0, none⟩))) p 50 [.pointer (some ⟨g + 1, 0, none⟩), .pointer (some ⟨g' + 1, 0, none⟩)] := (HD2.out.kept h3.out.2.1 (by simp)).put 1 (.pointer (some ⟨g' + 1, 0, none⟩))
      have k4 : Kept [p] x3 (x3.setCell ⟨p, 1, none⟩ (.pointer (some ⟨g' + 1, 0, none⟩))) := (Kept.refl _ _).setCell _ _ (.inl (by simp))
      have hgq := h3.out.2.2
      have HFin : Hid (Obj2 w (x3.setCell ⟨p, 1, none⟩ (.pointer (some ⟨g' + 1, 0, none⟩))) ⟨p, g + 1, g, g' + 1, g'⟩ c d ∧ Kept [] x (x3.setCell ⟨p, 1, none⟩ (.pointer (some ⟨g' + 1, 0, none⟩))) ∧ ∀ i ∈ (Bs.mk p (g + 1) g (g' + 1) g').all, x.heap.size ≤ i) := Lib.hid (by
        have hall : ∀ i ∈ (Bs.mk p (g + 1) g (g' + 1) g').all, x.heap.size ≤ i := fun i hi => by
          unfold Bs.all at hi
          simp only [List.mem_cons, List.not_mem_nil, or_false] at hi
          omega
        have kx : Kept [] x (x3.setCell ⟨p, 1, none⟩ (.pointer (some ⟨g' + 1, 0, none⟩))) := K0.out.forget (HK2.out.trans ((h3.out.2.1.none [p]).trans k4)) fun i hi => by rw [List.mem_singleton.1 hi]; omega
        exact ⟨Obj2.made HO.out.start hd4 ((HV1.out.keep0 h3.out.2.1).kept k4 (by simp; omega) (by simp; omega)) (h3.out.1.kept k4 (by simp; omega) (by simp; omega)) kx HO.out.len HO.out.few (by omega) hall, kx, hall⟩)
      clear hd4 k4 h3 d1 f1 c1 CB HO2 HK2 HV1 HD2 HO K0
      go_wp2_with fail
      rw [rounds_succ]
      go_wp2_with fail
      go_ret
      exact ⟨⟨p, g + 1, g, g' + 1, g'⟩, rfl, HFin.out⟩
end
end Go.Proofs.YtijlaganpnoefaaDoor.Bk
