/-
  The contracts of a view's methods that go over no slots: At, Head, Slots, word, Load, Store, Ref; of nil's too.
-/
import Derived.Test.YtpnjblledbihcaaDoorShView
import Derived.Test.YtpnjblledbihcaaDoorArNew
import Derived.Lib.QuietBelow
import Derived.WalkSpells
namespace Go.Proofs.YtpnjblledbihcaaDoor.Sh
open Go.RowKit Go.Proofs.YtpnjblledbihcaaDoor.Ar Go.Sort
open Go.Proofs.YtpnjblledbihcaaDoor.Hd (Hd Fields cells4 free4 ret_one0)
open Go.Proofs.YtpnjblledbihcaaDoor.Tb (Ty)
set_option linter.unusedVariables false

section
variable {w : World} {v p : Nat} {g : Int} {h : Hd} {t : Ty} {sl : Int}
/-! ### nil -/
set_option maxRecDepth 100000 in
theorem at_nil : Calls Tryd.prog 20 #[.pointer none] w fun e w' => e = .returned (.int .i64 0) ∧ w = w' := by
  go_enter Tryd.func20, Tryd.ntmps20
  go_wp2
  go_ret
  exact ⟨rfl, rfl⟩
set_option maxRecDepth 100000 in
theorem slots_nil : Calls Tryd.prog 17 #[.pointer none] w fun e w' => e = .returned (.int .i64 0) ∧ w = w' := by
  go_enter Tryd.func17, Tryd.ntmps17
  go_wp2
  go_ret
  exact ⟨rfl, rfl⟩
set_option maxRecDepth 100000 in
theorem vhead_nil : Calls Tryd.prog 21 #[.pointer none] w fun e w' => e = .returned Hd.zero.val ∧ Kept [] w w' := by
  have hb := Hd.Hd.new w Hd.zero
  have k0 : Kept [] w (w.alloc (.cells #[.int .u8 Hd.zero.tg, .int .i64 Hd.zero.ty, .int .i64 Hd.zero.ln, .int .i64 Hd.zero.sz] 37)) := (Kept.refl [] w).alloc _
  unfold Hd.val
  unfold Hd.zero at *
  simp only at hb k0
  obtain ⟨f0, f1, f2, f3⟩ := free4 hb
  obtain ⟨d0, d1, d2, d3⟩ := cells4 hb
  have R2 := Lib.hid hb
  have K2 := Lib.hid k0
  clear hb k0
  go_enter Tryd.func21, Tryd.ntmps21
  go_wp2_with fail
  exact ret_one0 rfl rfl R2.out rfl ⟨rfl, K2.out⟩
set_option maxRecDepth 100000 in
theorem ref_nil (s : Int) : Calls Tryd.prog 13 #[.pointer none, .int .i64 s] w fun e w' => e = .returned (.tuple #[.bool false, .int .i64 1]) ∧ w = w' := by
  go_enter Tryd.func13, Tryd.ntmps13
  go_wp2
  go_ret2
  exact ⟨rfl, rfl⟩
set_option maxRecDepth 100000 in
theorem vword_nil (s : Int) : Calls Tryd.prog 38 #[.pointer none, .int .i64 s] w fun e w' => e = .returned (.tuple #[.int .i64 0, .int .i64 1]) ∧ w = w' := by
  go_enter Tryd.func38, Tryd.ntmps38
  go_wp2
  go_ret2
  exact ⟨rfl, rfl⟩
set_option maxRecDepth 100000 in
theorem vload_nil (s : Int) : Calls Tryd.prog 12 #[.pointer none, .int .i64 s] w fun e w' => e = .returned (.tuple #[.int .u64 0, .int .i64 1]) ∧ w = w' := by
  go_enter Tryd.func12, Tryd.ntmps12
  go_wp2_with fail
  refine (vword_nil s).mono ?_
  rintro e x1 ⟨rfl, rfl⟩
  go_wp2_with fail
  go_ret2
  exact ⟨rfl, rfl⟩
set_option maxRecDepth 100000 in
theorem vstore_nil (s u : Int) : Calls Tryd.prog 16 #[.pointer none, .int .i64 s, .int .u64 u] w fun e w' => e = .returned (.int .i64 1) ∧ w = w' := by
  go_enter Tryd.func16, Tryd.ntmps16
  go_wp2_with fail
  refine (vword_nil s).mono ?_
  rintro e x1 ⟨rfl, rfl⟩
  go_wp2_with fail
  go_ret
  exact ⟨rfl, rfl⟩

/-! ### A view -/
set_option maxRecDepth 100000 in
theorem at_ok (H : View w v p g h t sl) : Calls Tryd.prog 20 #[.pointer (some ⟨v, 0, none⟩)] w fun e w' => e = .returned (.int .i64 g) ∧ w = w' := by
  obtain ⟨c0, c1, c2, c3, c4, c5, c6, c7, c8, c9⟩ := H.cells
  clear H
  go_enter Tryd.func20, Tryd.ntmps20
  go_wp2
  go_ret
  exact ⟨rfl, rfl⟩
set_option maxRecDepth 100000 in
theorem slots_ok (H : View w v p g h t sl) : Calls Tryd.prog 17 #[.pointer (some ⟨v, 0, none⟩)] w fun e w' => e = .returned (.int .i64 sl) ∧ w = w' := by
  obtain ⟨c0, c1, c2, c3, c4, c5, c6, c7, c8, c9⟩ := H.cells
  clear H
  go_enter Tryd.func17, Tryd.ntmps17
  go_wp2
  go_ret
  exact ⟨rfl, rfl⟩
set_option maxRecDepth 100000 in
set_option maxHeartbeats 1000000 in
theorem vhead_ok (H : View w v p g h t sl) : Calls Tryd.prog 21 #[.pointer (some ⟨v, 0, none⟩)] w fun e w' => e = .returned h.val ∧ Kept [] w w' := by
  have hb := Hd.Hd.new w Hd.zero
  have k0 : Kept [] w (w.alloc (.cells #[.int .u8 Hd.zero.tg, .int .i64 Hd.zero.ty, .int .i64 Hd.zero.ln, .int .i64 Hd.zero.sz] 37)) := (Kept.refl [] w).alloc _
  obtain ⟨c0, c1, c2, c3, c4, c5, c6, c7, c8, c9⟩ := (H.keep0 k0).cells
  have HN : Hid (Has (w.alloc (.cells #[.int .u8 h.tg, .int .i64 h.ty, .int .i64 h.ln, .int .i64 h.sz] 37)) w.heap.size 37 [.int .u8 h.tg, .int .i64 h.ty, .int .i64 h.ln, .int .i64 h.sz]) := Lib.hid (Hd.Hd.new w h)
  have HK : Hid (Kept [] w (w.alloc (.cells #[.int .u8 h.tg, .int .i64 h.ty, .int .i64 h.ln, .int .i64 h.sz] 37))) := Lib.hid ((Kept.refl [] w).alloc _)
  unfold Hd.val
  unfold Hd.zero at *
  simp only at hb k0 c0 c1 c2 c3 c4 c5 c6 c7 c8 c9
  obtain ⟨f0, f1, f2, f3⟩ := free4 hb
  obtain ⟨d0, d1, d2, d3⟩ := cells4 hb
  clear hb k0 H
  generalize h.tg = xg at *
  generalize h.ty = xt at *
  generalize h.ln = xn at *
  generalize h.sz = xs at *
  go_enter Tryd.func21, Tryd.ntmps21
  go_wp2_with fail
  exact ret_one0 rfl rfl HN.out rfl ⟨rfl, HK.out⟩
/-- There is such a slot. -/
def slotB (sl s : Int) : Bool := decide (0 ≤ s ∧ s < sl)
def slotE (sl s : Int) : Int := if 0 ≤ s ∧ s < sl then 0 else 2
def slotW (g sl s : Int) : Int := if 0 ≤ s ∧ s < sl then 2 * g + 1 + s else 0
set_option maxRecDepth 100000 in
set_option maxHeartbeats 1000000 in
theorem vword_ok (H : View w v p g h t sl) (s : Int) (g0 : 0 ≤ g) (g1 : g ≤ 65536) (l1 : sl ≤ 65536) : Calls Tryd.prog 38 #[.pointer (some ⟨v, 0, none⟩), .int .i64 s] w fun e w' => e = .returned (.tuple #[.int .i64 (slotW g sl s), .int .i64 (slotE sl s)]) ∧ w = w' := by
  obtain ⟨c0, c1, c2, c3, c4, c5, c6, c7, c8, c9⟩ := H.cells
  have HX := Lib.hid (fun (y : World) => first_ok (w := y) g (by omega) (by omega))
  clear H
  unfold slotW slotE
  by_cases h0 : s < 0
  · rw [if_neg (by omega), if_neg (by omega)]
    go_enter Tryd.func38, Tryd.ntmps38
    go_wp2
    go_ret2
    exact ⟨rfl, rfl⟩
  · by_cases h1 : sl ≤ s
    · rw [if_neg (by omega), if_neg (by omega)]
      go_enter Tryd.func38, Tryd.ntmps38
      go_wp2
      go_ret2
      exact ⟨rfl, rfl⟩
    · rw [if_pos (by omega), if_pos (by omega)]
      have h0' : 0 ≤ s := by omega
      have h1' : s < sl := by omega
      clear h0 h1
      go_enter Tryd.func38, Tryd.ntmps38
      go_wp2_with fail
      refine (HX.out _).mono ?_
      rintro e x1 ⟨rfl, rfl⟩
      go_wp2_with fail
      go_ret2
      exact ⟨rfl, rfl⟩
def vloadV (ws : List Int) (g sl s : Int) : Int := if 0 ≤ s ∧ s < sl then ws.getD (2 * g + 1 + s).toNat 0 else 0
set_option maxRecDepth 100000 in
set_option maxHeartbeats 1000000 in
theorem vload_ok (H : View w v p g h t sl) {q : Nat} {ws : List Int} {n : Int} (hA : Arena w p q ws n) (s : Int) (g0 : 0 ≤ g) (l0 : 0 ≤ sl) (hr : 2 * g + 1 + sl ≤ ws.length) : Calls Tryd.prog 12 #[.pointer (some ⟨v, 0, none⟩), .int .i64 s] w fun e w' => e = .returned (.tuple #[.int .u64 (vloadV ws g sl s), .int .i64 (slotE sl s)]) ∧ w = w' := by
  have hs := hA.short
  obtain ⟨c0, c1, c2, c3, c4, c5, c6, c7, c8, c9⟩ := H.cells
  unfold vloadV
  by_cases hc : 0 ≤ s ∧ s < sl
  · have HV := Lib.hid (vword_ok H s g0 (by omega) (by omega))
    have hw : Ar.within ws.length (2 * g + 1 + s) 1 = true := (Ar.within_iff _ _ _).2 ⟨by omega, by omega, by omega⟩
    have hl : loadV ws (2 * g + 1 + s) = ws.getD (2 * g + 1 + s).toNat 0 := by unfold loadV; rw [if_pos hw]
    have HL := Lib.hid (load_any hA (2 * g + 1 + s) (by omega) (by omega))
    rw [hw, hl, show errOf true = 0 from rfl] at HL
    unfold slotW slotE at HV
    unfold slotE
    simp only [if_pos hc] at HV ⊢
    clear H hA hw hl
    generalize ws.getD (2 * g + 1 + s).toNat 0 = u at *
    go_enter Tryd.func12, Tryd.ntmps12
    go_wp2_with fail
    refine HV.out.mono ?_
    rintro e x1 ⟨rfl, rfl⟩
    go_wp2_with fail
    refine HL.out.mono ?_
    rintro e x1 ⟨rfl, rfl⟩
    go_wp2_with fail
    go_ret2
    exact ⟨rfl, rfl⟩
  · have HV := Lib.hid (vword_ok H s g0 (by omega) (by omega))
    unfold slotW slotE at HV
    unfold slotE
    simp only [if_neg hc] at HV ⊢
    clear H hA
    go_enter Tryd.func12, Tryd.ntmps12
    go_wp2_with fail
    refine HV.out.mono ?_
    rintro e x1 ⟨rfl, rfl⟩
    go_wp2_with fail
    go_ret2
    exact ⟨rfl, rfl⟩
/-- The words behind a Store. -/
def vput (ws : List Int) (g sl s u : Int) : List Int := if 0 ≤ s ∧ s < sl then ws.set (2 * g + 1 + s).toNat u else ws
theorem putW_one (ws : List Int) (i : Nat) (u : Int) (h : i < ws.length) : putW ws i [u] = ws.set i u := by
  unfold putW
  rw [List.set_eq_take_append_cons_drop, if_pos h]
  rfl
set_option maxRecDepth 100000 in
set_option maxHeartbeats 1000000 in
theorem vstore_ok (H : View w v p g h t sl) {q : Nat} {ws : List Int} {n : Int} (hA : Arena w p q ws n) (s u : Int) (g0 : 0 ≤ g) (l0 : 0 ≤ sl) (hr : 2 * g + 1 + sl ≤ ws.length) : Calls Tryd.prog 16 #[.pointer (some ⟨v, 0, none⟩), .int .i64 s, .int .u64 u] w fun e w' =>
    e = .returned (.int .i64 (slotE sl s)) ∧ (∃ n', Arena w' p q (vput ws g sl s u) n') ∧ Kept [p, q] w w' := by
  have hs := hA.short
  obtain ⟨c0, c1, c2, c3, c4, c5, c6, c7, c8, c9⟩ := H.cells
  have HV := Lib.hid (vword_ok H s g0 (by omega) (by omega))
  unfold vput
  by_cases hc : 0 ≤ s ∧ s < sl
  · have hw : Ar.within ws.length (2 * g + 1 + s) 1 = true := (Ar.within_iff _ _ _).2 ⟨by omega, by omega, by omega⟩
    have hl : fillW ws (2 * g + 1 + s) 1 u = ws.set (2 * g + 1 + s).toNat u := by
      unfold fillW
      rw [if_pos hw]
      exact putW_one ws _ u (by omega)
    have HL := Lib.hid (store_any hA (2 * g + 1 + s) u (by omega) (by omega))
    rw [hw, hl, show errOf true = 0 from rfl] at HL
    unfold slotW slotE at HV
    unfold slotE
    simp only [if_pos hc] at HV ⊢
    clear H hA hw hl
    generalize ws.set (2 * g + 1 + s).toNat u = ws' at *
    generalize fillN ws n (2 * g + 1 + s) 1 = n' at *
    go_enter Tryd.func16, Tryd.ntmps16
    go_wp2_with fail
    refine HV.out.mono ?_
    rintro e x1 ⟨rfl, rfl⟩
    go_wp2_with fail
    refine HL.out.mono ?_
    rintro e x1 ⟨rfl, a1, k1⟩
    have HF := Lib.hid (And.intro a1 k1)
    clear a1 k1 HL HV
    go_wp2_with fail
    go_ret
    exact ⟨rfl, ⟨n', HF.out.1⟩, HF.out.2⟩
  · unfold slotW slotE at HV
    unfold slotE
    simp only [if_neg hc] at HV ⊢
    have HA := Lib.hid hA
    clear H hA
    go_enter Tryd.func16, Tryd.ntmps16
    go_wp2_with fail
    refine HV.out.mono ?_
    rintro e x1 ⟨rfl, rfl⟩
    go_wp2_with fail
    go_ret
    exact ⟨rfl, ⟨n, HA.out⟩, Kept.refl _ _⟩
set_option maxRecDepth 100000 in
set_option maxHeartbeats 2000000 in
theorem vref_ok (H : View w v p g h t sl) (s : Int) (hk : t.k < 256) (hm : t.ms < 18446744073709551616) : Calls Tryd.prog 13 #[.pointer (some ⟨v, 0, none⟩), .int .i64 s] w fun e w' => e = .returned (.tuple #[.bool (Kd.refB t.k t.wd t.ms h.ln s), .int .i64 (Kd.refE t.k t.wd t.ms h.ln s)]) ∧ Kept [] w w' := by
  obtain ⟨c0, c1, c2, c3, c4, c5, c6, c7, c8, c9⟩ := H.cells
  have cR : ∀ d os, Calls Tryd.prog 39 #[Kd.typV t.k t.wd t.ms, .int .i64 h.ln, .int .i64 s] (grow (redrawn w d) os) fun e w'' => e = .returned (.tuple #[.bool (Kd.refB t.k t.wd t.ms h.ln s), .int .i64 (Kd.refE t.k t.wd t.ms h.ln s)]) ∧ ∃ p : Regrown, w'' = grow (redrawn w p.d) p.os :=
    fun d os => Calls.regrown_of ((Kd.ref_ok t.k t.wd t.ms h.ln s hk hm _).mono fun _ _ ⟨he, hk⟩ => ⟨he, hk.below (Nat.le_refl _) (by simp)⟩)
  unfold Kd.typV at cR
  have CR := Lib.hid cR
  clear H cR
  generalize Kd.refB t.k t.wd t.ms h.ln s = rb at *
  generalize Kd.refE t.k t.wd t.ms h.ln s = re at *
  go_enter Tryd.func13, Tryd.ntmps13
  go_wp2_with fail
  have c4' := cell_regrown c4
  have c6' := cell_regrown c6
  have c7' := cell_regrown c7
  have c8' := cell_regrown c8
  clear c0 c1 c2 c3 c4 c5 c6 c7 c8 c9
  refine wp_region_quiet_below (by kernel_rfl) (by kernel_rfl) ?_
  repeat (first | go_big_quiet_step (exact CR.out _ _) | quiet_step (exact CR.out _ _))
  refine wpQuiet_nil ?_
  rintro _ ⟨⟨dq, osq⟩, rfl⟩
  have hk3 := Kept.ofBelow (below_regrown w dq osq) []
  generalize grow (redrawn w dq) osq = W3 at hk3 ⊢
  have HK := Lib.hid hk3
  clear hk3 CR
  go_wp2_with fail
  go_ret2
  exact ⟨rfl, HK.out⟩
end
end Go.Proofs.YtpnjblledbihcaaDoor.Sh
