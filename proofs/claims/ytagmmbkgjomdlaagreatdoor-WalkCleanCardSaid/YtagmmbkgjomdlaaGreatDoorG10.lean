/-
  Several texts in one: KdLay, KdSlots, KdMay.
-/
import Derived.Test.YtagmmbkgjomdlaaGreatDoorG07
/-
  The contract of layoutOf: the layout of an object of a type with a length, or why there is none.
-/
namespace Go.Proofs.YtagmmbkgjomdlaaGreatDoor.Kd
open Go.RowKit Go.Proofs.YtagmmbkgjomdlaaGreatDoor.Ar Go.Maps
set_option linter.unusedVariables false

def typL (k : Nat) (wd : Int) (mk : Nat) : List Value := [.int .u8 (k : Int), .int .i64 wd, .int .u64 (mk : Int)]
def typV (k : Nat) (wd : Int) (mk : Nat) : Value := .agg #[.int .u8 (k : Int), .int .i64 wd, .int .u64 (mk : Int)]
def layL (k : Nat) (wd : Int) (mk : Nat) (n mn mx : Int) (hl : Bool) (f g : Value) : List Value := [.int .u8 (k : Int), .int .i64 wd, .int .u64 (mk : Int), .int .i64 n, .int .i64 mn, .int .i64 mx, .bool hl, f, g]
/-- The layout of an object that may be. -/
def layT (k : Nat) (wd : Int) (mk : Nat) (n : Int) : Value := layV k wd mk n (mn k) (mx k) (hl k) (slF k) (rfF k)
/-- No layout. -/
def lay0 : Value := .agg #[.int .u8 0, .int .i64 0, .int .u64 0, .int .i64 0, .int .i64 0, .int .i64 0, .bool false, .nilFunc, .nilFunc]
theorem size_layout : (Tryz.prog.info? 202).map (·.size) = some 9 := by kernel_rfl
theorem err_kind {k : Nat} {wd : Int} {mk : Nat} {n : Int} (h : isKind k = false) : err k wd mk n = 2 := by
  unfold err
  rw [if_pos (.inl fun hm => by rw [may_iff, h] at hm; cases hm.1)]
theorem err_valid {k : Nat} {wd : Int} {mk : Nat} {n : Int} (h : decide (mn k ≤ wd ∧ wd ≤ mx k ∧ mk / 2 ^ wd.toNat = 0) = false) : err k wd mk n = 2 := by
  rw [decide_eq_false_iff_not] at h
  unfold err
  rw [if_pos (.inl fun hm => h ((may_iff k wd mk).1 hm).2)]
theorem err_neg {k : Nat} {wd : Int} {mk : Nat} {n : Int} (h : n < 0) : err k wd mk n = 2 := by
  unfold err
  rw [if_pos (.inr (.inl h))]
theorem hl_iff (k : Nat) (h : isKind k = true) : hl k = false ↔ k = 1 := by
  unfold isKind at h
  rw [decide_eq_true_iff] at h
  unfold hl
  rw [decide_eq_false_iff_not]
  omega
theorem err_len {k : Nat} {wd : Int} {mk : Nat} {n : Int} (hi : isKind k = true) (h : 0 < n) (hl : hl k = false) : err k wd mk n = 2 := by
  unfold err
  rw [if_pos (.inr (.inr ⟨h, (hl_iff k hi).1 hl⟩))]
theorem err_rest {k : Nat} {wd : Int} {mk : Nat} {n : Int} (hi : isKind k = true) (hv : decide (mn k ≤ wd ∧ wd ≤ mx k ∧ mk / 2 ^ wd.toNat = 0) = true) (h0 : ¬ n < 0) (h1 : ¬ (0 < n ∧ hl k = false)) :
    err k wd mk n = if 4096 < n then 5 else 0 := by
  unfold err
  rw [if_neg]
  rintro (h | h | ⟨h2, h3⟩)
  · exact h ((may_iff k wd mk).2 ⟨hi, of_decide_eq_true hv⟩)
  · exact h0 h
  · exact h1 ⟨h2, (hl_iff k hi).2 h3⟩
def put9 (b : Nat) (v0 v1 v2 v3 v4 v5 v6 v7 v8 : Value) (w : World) : World :=
  ((((((((w.setCell ⟨b, 0, none⟩ v0).setCell ⟨b, 1, none⟩ v1).setCell ⟨b, 2, none⟩ v2).setCell ⟨b, 3, none⟩ v3).setCell ⟨b, 4, none⟩ v4).setCell ⟨b, 5, none⟩ v5).setCell ⟨b, 6, none⟩ v6).setCell ⟨b, 7, none⟩ v7).setCell ⟨b, 8, none⟩ v8
theorem put9_has {b : Nat} {t : TypeId} {w : World} {a0 a1 a2 a3 a4 a5 a6 a7 a8 : Value} (h : Has w b t [a0, a1, a2, a3, a4, a5, a6, a7, a8]) (v0 v1 v2 v3 v4 v5 v6 v7 v8 : Value) : Has (put9 b v0 v1 v2 v3 v4 v5 v6 v7 v8 w) b t [v0, v1, v2, v3, v4, v5, v6, v7, v8] :=
  (((((((((h.put 0 v0).put 1 v1).put 2 v2).put 3 v3).put 4 v4).put 5 v5).put 6 v6).put 7 v7).put 8 v8)
theorem put9_kept {b : Nat} {w0 w : World} (h : Kept [] w0 w) (hb : w0.heap.size ≤ b) (v0 v1 v2 v3 v4 v5 v6 v7 v8 : Value) : Kept [] w0 (put9 b v0 v1 v2 v3 v4 v5 v6 v7 v8 w) :=
  ((((((((h.setCell ⟨b, 0, none⟩ v0 (.inr hb)).setCell ⟨b, 1, none⟩ v1 (.inr hb)).setCell ⟨b, 2, none⟩ v2 (.inr hb)).setCell ⟨b, 3, none⟩ v3 (.inr hb)).setCell ⟨b, 4, none⟩ v4 (.inr hb)).setCell ⟨b, 5, none⟩ v5 (.inr hb)).setCell ⟨b, 6, none⟩ v6 (.inr hb)).setCell ⟨b, 7, none⟩ v7 (.inr hb)).setCell ⟨b, 8, none⟩ v8 (.inr hb)
/-- The end of layoutOf: the result lies in block b of nine cells. -/
theorem ret_lay {P : Program} {f : Func} {p u : Tmp} {ty : TypeId} (h : f.results = #[.cell p ty, .tmp u]) {a : Act} {w0 w : World} {g : Nat} {a0 a1 a2 a3 a4 a5 a6 a7 a8 : Value} {v0 v1 v2 v3 v4 v5 v6 v7 v8 : Value} (d : TypeDesc) (hp : a.tmps.getD p undef = .pointer (some ⟨g, 0, none⟩)) (hH : Has w g ty [a0, a1, a2, a3, a4, a5, a6, a7, a8]) (hk : Kept [] w0 w) (hg : w0.heap.size ≤ g)
    (hu : P.underlying ty = some d) (hd : (match d with | .struct _ | .array _ _ => true | _ => false) = true) (hi : (P.info? ty).map (·.size) = some 9) (hdf : a.defers = []) {E : Value} (hE : a.tmps.getD u undef = E) {R : Ending → World → Prop}
    (hR : ∀ X, Kept [] w0 X → R (.returned (.tuple #[.agg #[v0, v1, v2, v3, v4, v5, v6, v7, v8], E])) X) : bodyPost P f R .ret a (put9 g v0 v1 v2 v3 v4 v5 v6 v7 v8 w) := by
  refine ret_row h d hp (put9_has hH v0 v1 v2 v3 v4 v5 v6 v7 v8) rfl hu hd hi hdf ?_
  rw [hE]
  exact hR _ (put9_kept hk hg _ _ _ _ _ _ _ _ _)

theorem cells9 {w : World} {b : Nat} {t : TypeId} {v0 v1 v2 v3 v4 v5 v6 v7 v8 : Value} (h : Has w b t [v0, v1, v2, v3, v4, v5, v6, v7, v8]) :
    w.cell? ⟨b, 0, none⟩ = some v0 ∧ w.cell? ⟨b, 1, none⟩ = some v1 ∧ w.cell? ⟨b, 2, none⟩ = some v2 ∧ w.cell? ⟨b, 3, none⟩ = some v3 ∧ w.cell? ⟨b, 4, none⟩ = some v4 ∧ w.cell? ⟨b, 5, none⟩ = some v5 ∧ w.cell? ⟨b, 6, none⟩ = some v6 ∧ w.cell? ⟨b, 7, none⟩ = some v7 ∧ w.cell? ⟨b, 8, none⟩ = some v8 :=
  ⟨h.cell 0, h.cell 1, h.cell 2, h.cell 3, h.cell 4, h.cell 5, h.cell 6, h.cell 7, h.cell 8⟩
theorem free9 {w : World} {b : Nat} {t : TypeId} {cs : List Value} (h : Has w b t cs) :
    w.frozen? ⟨b, 0, none⟩ = false ∧ w.frozen? ⟨b, 1, none⟩ = false ∧ w.frozen? ⟨b, 2, none⟩ = false ∧ w.frozen? ⟨b, 3, none⟩ = false ∧ w.frozen? ⟨b, 4, none⟩ = false ∧ w.frozen? ⟨b, 5, none⟩ = false ∧ w.frozen? ⟨b, 6, none⟩ = false ∧ w.frozen? ⟨b, 7, none⟩ = false ∧ w.frozen? ⟨b, 8, none⟩ = false :=
  ⟨h.free 0, h.free 1, h.free 2, h.free 3, h.free 4, h.free 5, h.free 6, h.free 7, h.free 8⟩
theorem after_lay {W W2 : World} {o : Obj} {t : TypeId} (cs : List Value) (h : Kept [] ((W.alloc o).alloc (.cells cs.toArray t)) W2) : Has W2 (W.heap.size + 1) t cs := by
  have := (Has.new (W.alloc o) t cs).keep0 h
  rwa [show (W.alloc o).heap.size = W.heap.size + 1 by simp] at this
theorem cells3 {w : World} {b : Nat} {t : TypeId} {v0 v1 v2 : Value} (h : Has w b t [v0, v1, v2]) : w.cell? ⟨b, 0, none⟩ = some v0 ∧ w.cell? ⟨b, 1, none⟩ = some v1 ∧ w.cell? ⟨b, 2, none⟩ = some v2 :=
  ⟨h.cell 0, h.cell 1, h.cell 2⟩

set_option maxRecDepth 100000 in
set_option maxHeartbeats 4000000 in
theorem layoutOf_ok (k : Nat) (wd : Int) (mk : Nat) (n : Int) (hk : k < 256) (hm : mk < 18446744073709551616) (w : World) :
    Calls Tryz.prog 123 #[typV k wd mk, .int .i64 n] w fun e w' => e = .returned (.tuple #[if err k wd mk n = 0 then layT k wd mk n else lay0, .int .i64 (err k wd mk n)]) ∧ Kept [] w w' := by
  have HT := Lib.hid (fun x => traitsOf_ok k hk x)
  have HV := Lib.hid (fun x => valid_ok k wd mk n (mn k) (mx k) (hl k) (slF k) (rfF k) x (by unfold mn; split <;> decide) (by unfold mx; split <;> (try split) <;> decide) hm)
  unfold trV key at HT
  unfold layV at HV
  unfold typV layT layV lay0
  have hk0 : ∀ o o', Kept [] w ((w.alloc o).alloc o') := fun o o' => ((Kept.refl [] w).alloc o).alloc o'
  have hb0 : ∀ o, Has ((w.alloc (.cells #[.int .u8 (k : Int), .int .i64 wd, .int .u64 (mk : Int)] 84)).alloc o) w.heap.size 84 (typL k wd mk) := fun o => (Has.new w _ _).alloc o
  have hz0 : ∀ o, Has ((w.alloc o).alloc (.cells #[.int .u8 0, .int .i64 0, .int .u64 0, .int .i64 0, .int .i64 0, .int .i64 0, .bool false, .nilFunc, .nilFunc] 202)) (w.heap.size + 1) 202 [.int .u8 0, .int .i64 0, .int .u64 0, .int .i64 0, .int .i64 0, .int .i64 0, .bool false, .nilFunc, .nilFunc] := fun o => by
    have := Has.new (w.alloc o) 202 [.int .u8 0, .int .i64 0, .int .u64 0, .int .i64 0, .int .i64 0, .int .i64 0, .bool false, .nilFunc, .nilFunc]
    rwa [show (w.alloc o).heap.size = w.heap.size + 1 by simp] at this
  have HE : Hid (w.heap.size ≤ w.heap.size + 1) := Lib.hid (Nat.le_succ _)
  cases hi : isKind k with
  | false =>
    rw [err_kind hi, if_neg (by decide)]
    obtain ⟨e1, e2⟩ := fns_no k hi
    rw [hi, e1, e2] at HT
    clear HV e1 e2 hi
    generalize mn k = a1 at *
    generalize mx k = a2 at *
    generalize hl k = a3 at *
    go_enter Tryz.func123, Tryz.ntmps123
    go_wp2_with fail
    refine (HT.out _).mono ?_
    rintro e W1 ⟨rfl, hk1⟩
    have hb := (hb0 _).keep0 hk1
    have hz := (hz0 _).keep0 hk1
    have hkw := (hk0 _ _).trans hk1
    have HB : Hid (w.heap.size ≤ w.heap.size + 1) := Lib.hid (Nat.le_succ _)
    generalize w.heap.size + 1 = B4 at *
    generalize hB0 : w.heap.size = B0 at *
    have b0 := fun o => (cells3 (hb.alloc o)).1
    have b1 := fun o => (cells3 (hb.alloc o)).2.1
    have b2 := fun o => (cells3 (hb.alloc o)).2.2
    have z0 := fun o o' => (cells9 ((hz.alloc o).alloc o')).1
    have z1 := fun o o' => (cells9 ((hz.alloc o).alloc o')).2.1
    have z2 := fun o o' => (cells9 ((hz.alloc o).alloc o')).2.2.1
    have z3 := fun o o' => (cells9 ((hz.alloc o).alloc o')).2.2.2.1
    have z4 := fun o o' => (cells9 ((hz.alloc o).alloc o')).2.2.2.2.1
    have z5 := fun o o' => (cells9 ((hz.alloc o).alloc o')).2.2.2.2.2.1
    have z6 := fun o o' => (cells9 ((hz.alloc o).alloc o')).2.2.2.2.2.2.1
    have z7 := fun o o' => (cells9 ((hz.alloc o).alloc o')).2.2.2.2.2.2.2.1
    have z8 := fun o o' => (cells9 ((hz.alloc o).alloc o')).2.2.2.2.2.2.2.2
    have y0 := fun o o' => (free9 ((hz.alloc o).alloc o')).1
    have y1 := fun o o' => (free9 ((hz.alloc o).alloc o')).2.1
    have y2 := fun o o' => (free9 ((hz.alloc o).alloc o')).2.2.1
    have y3 := fun o o' => (free9 ((hz.alloc o).alloc o')).2.2.2.1
    have y4 := fun o o' => (free9 ((hz.alloc o).alloc o')).2.2.2.2.1
    have y5 := fun o o' => (free9 ((hz.alloc o).alloc o')).2.2.2.2.2.1
    have y6 := fun o o' => (free9 ((hz.alloc o).alloc o')).2.2.2.2.2.2.1
    have y7 := fun o o' => (free9 ((hz.alloc o).alloc o')).2.2.2.2.2.2.2.1
    have y8 := fun o o' => (free9 ((hz.alloc o).alloc o')).2.2.2.2.2.2.2.2
    have Hz := Lib.hid hz
    have Hkw := Lib.hid hkw
    clear hz hkw hk1 hb hb0 hz0 hk0 HE
    go_wp2_with fail
    (try simp only [Exit.inBlock, Exit.then])
    refine ret_lay (w0 := w) (w := (W1.alloc _).alloc _) rfl _ rfl ((Hz.out.alloc _).alloc _) ((Hkw.out.alloc _).alloc _) (hB0 ▸ HB.out) Tryz.underlying202 rfl size_layout rfl rfl ?_
    intro X hX
    exact ⟨rfl, hX⟩
  | true =>
    obtain ⟨F, G, e1, e2⟩ := fns_yes k hi
    have hE1 := err_valid (k := k) (wd := wd) (mk := mk) (n := n)
    have hE2 := err_rest (k := k) (wd := wd) (mk := mk) (n := n) hi
    have hE3 := err_len (k := k) (wd := wd) (mk := mk) (n := n) hi
    have hE4 := err_neg (k := k) (wd := wd) (mk := mk) (n := n)
    rw [hi, e1, e2] at HT
    rw [e1, e2] at HV
    rw [e1, e2]
    clear hi e1 e2
    generalize decide (mn k ≤ wd ∧ wd ≤ mx k ∧ mk / 2 ^ wd.toNat = 0) = v at *
    generalize mn k = a1 at *
    generalize mx k = a2 at *
    generalize hl k = a3 at *
    generalize err k wd mk n = er at *
    have HR : Hid (er = if v = false ∨ n < 0 ∨ (0 < n ∧ a3 = false) then 2 else if 4096 < n then 5 else 0) := Lib.hid (by
      cases v with
      | false => rw [hE1 rfl, if_pos (.inl rfl)]
      | true =>
        by_cases h1 : n < 0
        · rw [hE4 h1, if_pos (.inr (.inl h1))]
        · by_cases h2 : 0 < n ∧ a3 = false
          · rw [hE3 h2.1 h2.2, if_pos (.inr (.inr h2))]
          · rw [hE2 rfl h1 h2]
            refine (if_neg ?_).symm
            rintro (h | h | h)
            · cases h
            · exact h1 h
            · exact h2 h)
    clear hE1 hE2 hE3 hE4
    go_enter Tryz.func123, Tryz.ntmps123
    go_wp2_with fail
    refine (HT.out _).mono ?_
    rintro e W1 ⟨rfl, hk1⟩
    have hb := (hb0 _).keep0 hk1
    have hz := (hz0 _).keep0 hk1
    have hkw := (hk0 _ _).trans hk1
    have HB : Hid (w.heap.size ≤ w.heap.size + 1) := Lib.hid (Nat.le_succ _)
    generalize w.heap.size + 1 = B4 at *
    generalize hB0 : w.heap.size = B0 at *
    have b0 := fun o => (cells3 (hb.alloc o)).1
    have b1 := fun o => (cells3 (hb.alloc o)).2.1
    have b2 := fun o => (cells3 (hb.alloc o)).2.2
    have Hz := Lib.hid hz
    have Hkw := Lib.hid hkw
    have Hb := Lib.hid hb
    clear hz hkw hk1 hb hb0 hz0 hk0 HE
    go_wp2_with fail
    refine (HV.out _).mono ?_
    rintro e W2 ⟨rfl, hk2⟩
    have hl := after_lay _ hk2
    have hz := ((Hz.out.alloc _).alloc _).keep0 hk2
    have hkw := ((Hkw.out.alloc _).alloc _).trans hk2
    clear hk2 Hz Hkw Hb b0 b1 b2
    generalize W1.heap.size + 1 = B8 at *
    obtain ⟨x0, x1, x2, x3, x4, x5, x6, x7, x8⟩ := cells9 hl
    obtain ⟨z0, z1, z2, z3, z4, z5, z6, z7, z8⟩ := cells9 hz
    obtain ⟨y0, y1, y2, y3, y4, y5, y6, y7, y8⟩ := free9 hz
    have Hz := Lib.hid hz
    have Hkw := Lib.hid hkw
    clear hz hkw hl HT HV
    cases v with
    | false =>
      obtain rfl : er = 2 := HR.out.trans (if_pos (.inl rfl))
      clear HR
      go_wp2_with fail
      (try simp only [Exit.inBlock, Exit.then])
      refine ret_lay (w0 := w) (w := W2) rfl _ rfl Hz.out Hkw.out (hB0 ▸ HB.out) Tryz.underlying202 rfl size_layout rfl rfl ?_
      intro X hX
      exact ⟨rfl, hX⟩
    | true =>
      by_cases h1 : n < 0
      · obtain rfl : er = 2 := HR.out.trans (if_pos (.inr (.inl h1)))
        clear HR
        go_wp2_with fail
        (try simp only [Exit.inBlock, Exit.then])
        refine ret_lay (w0 := w) (w := W2) rfl _ rfl Hz.out Hkw.out (hB0 ▸ HB.out) Tryz.underlying202 rfl size_layout rfl rfl ?_
        intro X hX
        exact ⟨rfl, hX⟩
      · by_cases h2 : 0 < n
        · cases a3 with
          | false =>
            obtain rfl : er = 2 := HR.out.trans (if_pos (.inr (.inr ⟨h2, rfl⟩)))
            clear HR
            go_wp2_with fail
            (try simp only [Exit.inBlock, Exit.then])
            refine ret_lay (w0 := w) (w := W2) rfl _ rfl Hz.out Hkw.out (hB0 ▸ HB.out) Tryz.underlying202 rfl size_layout rfl rfl ?_
            intro X hX
            exact ⟨rfl, hX⟩
          | true =>
            by_cases h3 : 4096 < n
            · obtain rfl : er = 5 := HR.out.trans ((if_neg (by rintro (h | h | h); cases h; exact h1 h; cases h.2)).trans (if_pos h3))
              clear HR
              go_wp2_with fail
              (try simp only [Exit.inBlock, Exit.then])
              refine ret_lay (w0 := w) (w := W2) rfl _ rfl Hz.out Hkw.out (hB0 ▸ HB.out) Tryz.underlying202 rfl size_layout rfl rfl ?_
              intro X hX
              exact ⟨rfl, hX⟩
            · obtain rfl : er = 0 := HR.out.trans ((if_neg (by rintro (h | h | h); cases h; exact h1 h; cases h.2)).trans (if_neg h3))
              clear HR
              go_wp2_with fail
              (try simp only [Exit.inBlock, Exit.then])
              refine ret_lay (w0 := w) (w := W2) rfl _ rfl Hz.out Hkw.out (hB0 ▸ HB.out) Tryz.underlying202 rfl size_layout rfl rfl ?_
              intro X hX
              exact ⟨rfl, hX⟩
        · have h3 : ¬ 4096 < n := by omega
          obtain rfl : er = 0 := HR.out.trans ((if_neg (by rintro (h | h | h); cases h; exact h1 h; exact h2 h.1)).trans (if_neg h3))
          clear HR
          go_wp2_with fail
          (try simp only [Exit.inBlock, Exit.then])
          refine ret_lay (w0 := w) (w := W2) rfl _ rfl Hz.out Hkw.out (hB0 ▸ HB.out) Tryz.underlying202 rfl size_layout rfl rfl ?_
          intro X hX
          exact ⟨rfl, hX⟩
end Go.Proofs.YtagmmbkgjomdlaaGreatDoor.Kd

/-
  The contracts of Check and Slots; what a layout's functions answer.
-/
namespace Go.Proofs.YtagmmbkgjomdlaaGreatDoor.Kd
open Go.RowKit Go.Proofs.YtagmmbkgjomdlaaGreatDoor.Ar Go.Maps
set_option linter.unusedVariables false

theorem err_zero {k : Nat} {wd : Int} {mk : Nat} {n : Int} (h : err k wd mk n = 0) : may k wd mk ∧ 0 ≤ n ∧ n ≤ 4096 ∧ (k = 1 → n = 0) := by
  unfold err at h
  by_cases c : ¬ may k wd mk ∨ n < 0 ∨ (0 < n ∧ k = 1)
  · rw [if_pos c] at h; cases h
  · rw [if_neg c] at h
    by_cases c2 : 4096 < n
    · rw [if_pos c2] at h; cases h
    · by_cases hm : may k wd mk
      · exact ⟨hm, by omega, by omega, by omega⟩
      · exact absurd (.inl hm) c
theorem may_kind {k : Nat} {wd : Int} {mk : Nat} (h : may k wd mk) : isKind k = true ∧ 0 ≤ wd ∧ wd ≤ 64 ∧ (k = 1 ∨ k = 2 ∨ k = 3 ∨ k = 4) ∧ (k = 3 → 1 ≤ wd ∧ wd ≤ 16) := by
  have hi := ((may_iff k wd mk).1 h).1
  have h1 := h.1
  have h4 : k = 1 ∨ k = 2 ∨ k = 3 ∨ k = 4 := of_decide_eq_true hi
  exact ⟨hi, by omega, by omega, h4, fun e => by omega⟩
theorem mul_bound {a b A B : Int} (h0 : 0 ≤ a) (h1 : a ≤ A) (h2 : 0 ≤ b) (h3 : b ≤ B) : 0 ≤ a * b ∧ a * b ≤ A * B :=
  ⟨Int.mul_nonneg h0 h2, Int.mul_le_mul h1 h3 h2 (by omega)⟩
theorem slots_bound {k : Nat} {wd : Int} {mk : Nat} {n : Int} (h : err k wd mk n = 0) : 0 ≤ slots k wd n ∧ slots k wd n ≤ 65536 := by
  obtain ⟨hm, h0, h1, _⟩ := err_zero h
  obtain ⟨_, w0, w1, _, w3⟩ := may_kind hm
  unfold slots
  by_cases c1 : k = 1
  · rw [if_pos c1]; omega
  · rw [if_neg c1]
    by_cases c3 : k = 3
    · rw [if_pos c3]
      exact mul_bound h0 h1 (by omega) (w3 c3).2
    · rw [if_neg c3]; omega
/-- What a layout's two functions are, and answer. -/
structure Fns (k : Nat) (wd : Int) (mk : Nat) (n : Int) (i j : Nat) : Prop where
  sl : slF k = fn i
  rf : rfF k = fn j
  inSl : ∀ args x, (callFunc i args).run Tryz.prog x = .ok (.enter i args) x
  inRf : ∀ args x, (callFunc j args).run Tryz.prog x = .ok (.enter j args) x
  doSl : ∀ x, Calls Tryz.prog i #[layV k wd mk n (mn k) (mx k) (hl k) (fn i) (fn j)] x fun e w' => e = .returned (.int .i64 (slots k wd n)) ∧ Kept [] x w'
  doRf : ∀ (s : Nat) x, (s : Int) < slots k wd n → Calls Tryz.prog j #[layV k wd mk n (mn k) (mx k) (hl k) (fn i) (fn j), .int .i64 (s : Int)] x fun e w' => e = .returned (.bool (isRef k wd mk s)) ∧ Kept [] x w'
theorem fns {k : Nat} {wd : Int} {mk : Nat} {n : Int} (h : err k wd mk n = 0) (hm : mk < 18446744073709551616) : ∃ i j, Fns k wd mk n i j := by
  have hb := slots_bound h
  obtain ⟨hy, h0, h1, _⟩ := err_zero h
  obtain ⟨_, w0, w1, hk, w3⟩ := may_kind hy
  rcases hk with rfl | rfl | rfl | rfl
  · refine ⟨_, _, rfl, rfl, fun _ _ => by kernel_rfl, fun _ _ => by kernel_rfl, fun x => words_ok _ _ _ _ _ _ _ _ _ x, fun s x hs => ?_⟩
    have hs' : (s : Int) < wd := hs
    have := masked_ok 1 wd.toNat mk n (mn 1) (mx 1) (hl 1) (fn 165) (fn 166) s x (by omega) (by omega) (by omega) hm
    rwa [Int.toNat_of_nonneg w0] at this
  · exact ⟨_, _, rfl, rfl, fun _ _ => by kernel_rfl, fun _ _ => by kernel_rfl, fun x => length_ok _ _ _ _ _ _ _ _ _ x, fun s x hs => always_ok _ _ _ _ _ _ _ _ _ _ x⟩
  · refine ⟨_, _, rfl, rfl, fun _ _ => by kernel_rfl, fun _ _ => by kernel_rfl, fun x => elements_ok _ _ _ _ _ _ _ _ _ x (by have : slots 3 wd n = n * wd := rfl; omega) (by have : slots 3 wd n = n * wd := rfl; omega), fun s x hs => ?_⟩
    have := masked_ok 3 wd.toNat mk n (mn 3) (mx 3) (hl 3) (fn 169) (fn 166) s x (by have := w3 rfl; omega) (by omega) (by omega) hm
    rwa [Int.toNat_of_nonneg w0] at this
  · exact ⟨_, _, rfl, rfl, fun _ _ => by kernel_rfl, fun _ _ => by kernel_rfl, fun x => length_ok _ _ _ _ _ _ _ _ _ x, fun s x hs => never_ok _ _ _ _ _ _ _ _ _ _ x⟩

set_option maxRecDepth 100000 in
theorem check_ok (k : Nat) (wd : Int) (mk : Nat) (hk : k < 256) (hm : mk < 18446744073709551616) (w : World) :
    Calls Tryz.prog 124 #[typV k wd mk] w fun e w' => e = .returned (.int .i64 (err k wd mk 0)) ∧ Kept [] w w' := by
  have HL := Lib.hid (fun x => layoutOf_ok k wd mk 0 hk hm x)
  have hka : ∀ (x : World) (o : Obj), Kept [] x (x.alloc o) := fun x o => (Kept.refl [] x).alloc o
  unfold typV layT layV lay0 at *
  by_cases h : err k wd mk 0 = 0
  · obtain ⟨F, G, e1, e2⟩ := fns_yes k (may_kind (err_zero h).1).1
    simp only [h, if_true, e1, e2] at HL ⊢
    clear h e1 e2
    generalize mn k = a1 at *
    generalize mx k = a2 at *
    generalize hl k = a3 at *
    go_enter Tryz.func124, Tryz.ntmps124
    go_wp2_with fail
    refine (HL.out _).mono ?_
    rintro e W1 ⟨rfl, hk1⟩
    have hk2 := Lib.hid ((hka w _).trans hk1)
    clear hk1
    go_wp2_with fail
    go_ret
    exact ⟨rfl, hk2.out.alloc _⟩
  · simp only [h, if_false] at HL
    generalize err k wd mk 0 = er at *
    go_enter Tryz.func124, Tryz.ntmps124
    go_wp2_with fail
    refine (HL.out _).mono ?_
    rintro e W1 ⟨rfl, hk1⟩
    have hk2 := Lib.hid ((hka w _).trans hk1)
    clear hk1
    go_wp2_with fail
    go_ret
    exact ⟨rfl, hk2.out.alloc _⟩
/-- What Slots answers. -/
def slotsR (k : Nat) (wd : Int) (mk : Nat) (n : Int) : Int := if err k wd mk n = 0 then slots k wd n else 0
set_option maxRecDepth 100000 in
theorem slots_ok (k : Nat) (wd : Int) (mk : Nat) (n : Int) (hk : k < 256) (hm : mk < 18446744073709551616) (w : World) :
    Calls Tryz.prog 79 #[typV k wd mk, .int .i64 n] w fun e w' => e = .returned (.tuple #[.int .i64 (slotsR k wd mk n), .int .i64 (err k wd mk n)]) ∧ Kept [] w w' := by
  have HL := Lib.hid (fun x => layoutOf_ok k wd mk n hk hm x)
  have hka : ∀ (x : World) (o : Obj), Kept [] x (x.alloc o) := fun x o => (Kept.refl [] x).alloc o
  unfold slotsR typV layT lay0 at *
  by_cases h : err k wd mk n = 0
  · obtain ⟨i, j, hF⟩ := fns h hm
    have HS := Lib.hid hF.doSl
    have e1 := hF.sl
    have e2 := hF.rf
    have cs := hF.inSl
    unfold fn layV at *
    simp only [h, if_true, e1, e2] at HL ⊢
    clear h hF e1 e2
    generalize mn k = a1 at *
    generalize mx k = a2 at *
    generalize hl k = a3 at *
    generalize slots k wd n = sl at *
    go_enter Tryz.func79, Tryz.ntmps79
    go_wp2_with fail
    refine (HL.out _).mono ?_
    rintro e W1 ⟨rfl, hk1⟩
    have hk2 := Lib.hid ((hka w _).trans hk1)
    clear hk1
    go_wp2_with fail
    refine (HS.out _).mono ?_
    rintro e W2 ⟨rfl, hk3⟩
    go_wp2_with fail
    go_ret2
    exact ⟨rfl, (hk2.out.alloc _).trans hk3⟩
  · simp only [h, if_false] at HL ⊢
    have he : (err k wd mk n != 0) = true := by rw [bne_iff_ne]; exact h
    generalize err k wd mk n = er at *
    go_enter Tryz.func79, Tryz.ntmps79
    go_wp2_with fail
    refine (HL.out _).mono ?_
    rintro e W1 ⟨rfl, hk1⟩
    have hk2 := Lib.hid ((hka w _).trans hk1)
    clear hk1
    go_wp2_with fail
    go_ret2
    exact ⟨rfl, hk2.out.alloc _⟩
end Go.Proofs.YtagmmbkgjomdlaaGreatDoor.Kd

/-
  The document's May: which types may be.
-/
namespace Go.Proofs.YtagmmbkgjomdlaaGreatDoor.Kd
open Go.RowKit Go.Proofs.YtagmmbkgjomdlaaGreatDoor.Ar Go.Maps
set_option linter.unusedVariables false

theorem bits_zero {mk wd : Nat} (hm : mk < 18446744073709551616) (h : ∀ j, wd ≤ j → j < 64 → ¬ mk / 2 ^ j % 2 = 1) : mk / 2 ^ wd = 0 := by
  refine Nat.eq_of_testBit_eq fun i => ?_
  rw [Nat.zero_testBit, Nat.testBit_div_two_pow]
  by_cases c : i + wd < 64
  · rw [Nat.testBit_eq_decide_div_mod_eq]
    exact decide_eq_false (h (i + wd) (by omega) c)
  · refine Nat.testBit_lt_two_pow (Nat.lt_of_lt_of_le hm ?_)
    exact Nat.pow_le_pow_right (n := 2) (by decide) (show 64 ≤ i + wd by omega)
theorem bits_some {mk wd j : Nat} (hj : wd ≤ j) (h : mk / 2 ^ j % 2 = 1) : ¬ mk / 2 ^ wd = 0 := by
  intro h0
  have : mk / 2 ^ j = 0 := by
    rw [show j = wd + (j - wd) by omega, Nat.pow_add, ← Nat.div_div_eq_div_mul, h0, Nat.zero_div]
  rw [this] at h
  cases h
theorem bit_int (mk j : Nat) : ((mk : Int) / 2 ^ j) = ((mk / 2 ^ j : Nat) : Int) := by rw [Int.natCast_ediv, Int.natCast_pow]; rfl
theorem bit_test (mk j : Nat) : (((mk : Int) / 2 ^ j).tmod 2 == 1) = decide (mk / 2 ^ j % 2 = 1) := by
  rw [bit_int, Int.tmod_eq_emod_of_nonneg (Int.natCast_nonneg _)]
  generalize mk / 2 ^ j = x
  by_cases h : x % 2 = 1
  · rw [decide_eq_true h, beq_iff_eq]
    omega
  · rw [decide_eq_false h, beq_eq_false_iff_ne]
    omega
set_option maxRecDepth 100000 in
set_option maxHeartbeats 4000000 in
theorem may_in1 (wd mk : Nat) (hw : wd ≤ 64)  (hm : mk < 18446744073709551616) (w : World) :
    Calls Tryz.prog 132 #[.agg #[.int .u8 1, .int .i64 (wd : Int), .int .u64 (mk : Int)]] w fun e w' => e = .returned (.bool (decide (mk / 2 ^ wd = 0))) ∧ Kept [] w w' := by
  have hH : Has (w.alloc (.cells #[.int .u8 1, .int .i64 (wd : Int), .int .u64 (mk : Int)] 84)) w.heap.size 84 [.int .u8 1, .int .i64 (wd : Int), .int .u64 (mk : Int)] := Has.new w _ _
  have hK : Kept [] w (w.alloc (.cells #[.int .u8 1, .int .i64 (wd : Int), .int .u64 (mk : Int)] 84)) := (Kept.refl [] w).alloc _
  go_enter Tryz.func132, Tryz.ntmps132
  go_wp2_with fail
  generalize w.alloc (.cells #[.int .u8 1, .int .i64 (wd : Int), .int .u64 (mk : Int)] 84) = W at *
  generalize w.heap.size = B at *
  obtain ⟨c0, c1, c2⟩ := cells3 hH
  have HK := Lib.hid hK
  clear hH hK
  go_loopw [4] (fun t wr => ∃ j : Nat, t = .int .i64 (j : Int) ∧ wd ≤ j ∧ j ≤ 64 ∧ Hid (∀ i, wd ≤ i → i < j → ¬ mk / 2 ^ i % 2 = 1) ∧ wr = W) (fun t _ => 64 - (intOf t).toNat)
  case atStart => exact ⟨wd, rfl, Nat.le_refl _, hw, Lib.hid (fun i h1 h2 => by omega), rfl⟩
  case round =>
    obtain ⟨j, rfl, hj, hj2, hr, rfl⟩ := hrel
    by_cases hlt : j < 64
    · have ht := bit_test mk j
      cases hb : decide (mk / 2 ^ j % 2 = 1) with
      | true =>
        rw [hb] at ht
        have HS := Lib.hid (bits_some hj (of_decide_eq_true hb))
        clear hb hr
        go_wp2_with fail
        go_ret
        exact ⟨by rw [decide_eq_false HS.out]; rfl, HK.out⟩
      | false =>
        rw [hb] at ht
        have HN : Hid (∀ i, wd ≤ i → i < j + 1 → ¬ mk / 2 ^ i % 2 = 1) := Lib.hid (fun i h1 h2 => by
          by_cases e : i = j
          · subst e; exact of_decide_eq_false hb
          · exact hr.out i h1 (by omega))
        clear hb hr
        go_wp2_with fail
        go_roundw
        case rel => exact ⟨j + 1, by go_num, by omega, by omega, HN, trivial⟩
        case measure => simp [intOf] <;> omega
    · obtain rfl : j = 64 := by omega
      have HZ := Lib.hid (bits_zero hm hr.out)
      clear hr
      go_wp2_with fail
      go_ret
      exact ⟨by rw [decide_eq_true HZ.out]; rfl, HK.out⟩
set_option maxRecDepth 100000 in
set_option maxHeartbeats 4000000 in
theorem may_in3 (wd mk : Nat) (hw : wd ≤ 64) (hw1 : 1 ≤ wd) (hw2 : wd ≤ 16) (hm : mk < 18446744073709551616) (w : World) :
    Calls Tryz.prog 132 #[.agg #[.int .u8 3, .int .i64 (wd : Int), .int .u64 (mk : Int)]] w fun e w' => e = .returned (.bool (decide (mk / 2 ^ wd = 0))) ∧ Kept [] w w' := by
  have hH : Has (w.alloc (.cells #[.int .u8 3, .int .i64 (wd : Int), .int .u64 (mk : Int)] 84)) w.heap.size 84 [.int .u8 3, .int .i64 (wd : Int), .int .u64 (mk : Int)] := Has.new w _ _
  have hK : Kept [] w (w.alloc (.cells #[.int .u8 3, .int .i64 (wd : Int), .int .u64 (mk : Int)] 84)) := (Kept.refl [] w).alloc _
  go_enter Tryz.func132, Tryz.ntmps132
  go_wp2_with fail
  generalize w.alloc (.cells #[.int .u8 3, .int .i64 (wd : Int), .int .u64 (mk : Int)] 84) = W at *
  generalize w.heap.size = B at *
  obtain ⟨c0, c1, c2⟩ := cells3 hH
  have HK := Lib.hid hK
  clear hH hK
  go_loopw [4] (fun t wr => ∃ j : Nat, t = .int .i64 (j : Int) ∧ wd ≤ j ∧ j ≤ 64 ∧ Hid (∀ i, wd ≤ i → i < j → ¬ mk / 2 ^ i % 2 = 1) ∧ wr = W) (fun t _ => 64 - (intOf t).toNat)
  case atStart => exact ⟨wd, rfl, Nat.le_refl _, hw, Lib.hid (fun i h1 h2 => by omega), rfl⟩
  case round =>
    obtain ⟨j, rfl, hj, hj2, hr, rfl⟩ := hrel
    by_cases hlt : j < 64
    · have ht := bit_test mk j
      cases hb : decide (mk / 2 ^ j % 2 = 1) with
      | true =>
        rw [hb] at ht
        have HS := Lib.hid (bits_some hj (of_decide_eq_true hb))
        clear hb hr
        go_wp2_with fail
        go_ret
        exact ⟨by rw [decide_eq_false HS.out]; rfl, HK.out⟩
      | false =>
        rw [hb] at ht
        have HN : Hid (∀ i, wd ≤ i → i < j + 1 → ¬ mk / 2 ^ i % 2 = 1) := Lib.hid (fun i h1 h2 => by
          by_cases e : i = j
          · subst e; exact of_decide_eq_false hb
          · exact hr.out i h1 (by omega))
        clear hb hr
        go_wp2_with fail
        go_roundw
        case rel => exact ⟨j + 1, by go_num, by omega, by omega, HN, trivial⟩
        case measure => simp [intOf] <;> omega
    · obtain rfl : j = 64 := by omega
      have HZ := Lib.hid (bits_zero hm hr.out)
      clear hr
      go_wp2_with fail
      go_ret
      exact ⟨by rw [decide_eq_true HZ.out]; rfl, HK.out⟩
set_option maxRecDepth 100000 in
set_option maxHeartbeats 4000000 in
theorem may_in2 (wd mk : Nat) (hw : wd ≤ 64) (hw0 : wd = 0) (hm : mk < 18446744073709551616) (w : World) :
    Calls Tryz.prog 132 #[.agg #[.int .u8 2, .int .i64 (wd : Int), .int .u64 (mk : Int)]] w fun e w' => e = .returned (.bool (decide (mk / 2 ^ wd = 0))) ∧ Kept [] w w' := by
  have hH : Has (w.alloc (.cells #[.int .u8 2, .int .i64 (wd : Int), .int .u64 (mk : Int)] 84)) w.heap.size 84 [.int .u8 2, .int .i64 (wd : Int), .int .u64 (mk : Int)] := Has.new w _ _
  have hK : Kept [] w (w.alloc (.cells #[.int .u8 2, .int .i64 (wd : Int), .int .u64 (mk : Int)] 84)) := (Kept.refl [] w).alloc _
  have hz : ((wd : Int) != 0) = false := by rw [hw0]; rfl
  clear hw0
  go_enter Tryz.func132, Tryz.ntmps132
  go_wp2_with fail
  generalize w.alloc (.cells #[.int .u8 2, .int .i64 (wd : Int), .int .u64 (mk : Int)] 84) = W at *
  generalize w.heap.size = B at *
  obtain ⟨c0, c1, c2⟩ := cells3 hH
  have HK := Lib.hid hK
  clear hH hK
  go_loopw [4] (fun t wr => ∃ j : Nat, t = .int .i64 (j : Int) ∧ wd ≤ j ∧ j ≤ 64 ∧ Hid (∀ i, wd ≤ i → i < j → ¬ mk / 2 ^ i % 2 = 1) ∧ wr = W) (fun t _ => 64 - (intOf t).toNat)
  case atStart => exact ⟨wd, rfl, Nat.le_refl _, hw, Lib.hid (fun i h1 h2 => by omega), rfl⟩
  case round =>
    obtain ⟨j, rfl, hj, hj2, hr, rfl⟩ := hrel
    by_cases hlt : j < 64
    · have ht := bit_test mk j
      cases hb : decide (mk / 2 ^ j % 2 = 1) with
      | true =>
        rw [hb] at ht
        have HS := Lib.hid (bits_some hj (of_decide_eq_true hb))
        clear hb hr
        go_wp2_with fail
        go_ret
        exact ⟨by rw [decide_eq_false HS.out]; rfl, HK.out⟩
      | false =>
        rw [hb] at ht
        have HN : Hid (∀ i, wd ≤ i → i < j + 1 → ¬ mk / 2 ^ i % 2 = 1) := Lib.hid (fun i h1 h2 => by
          by_cases e : i = j
          · subst e; exact of_decide_eq_false hb
          · exact hr.out i h1 (by omega))
        clear hb hr
        go_wp2_with fail
        go_roundw
        case rel => exact ⟨j + 1, by go_num, by omega, by omega, HN, trivial⟩
        case measure => simp [intOf] <;> omega
    · obtain rfl : j = 64 := by omega
      have HZ := Lib.hid (bits_zero hm hr.out)
      clear hr
      go_wp2_with fail
      go_ret
      exact ⟨by rw [decide_eq_true HZ.out]; rfl, HK.out⟩
set_option maxRecDepth 100000 in
set_option maxHeartbeats 4000000 in
theorem may_in4 (wd mk : Nat) (hw : wd ≤ 64) (hw0 : wd = 0) (hm : mk < 18446744073709551616) (w : World) :
    Calls Tryz.prog 132 #[.agg #[.int .u8 4, .int .i64 (wd : Int), .int .u64 (mk : Int)]] w fun e w' => e = .returned (.bool (decide (mk / 2 ^ wd = 0))) ∧ Kept [] w w' := by
  have hH : Has (w.alloc (.cells #[.int .u8 4, .int .i64 (wd : Int), .int .u64 (mk : Int)] 84)) w.heap.size 84 [.int .u8 4, .int .i64 (wd : Int), .int .u64 (mk : Int)] := Has.new w _ _
  have hK : Kept [] w (w.alloc (.cells #[.int .u8 4, .int .i64 (wd : Int), .int .u64 (mk : Int)] 84)) := (Kept.refl [] w).alloc _
  have hz : ((wd : Int) != 0) = false := by rw [hw0]; rfl
  clear hw0
  go_enter Tryz.func132, Tryz.ntmps132
  go_wp2_with fail
  generalize w.alloc (.cells #[.int .u8 4, .int .i64 (wd : Int), .int .u64 (mk : Int)] 84) = W at *
  generalize w.heap.size = B at *
  obtain ⟨c0, c1, c2⟩ := cells3 hH
  have HK := Lib.hid hK
  clear hH hK
  go_loopw [4] (fun t wr => ∃ j : Nat, t = .int .i64 (j : Int) ∧ wd ≤ j ∧ j ≤ 64 ∧ Hid (∀ i, wd ≤ i → i < j → ¬ mk / 2 ^ i % 2 = 1) ∧ wr = W) (fun t _ => 64 - (intOf t).toNat)
  case atStart => exact ⟨wd, rfl, Nat.le_refl _, hw, Lib.hid (fun i h1 h2 => by omega), rfl⟩
  case round =>
    obtain ⟨j, rfl, hj, hj2, hr, rfl⟩ := hrel
    by_cases hlt : j < 64
    · have ht := bit_test mk j
      cases hb : decide (mk / 2 ^ j % 2 = 1) with
      | true =>
        rw [hb] at ht
        have HS := Lib.hid (bits_some hj (of_decide_eq_true hb))
        clear hb hr
        go_wp2_with fail
        go_ret
        exact ⟨by rw [decide_eq_false HS.out]; rfl, HK.out⟩
      | false =>
        rw [hb] at ht
        have HN : Hid (∀ i, wd ≤ i → i < j + 1 → ¬ mk / 2 ^ i % 2 = 1) := Lib.hid (fun i h1 h2 => by
          by_cases e : i = j
          · subst e; exact of_decide_eq_false hb
          · exact hr.out i h1 (by omega))
        clear hb hr
        go_wp2_with fail
        go_roundw
        case rel => exact ⟨j + 1, by go_num, by omega, by omega, HN, trivial⟩
        case measure => simp [intOf] <;> omega
    · obtain rfl : j = 64 := by omega
      have HZ := Lib.hid (bits_zero hm hr.out)
      clear hr
      go_wp2_with fail
      go_ret
      exact ⟨by rw [decide_eq_true HZ.out]; rfl, HK.out⟩
set_option maxRecDepth 100000 in
theorem may_out1a (wd : Int) (mk : Nat) (h : wd < 0) (w : World) :
    Calls Tryz.prog 132 #[.agg #[.int .u8 1, .int .i64 wd, .int .u64 (mk : Int)]] w fun e w' => e = .returned (.bool false) ∧ Kept [] w w' := by
  go_enter Tryz.func132, Tryz.ntmps132
  go_wp2_with fail
  go_ret
  exact ⟨rfl, (Kept.refl [] w).alloc _⟩
set_option maxRecDepth 100000 in
theorem may_out1b (wd : Int) (mk : Nat) (h0 : ¬ wd < 0) (h : 64 < wd) (w : World) :
    Calls Tryz.prog 132 #[.agg #[.int .u8 1, .int .i64 wd, .int .u64 (mk : Int)]] w fun e w' => e = .returned (.bool false) ∧ Kept [] w w' := by
  go_enter Tryz.func132, Tryz.ntmps132
  go_wp2_with fail
  go_ret
  exact ⟨rfl, (Kept.refl [] w).alloc _⟩
set_option maxRecDepth 100000 in
theorem may_out3a (wd : Int) (mk : Nat) (h : wd < 1) (w : World) :
    Calls Tryz.prog 132 #[.agg #[.int .u8 3, .int .i64 wd, .int .u64 (mk : Int)]] w fun e w' => e = .returned (.bool false) ∧ Kept [] w w' := by
  go_enter Tryz.func132, Tryz.ntmps132
  go_wp2_with fail
  go_ret
  exact ⟨rfl, (Kept.refl [] w).alloc _⟩
set_option maxRecDepth 100000 in
theorem may_out3b (wd : Int) (mk : Nat) (h0 : ¬ wd < 1) (h : 16 < wd) (w : World) :
    Calls Tryz.prog 132 #[.agg #[.int .u8 3, .int .i64 wd, .int .u64 (mk : Int)]] w fun e w' => e = .returned (.bool false) ∧ Kept [] w w' := by
  go_enter Tryz.func132, Tryz.ntmps132
  go_wp2_with fail
  go_ret
  exact ⟨rfl, (Kept.refl [] w).alloc _⟩
set_option maxRecDepth 100000 in
theorem may_out2 (wd : Int) (mk : Nat) (h : ¬ wd = 0) (w : World) :
    Calls Tryz.prog 132 #[.agg #[.int .u8 2, .int .i64 wd, .int .u64 (mk : Int)]] w fun e w' => e = .returned (.bool false) ∧ Kept [] w w' := by
  have hz : (wd != 0) = true := by rw [bne_iff_ne]; exact h
  go_enter Tryz.func132, Tryz.ntmps132
  go_wp2_with fail
  go_ret
  exact ⟨rfl, (Kept.refl [] w).alloc _⟩
set_option maxRecDepth 100000 in
theorem may_out4 (wd : Int) (mk : Nat) (h : ¬ wd = 0) (w : World) :
    Calls Tryz.prog 132 #[.agg #[.int .u8 4, .int .i64 wd, .int .u64 (mk : Int)]] w fun e w' => e = .returned (.bool false) ∧ Kept [] w w' := by
  have hz : (wd != 0) = true := by rw [bne_iff_ne]; exact h
  go_enter Tryz.func132, Tryz.ntmps132
  go_wp2_with fail
  go_ret
  exact ⟨rfl, (Kept.refl [] w).alloc _⟩
set_option maxRecDepth 100000 in
theorem may_out0 (wd : Int) (mk : Nat) (k : Nat) (c1 : ¬ k = 1) (c2 : ¬ k = 2) (c3 : ¬ k = 3) (c4 : ¬ k = 4) (w : World) :
    Calls Tryz.prog 132 #[.agg #[.int .u8 (k : Int), .int .i64 wd, .int .u64 (mk : Int)]] w fun e w' => e = .returned (.bool false) ∧ Kept [] w w' := by
  have e1 : ((k : Int) == 1) = false := by rw [beq_eq_false_iff_ne]; omega
  have e2 : ((k : Int) == 2) = false := by rw [beq_eq_false_iff_ne]; omega
  have e3 : ((k : Int) == 3) = false := by rw [beq_eq_false_iff_ne]; omega
  have e4 : ((k : Int) == 4) = false := by rw [beq_eq_false_iff_ne]; omega
  clear c1 c2 c3 c4
  go_enter Tryz.func132, Tryz.ntmps132
  go_wp2_with fail
  go_ret
  exact ⟨rfl, (Kept.refl [] w).alloc _⟩
theorem may_ok (k : Nat) (wd : Int) (mk : Nat) (hm : mk < 18446744073709551616) (w : World) :
    Calls Tryz.prog 132 #[typV k wd mk] w fun e w' => e = .returned (.bool (decide (may k wd mk))) ∧ Kept [] w w' := by
  unfold typV
  by_cases c1 : k = 1
  · subst c1
    by_cases h0 : wd < 0
    · rw [decide_eq_false (fun h => by have := h.1; omega)]; exact may_out1a wd mk h0 w
    · by_cases h1 : 64 < wd
      · rw [decide_eq_false (fun h => by have := h.1; omega)]; exact may_out1b wd mk h0 h1 w
      · obtain ⟨v, rfl⟩ := Int.eq_ofNat_of_zero_le (show 0 ≤ wd by omega)
        rw [show decide (may 1 (v : Int) mk) = decide (mk / 2 ^ v = 0) from decide_eq_decide.2 ⟨fun h => h.2, fun h => ⟨by omega, h⟩⟩]
        exact may_in1 v mk (by omega) hm w
  by_cases c3 : k = 3
  · subst c3
    by_cases h0 : wd < 1
    · rw [decide_eq_false (fun h => by have := h.1; omega)]; exact may_out3a wd mk h0 w
    · by_cases h1 : 16 < wd
      · rw [decide_eq_false (fun h => by have := h.1; omega)]; exact may_out3b wd mk h0 h1 w
      · obtain ⟨v, rfl⟩ := Int.eq_ofNat_of_zero_le (show 0 ≤ wd by omega)
        rw [show decide (may 3 (v : Int) mk) = decide (mk / 2 ^ v = 0) from decide_eq_decide.2 ⟨fun h => h.2, fun h => ⟨by omega, h⟩⟩]
        exact may_in3 v mk (by omega) (by omega) (by omega) hm w
  by_cases c2 : k = 2
  · subst c2
    by_cases h0 : wd = 0
    · subst h0
      rw [show decide (may 2 0 mk) = decide (mk / 2 ^ 0 = 0) from decide_eq_decide.2 ⟨fun h => h.2, fun h => ⟨by omega, h⟩⟩]
      exact may_in2 0 mk (by omega) rfl hm w
    · rw [decide_eq_false (fun h => by have := h.1; omega)]; exact may_out2 wd mk h0 w
  by_cases c4 : k = 4
  · subst c4
    by_cases h0 : wd = 0
    · subst h0
      rw [show decide (may 4 0 mk) = decide (mk / 2 ^ 0 = 0) from decide_eq_decide.2 ⟨fun h => h.2, fun h => ⟨by omega, h⟩⟩]
      exact may_in4 0 mk (by omega) rfl hm w
    · rw [decide_eq_false (fun h => by have := h.1; omega)]; exact may_out4 wd mk h0 w
  rw [decide_eq_false (fun h => by have := h.1; omega)]
  exact may_out0 wd mk k c1 c2 c3 c4 w
end Go.Proofs.YtagmmbkgjomdlaaGreatDoor.Kd
