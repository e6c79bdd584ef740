/-
  Several texts in one: HdLay, TbDoc2.
-/
import Derived.Test.YtoagghileebokaaGreatDoorG04
import Derived.Test.YtoagghileebokaaGreatDoorG08
/-
  The contracts of wordOf and of its closure.
-/
namespace Go.Proofs.YtoagghileebokaaGreatDoor.Hd
open Go.RowKit Go.Proofs.YtoagghileebokaaGreatDoor.Ar
set_option linter.unusedVariables false

section
variable {w : World}
set_option maxRecDepth 100000 in
theorem lay_0 (h : Fields w) {B : Nat} {v : Int} (hB : Has w B 55 [.int .u64 0]) (hv0 : 0 ≤ v) (hv : v ≤ 255) :
    Calls Tryz.prog 153 #[.int .i64 0, .int .i64 v, .pointer (some ⟨B, 0, none⟩)] w fun e w' => e = .returned (.tuple #[]) ∧ Has w' B 55 [.int .u64 v] ∧ Kept [B] w w' := by
  obtain ⟨c0, c1, c2, c3, c4, c5, c6, c7⟩ := h.cells
  have d0 := hB.cell 0
  simp only [List.getElem?_cons_zero] at d0
  have d1 := hB.free 0
  have HL := Lib.hid (lay0 v hv0 (by omega))
  have HB := Lib.hid hB
  clear hB h
  go_enter Tryz.func153, Tryz.ntmps153
  go_wp2_with fail
  go_region
  all_goals rw [HL.out]
  all_goals go_wp2_with fail
  all_goals go_end0
  all_goals exact ⟨rfl, (HB.out.put 0 _).drew, ((Kept.refl [B] w).setCell _ _ (.inl (by simp))).drew⟩
set_option maxRecDepth 100000 in
theorem lay_1 (h : Fields w) {B : Nat} {u v : Int} (hB : Has w B 55 [.int .u64 u]) (hu0 : 0 ≤ u) (hu : u < 4) (hv0 : 0 ≤ v) (hv : v ≤ 4095) :
    Calls Tryz.prog 153 #[.int .i64 1, .int .i64 v, .pointer (some ⟨B, 0, none⟩)] w fun e w' => e = .returned (.tuple #[]) ∧ Has w' B 55 [.int .u64 (u + 4 * v)] ∧ Kept [B] w w' := by
  obtain ⟨c0, c1, c2, c3, c4, c5, c6, c7⟩ := h.cells
  have d0 := hB.cell 0
  simp only [List.getElem?_cons_zero] at d0
  have d1 := hB.free 0
  have HL := Lib.hid (lay2 u v hu0 hu hv0 (by omega))
  have HB := Lib.hid hB
  clear hB h
  go_enter Tryz.func153, Tryz.ntmps153
  go_wp2_with fail
  go_region
  all_goals rw [HL.out]
  all_goals go_wp2_with fail
  all_goals go_end0
  all_goals exact ⟨rfl, (HB.out.put 0 _).drew, ((Kept.refl [B] w).setCell _ _ (.inl (by simp))).drew⟩
set_option maxRecDepth 100000 in
theorem lay_2 (h : Fields w) {B : Nat} {u v : Int} (hB : Has w B 55 [.int .u64 u]) (hu0 : 0 ≤ u) (hu : u < 65536) (hv0 : 0 ≤ v) (hv : v ≤ 16777215) :
    Calls Tryz.prog 153 #[.int .i64 2, .int .i64 v, .pointer (some ⟨B, 0, none⟩)] w fun e w' => e = .returned (.tuple #[]) ∧ Has w' B 55 [.int .u64 (u + 65536 * v)] ∧ Kept [B] w w' := by
  obtain ⟨c0, c1, c2, c3, c4, c5, c6, c7⟩ := h.cells
  have d0 := hB.cell 0
  simp only [List.getElem?_cons_zero] at d0
  have d1 := hB.free 0
  have HL := Lib.hid (lay16 u v hu0 hu hv0 (by omega))
  have HB := Lib.hid hB
  clear hB h
  go_enter Tryz.func153, Tryz.ntmps153
  go_wp2_with fail
  go_region
  all_goals rw [HL.out]
  all_goals go_wp2_with fail
  all_goals go_end0
  all_goals exact ⟨rfl, (HB.out.put 0 _).drew, ((Kept.refl [B] w).setCell _ _ (.inl (by simp))).drew⟩
set_option maxRecDepth 100000 in
theorem lay_3 (h : Fields w) {B : Nat} {u v : Int} (hB : Has w B 55 [.int .u64 u]) (hu0 : 0 ≤ u) (hu : u < 1099511627776) (hv0 : 0 ≤ v) (hv : v ≤ 16777215) :
    Calls Tryz.prog 153 #[.int .i64 3, .int .i64 v, .pointer (some ⟨B, 0, none⟩)] w fun e w' => e = .returned (.tuple #[]) ∧ Has w' B 55 [.int .u64 (u + 1099511627776 * v)] ∧ Kept [B] w w' := by
  obtain ⟨c0, c1, c2, c3, c4, c5, c6, c7⟩ := h.cells
  have d0 := hB.cell 0
  simp only [List.getElem?_cons_zero] at d0
  have d1 := hB.free 0
  have HL := Lib.hid (lay40 u v hu0 hu hv0 (by omega))
  have HB := Lib.hid hB
  clear hB h
  go_enter Tryz.func153, Tryz.ntmps153
  go_wp2_with fail
  go_region
  all_goals rw [HL.out]
  all_goals go_wp2_with fail
  all_goals go_end0
  all_goals exact ⟨rfl, (HB.out.put 0 _).drew, ((Kept.refl [B] w).setCell _ _ (.inl (by simp))).drew⟩
end
/-- On the way: the header's copy and the word under way, in the call's own memory. -/
structure Laying (w x : World) (b : Nat) (v0 v1 v2 v3 : Value) (u : Int) : Prop where
  fields : Fields x
  head : Has x b 49 [v0, v1, v2, v3]
  word : Has x (b + 1) 55 [.int .u64 u]
  kept : Kept [] w x
  from_ : w.heap.size ≤ b
theorem Laying.step {w x y : World} {b : Nat} {v0 v1 v2 v3 : Value} {u u' : Int} (h : Laying w x b v0 v1 v2 v3 u) (hu : Has y (b + 1) 55 [.int .u64 u']) (k : Kept [b + 1] x y) : Laying w y b v0 v1 v2 v3 u' :=
  ⟨h.fields.kept k fun i hi e => by
      obtain rfl := List.mem_singleton.1 hi
      have e' : b + 1 = 0 := e
      omega, h.head.kept k (by simp), hu, h.kept.forget k fun i hi => by
      obtain rfl := List.mem_singleton.1 hi
      have := h.from_
      omega, h.from_⟩
theorem Laying.start {w : World} (h : Fields w) (x : Hd) : Laying w ((w.alloc (.cells #[.int .u8 x.tg, .int .i64 x.ty, .int .i64 x.ln, .int .i64 x.sz] 49)).alloc (.cells #[.int .u64 0] 55)) w.heap.size (.int .u8 x.tg) (.int .i64 x.ty) (.int .i64 x.ln) (.int .i64 x.sz) 0 :=
  have k : Kept [] w ((w.alloc (.cells #[.int .u8 x.tg, .int .i64 x.ty, .int .i64 x.ln, .int .i64 x.sz] 49)).alloc (.cells #[.int .u64 0] 55)) := ((Kept.refl [] w).alloc _).alloc _
  ⟨h.keep0 k, (Has.new w 49 x.cells).alloc _, by
    have := Has.new (w.alloc (.cells #[.int .u8 x.tg, .int .i64 x.ty, .int .i64 x.ln, .int .i64 x.sz] 49)) 55 [.int .u64 0]
    simpa using this, k, Nat.le_refl _⟩
set_option maxRecDepth 100000 in
theorem word_ok {w : World} (h : Fields w) (x : Hd) (c : x.can) : Calls Tryz.prog 121 #[x.val] w fun e w' => e = .returned (.int .u64 (wordI x)) ∧ Kept [] w w' := by
  have hs := Laying.start h x
  obtain ⟨g0, g1, t0, t1, l0, l1, s0, s1⟩ : 0 ≤ x.tg ∧ x.tg ≤ 3 ∧ 0 ≤ x.ty ∧ x.ty ≤ 4095 ∧ 0 ≤ x.ln ∧ x.ln ≤ 16777215 ∧ 0 ≤ x.sz ∧ x.sz ≤ 16777215 := by
    unfold Hd.can at c; omega
  clear c h
  unfold Hd.val wordI
  generalize x.tg = g at *
  generalize x.ty = t at *
  generalize x.ln = n at *
  generalize x.sz = s at *
  have HS := Lib.hid hs
  clear hs
  go_enter Tryz.func121, Tryz.ntmps121
  go_wp2_with fail
  refine (lay_0 HS.out.fields HS.out.word (v := g) (by omega) (by omega)).mono ?_
  rintro e x1 ⟨rfl, hu, hk⟩
  have H1 := Lib.hid (HS.out.step hu hk)
  clear hu hk HS
  obtain ⟨c0, c1, c2, c3⟩ := cells4 H1.out.head
  go_wp2_with fail
  refine (lay_1 H1.out.fields H1.out.word (v := t) (by omega) (by omega) (by omega) (by omega)).mono ?_
  rintro e x2 ⟨rfl, hu, hk⟩
  have H2 := Lib.hid (H1.out.step hu hk)
  clear hu hk H1 c0 c1 c2 c3
  obtain ⟨c0, c1, c2, c3⟩ := cells4 H2.out.head
  go_wp2_with fail
  refine (lay_2 H2.out.fields H2.out.word (v := n) (by omega) (by omega) (by omega) (by omega)).mono ?_
  rintro e x3 ⟨rfl, hu, hk⟩
  have H3 := Lib.hid (H2.out.step hu hk)
  clear hu hk H2 c0 c1 c2 c3
  obtain ⟨c0, c1, c2, c3⟩ := cells4 H3.out.head
  go_wp2_with fail
  refine (lay_3 H3.out.fields H3.out.word (v := s) (by omega) (by omega) (by omega) (by omega)).mono ?_
  rintro e x4 ⟨rfl, hu, hk⟩
  have H4 := Lib.hid (H3.out.step hu hk)
  clear hu hk H3 c0 c1 c2 c3
  have d0 := H4.out.word.cell 0
  simp only [List.getElem?_cons_zero] at d0
  go_wp2_with fail
  go_ret
  exact ⟨rfl, H4.out.kept⟩
end Go.Proofs.YtoagghileebokaaGreatDoor.Hd

/-
  The document's Get, Size, Same.
-/
namespace Go.Proofs.YtoagghileebokaaGreatDoor.Tb
open Go.RowKit Go.Proofs.YtoagghileebokaaGreatDoor.Ar Go.Maps
set_option linter.unusedVariables false

section
variable {w : World} {A : Option Addr} {c : Nat} {l : List Ty}
set_option maxRecDepth 100000 in
set_option maxHeartbeats 1000000 in
theorem dget_ok (hS : Seen w A l) (hlen : l.length ≤ 100000) (i : Int) (hi0 : -9223372036854775808 ≤ i) (hi1 : i ≤ 9223372036854775807) :
    Calls Tryz.prog 142 #[.slice A l.length c, .int .i64 i] w fun e w' => e = .returned (.tuple #[(getT l i).val, .int .i64 (errT (hasT l i))]) ∧ Kept [] w w' := by
  have hb0 : Has (w.alloc (.cells #[.int .u8 0, .int .i64 0, .int .u64 0] 57)) w.heap.size 57 [.int .u8 0, .int .i64 0, .int .u64 0] := Has.new w _ _
  have hk0 := (Kept.refl [] w).alloc (.cells #[.int .u8 0, .int .i64 0, .int .u64 0] 57)
  unfold Ty.val
  by_cases h1 : i < 1
  · obtain ⟨e1, e2⟩ := hasT_no (l := l) (i := i) (by omega)
    rw [e1, e2]
    unfold Ty.zero errT
    clear e1 e2 hS
    go_enter Tryz.func142, Tryz.ntmps142
    go_wp2_with fail
    refine ret_ty0 rfl rfl hb0 rfl rfl ⟨rfl, hk0⟩
  · by_cases h2 : i > (l.length : Int)
    · obtain ⟨e1, e2⟩ := hasT_no (l := l) (i := i) (by omega)
      rw [e1, e2]
      unfold Ty.zero errT
      clear e1 e2 hS
      go_enter Tryz.func142, Tryz.ntmps142
      go_wp2_with fail
      refine ret_ty0 rfl rfl hb0 rfl rfl ⟨rfl, hk0⟩
    · obtain ⟨t, ht⟩ : ∃ t : Nat, i - 1 = (t : Int) := ⟨(i - 1).toNat, by omega⟩
      have htl : t < l.length := by omega
      obtain ⟨e1, e2⟩ := hasT_yes ht htl
      rw [e1, e2]
      unfold errT
      clear e1 e2
      obtain ⟨g, f, rfl, hg, hcells⟩ := hS.at t htl _ rfl
      generalize l.getD t Ty.zero = x at *
      obtain ⟨c0, c1, c2⟩ := hcells _ hk0
      obtain ⟨f0, f1, f2⟩ := free3 hb0
      obtain ⟨d0, d1, d2⟩ := cells3 hb0
      have HB := Lib.hid hb0
      have HK := Lib.hid hk0
      clear hcells hS hb0 hk0
      go_enter Tryz.func142, Tryz.ntmps142
      go_wp2_with fail
      (try simp only [Exit.inBlock, Exit.then])
      refine ret_ty0 rfl rfl (Has.new w 57 [.int .u8 (x.k : Int), .int .i64 x.wd, .int .u64 (x.ms : Int)]) rfl rfl ⟨rfl, (Kept.refl [] w).alloc _⟩
set_option maxRecDepth 100000 in
set_option maxHeartbeats 1000000 in
theorem dsize_ok (hS : Seen w A l) (hok : ∀ x ∈ l, x.ok ∧ x.fit) (hlen : l.length ≤ 100000) (i n : Int) (hi0 : -9223372036854775808 ≤ i) (hi1 : i ≤ 9223372036854775807) :
    Calls Tryz.prog 137 #[.slice A l.length c, .int .i64 i, .int .i64 n] w fun e w' => e = .returned (.tuple #[.int .i64 (sizeT l i n), .int .i64 (sizeE l i n)]) ∧ Kept [] w w' := by
  have HC := Lib.hid (dget_ok (c := c) hS hlen i hi0 hi1)
  have HS := Lib.hid (fun x => Kd.sizeDoc_ok (getT l i).k (getT l i).wd (getT l i).ms n (getT_ok hok i).2 x)
  clear hS hok
  unfold sizeT sizeE
  unfold Kd.typV at HS
  generalize hasT l i = b at *
  generalize getT l i = x at *
  unfold Ty.val at *
  generalize Kd.sizeR x.k x.wd x.ms n = s at *
  generalize Kd.err x.k x.wd x.ms n = er at *
  cases b with
  | true =>
    go_enter Tryz.func137, Tryz.ntmps137
    go_wp2_with fail
    refine HC.out.mono ?_
    rintro e w1 ⟨rfl, h1⟩
    have H1 := Lib.hid h1
    clear h1
    simp only [errT, if_true]
    go_wp2_with fail
    refine (HS.out _).mono ?_
    rintro e w2 ⟨rfl, h2⟩
    have H2 := Lib.hid ((H1.out.alloc _).trans h2)
    clear h2 HS HC
    go_wp2_with fail
    go_ret2
    exact ⟨rfl, H2.out⟩
  | false =>
    clear HS
    go_enter Tryz.func137, Tryz.ntmps137
    go_wp2_with fail
    refine HC.out.mono ?_
    rintro e w1 ⟨rfl, h1⟩
    have H1 := Lib.hid (h1.alloc (.cells #[.int .u8 x.k, .int .i64 x.wd, .int .u64 x.ms] 57))
    clear h1 HC
    simp only [errT, if_false, Bool.false_eq_true]
    go_wp2_with fail
    go_ret2
    exact ⟨rfl, H1.out⟩
end
end Go.Proofs.YtoagghileebokaaGreatDoor.Tb
