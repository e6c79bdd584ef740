/-
  Several texts in one: TbDoc2, KdSame.
-/
import Derived.Test.YtdfnphgjjodfoaaGreatDoorG15
import Derived.Test.YtdfnphgjjodfoaaGreatDoorG40
/-
  The document's Get, Size, Same.
-/
namespace Go.Proofs.YtdfnphgjjodfoaaGreatDoor.Tb
open Go.RowKit Go.Proofs.YtdfnphgjjodfoaaGreatDoor.Ar Go.Maps
set_option linter.unusedVariables false

section
variable {w : World} {A : Option Addr} {c : Nat} {l : List Ty}
set_option maxRecDepth 100000 in
set_option maxHeartbeats 1000000 in
theorem dget_ok (hS : Seen w A l) (hlen : l.length ≤ 100000) (i : Int) (hi0 : -9223372036854775808 ≤ i) (hi1 : i ≤ 9223372036854775807) :
    Calls Tryz.prog 36 #[.slice A l.length c, .int .i64 i] w fun e w' => e = .returned (.tuple #[(getT l i).val, .int .i64 (errT (hasT l i))]) ∧ Kept [] w w' := by
  have hb0 : Has (w.alloc (.cells #[.int .u8 0, .int .i64 0, .int .u64 0] 68)) w.heap.size 68 [.int .u8 0, .int .i64 0, .int .u64 0] := Has.new w _ _
  have hk0 := (Kept.refl [] w).alloc (.cells #[.int .u8 0, .int .i64 0, .int .u64 0] 68)
  unfold Ty.val
  by_cases h1 : i < 1
  · obtain ⟨e1, e2⟩ := hasT_no (l := l) (i := i) (by omega)
    rw [e1, e2]
    unfold Ty.zero errT
    clear e1 e2 hS
    go_enter Tryz.func36, Tryz.ntmps36
    go_wp2_with fail
    refine ret_ty0 rfl rfl hb0 rfl rfl ⟨rfl, hk0⟩
  · by_cases h2 : i > (l.length : Int)
    · obtain ⟨e1, e2⟩ := hasT_no (l := l) (i := i) (by omega)
      rw [e1, e2]
      unfold Ty.zero errT
      clear e1 e2 hS
      go_enter Tryz.func36, Tryz.ntmps36
      go_wp2_with fail
      refine ret_ty0 rfl rfl hb0 rfl rfl ⟨rfl, hk0⟩
    · obtain ⟨t, ht⟩ : ∃ t : Nat, i - 1 = (t : Int) := ⟨(i - 1).toNat, by omega⟩
      have htl : t < l.length := by omega
      obtain ⟨e1, e2⟩ := hasT_yes ht htl
      rw [e1, e2]
      unfold errT
      clear e1 e2
      obtain ⟨g, f, rfl, hg, hcells⟩ := hS.at t htl _ rfl
      generalize l.getD t Ty.zero = x at *
      obtain ⟨c0, c1, c2⟩ := hcells _ hk0
      obtain ⟨f0, f1, f2⟩ := free3 hb0
      obtain ⟨d0, d1, d2⟩ := cells3 hb0
      have HB := Lib.hid hb0
      have HK := Lib.hid hk0
      clear hcells hS hb0 hk0
      go_enter Tryz.func36, Tryz.ntmps36
      go_wp2_with fail
      (try simp only [Exit.inBlock, Exit.then])
      refine ret_ty0 rfl rfl (Has.new w 68 [.int .u8 (x.k : Int), .int .i64 x.wd, .int .u64 (x.ms : Int)]) rfl rfl ⟨rfl, (Kept.refl [] w).alloc _⟩
set_option maxRecDepth 100000 in
set_option maxHeartbeats 1000000 in
theorem dsize_ok (hS : Seen w A l) (hok : ∀ x ∈ l, x.ok ∧ x.fit) (hlen : l.length ≤ 100000) (i n : Int) (hi0 : -9223372036854775808 ≤ i) (hi1 : i ≤ 9223372036854775807) :
    Calls Tryz.prog 139 #[.slice A l.length c, .int .i64 i, .int .i64 n] w fun e w' => e = .returned (.tuple #[.int .i64 (sizeT l i n), .int .i64 (sizeE l i n)]) ∧ Kept [] w w' := by
  have HC := Lib.hid (dget_ok (c := c) hS hlen i hi0 hi1)
  have HS := Lib.hid (fun x => Kd.sizeDoc_ok (getT l i).k (getT l i).wd (getT l i).ms n (getT_ok hok i).2 x)
  clear hS hok
  unfold sizeT sizeE
  unfold Kd.typV at HS
  generalize hasT l i = b at *
  generalize getT l i = x at *
  unfold Ty.val at *
  generalize Kd.sizeR x.k x.wd x.ms n = s at *
  generalize Kd.err x.k x.wd x.ms n = er at *
  cases b with
  | true =>
    go_enter Tryz.func139, Tryz.ntmps139
    go_wp2_with fail
    refine HC.out.mono ?_
    rintro e w1 ⟨rfl, h1⟩
    have H1 := Lib.hid h1
    clear h1
    simp only [errT, if_true]
    go_wp2_with fail
    refine (HS.out _).mono ?_
    rintro e w2 ⟨rfl, h2⟩
    have H2 := Lib.hid ((H1.out.alloc _).trans h2)
    clear h2 HS HC
    go_wp2_with fail
    go_ret2
    exact ⟨rfl, H2.out⟩
  | false =>
    clear HS
    go_enter Tryz.func139, Tryz.ntmps139
    go_wp2_with fail
    refine HC.out.mono ?_
    rintro e w1 ⟨rfl, h1⟩
    have H1 := Lib.hid (h1.alloc (.cells #[.int .u8 x.k, .int .i64 x.wd, .int .u64 x.ms] 68))
    clear h1 HC
    simp only [errT, if_false, Bool.false_eq_true]
    go_wp2_with fail
    go_ret2
    exact ⟨rfl, H1.out⟩
end
end Go.Proofs.YtdfnphgjjodfoaaGreatDoor.Tb

/-
  The document's SameInts: whether two slices have the same numbers; and the statements' examples.
-/
namespace Go.Proofs.YtdfnphgjjodfoaaGreatDoor.Kd
open Go.RowKit Go.Proofs.YtdfnphgjjodfoaaGreatDoor.Ar Go.Proofs.YtdfnphgjjodfoaaGreatDoor.Ir
set_option linter.unusedVariables false

theorem take_step (a b : List Int) (j : Nat) (ha : j < a.length) (hb : j < b.length) (h : a.take j = b.take j) (e : a.getD j 0 = b.getD j 0) : a.take (j + 1) = b.take (j + 1) := by
  rw [List.getD, List.getD, List.getElem?_eq_getElem ha, List.getElem?_eq_getElem hb] at e
  simp only [Option.getD_some] at e
  rw [List.take_succ_eq_append_getElem ha, List.take_succ_eq_append_getElem hb, h, e]
set_option maxHeartbeats 400000 in
theorem same_any (A B : Option Addr) (a b : List Int) (ca cb : Nat) (w : World) (hA : Ir.Seen w A a) (hB : Ir.Seen w B b) (la : a.length ≤ 4294967296) (lb : b.length ≤ 4294967296) :
    Calls Tryz.prog 16 #[.slice A a.length ca, .slice B b.length cb] w fun e w' => e = .returned (.bool (decide (a = b))) ∧ ∃ k, w' = w.drewN k := by
  by_cases hl : a.length = b.length
  · by_cases h0 : a = []
    · obtain rfl : b = [] := List.eq_nil_of_length_eq_zero (by rw [← hl, h0]; rfl)
      subst h0
      rw [decide_eq_true rfl]
      clear hA hB la lb hl
      simp only [List.length_nil]
      go_enter Tryz.func16, Tryz.ntmps16
      go_wp2_with fail
      refine wp_loop_rounds 1 ?_
      rw [rounds_succ]
      go_wp2_with fail
      go_ret
      exact ⟨rfl, 0, rfl⟩
    · have h1 : b ≠ [] := fun hb => h0 (List.eq_nil_of_length_eq_zero (by rw [hl, hb]; rfl))
      obtain ⟨g, f, rfl, cA⟩ := hA.cells h0
      obtain ⟨g', f', rfl, cB⟩ := hB.cells h1
      rw [← hl] at cB ⊢
      have HA := Lib.hid cA
      have HB := Lib.hid cB
      have HL := Lib.hid hl
      have hne : ((a.length : Int) != (a.length : Int)) = false := by simp
      clear hA hB cA cB h0 h1 lb hl
      go_enter Tryz.func16, Tryz.ntmps16
      go_wp2_with fail
      go_loopw [5] (fun t wr => ∃ j : Nat, j ≤ a.length ∧ t = .int .i64 j ∧ Hid (a.take j = b.take j) ∧ ∃ k, wr = w.drewN k) (fun t _ => a.length - (intOf t).toNat)
      case atStart => exact ⟨0, Nat.zero_le _, rfl, Lib.hid (by simp), 0, rfl⟩
      case round =>
        obtain ⟨j, hj, rfl, hT, k, rfl⟩ := hrel
        by_cases hlt : j < a.length
        · have c1 := HA.out j hlt
          have c2 := HB.out j hlt
          have hD : ∀ r : Bool, (a.getD j 0 != b.getD j 0) = r → (r = true → decide (a = b) = false) ∧ (r = false → a.take (j + 1) = b.take (j + 1)) := by
            rintro r rfl
            constructor
            · intro hr
              refine decide_eq_false fun he => ?_
              rw [he] at hr
              simp at hr
            · intro hr
              exact take_step a b j hlt (by have := HL.out; omega) hT.out (by simpa using hr)
          generalize a.getD j 0 = x at *
          generalize b.getD j 0 = y at *
          have HD := Lib.hid hD
          clear hD hT
          cases hxy : (x != y)
          · have HT := Lib.hid ((HD.out _ hxy).2 rfl)
            clear HD
            go_wp2_with fail
            go_quiet (fail)
            go_wp2_with fail
            go_roundw
            case rel => exact ⟨j + 1, by omega, by go_num, HT, _, rfl⟩
            case measure => simp [intOf]; omega
          · have HT := Lib.hid ((HD.out _ hxy).1 rfl)
            clear HD
            go_wp2_with fail
            go_quiet (fail)
            go_wp2_with fail
            go_ret
            exact ⟨ret_bool HT.out.symm, _, World.drewN_drewN _ _ _⟩
        · have hs : decide (a = b) = true := by
            refine decide_eq_true ?_
            have := hT.out
            have hl := HL.out
            rw [List.take_of_length_le (by omega), List.take_of_length_le (by omega)] at this
            exact this
          have HS := Lib.hid hs
          obtain rfl : j = a.length := by omega
          clear hs hT HA HB HL hlt hj
          go_wp2_with fail
          go_ret
          exact ⟨ret_bool HS.out.symm, _, rfl⟩
  · have hs : decide (a = b) = false := decide_eq_false fun he => hl (by rw [he])
    have hne : ((a.length : Int) != (b.length : Int)) = true := by rw [bne_iff_ne]; omega
    rw [hs]
    clear hs hl hA hB
    generalize a.length = m at *
    generalize b.length = n at *
    go_enter Tryz.func16, Tryz.ntmps16
    go_wp2_with fail
    go_ret
    exact ⟨rfl, 0, rfl⟩
theorem same_own {w : World} {v1 v2 : Value} {a b : List Int} (h1 : Ir.Own w v1 a) (h2 : Ir.Own w v2 b) (la : a.length ≤ 65536) (lb : b.length ≤ 65536) :
    Calls Tryz.prog 16 #[v1, v2] w fun e w' => e = .returned (.bool (decide (a = b))) ∧ Kept [] w w' := by
  obtain ⟨A, c, rfl, _, hA, _⟩ := Ir.back_own (Kept.refl [] w) h1
  obtain ⟨B, d, rfl, _, hB, _⟩ := Ir.back_own (Kept.refl [] w) h2
  exact (same_any A B a b c d w hA hB (by omega) (by omega)).mono fun e w' ⟨he, k, hk⟩ => ⟨he, by rw [hk]; exact (Kept.refl [] w).drewN k⟩
end Go.Proofs.YtdfnphgjjodfoaaGreatDoor.Kd
