/-
  The document's Get, Size, Same.
-/
import Derived.Test.YtkplagnmdjaajaaTbDoc
namespace Go.Proofs.Ytkplagnmdjaajaa.Tb
open Go.RowKit Go.Proofs.Ytkplagnmdjaajaa.Ar Go.Maps
set_option linter.unusedVariables false

section
variable {w : World} {A : Option Addr} {c : Nat} {l : List Ty}
set_option maxRecDepth 100000 in
set_option maxHeartbeats 1000000 in
theorem dget_ok (hS : Seen w A l) (hlen : l.length ≤ 100000) (i : Int) (hi0 : -9223372036854775808 ≤ i) (hi1 : i ≤ 9223372036854775807) :
    Calls Try.prog 18 #[.slice A l.length c, .int .i64 i] w fun e w' => e = .returned (.tuple #[(getT l i).val, .int .i64 (errT (hasT l i))]) ∧ Kept [] w w' := by
  have hb0 : Has (w.alloc (.cells #[.int .u8 0, .int .i64 0, .int .u64 0] 30)) w.heap.size 30 [.int .u8 0, .int .i64 0, .int .u64 0] := Has.new w _ _
  have hk0 := (Kept.refl [] w).alloc (.cells #[.int .u8 0, .int .i64 0, .int .u64 0] 30)
  unfold Ty.val
  by_cases h1 : i < 1
  · obtain ⟨e1, e2⟩ := hasT_no (l := l) (i := i) (by omega)
    rw [e1, e2]
    unfold Ty.zero errT
    clear e1 e2 hS
    go_enter Try.func18, Try.ntmps18
    go_wp2_with fail
    refine ret_ty0 rfl rfl hb0 rfl rfl ⟨rfl, hk0⟩
  · by_cases h2 : i > (l.length : Int)
    · obtain ⟨e1, e2⟩ := hasT_no (l := l) (i := i) (by omega)
      rw [e1, e2]
      unfold Ty.zero errT
      clear e1 e2 hS
      go_enter Try.func18, Try.ntmps18
      go_wp2_with fail
      refine ret_ty0 rfl rfl hb0 rfl rfl ⟨rfl, hk0⟩
    · obtain ⟨t, ht⟩ : ∃ t : Nat, i - 1 = (t : Int) := ⟨(i - 1).toNat, by omega⟩
      have htl : t < l.length := by omega
      obtain ⟨e1, e2⟩ := hasT_yes ht htl
      rw [e1, e2]
      unfold errT
      clear e1 e2
      obtain ⟨g, f, rfl, hg, hcells⟩ := hS.at t htl _ rfl
      generalize l.getD t Ty.zero = x at *
      obtain ⟨c0, c1, c2⟩ := hcells _ hk0
      obtain ⟨f0, f1, f2⟩ := free3 hb0
      obtain ⟨d0, d1, d2⟩ := cells3 hb0
      have HB := Lib.hid hb0
      have HK := Lib.hid hk0
      clear hcells hS hb0 hk0
      go_enter Try.func18, Try.ntmps18
      go_wp2_with fail
      (try simp only [Exit.inBlock, Exit.then])
      refine ret_ty0 rfl rfl (Has.new w 30 [.int .u8 (x.k : Int), .int .i64 x.wd, .int .u64 (x.ms : Int)]) rfl rfl ⟨rfl, (Kept.refl [] w).alloc _⟩
set_option maxRecDepth 100000 in
set_option maxHeartbeats 1000000 in
theorem dsize_ok (hS : Seen w A l) (hok : ∀ x ∈ l, x.ok ∧ x.fit) (hlen : l.length ≤ 100000) (i n : Int) (hi0 : -9223372036854775808 ≤ i) (hi1 : i ≤ 9223372036854775807) :
    Calls Try.prog 19 #[.slice A l.length c, .int .i64 i, .int .i64 n] w fun e w' => e = .returned (.tuple #[.int .i64 (sizeT l i n), .int .i64 (sizeE l i n)]) ∧ Kept [] w w' := by
  have HC := Lib.hid (dget_ok (c := c) hS hlen i hi0 hi1)
  have HS := Lib.hid (fun x => Kd.sizeDoc_ok (getT l i).k (getT l i).wd (getT l i).ms n (getT_ok hok i).2 x)
  clear hS hok
  unfold sizeT sizeE
  unfold Kd.typV at HS
  generalize hasT l i = b at *
  generalize getT l i = x at *
  unfold Ty.val at *
  generalize Kd.sizeR x.k x.wd x.ms n = s at *
  generalize Kd.err x.k x.wd x.ms n = er at *
  cases b with
  | true =>
    go_enter Try.func19, Try.ntmps19
    go_wp2_with fail
    refine HC.out.mono ?_
    rintro e w1 ⟨rfl, h1⟩
    have H1 := Lib.hid h1
    clear h1
    simp only [errT, if_true]
    go_wp2_with fail
    refine (HS.out _).mono ?_
    rintro e w2 ⟨rfl, h2⟩
    have H2 := Lib.hid ((H1.out.alloc _).trans h2)
    clear h2 HS HC
    go_wp2_with fail
    go_ret2
    exact ⟨rfl, H2.out⟩
  | false =>
    clear HS
    go_enter Try.func19, Try.ntmps19
    go_wp2_with fail
    refine HC.out.mono ?_
    rintro e w1 ⟨rfl, h1⟩
    have H1 := Lib.hid (h1.alloc (.cells #[.int .u8 x.k, .int .i64 x.wd, .int .u64 x.ms] 30))
    clear h1 HC
    simp only [errT, if_false, Bool.false_eq_true]
    go_wp2_with fail
    go_ret2
    exact ⟨rfl, H1.out⟩
end
set_option maxRecDepth 100000 in
set_option maxHeartbeats 4000000 in
theorem same_ok {w : World} {A B : Option Addr} {c d : Nat} {a b : List Ty} (ha : Seen w A a) (hb : Seen w B b) (hla : a.length ≤ 100000) (hlb : b.length ≤ 100000) :
    Calls Try.prog 20 #[.slice A a.length c, .slice B b.length d] w fun e w' => e = .returned (.bool (decide (a = b))) ∧ Kept [] w w' := by
  by_cases hlen : a.length = b.length
  · have HA := Lib.hid ha
    have HB := Lib.hid hb
    have Hlen := Lib.hid hlen
    rw [← hlen]
    clear hlb hlen ha hb
    generalize hN : a.length = N at *
    have HN := Lib.hid hN
    clear hN
    go_enter Try.func20, Try.ntmps20
    go_wp2_with fail
    go_loopw [5] (fun k wr => ∃ t : Nat, t ≤ N ∧ k = .int .i64 (t : Int) ∧ Hid (∀ j, j < t → a.getD j Ty.zero = b.getD j Ty.zero) ∧ Hid (Kept [] w wr)) (fun k _ => N - (intOf k).toNat)
    case atStart => exact ⟨0, Nat.zero_le _, rfl, Lib.hid (fun j hj => absurd hj (by omega)), Lib.hid (Kept.refl [] w)⟩
    case round =>
      obtain ⟨t, ht, rfl, hr, hk⟩ := hrel
      by_cases hlt : t < N
      · obtain ⟨g, f, rfl, _, hc1⟩ := HA.out.at t (by rw [HN.out]; exact hlt) _ rfl
        obtain ⟨g2, f2, rfl, _, hc2⟩ := HB.out.at t (by rw [← Hlen.out]; exact hlt) _ rfl
        obtain ⟨x0, x1, x2⟩ := hc1 _ hk.out
        obtain ⟨y0, y1, y2⟩ := hc2 _ hk.out
        obtain ⟨x, hx⟩ : ∃ x, x = a.getD t Ty.zero := ⟨_, rfl⟩
        obtain ⟨y, hy⟩ : ∃ y, y = b.getD t Ty.zero := ⟨_, rfl⟩
        rw [← hx] at x0 x1 x2
        rw [← hy] at y0 y1 y2
        have Hx := Lib.hid hx
        have Hy := Lib.hid hy
        clear hx hy hc1 hc2
        by_cases e : x = y
        · have Hr : Hid (∀ j, j < t + 1 → a.getD j Ty.zero = b.getD j Ty.zero) := Lib.hid (fun j hj => by
            by_cases hjt : j = t
            · subst hjt
              rw [← Hx.out, ← Hy.out, e]
            · exact hr.out j (by omega))
          subst e
          clear hr
          go_wp2_with fail
          go_quiet (fail)
          go_wp2_with fail
          go_roundw
          case rel => exact ⟨t + 1, by omega, by go_num, Hr, Lib.hid (by first | exact hk.out | exact hk.out.drewN _ | exact hk.out.drew)⟩
          case measure => simp [intOf] <;> omega
        · have hne : a ≠ b := fun h => e (by rw [Hx.out, Hy.out, h])
          have HD : Hid (decide (a = b) = false) := Lib.hid (decide_eq_false hne)
          have HKp := Lib.hid hk.out
          obtain ⟨k1, d1, m1⟩ := x
          obtain ⟨k2, d2, m2⟩ := y
          simp only at x0 x1 x2 y0 y1 y2
          have e3 : ¬ (k1 = k2 ∧ d1 = d2 ∧ m1 = m2) := fun ⟨h0, h1, h2⟩ => e (by rw [h0, h1, h2])
          clear hne e hr Hx Hy
          by_cases q0 : k1 = k2
          · by_cases q1 : d1 = d2
            · have q2 : ¬ m1 = m2 := fun h => e3 ⟨q0, q1, h⟩
              subst q0 q1
              clear e3
              go_wp2_with fail
              go_quiet (fail)
              go_wp2_with fail
              go_ret
              exact ⟨by rw [HD.out]; rfl, by first | exact HKp.out | exact HKp.out.drewN _ | exact HKp.out.drew⟩
            · subst q0
              clear e3
              go_wp2_with fail
              go_quiet (fail)
              go_wp2_with fail
              go_ret
              exact ⟨by rw [HD.out]; rfl, by first | exact HKp.out | exact HKp.out.drewN _ | exact HKp.out.drew⟩
          · clear e3
            go_wp2_with fail
            go_quiet (fail)
            go_wp2_with fail
            go_ret
            exact ⟨by rw [HD.out]; rfl, by first | exact HKp.out | exact HKp.out.drewN _ | exact HKp.out.drew⟩
      · obtain rfl : t = N := by omega
        have HD : Hid (decide (a = b) = true) := Lib.hid (decide_eq_true (List.ext_getElem (HN.out.trans Hlen.out) fun j h1 h2 => by
          have := hr.out j (by rw [← HN.out]; exact h1)
          rw [List.getD_eq_getElem?_getD, List.getD_eq_getElem?_getD, List.getElem?_eq_getElem h1, List.getElem?_eq_getElem h2] at this
          exact this))
        clear hr
        go_wp2_with fail
        go_ret
        exact ⟨by rw [HD.out]; rfl, hk.out⟩
  · have hne : a ≠ b := fun h => hlen (by rw [h])
    rw [decide_eq_false hne]
    have hb' : ((a.length : Int) != (b.length : Int)) = true := by rw [bne_iff_ne]; omega
    clear ha hb
    go_enter Try.func20, Try.ntmps20
    go_wp2_with fail
    go_ret
    exact ⟨rfl, Kept.refl [] w⟩
end Go.Proofs.Ytkplagnmdjaajaa.Tb
