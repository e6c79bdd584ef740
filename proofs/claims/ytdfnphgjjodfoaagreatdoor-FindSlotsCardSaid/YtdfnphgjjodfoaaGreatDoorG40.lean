/-
  Several texts in one: KdDocSize, KdDocRefs.
-/
import Derived.Test.YtdfnphgjjodfoaaGreatDoorG14
import Derived.Test.YtdfnphgjjodfoaaGreatDoorG21
/-
  The document's Size.
-/
namespace Go.Proofs.YtdfnphgjjodfoaaGreatDoor.Kd
open Go.RowKit Go.Proofs.YtdfnphgjjodfoaaGreatDoor.Ar Go.Maps
set_option linter.unusedVariables false

set_option maxRecDepth 100000 in
theorem sizeDoc_ok (k : Nat) (wd : Int) (mk : Nat) (n : Int) (hm : mk < 18446744073709551616) (w : World) :
    Calls Tryz.prog 168 #[typV k wd mk, .int .i64 n] w fun e w' => e = .returned (.tuple #[.int .i64 (sizeR k wd mk n), .int .i64 (err k wd mk n)]) ∧ Kept [] w w' := by
  have HL := Lib.hid (fun x => slotsDoc_ok k wd mk n hm x)
  have hka : ∀ (x : World) (o : Obj), Kept [] x (x.alloc o) := fun x o => (Kept.refl [] x).alloc o
  unfold sizeR slotsR typV at *
  by_cases h : err k wd mk n = 0
  · obtain ⟨b0, b1⟩ := slots_bound h
    simp only [h, if_true] at HL ⊢
    clear h
    obtain ⟨sl, hsl⟩ := Int.eq_ofNat_of_zero_le b0
    rw [hsl] at HL b1 ⊢
    clear hsl b0
    have hb : sl ≤ 65536 := by omega
    go_enter Tryz.func168, Tryz.ntmps168
    go_wp2_with fail
    refine (HL.out _).mono ?_
    rintro e W1 ⟨rfl, hk1⟩
    have hk2 := Lib.hid ((hka w _).trans hk1)
    clear hk1
    go_wp2_with fail
    go_loopw [8] (fun t wr => ∃ g : Nat, t = .int .i64 (g : Int) ∧ g ≤ (sl + 2) / 2 ∧ wr = W1) (fun t _ => 65536 - (intOf t).toNat)
    case atStart => exact ⟨0, rfl, Nat.zero_le _, rfl⟩
    case round =>
      obtain ⟨g, rfl, hg, rfl⟩ := hrel
      by_cases hlt : g * 2 < sl + 1
      · have hlt2 : (g : Int) * 2 < (sl : Int) + 1 := by omega
        go_wp2_with fail
        go_roundw
        case rel => exact ⟨g + 1, by go_num, by omega, trivial⟩
        case measure => simp [intOf] <;> omega
      · have hlt2 : ¬ (g : Int) * 2 < (sl : Int) + 1 := by omega
        have He := Lib.hid (show ((sl : Int) + 2) / 2 = (g : Int) by omega)
        go_wp2_with fail
        go_ret2
        exact ⟨by rw [He.out]; rfl, hk2.out⟩
  · simp only [h, if_false] at HL ⊢
    have he : (err k wd mk n != 0) = true := by rw [bne_iff_ne]; exact h
    generalize err k wd mk n = er at *
    go_enter Tryz.func168, Tryz.ntmps168
    go_wp2_with fail
    refine (HL.out _).mono ?_
    rintro e W1 ⟨rfl, hk1⟩
    have hk2 := Lib.hid ((hka w _).trans hk1)
    clear hk1
    go_wp2_with fail
    go_ret2
    exact ⟨rfl, hk2.out⟩
end Go.Proofs.YtdfnphgjjodfoaaGreatDoor.Kd

/-
  The document's is, Ref, and Refs.
-/
namespace Go.Proofs.YtdfnphgjjodfoaaGreatDoor.Kd
open Go.RowKit Go.Proofs.YtdfnphgjjodfoaaGreatDoor.Ar Go.Proofs.YtdfnphgjjodfoaaGreatDoor.Ir Go.Maps
set_option linter.unusedVariables false

set_option maxRecDepth 100000 in
theorem is_ok {k : Nat} {wd : Int} {mk : Nat} {n : Int} (h : err k wd mk n = 0) (hm : mk < 18446744073709551616) (s : Nat) (hs : (s : Int) < slots k wd n) (w : World) :
    Calls Tryz.prog 146 #[typV k wd mk, .int .i64 (s : Int)] w fun e w' => e = .returned (.bool (isRef k wd mk s)) ∧ Kept [] w w' := by
  obtain ⟨sb0, sb1⟩ := slots_bound h
  obtain ⟨hy, h0, h1, h2⟩ := err_zero h
  obtain ⟨_, w0, w1, hk, w3⟩ := may_kind hy
  obtain ⟨v, rfl⟩ := Int.eq_ofNat_of_zero_le w0
  clear h hy
  unfold typV
  rcases hk with rfl | rfl | rfl | rfl
  · have hs' : s < v := by have : (s : Int) < (v : Int) := hs; omega
    have hr : isRef 1 (v : Int) mk s = decide (mk / 2 ^ s % 2 = 1) := by
      show decide (mk / 2 ^ (s % v) % 2 = 1) = _
      rw [Nat.mod_eq_of_lt hs']
    rw [hr, ← bit_test]
    have hs64 : s < 64 := by omega
    clear hr hs
    go_enter Tryz.func146, Tryz.ntmps146
    go_wp2_with fail
    go_ret
    exact ⟨rfl, (Kept.refl [] w).alloc _⟩
  · go_enter Tryz.func146, Tryz.ntmps146
    go_wp2_with fail
    go_ret
    exact ⟨rfl, (Kept.refl [] w).alloc _⟩
  · have hr : isRef 3 (v : Int) mk s = decide (mk / 2 ^ (s % v) % 2 = 1) := rfl
    rw [hr, ← bit_test]
    obtain ⟨v1, v2⟩ := w3 rfl
    have hw : ¬ ((v : Int) = 0) := by omega
    have hs2 : s ≤ 65536 := by omega
    have hrl : s % v < 64 := by have := Nat.mod_lt s (show 0 < v by omega); omega
    clear hr hs sb0 sb1
    have ht : IntKind.i64.wrap ((s : Int).tmod (v : Int)) = ((s % v : Nat) : Int) := by
      rw [Int.tmod_eq_emod_of_nonneg (by omega), IntKind.wrap_i64]
      omega
    go_enter Tryz.func146, Tryz.ntmps146
    go_wp2_with fail
    go_quiet (fail)
    go_wp2_with fail
    go_ret
    exact ⟨rfl, ((Kept.refl [] w).alloc _).drewN _⟩
  · go_enter Tryz.func146, Tryz.ntmps146
    go_wp2_with fail
    go_ret
    exact ⟨rfl, (Kept.refl [] w).alloc _⟩
set_option maxRecDepth 100000 in
set_option maxHeartbeats 4000000 in
theorem refsDoc_ok (k : Nat) (wd : Int) (mk : Nat) (n : Int) (hm : mk < 18446744073709551616) (w : World) :
    Calls Tryz.prog 107 #[typV k wd mk, .int .i64 n] w (RefsPost w k wd mk n) := by
  have HL := Lib.hid (fun x => slotsDoc_ok k wd mk n hm x)
  have hka : ∀ (x : World) (o : Obj), Kept [] x (x.alloc o) := fun x o => (Kept.refl [] x).alloc o
  have hH : Has (w.alloc (.cells #[.int .u8 (k : Int), .int .i64 wd, .int .u64 (mk : Int)] 68)) w.heap.size 68 [.int .u8 (k : Int), .int .i64 wd, .int .u64 (mk : Int)] := Has.new w _ _
  unfold RefsPost refsR slotsR at *
  by_cases h : err k wd mk n = 0
  · have HI := Lib.hid (fun (t : Nat) (ht : (t : Int) < slots k wd n) x => is_ok h hm t ht x)
    obtain ⟨sb0, sb1⟩ := slots_bound h
    unfold typV at *
    simp only [h, if_true] at HL ⊢
    clear h
    obtain ⟨sl, hsl⟩ := Int.eq_ofNat_of_zero_le sb0
    rw [hsl] at HL HI sb0 sb1 ⊢
    rw [Int.toNat_natCast]
    clear hsl sb0
    have hsb : sl ≤ 65536 := by omega
    go_enter Tryz.func107, Tryz.ntmps107
    go_wp2_with fail
    refine (HL.out _).mono ?_
    rintro e W2 ⟨rfl, hk1⟩
    have hk4 := Lib.hid ((hka w _).trans hk1)
    have Hl := Lib.hid (hH.keep0 hk1)
    clear hk1 HL hH
    go_wp2_with fail
    generalize w.heap.size = B at *
    go_loopw [8, 9] (fun s t wr => ∃ m : Nat, m ≤ sl ∧ t = .int .i64 (m : Int) ∧ Hid (Ir.Own wr s (refsTo k wd mk m) ∧ Fresh W2 s ∧ Kept [] W2 wr)) (fun _ t _ => sl - (intOf t).toNat)
    case atStart => exact ⟨0, Nat.zero_le _, rfl, Lib.hid ⟨Ir.Own.nil _, .inl rfl, Kept.refl _ _⟩⟩
    case round =>
      obtain ⟨m, hm', rfl, hr⟩ := hrel
      by_cases hlt : m < sl
      · obtain ⟨x0, x1, x2⟩ := cells3 (Hl.out.keep0 hr.out.2.2)
        have HR' := Lib.hid (fun x => HI.out m (by omega) x)
        have hstep := refsTo_succ k wd mk m
        have hlen := refsTo_length k wd mk m
        cases hb : isRef k wd mk m with
        | false =>
          rw [hb] at HR' hstep
          rw [if_neg (by decide)] at hstep
          have HE := Lib.hid hstep
          clear hb hstep
          go_wp2_with fail
          refine (HR'.out _).mono ?_
          rintro e W3 ⟨rfl, hk5⟩
          have HN := Lib.hid (show Ir.Own W3 u8 (refsTo k wd mk (m + 1)) ∧ Fresh W2 u8 ∧ Kept [] W2 W3 from ⟨by rw [HE.out]; exact hr.out.1.keep0 hk5, hr.out.2.1, hr.out.2.2.trans hk5⟩)
          clear hk5 HR' hr
          go_wp2_with fail
          go_roundw
          case rel => exact ⟨m + 1, by omega, by go_num, HN⟩
          case measure => simp [intOf]; omega
        | true =>
          rw [hb] at HR' hstep
          rw [if_pos rfl] at hstep
          have HE := Lib.hid hstep
          clear hb hstep
          go_wp2_with fail
          refine (HR'.out _).mono ?_
          rintro e W3 ⟨rfl, hk5⟩
          have HO0 := Lib.hid (hr.out.1.keep0 hk5)
          have HK0 := Lib.hid (hr.out.2.2.trans hk5)
          have HF := Lib.hid hr.out.2.1
          clear hk5 HR' hr
          have HK := Lib.hid ((Kept.refl [] W3).alloc (.cells #[.int .i64 (m : Int)] 3))
          have HSe : Hid (Ir.Seen (W3.alloc (.cells #[.int .i64 (m : Int)] 3)) (some ⟨W3.heap.size, 0, none⟩) [(m : Int)]) := Ir.Row.seen (Has.new W3 3 (Ir.ints [(m : Int)]))
          have HO := Lib.hid (HO0.out.keep0 HK.out)
          generalize refsTo k wd mk m = L at *
          go_wp2_with (at_builtin; (refine append_numbers rfl (.tmp 27) (.tmp 29) rfl u8 L rfl HO.out (some ⟨W3.heap.size, 0, none⟩) 1 1 [(m : Int)] rfl rfl (fun h => by cases h) HSe.out (by omega) ?_))
          intro s2 w2 hO2 hG2 hB2
          have hwk2 := HK0.out.trans HK.out
          have hF2 := own_fresh (v' := s2) hwk2 HF.out (by rw [World.size_alloc]; exact hB2)
          have hK2 := own_grown hwk2 HF.out hG2
          have HN := Lib.hid (show Ir.Own w2 s2 (refsTo k wd mk (m + 1)) ∧ Fresh W2 s2 ∧ Kept [] W2 w2 from ⟨by rw [HE.out]; exact hO2, hF2, hK2⟩)
          clear hO2 hG2 hB2 hK2 hF2 HK HSe HO hwk2
          go_wp2_with fail
          go_roundw
          case rel => exact ⟨m + 1, by omega, by go_num, HN⟩
          case measure => simp [intOf]; omega
      · obtain rfl : m = sl := by omega
        go_wp2_with fail
        go_ret2
        exact ⟨_, rfl, hr.out.1, hk4.out.trans hr.out.2.2⟩
  · unfold typV at *
    simp only [h, if_false] at HL ⊢
    have he : (err k wd mk n != 0) = true := by rw [bne_iff_ne]; exact h
    generalize err k wd mk n = er at *
    go_enter Tryz.func107, Tryz.ntmps107
    go_wp2_with fail
    refine (HL.out _).mono ?_
    rintro e W1 ⟨rfl, hk1⟩
    have hk2 := Lib.hid ((hka w _).trans hk1)
    clear hk1
    go_wp2_with fail
    go_ret2
    exact ⟨_, rfl, Ir.Own.nil _, hk2.out⟩
end Go.Proofs.YtdfnphgjjodfoaaGreatDoor.Kd
