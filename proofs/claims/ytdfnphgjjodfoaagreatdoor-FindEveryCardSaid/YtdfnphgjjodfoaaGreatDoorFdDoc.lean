/-
  Stage 11, find: the document's Cell and Of, of a row of cells.
-/
import Derived.Test.YtdfnphgjjodfoaaGreatDoorG41
import Derived.Deep.QuietTactic
import Derived.BigQuiet
import Derived.Lib.QuietBelow
namespace Go.Proofs.YtdfnphgjjodfoaaGreatDoor.Fd
open Go.RowKit Go.Proofs.YtdfnphgjjodfoaaGreatDoor.Ar Go.Proofs.YtdfnphgjjodfoaaGreatDoor.Sp
open Go.Proofs.YtdfnphgjjodfoaaGreatDoor.Hd (Hd fitL wordI)
open Go.Proofs.YtdfnphgjjodfoaaGreatDoor.Tb (Ty)
open Go.Proofs.YtdfnphgjjodfoaaGreatDoor.Sh (wordR wordB)
set_option linter.unusedVariables false

theorem drop_at {cs : List Cel} {j : Nat} (hj : j < cs.length) : cs.drop j = cs.getD j Cel.zero :: cs.drop (j + 1) := by
  rw [List.getD_eq_getElem?_getD, List.getElem?_eq_getElem hj]
  exact List.drop_eq_getElem_cons hj
section
variable {w : World} {A : Option Addr} {cap : Nat}
set_option maxRecDepth 100000 in
set_option maxHeartbeats 4000000 in
theorem dcell_ok (cs : List Cel) (hS : Sp.Seen w A cs) (hbd : ∀ c ∈ cs, 0 ≤ c.a ∧ c.a ≤ 1000000 ∧ 1 ≤ c.h.sz ∧ c.h.sz ≤ 1000000 ∧ endC c ≤ 32768) (hlen : cs.length ≤ 1000000) (u : Int) (u0 : 0 ≤ u) (u1 : u < 18446744073709551616) :
    Calls Tryz.prog 11 #[.slice A cs.length cap, .int .u64 u] w fun e y => e = .returned (.tuple #[((celA cs u).getD Cel.zero).val, .bool (celA cs u).isSome]) ∧ Kept [] w y := by
  have k0 : Kept [] w (w.alloc (.cells #[.int .i64 0, .int .u8 0, .int .i64 0, .int .i64 0, .int .i64 0] 37)) := (Kept.refl [] w).alloc _
  have h0 := Has.new w 37 [.int .i64 0, .int .u8 0, .int .i64 0, .int .i64 0, .int .i64 0]
  have HW := Lib.hid (Sh.dword_ok (w := w.alloc (.cells #[.int .i64 0, .int .u8 0, .int .i64 0, .int .i64 0, .int .i64 0] 37)) u u0 u1)
  have HS := Lib.hid hS
  have HBd := Lib.hid hbd
  have H0 := Lib.hid h0
  have K0 := Lib.hid k0
  have HRb : Hid (w.heap.size ≤ w.heap.size) := Lib.hid (Nat.le_refl _)
  clear hS hbd h0 k0
  cases hb : wordB u with
  | false =>
    rw [hb] at HW
    have hq : celA cs u = none := by unfold celA; rw [hb]; simp
    rw [hq]
    clear hq hb
    generalize wordR u = n at *
    go_enter Tryz.func11, Tryz.ntmps11
    go_wp2_with fail
    generalize w.alloc (.cells #[.int .i64 0, .int .u8 0, .int .i64 0, .int .i64 0, .int .i64 0] 37) = w1 at *
    refine HW.out.mono ?_
    rintro e y ⟨rfl, rfl⟩
    obtain ⟨d0, d1, d2, d3, d4⟩ := cells5 H0.out
    obtain ⟨f0, f1, f2, f3, f4⟩ := free5 H0.out
    go_wp2_with fail
    go_loopw [8] (fun t wr => t = .int .i64 0 ∧ wr = w1) (fun _ _ => 0)
    case atStart => exact ⟨rfl, rfl⟩
    case round =>
      obtain ⟨rfl, rfl⟩ := hrel
      by_cases hz : (0 : Int) < (cs.length : Int)
      · go_wp2_with fail
        change bodyPost Tryz.prog Tryz.f11 _ .ret _ _
        exact ret_cel rfl rfl H0.out K0.out (Nat.le_refl _) rfl rfl fun X hX => ⟨rfl, hX⟩
      · go_wp2_with fail
        change bodyPost Tryz.prog Tryz.f11 _ .ret _ _
        exact ret_cel rfl rfl H0.out K0.out (Nat.le_refl _) rfl rfl fun X hX => ⟨rfl, hX⟩
  | true =>
    rw [hb] at HW
    have hq : celA cs u = celW cs (wordR u) := by unfold celA; rw [if_pos hb]
    have hn : 0 ≤ wordR u ∧ wordR u < 65536 := by unfold wordR; split <;> omega
    rw [hq]
    clear hq hb
    generalize wordR u = n at *
    go_enter Tryz.func11, Tryz.ntmps11
    go_wp2_with fail
    generalize w.alloc (.cells #[.int .i64 0, .int .u8 0, .int .i64 0, .int .i64 0, .int .i64 0] 37) = w1 at *
    refine HW.out.mono ?_
    rintro e y ⟨rfl, rfl⟩
    have H1 : Hid (celW (cs.drop 0) n = celW cs n ∧ Has w1 w.heap.size 37 [.int .i64 0, .int .u8 0, .int .i64 0, .int .i64 0, .int .i64 0] ∧ Kept [] w w1) := Lib.hid ⟨rfl, H0.out, K0.out⟩
    clear H0 K0 HW
    go_wp2_with fail
    go_loopw [8] (fun t wr => ∃ j : Nat, t = .int .i64 (j : Int) ∧ j ≤ cs.length ∧ Hid (celW (cs.drop j) n = celW cs n ∧ Has wr w.heap.size 37 [.int .i64 0, .int .u8 0, .int .i64 0, .int .i64 0, .int .i64 0] ∧ Kept [] w wr)) (fun t _ => cs.length - (intOf t).toNat)
    case atStart => exact ⟨0, rfl, Nat.zero_le _, H1⟩
    case round =>
      clear H1
      obtain ⟨j, rfl, hj, hr⟩ := hrel
      by_cases hlt : j < cs.length
      · obtain ⟨g, o, rfl, hg, c0, c1, c2, c3, c4⟩ := (HS.out.keep0 hr.out.2.2).at j hlt _ rfl
        obtain ⟨x0, x1, x2, x3, _⟩ := HBd.out _ (getD_mem hlt)
        have hd := hr.out.1
        rw [drop_at hlt] at hd
        generalize cs.getD j Cel.zero = x at *
        have hyes : 2 * x.a ≤ n → n < 2 * (x.a + x.h.sz) → celW cs n = some x := fun h1 h2 => by
          rw [← hd]
          unfold celW
          rw [List.find?_cons_of_pos]
          exact decide_eq_true ⟨h1, h2⟩
        have hno : ¬ (2 * x.a ≤ n ∧ n < 2 * (x.a + x.h.sz)) → celW (cs.drop (j + 1)) n = celW cs n := fun h => by
          rw [← hd]
          unfold celW
          rw [List.find?_cons_of_neg]
          intro hh
          exact h (of_decide_eq_true hh)
        have HYes := Lib.hid hyes
        have HNo := Lib.hid hno
        clear hd hyes hno
        obtain ⟨xa, ⟨xt, xy, xl, xz⟩⟩ := x
        simp only at *
        by_cases h1 : 2 * xa ≤ n
        · by_cases h2 : n < 2 * (xa + xz)
          · have hc := HYes.out h1 h2
            obtain ⟨d0, d1, d2, d3, d4⟩ := cells5 hr.out.2.1
            obtain ⟨f0, f1, f2, f3, f4⟩ := free5 hr.out.2.1
            have HC := Lib.hid hc
            clear hc HYes HNo
            go_wp2_with fail
            go_quiet (fail)
            go_wp2_with fail
            change bodyPost Tryz.prog Tryz.f11 _ .ret _ _
            refine ret_cel rfl rfl (hr.out.2.1.drewN _) (hr.out.2.2.drewN _) (Nat.le_refl _) rfl rfl fun X hX => ⟨?_, hX⟩
            rw [HC.out]
            rfl
          · have HN : Hid (∀ y, Kept [] wr y → celW (cs.drop (j + 1)) n = celW cs n ∧ Has y w.heap.size 37 [.int .i64 0, .int .u8 0, .int .i64 0, .int .i64 0, .int .i64 0] ∧ Kept [] w y) := Lib.hid fun y hy => ⟨HNo.out fun h => h2 h.2, hr.out.2.1.keep0 hy, hr.out.2.2.trans hy⟩
            have hf : decide (n < 2 * (xa + xz)) = false := decide_eq_false h2
            clear hr HYes HNo h2
            go_wp2_with fail
            go_quiet (fail)
            go_wp2_with fail
            go_roundw
            case rel => exact ⟨j + 1, by go_num, by omega, Lib.hid (HN.out _ ((Kept.refl [] _).drewN _))⟩
            case measure => simp [intOf] <;> omega
        · have HN : Hid (∀ y, Kept [] wr y → celW (cs.drop (j + 1)) n = celW cs n ∧ Has y w.heap.size 37 [.int .i64 0, .int .u8 0, .int .i64 0, .int .i64 0, .int .i64 0] ∧ Kept [] w y) := Lib.hid fun y hy => ⟨HNo.out fun h => h1 h.1, hr.out.2.1.keep0 hy, hr.out.2.2.trans hy⟩
          have hf : decide (2 * xa ≤ n) = false := decide_eq_false h1
          clear hr HYes HNo h1
          go_wp2_with fail
          go_quiet (fail)
          go_wp2_with fail
          go_roundw
          case rel => exact ⟨j + 1, by go_num, by omega, Lib.hid (HN.out _ ((Kept.refl [] _).drewN _))⟩
          case measure => simp [intOf] <;> omega
      · obtain rfl : j = cs.length := by omega
        obtain ⟨d0, d1, d2, d3, d4⟩ := cells5 hr.out.2.1
        obtain ⟨f0, f1, f2, f3, f4⟩ := free5 hr.out.2.1
        go_wp2_with fail
        change bodyPost Tryz.prog Tryz.f11 _ .ret _ _
        refine ret_cel rfl rfl hr.out.2.1 hr.out.2.2 (Nat.le_refl _) rfl rfl fun X hX => ⟨?_, hX⟩
        rw [← hr.out.1, List.drop_length]
        rfl
set_option maxRecDepth 100000 in
set_option maxHeartbeats 4000000 in
theorem dof_ok (cs : List Cel) (hS : Sp.Seen w A cs) (hbd : ∀ c ∈ cs, 0 ≤ c.a ∧ c.a ≤ 1000000 ∧ 1 ≤ c.h.sz ∧ c.h.sz ≤ 1000000 ∧ endC c ≤ 32768) (hlen : cs.length ≤ 1000000) (u : Int) (u0 : 0 ≤ u) (u1 : u < 18446744073709551616) :
    Calls Tryz.prog 13 #[.slice A cs.length cap, .int .u64 u] w fun e y => e = .returned (.tuple #[.int .i64 ((ofA cs u).getD 0), .bool (ofA cs u).isSome]) ∧ Kept [] w y := by
  have HC := Lib.hid (dcell_ok (cap := cap) cs hS hbd hlen u u0 u1)
  have HO : Hid (ofA cs u = match celA cs u with
    | some c => if c.h.tg = 1 then some c.a else none
    | none => none) := Lib.hid rfl
  clear hS hbd
  generalize ofA cs u = ov at *
  cases hc : celA cs u with
  | none =>
    rw [hc] at HC HO
    have ho : ov = none := HO.out
    subst ho
    clear HO hc
    unfold Option.getD Option.isSome Cel.val Cel.zero Hd.zero at HC
    simp only at HC
    go_enter Tryz.func13, Tryz.ntmps13
    go_wp2_with fail
    refine HC.out.mono ?_
    rintro e y ⟨rfl, k⟩
    have HK := Lib.hid (k.alloc (.cells #[.int .i64 0, .int .u8 0, .int .i64 0, .int .i64 0, .int .i64 0] 37))
    clear k HC
    go_wp2_with fail
    go_ret2
    exact ⟨rfl, HK.out⟩
  | some c =>
    rw [hc] at HC HO
    have HO2 : Hid (ov = if c.h.tg = 1 then some c.a else none) := Lib.hid HO.out
    clear HO hc
    unfold Option.getD Option.isSome Cel.val at HC
    simp only at HC
    have hcl : ∀ y : World, Has (y.alloc (.cells #[.int .i64 c.a, .int .u8 c.h.tg, .int .i64 c.h.ty, .int .i64 c.h.ln, .int .i64 c.h.sz] 37)) y.heap.size 37 [.int .i64 c.a, .int .u8 c.h.tg, .int .i64 c.h.ty, .int .i64 c.h.ln, .int .i64 c.h.sz] := fun y => Has.new y _ _
    have HCl := Lib.hid hcl
    clear hcl
    obtain ⟨ca, ⟨ct, cy, cl, cz⟩⟩ := c
    simp only at *
    by_cases ht : ct = 1
    · subst ht
      obtain rfl : ov = some ca := by rw [HO2.out, if_pos rfl]
      clear HO2
      go_enter Tryz.func13, Tryz.ntmps13
      go_wp2_with fail
      refine HC.out.mono ?_
      rintro e y ⟨rfl, k⟩
      obtain ⟨d0, d1, d2, d3, d4⟩ := cells5 (HCl.out y)
      have HK := Lib.hid (k.alloc (.cells #[.int .i64 ca, .int .u8 1, .int .i64 cy, .int .i64 cl, .int .i64 cz] 37))
      clear k HC HCl
      go_wp2_with fail
      go_ret2
      exact ⟨rfl, HK.out⟩
    · obtain rfl : ov = none := by rw [HO2.out, if_neg ht]
      have hne : (ct != 1) = true := by simpa using ht
      clear HO2 ht
      go_enter Tryz.func13, Tryz.ntmps13
      go_wp2_with fail
      refine HC.out.mono ?_
      rintro e y ⟨rfl, k⟩
      obtain ⟨d0, d1, d2, d3, d4⟩ := cells5 (HCl.out y)
      have HK := Lib.hid (k.alloc (.cells #[.int .i64 ca, .int .u8 ct, .int .i64 cy, .int .i64 cl, .int .i64 cz] 37))
      clear k HC HCl
      go_wp2_with fail
      go_ret2
      exact ⟨rfl, HK.out⟩
end
end Go.Proofs.YtdfnphgjjodfoaaGreatDoor.Fd
