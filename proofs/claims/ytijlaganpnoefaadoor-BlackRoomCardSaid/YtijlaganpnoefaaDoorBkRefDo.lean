/-
  Stage 12, black: the document's Hit, Turn and List.
-/
import Derived.Test.YtijlaganpnoefaaDoorBkRef
import Derived.Test.YtijlaganpnoefaaDoorOwnIn
namespace Go.Proofs.YtijlaganpnoefaaDoor.Bk
open Go.RowKit Go.Proofs.YtijlaganpnoefaaDoor.Ar
set_option linter.unusedVariables false

theorem inAll_snoc (n : Nat) (gs : List Int) (g : Int) : inAll n (gs ++ [g]) = (inAll n gs && decide (0 ≤ g ∧ g < (n : Int))) := by
  unfold inAll
  rw [List.all_append]
  simp
theorem inAll_mem {n : Nat} {gs : List Int} (h : inAll n gs = true) {g : Int} (hg : g ∈ gs) : 0 ≤ g ∧ g < (n : Int) := of_decide_eq_true (List.all_eq_true.1 h g hg)
theorem inAll_no {n : Nat} {gs : List Int} {g : Int} (hg : g ∈ gs) (h : ¬ (0 ≤ g ∧ g < (n : Int))) : inAll n gs = false := by
  cases hh : inAll n gs with
  | false => rfl
  | true => exact absurd (inAll_mem hh hg) h
theorem hit_no {ls gs : List Int} (h : inAll ls.length gs = false) : hitE ls.length gs = 2 ∧ hitL ls gs = ls := by
  unfold hitE hitL
  rw [h]
  exact ⟨rfl, rfl⟩
theorem hit_yes {ls gs : List Int} (h : inAll ls.length gs = true) : hitE ls.length gs = 0 ∧ hitL ls gs = hitAll ls gs := by
  unfold hitE hitL
  rw [h]
  exact ⟨rfl, rfl⟩
theorem num_mem {gs : List Int} {j : Nat} (hj : j < gs.length) : gs.getD j 0 ∈ gs := by
  rw [List.getD_eq_getElem?_getD, List.getElem?_eq_getElem hj]
  exact List.getElem_mem hj
section
variable {w : World} {p q : Nat} {ls : List Int}
set_option maxRecDepth 100000 in
set_option maxHeartbeats 8000000 in
theorem bhit_ok (h : Bl w p q ls) {A : Option Addr} {c : Nat} (gs : List Int) (hG : ∀ y, Kept [q] w y → Ir.Seen y A gs) (hlen : gs.length ≤ 1000000) :
    Calls Tryd.prog 28 #[.pointer (some ⟨p, 0, none⟩), .slice A gs.length c] w fun e y => e = .returned (.int .i64 (hitE ls.length gs)) ∧ Bl y p q (hitL ls gs) ∧ Kept [q] w y := by
  have hf := h.few
  have HB := Lib.hid h
  have HG := Lib.hid hG
  have H0 : Hid (inAll ls.length (gs.take 0) = true) := Lib.hid rfl
  clear h hG
  go_enter Tryd.func28, Tryd.ntmps28
  go_wp2_with fail
  go_loopw [5] (fun t wr => ∃ j : Nat, t = .int .i64 (j : Int) ∧ j ≤ gs.length ∧ Hid (inAll ls.length (gs.take j) = true) ∧ Hid (Kept [] w wr)) (fun t _ => gs.length - (intOf t).toNat)
  case atStart => exact ⟨0, rfl, Nat.zero_le _, H0, Lib.hid (Kept.refl _ _)⟩
  case round =>
    clear H0
    obtain ⟨j, rfl, hj, hr, hk⟩ := hrel
    by_cases hlt : j < gs.length
    · obtain ⟨g0, f0, rfl, hc⟩ := (HG.out wr (hk.out.none _)).cells (by intro e; simp [e] at hlt)
      have ct := hc j hlt
      have c0 := (HB.out.keep0 hk.out).c0
      have hm := num_mem hlt
      have hsn := inAll_snoc ls.length (gs.take j) (gs.getD j 0)
      rw [← take_snoc hlt, hr.out, Bool.true_and] at hsn
      clear hc
      generalize gs.getD j 0 = g at *
      by_cases h0 : g < 0
      · have HN := Lib.hid (hit_no (ls := ls) (inAll_no hm (by omega)))
        clear hsn hm hr
        go_wp2_with fail
        go_quiet (fail)
        go_wp2_with fail
        go_ret
        rw [HN.out.1, HN.out.2]
        exact ⟨rfl, HB.out.keep0 (hk.out.drewN _), (hk.out.drewN _).none _⟩
      · have hd0 : decide (g < 0) = false := decide_eq_false h0
        by_cases h1 : g < (ls.length : Int)
        · have HN : Hid (inAll ls.length (gs.take (j + 1)) = true) := Lib.hid (by rw [hsn]; exact decide_eq_true ⟨by omega, h1⟩)
          clear hsn hm hr h0
          go_wp2_with fail
          go_quiet (fail)
          have HK : Hid (Kept [] w (wr.drewN nq)) := Lib.hid (hk.out.drewN nq)
          go_wp2_with fail
          go_roundw
          case rel => exact ⟨j + 1, by go_num, by omega, HN, HK⟩
          case measure => simp [intOf] <;> omega
        · have HN := Lib.hid (hit_no (ls := ls) (inAll_no hm (by omega)))
          clear hsn hm hr h0
          go_wp2_with fail
          go_quiet (fail)
          go_wp2_with fail
          go_ret
          rw [HN.out.1, HN.out.2]
          exact ⟨rfl, HB.out.keep0 (hk.out.drewN _), (hk.out.drewN _).none _⟩
    · obtain rfl : j = gs.length := by omega
      have hr1 := hr.out
      rw [List.take_length] at hr1
      have HA := Lib.hid hr1
      have H1 : Hid (Bl wr p q (hitAll ls (gs.take 0)) ∧ Kept [q] w wr) := Lib.hid ⟨HB.out.keep0 hk.out, hk.out.none _⟩
      clear hr hr1 hk
      go_wp2_with fail
      go_loopw [6] (fun t wi => ∃ k : Nat, t = .int .i64 (k : Int) ∧ k ≤ gs.length ∧ Hid (Bl wi p q (hitAll ls (gs.take k)) ∧ Kept [q] w wi)) (fun t _ => gs.length - (intOf t).toNat)
      case atStart => exact ⟨0, rfl, Nat.zero_le _, H1⟩
      case round =>
        clear H1
        obtain ⟨k, rfl, hk, hi⟩ := hrel
        by_cases hkt : k < gs.length
        · obtain ⟨g0, f0, rfl, hc⟩ := (HG.out wr hi.out.2).cells (by intro e; simp [e] at hkt)
          have ct := hc k hkt
          have c0 := hi.out.1.c0
          rw [hitAll_length] at c0
          obtain ⟨a1, a2⟩ := inAll_mem HA.out (num_mem hkt)
          have hsn := hitAll_snoc ls (gs.take k) (gs.getD k 0)
          rw [← take_snoc hkt] at hsn
          clear hc
          generalize gs.getD k 0 = g at *
          obtain ⟨m, rfl⟩ := Int.eq_ofNat_of_zero_le a1
          rw [Int.toNat_natCast] at hsn
          have hml : m < ls.length := by omega
          have cq := hi.out.1.cell m (by rw [hitAll_length]; exact hml)
          have fq := hi.out.1.row.free m
          have HS := Lib.hid hsn
          clear hsn a1
          generalize (hitAll ls (gs.take k)).getD m 0 = old at *
          go_wp2_with fail
          go_region
          all_goals
            have hb := hi.out.1.put m (v := 2) (by decide)
            rw [← HS.out] at hb
            have ks : Kept [q] w (wr.setCell ⟨q, m, none⟩ (.int .i64 2)) := hi.out.2.trans ((Kept.refl _ _).setCell _ _ (.inl (by simp)))
            have HN : Hid (Bl (wr.setCell ⟨q, m, none⟩ (.int .i64 2)).drew p q (hitAll ls (gs.take (k + 1))) ∧ Kept [q] w (wr.setCell ⟨q, m, none⟩ (.int .i64 2)).drew) := Lib.hid ⟨hb.keep0 (Kept.refl [] _).drew, ks.drew⟩
            clear hb ks hi HS c0 ct cq fq
            go_wp2_with fail
            go_roundw
            case rel => exact ⟨k + 1, by go_num, by omega, HN⟩
            case measure => simp [intOf] <;> omega
        · obtain rfl : k = gs.length := by omega
          have hi1 := hi.out
          rw [List.take_length] at hi1
          go_wp2_with fail
          go_ret
          rw [(hit_yes HA.out).1, (hit_yes HA.out).2]
          exact ⟨rfl, hi1.1, hi1.2⟩
end
end Go.Proofs.YtijlaganpnoefaaDoor.Bk
