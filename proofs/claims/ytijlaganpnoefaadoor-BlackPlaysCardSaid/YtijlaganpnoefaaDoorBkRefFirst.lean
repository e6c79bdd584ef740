/-
  Stage 12, black: the document's First.
-/
import Derived.Test.YtijlaganpnoefaaDoorBkRef
namespace Go.Proofs.YtijlaganpnoefaaDoor.Bk
open Go.RowKit Go.Proofs.YtijlaganpnoefaaDoor.Ar
set_option linter.unusedVariables false

/-- From granule g on m granules are not black. -/
def roomTo (ls : List Int) (g : Nat) : Nat → Bool
  | 0 => true
  | m + 1 => roomTo ls g m && decide (ls.getD (g + m) 0 = 0)
/-- The lowest of f granules, from g on, from which on n are not black. -/
def searchG (ls : List Int) (n : Nat) : Nat → Nat → Option Int
  | 0, _ => none
  | f + 1, g => if roomTo ls g n = true then some (g : Int) else searchG ls n f (g + 1)
theorem searchG_none {ls : List Int} {n : Nat} {e g : Int} (h : e < g) : searchG ls n (e + 1 - g).toNat g.toNat = none := by
  rw [show (e + 1 - g).toNat = 0 by omega]
  rfl
theorem searchG_yes {ls : List Int} {n g : Nat} {e : Int} (h : (g : Int) ≤ e) (hr : roomTo ls g n = true) : searchG ls n (e + 1 - (g : Int)).toNat (g : Int).toNat = some (g : Int) := by
  rw [show (e + 1 - (g : Int)).toNat = (e - (g : Int)).toNat + 1 by omega, Int.toNat_natCast]
  exact if_pos hr
theorem searchG_no {ls : List Int} {n g : Nat} {e : Int} (h : (g : Int) ≤ e) (hr : roomTo ls g n = false) : searchG ls n (e + 1 - (g : Int)).toNat (g : Int).toNat = searchG ls n (e + 1 - ((g : Int) + 1)).toNat ((g : Int) + 1).toNat := by
  rw [show (e + 1 - (g : Int)).toNat = (e + 1 - ((g : Int) + 1)).toNat + 1 by omega, Int.toNat_natCast, show ((g : Int) + 1).toNat = g + 1 by omega]
  show (if roomTo ls g n = true then some (g : Int) else _) = _
  rw [hr]
  rfl
def endL (ls : List Int) (to_ : Int) : Int := max (min to_ (ls.length : Int)) 0
def firstL (ls : List Int) (from_ to_ n : Int) : Option Int :=
  if n < 1 ∨ (ls.length : Int) < n then none else searchG ls n.toNat (endL ls to_ - n + 1 - max from_ 0).toNat (max from_ 0).toNat
section
variable {w : World} {p q : Nat} {ls : List Int}
set_option maxRecDepth 100000 in
set_option maxHeartbeats 16000000 in
theorem bfirst_ok (h : Bl w p q ls) (a b n : Int) (a1 : -9223372036854775808 ≤ a ∧ a ≤ 9223372036854775807) (b1 : -9223372036854775808 ≤ b ∧ b ≤ 9223372036854775807) (n1 : -9223372036854775808 ≤ n ∧ n ≤ 9223372036854775807) :
    Calls Tryd.prog 18 #[.pointer (some ⟨p, 0, none⟩), .int .i64 a, .int .i64 b, .int .i64 n] w fun e y => e = .returned (.tuple #[.int .i64 ((firstL ls a b n).getD 0), .bool (firstL ls a b n).isSome]) ∧ w = y := by
  have hf := h.few
  have c0 := h.c0
  have HB := Lib.hid h
  clear h
  by_cases hn : n < 1 ∨ (ls.length : Int) < n
  · have hz : firstL ls a b n = none := if_pos hn
    rw [hz]
    unfold Option.getD Option.isSome
    simp only
    clear hz
    rcases hn with hn | hn
    · go_enter Tryd.func18, Tryd.ntmps18
      go_wp2_with fail
      all_goals
        go_ret2
      all_goals exact ⟨rfl, rfl⟩
    · by_cases hn2 : n < 1
      · omega
      · go_enter Tryd.func18, Tryd.ntmps18
        go_wp2_with fail
        all_goals
          go_ret2
        all_goals exact ⟨rfl, rfl⟩
  · obtain ⟨n0, hnn⟩ : ∃ n0 : Nat, n = (n0 : Int) := ⟨n.toNat, by omega⟩
    subst hnn
    have hnl : n0 ≤ ls.length := by omega
    have hn1 : 1 ≤ n0 := by omega
    have hz : firstL ls a b (n0 : Int) = searchG ls n0 (endL ls b - (n0 : Int) + 1 - max a 0).toNat (max a 0).toNat := if_neg hn
    rw [hz]
    clear hz hn n1
    by_cases hb : b < 0
    · by_cases ha : a < 0
      · have he : endL ls b = (0 : Int) := by unfold endL; omega
        have hm : max a 0 = (0 : Int) := by omega
        obtain ⟨fv, hfv⟩ : ∃ fv, fv = searchG ls n0 (endL ls b - (n0 : Int) + 1 - max a 0).toNat (max a 0).toNat := ⟨_, rfl⟩
        rw [← hfv]
        have H0 : Hid (fv = searchG ls n0 (((0 : Int) - (n0 : Int)) + 1 - (0 : Int)).toNat ((0 : Int) : Int).toNat) := Lib.hid (by rw [hfv, he, hm])
        clear hfv he hm
        go_enter Tryd.func18, Tryd.ntmps18
        go_wp2_with fail
        go_loop [10] (fun t => ∃ g : Int, t = .int .i64 g ∧ 0 ≤ g ∧ g ≤ 9223372036854775807 ∧ Hid (fv = searchG ls n0 (((0 : Int) - (n0 : Int)) + 1 - g).toNat g.toNat)) (fun t => (((0 : Int) - (n0 : Int)) + 1 - intOf t).toNat)
        case atStart => exact ⟨(0 : Int), rfl, by omega, by omega, H0⟩
        case round =>
          clear H0
          obtain ⟨g, rfl, hg0, hg1, hr⟩ := hrel
          by_cases hlt : g ≤ (0 : Int) - (n0 : Int)
          · omega
          · have hs := hr.out
            rw [searchG_none (by omega)] at hs
            have HE := Lib.hid hs
            clear hs hr
            go_wp2_with fail
            go_ret2
            rw [HE.out]
            exact ⟨rfl, rfl⟩
      · have he : endL ls b = (0 : Int) := by unfold endL; omega
        have hm : max a 0 = a := by omega
        obtain ⟨fv, hfv⟩ : ∃ fv, fv = searchG ls n0 (endL ls b - (n0 : Int) + 1 - max a 0).toNat (max a 0).toNat := ⟨_, rfl⟩
        rw [← hfv]
        have H0 : Hid (fv = searchG ls n0 (((0 : Int) - (n0 : Int)) + 1 - a).toNat (a : Int).toNat) := Lib.hid (by rw [hfv, he, hm])
        clear hfv he hm
        go_enter Tryd.func18, Tryd.ntmps18
        go_wp2_with fail
        go_loop [10] (fun t => ∃ g : Int, t = .int .i64 g ∧ 0 ≤ g ∧ g ≤ 9223372036854775807 ∧ Hid (fv = searchG ls n0 (((0 : Int) - (n0 : Int)) + 1 - g).toNat g.toNat)) (fun t => (((0 : Int) - (n0 : Int)) + 1 - intOf t).toNat)
        case atStart => exact ⟨a, rfl, by omega, by omega, H0⟩
        case round =>
          clear H0
          obtain ⟨g, rfl, hg0, hg1, hr⟩ := hrel
          by_cases hlt : g ≤ (0 : Int) - (n0 : Int)
          · omega
          · have hs := hr.out
            rw [searchG_none (by omega)] at hs
            have HE := Lib.hid hs
            clear hs hr
            go_wp2_with fail
            go_ret2
            rw [HE.out]
            exact ⟨rfl, rfl⟩
    · by_cases hb2 : b ≤ (ls.length : Int)
      · by_cases ha : a < 0
        · have he : endL ls b = b := by unfold endL; omega
          have hm : max a 0 = (0 : Int) := by omega
          obtain ⟨fv, hfv⟩ : ∃ fv, fv = searchG ls n0 (endL ls b - (n0 : Int) + 1 - max a 0).toNat (max a 0).toNat := ⟨_, rfl⟩
          rw [← hfv]
          have H0 : Hid (fv = searchG ls n0 ((b - (n0 : Int)) + 1 - (0 : Int)).toNat ((0 : Int) : Int).toNat) := Lib.hid (by rw [hfv, he, hm])
          clear hfv he hm
          go_enter Tryd.func18, Tryd.ntmps18
          go_wp2_with fail
          go_loop [10] (fun t => ∃ g : Int, t = .int .i64 g ∧ 0 ≤ g ∧ g ≤ 9223372036854775807 ∧ Hid (fv = searchG ls n0 ((b - (n0 : Int)) + 1 - g).toNat g.toNat)) (fun t => ((b - (n0 : Int)) + 1 - intOf t).toNat)
          case atStart => exact ⟨(0 : Int), rfl, by omega, by omega, H0⟩
          case round =>
            clear H0
            obtain ⟨g, rfl, hg0, hg1, hr⟩ := hrel
            by_cases hlt : g ≤ b - (n0 : Int)
            · obtain ⟨gn, rfl⟩ := Int.eq_ofNat_of_zero_le hg0
              have HI0 : Hid (true = roomTo ls gn 0) := Lib.hid rfl
              go_wp2_with fail
              go_loop [11, 12] (fun u t => ∃ (m : Nat) (bb : Bool), u = .bool bb ∧ t = .int .i64 ((gn : Int) + (m : Int)) ∧ m ≤ n0 ∧ Hid (bb = roomTo ls gn m)) (fun _ t => ((gn : Int) + (n0 : Int) - intOf t).toNat)
              case atStart => exact ⟨0, true, rfl, by simp, Nat.zero_le _, HI0⟩
              case round =>
                clear HI0
                obtain ⟨m, bb, rfl, rfl, hmn, hi⟩ := hrel
                by_cases hmt : m < n0
                · have cq := HB.out.cell (gn + m) (by omega)
                  have hro : roomTo ls gn (m + 1) = (bb && decide (ls.getD (gn + m) 0 = 0)) := by rw [hi.out]; rfl
                  have HRo := Lib.hid hro
                  obtain ⟨km, hkm⟩ : ∃ km : Nat, km = gn + m := ⟨_, rfl⟩
                  rw [← hkm] at cq HRo
                  have hkc : (gn : Int) + (m : Int) = (km : Int) := by omega
                  rw [hkc]
                  have hkl : km < ls.length := by omega
                  have hkn : (km : Int) < (gn : Int) + (n0 : Int) := by omega
                  have HKm := Lib.hid hkm
                  clear hkm hro
                  generalize ls.getD km 0 = x at *
                  cases bb with
                  | false =>
                    have HN : Hid (false = roomTo ls gn (m + 1)) := Lib.hid (by rw [HRo.out]; rfl)
                    clear hkc hi HRo
                    go_wp2_with fail
                    go_round
                    case rel => exact ⟨m + 1, false, rfl, by have := HKm.out; go_num, by omega, HN⟩
                    case measure => have := HKm.out; simp [intOf] <;> omega
                  | true =>
                    by_cases hx : x = 0
                    · subst hx
                      have HN : Hid (true = roomTo ls gn (m + 1)) := Lib.hid (by rw [HRo.out]; rfl)
                      clear hkc hi HRo
                      go_wp2_with fail
                      go_round
                      case rel => exact ⟨m + 1, true, rfl, by have := HKm.out; go_num, by omega, HN⟩
                      case measure => have := HKm.out; simp [intOf] <;> omega
                    · have HN : Hid (false = roomTo ls gn (m + 1)) := Lib.hid (by rw [HRo.out, decide_eq_false hx]; rfl)
                      have hxb : (x == 0) = false := by simpa using hx
                      clear hkc hi HRo hx
                      go_wp2_with fail
                      go_round
                      case rel => exact ⟨m + 1, false, rfl, by have := HKm.out; go_num, by omega, HN⟩
                      case measure => have := HKm.out; simp [intOf] <;> omega
                · have hme : m = n0 := by omega
                  have hi2 := hi.out
                  rw [hme] at hi2
                  cases bb with
                  | true =>
                    have hs := hr.out
                    rw [searchG_yes hlt hi2.symm] at hs
                    have HE := Lib.hid hs
                    clear hs hi2 hme hi hr
                    go_wp2_with fail
                    go_ret2
                    rw [HE.out]
                    exact ⟨rfl, rfl⟩
                  | false =>
                    have hs := hr.out
                    rw [searchG_no hlt hi2.symm] at hs
                    have HN := Lib.hid hs
                    clear hs hi2 hme hi hr
                    go_wp2_with fail
                    go_round
                    case rel => exact ⟨(gn : Int) + 1, rfl, by omega, by omega, HN⟩
                    case measure => simp [intOf] <;> omega
            · have hs := hr.out
              rw [searchG_none (by omega)] at hs
              have HE := Lib.hid hs
              clear hs hr
              go_wp2_with fail
              go_ret2
              rw [HE.out]
              exact ⟨rfl, rfl⟩
        · have he : endL ls b = b := by unfold endL; omega
          have hm : max a 0 = a := by omega
          obtain ⟨fv, hfv⟩ : ∃ fv, fv = searchG ls n0 (endL ls b - (n0 : Int) + 1 - max a 0).toNat (max a 0).toNat := ⟨_, rfl⟩
          rw [← hfv]
          have H0 : Hid (fv = searchG ls n0 ((b - (n0 : Int)) + 1 - a).toNat (a : Int).toNat) := Lib.hid (by rw [hfv, he, hm])
          clear hfv he hm
          go_enter Tryd.func18, Tryd.ntmps18
          go_wp2_with fail
          go_loop [10] (fun t => ∃ g : Int, t = .int .i64 g ∧ 0 ≤ g ∧ g ≤ 9223372036854775807 ∧ Hid (fv = searchG ls n0 ((b - (n0 : Int)) + 1 - g).toNat g.toNat)) (fun t => ((b - (n0 : Int)) + 1 - intOf t).toNat)
          case atStart => exact ⟨a, rfl, by omega, by omega, H0⟩
          case round =>
            clear H0
            obtain ⟨g, rfl, hg0, hg1, hr⟩ := hrel
            by_cases hlt : g ≤ b - (n0 : Int)
            · obtain ⟨gn, rfl⟩ := Int.eq_ofNat_of_zero_le hg0
              have HI0 : Hid (true = roomTo ls gn 0) := Lib.hid rfl
              go_wp2_with fail
              go_loop [11, 12] (fun u t => ∃ (m : Nat) (bb : Bool), u = .bool bb ∧ t = .int .i64 ((gn : Int) + (m : Int)) ∧ m ≤ n0 ∧ Hid (bb = roomTo ls gn m)) (fun _ t => ((gn : Int) + (n0 : Int) - intOf t).toNat)
              case atStart => exact ⟨0, true, rfl, by simp, Nat.zero_le _, HI0⟩
              case round =>
                clear HI0
                obtain ⟨m, bb, rfl, rfl, hmn, hi⟩ := hrel
                by_cases hmt : m < n0
                · have cq := HB.out.cell (gn + m) (by omega)
                  have hro : roomTo ls gn (m + 1) = (bb && decide (ls.getD (gn + m) 0 = 0)) := by rw [hi.out]; rfl
                  have HRo := Lib.hid hro
                  obtain ⟨km, hkm⟩ : ∃ km : Nat, km = gn + m := ⟨_, rfl⟩
                  rw [← hkm] at cq HRo
                  have hkc : (gn : Int) + (m : Int) = (km : Int) := by omega
                  rw [hkc]
                  have hkl : km < ls.length := by omega
                  have hkn : (km : Int) < (gn : Int) + (n0 : Int) := by omega
                  have HKm := Lib.hid hkm
                  clear hkm hro
                  generalize ls.getD km 0 = x at *
                  cases bb with
                  | false =>
                    have HN : Hid (false = roomTo ls gn (m + 1)) := Lib.hid (by rw [HRo.out]; rfl)
                    clear hkc hi HRo
                    go_wp2_with fail
                    go_round
                    case rel => exact ⟨m + 1, false, rfl, by have := HKm.out; go_num, by omega, HN⟩
                    case measure => have := HKm.out; simp [intOf] <;> omega
                  | true =>
                    by_cases hx : x = 0
                    · subst hx
                      have HN : Hid (true = roomTo ls gn (m + 1)) := Lib.hid (by rw [HRo.out]; rfl)
                      clear hkc hi HRo
                      go_wp2_with fail
                      go_round
                      case rel => exact ⟨m + 1, true, rfl, by have := HKm.out; go_num, by omega, HN⟩
                      case measure => have := HKm.out; simp [intOf] <;> omega
                    · have HN : Hid (false = roomTo ls gn (m + 1)) := Lib.hid (by rw [HRo.out, decide_eq_false hx]; rfl)
                      have hxb : (x == 0) = false := by simpa using hx
                      clear hkc hi HRo hx
                      go_wp2_with fail
                      go_round
                      case rel => exact ⟨m + 1, false, rfl, by have := HKm.out; go_num, by omega, HN⟩
                      case measure => have := HKm.out; simp [intOf] <;> omega
                · have hme : m = n0 := by omega
                  have hi2 := hi.out
                  rw [hme] at hi2
                  cases bb with
                  | true =>
                    have hs := hr.out
                    rw [searchG_yes hlt hi2.symm] at hs
                    have HE := Lib.hid hs
                    clear hs hi2 hme hi hr
                    go_wp2_with fail
                    go_ret2
                    rw [HE.out]
                    exact ⟨rfl, rfl⟩
                  | false =>
                    have hs := hr.out
                    rw [searchG_no hlt hi2.symm] at hs
                    have HN := Lib.hid hs
                    clear hs hi2 hme hi hr
                    go_wp2_with fail
                    go_round
                    case rel => exact ⟨(gn : Int) + 1, rfl, by omega, by omega, HN⟩
                    case measure => simp [intOf] <;> omega
            · have hs := hr.out
              rw [searchG_none (by omega)] at hs
              have HE := Lib.hid hs
              clear hs hr
              go_wp2_with fail
              go_ret2
              rw [HE.out]
              exact ⟨rfl, rfl⟩
      · by_cases ha : a < 0
        · have he : endL ls b = (ls.length : Int) := by unfold endL; omega
          have hm : max a 0 = (0 : Int) := by omega
          obtain ⟨fv, hfv⟩ : ∃ fv, fv = searchG ls n0 (endL ls b - (n0 : Int) + 1 - max a 0).toNat (max a 0).toNat := ⟨_, rfl⟩
          rw [← hfv]
          have H0 : Hid (fv = searchG ls n0 (((ls.length : Int) - (n0 : Int)) + 1 - (0 : Int)).toNat ((0 : Int) : Int).toNat) := Lib.hid (by rw [hfv, he, hm])
          clear hfv he hm
          go_enter Tryd.func18, Tryd.ntmps18
          go_wp2_with fail
          go_loop [10] (fun t => ∃ g : Int, t = .int .i64 g ∧ 0 ≤ g ∧ g ≤ 9223372036854775807 ∧ Hid (fv = searchG ls n0 (((ls.length : Int) - (n0 : Int)) + 1 - g).toNat g.toNat)) (fun t => (((ls.length : Int) - (n0 : Int)) + 1 - intOf t).toNat)
          case atStart => exact ⟨(0 : Int), rfl, by omega, by omega, H0⟩
          case round =>
            clear H0
            obtain ⟨g, rfl, hg0, hg1, hr⟩ := hrel
            by_cases hlt : g ≤ (ls.length : Int) - (n0 : Int)
            · obtain ⟨gn, rfl⟩ := Int.eq_ofNat_of_zero_le hg0
              have HI0 : Hid (true = roomTo ls gn 0) := Lib.hid rfl
              go_wp2_with fail
              go_loop [11, 12] (fun u t => ∃ (m : Nat) (bb : Bool), u = .bool bb ∧ t = .int .i64 ((gn : Int) + (m : Int)) ∧ m ≤ n0 ∧ Hid (bb = roomTo ls gn m)) (fun _ t => ((gn : Int) + (n0 : Int) - intOf t).toNat)
              case atStart => exact ⟨0, true, rfl, by simp, Nat.zero_le _, HI0⟩
              case round =>
                clear HI0
                obtain ⟨m, bb, rfl, rfl, hmn, hi⟩ := hrel
                by_cases hmt : m < n0
                · have cq := HB.out.cell (gn + m) (by omega)
                  have hro : roomTo ls gn (m + 1) = (bb && decide (ls.getD (gn + m) 0 = 0)) := by rw [hi.out]; rfl
                  have HRo := Lib.hid hro
                  obtain ⟨km, hkm⟩ : ∃ km : Nat, km = gn + m := ⟨_, rfl⟩
                  rw [← hkm] at cq HRo
                  have hkc : (gn : Int) + (m : Int) = (km : Int) := by omega
                  rw [hkc]
                  have hkl : km < ls.length := by omega
                  have hkn : (km : Int) < (gn : Int) + (n0 : Int) := by omega
                  have HKm := Lib.hid hkm
                  clear hkm hro
                  generalize ls.getD km 0 = x at *
                  cases bb with
                  | false =>
                    have HN : Hid (false = roomTo ls gn (m + 1)) := Lib.hid (by rw [HRo.out]; rfl)
                    clear hkc hi HRo
                    go_wp2_with fail
                    go_round
                    case rel => exact ⟨m + 1, false, rfl, by have := HKm.out; go_num, by omega, HN⟩
                    case measure => have := HKm.out; simp [intOf] <;> omega
                  | true =>
                    by_cases hx : x = 0
                    · subst hx
                      have HN : Hid (true = roomTo ls gn (m + 1)) := Lib.hid (by rw [HRo.out]; rfl)
                      clear hkc hi HRo
                      go_wp2_with fail
                      go_round
                      case rel => exact ⟨m + 1, true, rfl, by have := HKm.out; go_num, by omega, HN⟩
                      case measure => have := HKm.out; simp [intOf] <;> omega
                    · have HN : Hid (false = roomTo ls gn (m + 1)) := Lib.hid (by rw [HRo.out, decide_eq_false hx]; rfl)
                      have hxb : (x == 0) = false := by simpa using hx
                      clear hkc hi HRo hx
                      go_wp2_with fail
                      go_round
                      case rel => exact ⟨m + 1, false, rfl, by have := HKm.out; go_num, by omega, HN⟩
                      case measure => have := HKm.out; simp [intOf] <;> omega
                · have hme : m = n0 := by omega
                  have hi2 := hi.out
                  rw [hme] at hi2
                  cases bb with
                  | true =>
                    have hs := hr.out
                    rw [searchG_yes hlt hi2.symm] at hs
                    have HE := Lib.hid hs
                    clear hs hi2 hme hi hr
                    go_wp2_with fail
                    go_ret2
                    rw [HE.out]
                    exact ⟨rfl, rfl⟩
                  | false =>
                    have hs := hr.out
                    rw [searchG_no hlt hi2.symm] at hs
                    have HN := Lib.hid hs
                    clear hs hi2 hme hi hr
                    go_wp2_with fail
                    go_round
                    case rel => exact ⟨(gn : Int) + 1, rfl, by omega, by omega, HN⟩
                    case measure => simp [intOf] <;> omega
            · have hs := hr.out
              rw [searchG_none (by omega)] at hs
              have HE := Lib.hid hs
              clear hs hr
              go_wp2_with fail
              go_ret2
              rw [HE.out]
              exact ⟨rfl, rfl⟩
        · have he : endL ls b = (ls.length : Int) := by unfold endL; omega
          have hm : max a 0 = a := by omega
          obtain ⟨fv, hfv⟩ : ∃ fv, fv = searchG ls n0 (endL ls b - (n0 : Int) + 1 - max a 0).toNat (max a 0).toNat := ⟨_, rfl⟩
          rw [← hfv]
          have H0 : Hid (fv = searchG ls n0 (((ls.length : Int) - (n0 : Int)) + 1 - a).toNat (a : Int).toNat) := Lib.hid (by rw [hfv, he, hm])
          clear hfv he hm
          go_enter Tryd.func18, Tryd.ntmps18
          go_wp2_with fail
          go_loop [10] (fun t => ∃ g : Int, t = .int .i64 g ∧ 0 ≤ g ∧ g ≤ 9223372036854775807 ∧ Hid (fv = searchG ls n0 (((ls.length : Int) - (n0 : Int)) + 1 - g).toNat g.toNat)) (fun t => (((ls.length : Int) - (n0 : Int)) + 1 - intOf t).toNat)
          case atStart => exact ⟨a, rfl, by omega, by omega, H0⟩
          case round =>
            clear H0
            obtain ⟨g, rfl, hg0, hg1, hr⟩ := hrel
            by_cases hlt : g ≤ (ls.length : Int) - (n0 : Int)
            · obtain ⟨gn, rfl⟩ := Int.eq_ofNat_of_zero_le hg0
              have HI0 : Hid (true = roomTo ls gn 0) := Lib.hid rfl
              go_wp2_with fail
              go_loop [11, 12] (fun u t => ∃ (m : Nat) (bb : Bool), u = .bool bb ∧ t = .int .i64 ((gn : Int) + (m : Int)) ∧ m ≤ n0 ∧ Hid (bb = roomTo ls gn m)) (fun _ t => ((gn : Int) + (n0 : Int) - intOf t).toNat)
              case atStart => exact ⟨0, true, rfl, by simp, Nat.zero_le _, HI0⟩
              case round =>
                clear HI0
                obtain ⟨m, bb, rfl, rfl, hmn, hi⟩ := hrel
                by_cases hmt : m < n0
                · have cq := HB.out.cell (gn + m) (by omega)
                  have hro : roomTo ls gn (m + 1) = (bb && decide (ls.getD (gn + m) 0 = 0)) := by rw [hi.out]; rfl
                  have HRo := Lib.hid hro
                  obtain ⟨km, hkm⟩ : ∃ km : Nat, km = gn + m := ⟨_, rfl⟩
                  rw [← hkm] at cq HRo
                  have hkc : (gn : Int) + (m : Int) = (km : Int) := by omega
                  rw [hkc]
                  have hkl : km < ls.length := by omega
                  have hkn : (km : Int) < (gn : Int) + (n0 : Int) := by omega
                  have HKm := Lib.hid hkm
                  clear hkm hro
                  generalize ls.getD km 0 = x at *
                  cases bb with
                  | false =>
                    have HN : Hid (false = roomTo ls gn (m + 1)) := Lib.hid (by rw [HRo.out]; rfl)
                    clear hkc hi HRo
                    go_wp2_with fail
                    go_round
                    case rel => exact ⟨m + 1, false, rfl, by have := HKm.out; go_num, by omega, HN⟩
                    case measure => have := HKm.out; simp [intOf] <;> omega
                  | true =>
                    by_cases hx : x = 0
                    · subst hx
                      have HN : Hid (true = roomTo ls gn (m + 1)) := Lib.hid (by rw [HRo.out]; rfl)
                      clear hkc hi HRo
                      go_wp2_with fail
                      go_round
                      case rel => exact ⟨m + 1, true, rfl, by have := HKm.out; go_num, by omega, HN⟩
                      case measure => have := HKm.out; simp [intOf] <;> omega
                    · have HN : Hid (false = roomTo ls gn (m + 1)) := Lib.hid (by rw [HRo.out, decide_eq_false hx]; rfl)
                      have hxb : (x == 0) = false := by simpa using hx
                      clear hkc hi HRo hx
                      go_wp2_with fail
                      go_round
                      case rel => exact ⟨m + 1, false, rfl, by have := HKm.out; go_num, by omega, HN⟩
                      case measure => have := HKm.out; simp [intOf] <;> omega
                · have hme : m = n0 := by omega
                  have hi2 := hi.out
                  rw [hme] at hi2
                  cases bb with
                  | true =>
                    have hs := hr.out
                    rw [searchG_yes hlt hi2.symm] at hs
                    have HE := Lib.hid hs
                    clear hs hi2 hme hi hr
                    go_wp2_with fail
                    go_ret2
                    rw [HE.out]
                    exact ⟨rfl, rfl⟩
                  | false =>
                    have hs := hr.out
                    rw [searchG_no hlt hi2.symm] at hs
                    have HN := Lib.hid hs
                    clear hs hi2 hme hi hr
                    go_wp2_with fail
                    go_round
                    case rel => exact ⟨(gn : Int) + 1, rfl, by omega, by omega, HN⟩
                    case measure => simp [intOf] <;> omega
            · have hs := hr.out
              rw [searchG_none (by omega)] at hs
              have HE := Lib.hid hs
              clear hs hr
              go_wp2_with fail
              go_ret2
              rw [HE.out]
              exact ⟨rfl, rfl⟩
end
end Go.Proofs.YtijlaganpnoefaaDoor.Bk
