/-
  Stage 12, black: the document's Turn and List.
-/
import Derived.Test.YtijlaganpnoefaaDoorBkRef
import Derived.Test.YtijlaganpnoefaaDoorOwnIn
namespace Go.Proofs.YtijlaganpnoefaaDoor.Bk
open Go.RowKit Go.Proofs.YtijlaganpnoefaaDoor.Ar
set_option linter.unusedVariables false

theorem listFrom_snoc (ls : List Int) (x : Int) : listL (ls ++ [x]) = listL ls ++ if 0 < x then [(ls.length : Int)] else [] := by
  unfold listL
  rw [listFrom_append, Nat.zero_add]
  show listFrom 0 ls ++ (if 0 < x then (ls.length : Int) :: [] else []) = _
  rfl
section
variable {w : World} {p q : Nat} {ls : List Int}
set_option maxRecDepth 100000 in
set_option maxHeartbeats 8000000 in
theorem bturn_ok (h : Bl w p q ls) :
    Calls Tryd.prog 29 #[.pointer (some ⟨p, 0, none⟩)] w fun e y => e = .returned (.int .i64 (ones ls)) ∧ Bl y p q (turnL ls) ∧ Kept [q] w y := by
  have hf := h.few
  have ha := h.aged
  have H0 : Hid ((0 : Int) = ones (ls.take 0) ∧ Bl w p q (turnTo ls 0) ∧ Kept [q] w w) := Lib.hid ⟨rfl, h, Kept.refl _ _⟩
  have HA := Lib.hid ha
  clear h ha
  go_enter Tryd.func29, Tryd.ntmps29
  go_wp2_with fail
  go_loopw [3, 4] (fun u t wr => ∃ (n : Int) (j : Nat), u = .int .i64 n ∧ t = .int .i64 (j : Int) ∧ j ≤ ls.length ∧ 0 ≤ n ∧ n ≤ (j : Int) ∧ Hid (n = ones (ls.take j) ∧ Bl wr p q (turnTo ls j) ∧ Kept [q] w wr)) (fun _ t _ => ls.length - (intOf t).toNat)
  case atStart => exact ⟨0, 0, rfl, rfl, Nat.zero_le _, Int.le_refl _, Int.le_refl _, H0⟩
  case round =>
    clear H0
    obtain ⟨n, j, rfl, rfl, hj, hn0, hn1, hr⟩ := hrel
    have c0 := hr.out.2.1.c0
    rw [turnTo_length] at c0
    by_cases hlt : j < ls.length
    · have cq := hr.out.2.1.cell j (by rw [turnTo_length]; exact hlt)
      have fq := hr.out.2.1.row.free j
      rw [turnTo_get hlt] at cq
      have hst := turnTo_step hlt
      have hon := ones_snoc (ls.take j) (ls.getD j 0)
      rw [← take_snoc hlt, ← hr.out.1] at hon
      have hxa := HA.out.get j
      have hb := hr.out.2.1
      have hk := hr.out.2.2
      clear hr
      generalize ls.getD j 0 = x at *
      have HSt := Lib.hid hst
      have HOn := Lib.hid hon
      have HB := Lib.hid hb
      have HK := Lib.hid hk
      clear hst hon hb hk
      rcases dec_of hxa with ⟨rfl, hd⟩ | ⟨rfl, hd⟩ | ⟨rfl, hd⟩
      · clear hxa
        rw [hd] at HSt
        clear hd
        go_wp2_with fail
        go_region
        all_goals
          have hb := HB.out.put j (v := 0) (by decide)
          rw [HSt.out] at hb
          have HN : Hid (n = ones (ls.take (j + 1)) ∧ Bl (wr.setCell ⟨q, j, none⟩ (.int .i64 0)).drew p q (turnTo ls (j + 1)) ∧ Kept [q] w (wr.setCell ⟨q, j, none⟩ (.int .i64 0)).drew) := Lib.hid ⟨by rw [HOn.out]; simp, hb.keep0 (Kept.refl [] _).drew, (HK.out.trans ((Kept.refl _ _).setCell _ _ (.inl (by simp)))).drew⟩
          clear hb HSt HOn HB HK c0 cq fq
          go_wp2_with fail
          go_roundw
          case rel => exact ⟨n, j + 1, rfl, by go_num, by omega, hn0, by omega, HN⟩
          case measure => simp [intOf] <;> omega
      · clear hxa
        rw [hd] at HSt
        clear hd
        go_wp2_with fail
        go_region
        all_goals
          have hb := HB.out.put j (v := 0) (by decide)
          rw [HSt.out] at hb
          have HN : Hid (n + 1 = ones (ls.take (j + 1)) ∧ Bl (wr.setCell ⟨q, j, none⟩ (.int .i64 0)).drew p q (turnTo ls (j + 1)) ∧ Kept [q] w (wr.setCell ⟨q, j, none⟩ (.int .i64 0)).drew) := Lib.hid ⟨by rw [HOn.out]; simp, hb.keep0 (Kept.refl [] _).drew, (HK.out.trans ((Kept.refl _ _).setCell _ _ (.inl (by simp)))).drew⟩
          clear hb HSt HOn HB HK c0 cq fq
          go_wp2_with fail
          go_roundw
          case rel => exact ⟨n + 1, j + 1, rfl, by go_num, by omega, by omega, by omega, HN⟩
          case measure => simp [intOf] <;> omega
      · clear hxa
        rw [hd] at HSt
        clear hd
        go_wp2_with fail
        go_region
        all_goals
          have hb := HB.out.put j (v := 1) (by decide)
          rw [HSt.out] at hb
          have HN : Hid (n = ones (ls.take (j + 1)) ∧ Bl (wr.setCell ⟨q, j, none⟩ (.int .i64 1)).drew p q (turnTo ls (j + 1)) ∧ Kept [q] w (wr.setCell ⟨q, j, none⟩ (.int .i64 1)).drew) := Lib.hid ⟨by rw [HOn.out]; simp, hb.keep0 (Kept.refl [] _).drew, (HK.out.trans ((Kept.refl _ _).setCell _ _ (.inl (by simp)))).drew⟩
          clear hb HSt HOn HB HK c0 cq fq
          go_wp2_with fail
          go_roundw
          case rel => exact ⟨n, j + 1, rfl, by go_num, by omega, hn0, by omega, HN⟩
          case measure => simp [intOf] <;> omega
    · obtain rfl : j = ls.length := by omega
      obtain ⟨h1, h2, h3⟩ := hr.out
      rw [List.take_length] at h1
      have h2 : Bl wr p q (turnL ls) := by
        have e : turnTo ls ls.length = turnL ls := by unfold turnTo; rw [List.take_length, List.drop_length, List.append_nil]
        rw [← e]
        exact h2
      have HE := Lib.hid h1
      have HB := Lib.hid h2
      have HK := Lib.hid h3
      clear hr h1 h2 h3
      go_wp2_with fail
      go_ret
      exact ⟨ret_int HE.out, HB.out, HK.out⟩
set_option maxRecDepth 100000 in
set_option maxHeartbeats 4000000 in
theorem blist_ok (h : Bl w p q ls) :
    Calls Tryd.prog 30 #[.pointer (some ⟨p, 0, none⟩)] w fun e y => ∃ v, e = .returned v ∧ Ir.Own y v (listL ls) ∧ (v.ownBlock = none ∨ ∃ b, v.ownBlock = some b ∧ w.heap.size ≤ b) ∧ Kept [] w y := by
  have hf := h.few
  have HB := Lib.hid h
  have H0 : Hid (Ir.Own w (.slice none 0 0) (listL (ls.take 0)) ∧ ((Value.slice none 0 0).ownBlock = none ∨ ∃ b, (Value.slice none 0 0).ownBlock = some b ∧ w.heap.size ≤ b) ∧ Kept [] w w) := Lib.hid ⟨Ir.Own.nil _, .inl rfl, Kept.refl _ _⟩
  clear h
  go_enter Tryd.func30, Tryd.ntmps30
  go_wp2_with fail
  go_loopw [3, 4] (fun v t wr => ∃ j : Nat, t = .int .i64 (j : Int) ∧ j ≤ ls.length ∧ Hid (Ir.Own wr v (listL (ls.take j)) ∧ (v.ownBlock = none ∨ ∃ b, v.ownBlock = some b ∧ w.heap.size ≤ b) ∧ Kept [] w wr)) (fun _ t _ => ls.length - (intOf t).toNat)
  case atStart => exact ⟨0, rfl, Nat.zero_le _, H0⟩
  case round =>
    clear H0
    obtain ⟨j, rfl, hj, hr⟩ := hrel
    generalize u3 = v at *
    have HO := Lib.hid hr.out.1
    have HV := Lib.hid hr.out.2.1
    have HK := Lib.hid hr.out.2.2
    clear hr
    have hb := HB.out.keep0 HK.out
    have c0 := hb.c0
    by_cases hlt : j < ls.length
    · have cq := hb.cell j hlt
      have hsn := listFrom_snoc (ls.take j) (ls.getD j 0)
      rw [← take_snoc hlt, show (ls.take j).length = j by rw [List.length_take]; omega] at hsn
      have hfew : (listL (ls.take j)).length + 1 ≤ 1073741824 := by
        have h1 := listFrom_len 0 (ls.take j)
        rw [List.length_take] at h1
        unfold listL
        omega
      clear hb
      generalize ls.getD j 0 = x at *
      have HSn := Lib.hid hsn
      clear hsn
      by_cases hx : 0 < x
      · have kx := (Kept.refl [] wr).alloc (.cells #[.int .i64 (j : Int)] 3)
        have HSe : Hid (Ir.Seen (wr.alloc (.cells #[.int .i64 (j : Int)] 3)) (some ⟨wr.heap.size, 0, none⟩) [(j : Int)]) := Lib.hid (Ir.Row.seen (l := [(j : Int)]) (Has.new wr 3 [.int .i64 (j : Int)]))
        have HOa := Lib.hid (HO.out.keep0 kx)
        have HKa := Lib.hid (HK.out.trans kx)
        have HSn2 : Hid (listL (ls.take (j + 1)) = listL (ls.take j) ++ [(j : Int)]) := Lib.hid (by rw [HSn.out, if_pos hx])
        clear kx HO HK HSn
        generalize listL (ls.take j) = rs at *
        go_wp2_with (at_builtin; (refine Ir.append_numbers rfl (.tmp 22) (.tmp 24) rfl v rs rfl HOa.out (some ⟨wr.heap.size, 0, none⟩) 1 1 [(j : Int)] rfl rfl (fun h => by cases h) HSe.out (by omega) ?_))
        intro v' w4 o4 g4 b4
        have hk4 := own_grown HKa.out HV.out g4
        have hf4 := own_fresh (v' := v') HKa.out HV.out (by rw [World.size_alloc]; exact b4)
        have HN : Hid (Ir.Own w4 v' (listL (ls.take (j + 1))) ∧ (v'.ownBlock = none ∨ ∃ b, v'.ownBlock = some b ∧ w.heap.size ≤ b) ∧ Kept [] w w4) := Lib.hid ⟨by rw [HSn2.out]; exact o4, hf4, hk4⟩
        clear o4 g4 b4 hk4 hf4 HSn2 HSe HOa HKa HV c0 cq
        go_wp2_with fail
        go_roundw
        case rel => exact ⟨j + 1, by go_num, by omega, HN⟩
        case measure => simp [intOf] <;> omega
      · have HN : Hid (Ir.Own wr v (listL (ls.take (j + 1))) ∧ (v.ownBlock = none ∨ ∃ b, v.ownBlock = some b ∧ w.heap.size ≤ b) ∧ Kept [] w wr) := Lib.hid ⟨by rw [HSn.out, if_neg hx, List.append_nil]; exact HO.out, HV.out, HK.out⟩
        clear HSn HO HV HK
        go_wp2_with fail
        go_roundw
        case rel => exact ⟨j + 1, by go_num, by omega, HN⟩
        case measure => simp [intOf] <;> omega
    · obtain rfl : j = ls.length := by omega
      have ho := HO.out
      rw [List.take_length] at ho
      have HO2 := Lib.hid ho
      clear ho HO hb
      go_wp2_with fail
      go_ret
      exact ⟨v, rfl, HO2.out, HV.out, HK.out⟩
end
end Go.Proofs.YtijlaganpnoefaaDoor.Bk
