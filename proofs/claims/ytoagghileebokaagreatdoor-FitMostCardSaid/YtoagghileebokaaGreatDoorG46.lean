/-
  Several texts in one: BkOwnList, BkOwnTurn.
-/
import Derived.Test.YtoagghileebokaaGreatDoorG44
import Derived.Test.YtoagghileebokaaGreatDoorG45
import Derived.Test.YtoagghileebokaaGreatDoorG21
/-
  Stage 12, black: the program's list: Count, List.
-/
namespace Go.Proofs.YtoagghileebokaaGreatDoor.Bk
open Go.RowKit Go.Proofs.YtoagghileebokaaGreatDoor.Ar
open Go.Proofs.YtoagghileebokaaGreatDoor.Bt (Bv OwnR FreshV runsV runCells runCells_get tableKeep cntI)
set_option linter.unusedVariables false
section
variable {w x y : World} {s : Bs} {c d : List Bool}
set_option maxRecDepth 100000 in
set_option maxHeartbeats 8000000 in
theorem list_own (h : Obj2 w x s c d) (hT : Wd.Table x) :
    Calls Tryz.prog 58 #[.pointer (some ⟨s.p, 0, none⟩)] x fun e y => ∃ v, e = .returned v ∧ Ir.Own y v (listL (ages c d)) ∧ Fresh x v ∧ Kept [] x y := by
  have hf := h.few
  have HA := Lib.hid (all_own h hT)
  have hlf := list_flat (c := c) (d := d) h.len
  have hll : (flatR (runsV (orB c d))).length ≤ 65536 := by
    have := list_len (ages c d)
    rw [ages_length] at this
    rw [hlf]
    omega
  have HLF := Lib.hid hlf
  have HCh := Lib.hid (chain_mem (chain_runs (orB c d)))
  have hol := orB_length c d
  have hrl : (runsV (orB c d)).length ≤ 65536 := Nat.le_trans (Bt.runsTo_length _ _) (by omega)
  have HT := Lib.hid hT
  clear h hT hlf
  go_enter Tryz.func58, Tryz.ntmps58
  go_wp2_with fail
  refine HA.out.mono ?_
  rintro e y ⟨p, q, rfl, hb, k⟩
  have HR := Lib.hid (Bt.runs_ok (orB c d) p q y hb (tableKeep HT.out k))
  have K := Lib.hid k
  clear hb k HA HT
  go_wp2_with fail
  refine HR.out.mono ?_
  rintro e y1 ⟨v, rfl, hown, hfr, k⟩
  obtain ⟨B, rcap, rfl, hB⟩ := ownR_form hown hfr
  have HBg : Hid (runsV (orB c d) ≠ [] → ∃ g, B = some ⟨g, 0, none⟩) := Lib.hid fun h => let ⟨g, h1, h2⟩ := hB h; ⟨g, h1⟩
  have HK := Lib.hid (K.out.trans k)
  have HOwn := Lib.hid hown
  have H0 : Hid (Ir.Own y1 (.slice none 0 0) (flatR ((runsV (orB c d)).take 0)) ∧ Fresh y1 (.slice none 0 0) ∧ Kept [] y1 y1) := Lib.hid ⟨Ir.Own.nil _, .inl rfl, Kept.refl _ _⟩
  clear hown hfr hB k K HR
  generalize hrs : runsV (orB c d) = rs at *
  go_wp2_with fail
  go_loopw [3, 11] (fun v t wr => ∃ j : Nat, t = .int .i64 (j : Int) ∧ j ≤ rs.length ∧ Hid (Ir.Own wr v (flatR (rs.take j)) ∧ Fresh y1 v ∧ Kept [] y1 wr)) (fun _ t _ => rs.length - (intOf t).toNat)
  case atStart => exact ⟨0, rfl, Nat.zero_le _, H0⟩
  case round =>
    clear H0
    obtain ⟨j, rfl, hj, hr⟩ := hrel
    generalize u3 = v at *
    generalize wr = x2 at *
    by_cases hlt : j < rs.length
    · obtain ⟨g, rfl⟩ := HBg.out (fun h0 => by rw [h0] at hlt; simp at hlt)
      have hO := HOwn.out.keep0 hr.out.2.2
      have hcell := (runCells_get rs j hlt).imp (hO.cell _ _) (hO.cell _ _)
      have hmem : rs.getD j (0, 0) ∈ rs := by
        rw [List.getD_eq_getElem?_getD, List.getElem?_eq_getElem hlt]
        exact List.getElem_mem hlt
      have hb := HCh.out _ hmem
      have hfb := flat_bound hlt
      have hsn := flatR_snoc (rs.take j) (rs.getD j (0, 0))
      rw [take_next hlt] at hsn
      rw [Nat.mul_comm] at hcell
      generalize rs.getD j (0, 0) = r at *
      obtain ⟨a, n⟩ := r
      obtain ⟨k0, k1⟩ := hcell
      simp only at k0 k1 hb hsn hfb
      have HSn : Hid (flatR (rs.take (j + 1)) = flatR (rs.take j) ++ (List.range n).map fun i => ((a + i : Nat) : Int)) := Lib.hid hsn
      have hnb : ∀ b, v.ownBlock = some b → b < x2.heap.size := fun b hb => (World.ownsRow.lt hr.out.1 b hb).2
      have kx : Kept [] x2 (x2.alloc (.cells #[.int .i64 (a : Int), .int .i64 (n : Int)] 86)) := (Kept.refl _ _).alloc _
      have cx : (x2.alloc (.cells #[.int .i64 (a : Int), .int .i64 (n : Int)] 86)).cell? ⟨x2.heap.size, 0, none⟩ = some (.int .i64 (a : Int)) := (Has.new x2 86 [.int .i64 (a : Int), .int .i64 (n : Int)]).cell 0
      generalize flatR (rs.take j) = fl at *
      have H1 : Hid (Ir.Own (x2.alloc (.cells #[.int .i64 (a : Int), .int .i64 (n : Int)] 86)) v (fl ++ (List.range 0).map fun i => ((a + i : Nat) : Int)) ∧ Fresh y1 v ∧ Kept [] y1 (x2.alloc (.cells #[.int .i64 (a : Int), .int .i64 (n : Int)] 86)) ∧ v.ownBlock ≠ some x2.heap.size ∧ (x2.alloc (.cells #[.int .i64 (a : Int), .int .i64 (n : Int)] 86)).cell? ⟨x2.heap.size, 0, none⟩ = some (.int .i64 (a : Int))) :=
        Lib.hid ⟨by rw [List.range_zero, List.map_nil, List.append_nil]; exact hr.out.1.keep0 kx, hr.out.2.1, hr.out.2.2.trans kx, fun e => by have := hnb _ e; omega, cx⟩
      clear hO hmem hsn hr hnb kx cx
      go_wp2_with fail
      generalize x2.alloc (.cells #[.int .i64 (a : Int), .int .i64 (n : Int)] 86) = x3 at *
      generalize x2.heap.size = bx at *
      clear k0 k1
      go_loopw [3, 17] (fun v t wi => ∃ k : Nat, t = .int .i64 (k : Int) ∧ k ≤ n ∧ Hid (Ir.Own wi v (fl ++ (List.range k).map fun i => ((a + i : Nat) : Int)) ∧ Fresh y1 v ∧ Kept [] y1 wi ∧ v.ownBlock ≠ some bx ∧ wi.cell? ⟨bx, 0, none⟩ = some (.int .i64 (a : Int)))) (fun _ t _ => n - (intOf t).toNat)
      case atStart => exact ⟨0, rfl, Nat.zero_le _, H1⟩
      case round =>
        clear H1
        obtain ⟨k, rfl, hk, hi⟩ := hrel
        generalize u3 = v at *
        generalize wr = x4 at *
        by_cases hkt : k < n
        · have ca := hi.out.2.2.2.2
          have kx : Kept [] x4 (x4.alloc (.cells #[.int .i64 ((a : Int) + (k : Int))] 3)) := (Kept.refl _ _).alloc _
          have HSe : Hid (Ir.Seen (x4.alloc (.cells #[.int .i64 ((a : Int) + (k : Int))] 3)) (some ⟨x4.heap.size, 0, none⟩) [(a : Int) + (k : Int)]) := Lib.hid (Ir.Row.seen (l := [(a : Int) + (k : Int)]) (Has.new x4 3 [.int .i64 ((a : Int) + (k : Int))]))
          have HOa := Lib.hid (hi.out.1.keep0 kx)
          have HV := Lib.hid hi.out.2.1
          have HKa := Lib.hid (hi.out.2.2.1.trans kx)
          have HNe := Lib.hid hi.out.2.2.2.1
          have HCa := Lib.hid ((World.cell?_of_block (kx.old _ (World.block_lt_of_cell? _ _ ca) (by simp))).trans ca)
          have HPt : Hid (fl ++ ((List.range (k + 1)).map fun i => ((a + i : Nat) : Int)) = (fl ++ (List.range k).map fun i => ((a + i : Nat) : Int)) ++ [(a : Int) + (k : Int)]) := Lib.hid (by rw [← flat1_part, List.append_assoc, Int.natCast_add])
          have hrl2 : (fl ++ (List.range k).map fun i => ((a + i : Nat) : Int)).length + 1 ≤ 1073741824 := by
            rw [List.length_append, List.length_map, List.length_range]
            omega
          generalize (fl ++ (List.range k).map fun i => ((a + i : Nat) : Int)) = pr at *
          clear kx hi
          go_wp2_with (at_builtin; (refine Ir.append_numbers rfl (.tmp 20) (.tmp 25) rfl v pr rfl HOa.out (some ⟨x4.heap.size, 0, none⟩) 1 1 [(a : Int) + (k : Int)] rfl rfl (fun h => by cases h) HSe.out (by exact hrl2) ?_))
          intro v' w4 o4 g4 b4
          have hk4 := own_grown HKa.out HV.out g4
          have hf4 := own_fresh (v' := v') HKa.out HV.out (by rw [World.size_alloc]; exact b4)
          have hc4 := g4.cell HCa.out (fun e => HNe.out e.symm)
          have hn4 : v'.ownBlock ≠ some bx := by
            have hlt := World.block_lt_of_cell? _ _ HCa.out
            rcases b4 with b4 | b4
            · rw [b4]; exact HNe.out
            · rw [b4]
              intro e
              have e2 := Option.some.inj e
              have : bx < (x4.alloc (.cells #[.int .i64 ((a : Int) + (k : Int))] 3)).heap.size := hlt
              rw [World.size_alloc] at this
              omega
          have HN : Hid (Ir.Own w4 v' (fl ++ (List.range (k + 1)).map fun i => ((a + i : Nat) : Int)) ∧ Fresh y1 v' ∧ Kept [] y1 w4 ∧ v'.ownBlock ≠ some bx ∧ w4.cell? ⟨bx, 0, none⟩ = some (.int .i64 (a : Int))) := Lib.hid ⟨by rw [HPt.out]; exact o4, hf4, hk4, hn4, hc4⟩
          clear o4 g4 b4 hk4 hf4 hc4 hn4 HSe HOa HKa HV HNe HCa HPt ca
          go_wp2_with fail
          go_roundw
          case rel => exact ⟨k + 1, by go_num, by omega, HN⟩
          case measure => simp [intOf] <;> omega
        · obtain rfl : k = n := by omega
          have HN : Hid (Ir.Own x4 v (flatR (rs.take (j + 1))) ∧ Fresh y1 v ∧ Kept [] y1 x4) := Lib.hid ⟨by rw [HSn.out]; exact hi.out.1, hi.out.2.1, hi.out.2.2.1⟩
          clear hi HSn
          go_wp2_with fail
          go_roundw
          case rel => exact ⟨j + 1, by go_num, by omega, HN⟩
          case measure => simp [intOf] <;> omega
    · obtain rfl : j = rs.length := by omega
      have ho := hr.out.1
      rw [List.take_length, HLF.out] at ho
      have HO := Lib.hid ho
      have HV : Hid (Fresh x v) := Lib.hid (by
        rcases hr.out.2.1 with h1 | ⟨b, h1, h2⟩
        · exact .inl h1
        · exact .inr ⟨b, h1, Nat.le_trans HK.out.more h2⟩)
      have HK2 := Lib.hid (HK.out.trans hr.out.2.2)
      clear ho hr HLF HCh HOwn HBg
      go_wp2_with fail
      go_ret
      exact ⟨_, rfl, HO.out, HV.out, HK2.out⟩
end
end Go.Proofs.YtoagghileebokaaGreatDoor.Bk

/-
  Stage 12, black: the program's list: Turn.
-/
namespace Go.Proofs.YtoagghileebokaaGreatDoor.Bk
open Go.RowKit Go.Proofs.YtoagghileebokaaGreatDoor.Ar
open Go.Proofs.YtoagghileebokaaGreatDoor.Bt (Bv hasV)
set_option linter.unusedVariables false
section
variable {w x y z : World} {s : Bs} {c d e : List Bool}
/-- A new row has come in at the array's head, the old ones have gone one place on. -/
theorem Obj2.turned (h : Obj2 w x s c d) (k : Kept [] x y) {np nq : Nat} (hn : Bv y np nq e) (hl : e.length = c.length) (hf : x.heap.size ≤ np ∧ x.heap.size ≤ nq) (kz : Kept [s.p] y z)
    (hh : Has z s.p 106 [.pointer (some ⟨np, 0, none⟩), .pointer (some ⟨s.p0, 0, none⟩)]) : Obj2 w z ⟨s.p, np, nq, s.p0, s.q0⟩ e c := by
  obtain ⟨e1, e2, e3, e4, e5, e6⟩ := h.apart
  have h1 := h.keep0 k
  have hlt := h.lt
  have hp := hlt s.p (by simp [Bs.all])
  have hq0 := hlt s.q0 (by simp [Bs.all])
  have hw := h.own
  have hm := h.start.more
  refine ⟨hh, hn.kept kz (by simp; omega) (by simp; omega), h1.r0.kept kz (by simpa using Ne.symm e1) (by simpa using Ne.symm e2), hl.symm, by rw [hl]; exact h.few, (show nq ≠ s.q0 by omega), fun i hi => ?_, h1.start.forget kz fun i hi => by rw [List.mem_singleton.1 hi]; exact hw _ (by simp [Bs.all])⟩
  unfold Bs.all at hi
  simp only [List.mem_cons, List.not_mem_nil, or_false] at hi
  rcases hi with rfl | rfl | rfl | rfl | rfl
  · exact hw _ (by simp [Bs.all])
  · omega
  · omega
  · exact hw _ (by simp [Bs.all])
  · exact hw _ (by simp [Bs.all])
end
end Go.Proofs.YtoagghileebokaaGreatDoor.Bk
