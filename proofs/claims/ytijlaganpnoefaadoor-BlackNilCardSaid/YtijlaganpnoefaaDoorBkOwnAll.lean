/-
  Stage 12, black: the program's list: both rows as one.
-/
import Derived.Test.YtijlaganpnoefaaDoorBkOwn
import Derived.Test.YtijlaganpnoefaaDoorBkBoth
import Derived.Test.YtijlaganpnoefaaDoorBtNew
namespace Go.Proofs.YtijlaganpnoefaaDoor.Bk
open Go.RowKit Go.Proofs.YtijlaganpnoefaaDoor.Ar
open Go.Proofs.YtijlaganpnoefaaDoor.Bt (Bv OwnR FreshV runsV runCells runCells_get layB tableKeep)
set_option linter.unusedVariables false
theorem accAt_len (c : List Bool) : (layRuns (List.replicate c.length false) (runsV c)).length = c.length := (layRuns_length _ _).trans List.length_replicate
/-- A row of runs of the call's own, as a value. -/
theorem ownR_form {y z : World} {v : Value} {rs : List (Nat × Nat)} (ho : OwnR z v rs) (hf : FreshV y v) : ∃ A cap, v = .slice A rs.length cap ∧ (rs ≠ [] → ∃ g, A = some ⟨g, 0, none⟩ ∧ y.heap.size ≤ g) := by
  rcases ho.form with ⟨h1, h2⟩ | ⟨g, cap, h1, _⟩
  · exact ⟨none, 0, by rw [h2]; exact h1, fun h => absurd h2 h⟩
  · refine ⟨_, cap, h1, fun _ => ⟨g, rfl, ?_⟩⟩
    subst h1
    rcases hf with hf | ⟨b, hb, hle⟩
    · cases hf
    · obtain rfl : g = b := Option.some.inj hb
      exact hle
section
variable {w x y : World} {s : Bs} {c d : List Bool}
set_option maxRecDepth 100000 in
set_option maxHeartbeats 8000000 in
theorem all_own (h : Obj2 w x s c d) (hT : Wd.Table x) : Calls Tryd.prog 32 #[.pointer (some ⟨s.p, 0, none⟩)] x fun e y => ∃ p q, e = .returned (.pointer (some ⟨p, 0, none⟩)) ∧ Bv y p q (orB c d) ∧ Kept [] x y := by
  have hf := h.few
  have hdl := h.len
  have HLen := Lib.hid (len_own h)
  have C0 := Lib.hid (fun y (k : Kept [] x y) => (h.keep0 k).c0)
  have C1 := Lib.hid (fun y (k : Kept [] x y) => (h.keep0 k).c1)
  have HN := Lib.hid (Bt.newBv_ok c.length hf x)
  have HB := Lib.hid (layRuns_both hdl)
  have HAL := Lib.hid (accAt_len c)
  have HR0 := Lib.hid (fun y (k : Kept [] x y) => Bt.runs_ok c s.p0 s.q0 y (h.r0.keep0 k) (tableKeep hT k))
  have HR1 := Lib.hid (fun y (k : Kept [] x y) => Bt.runs_ok d s.p1 s.q1 y (h.r1.keep0 k) (tableKeep hT k))
  have HC0 := Lib.hid (chain_mem (chain_runs c))
  have HC1 := Lib.hid (chain_mem (chain_runs d))
  have i0 : ∀ w, (Instr.index 48 (.agg #[.pointer (some ⟨s.p0, 0, none⟩), .pointer (some ⟨s.p1, 0, none⟩)]) (.int .i64 0)).run Tryd.prog w = .ok (.pointer (some ⟨s.p0, 0, none⟩)) w := fun _ => by kernel_rfl
  have i1 : ∀ w, (Instr.index 48 (.agg #[.pointer (some ⟨s.p0, 0, none⟩), .pointer (some ⟨s.p1, 0, none⟩)]) (.int .i64 1)).run Tryd.prog w = .ok (.pointer (some ⟨s.p1, 0, none⟩)) w := fun _ => by kernel_rfl
  have hcl0 : (List.replicate c.length false).length = c.length := List.length_replicate
  clear h hT
  go_enter Tryd.func32, Tryd.ntmps32
  go_wp2_with fail
  refine HLen.out.mono ?_
  rintro e y ⟨rfl, rfl⟩
  clear HLen
  go_wp2_with fail
  refine HN.out.mono ?_
  rintro e y0 ⟨rfl, hv, k⟩
  have HV0 := Lib.hid hv
  have K0 := Lib.hid k
  have hq0 : x.heap.size ≤ x.heap.size := Nat.le_refl _
  have c0 := C0.out _ k
  have c1 := C1.out _ k
  clear hv k HN C0 C1
  generalize hpp : x.heap.size + 1 = p at *
  generalize hqq : x.heap.size = q at hpp hq0 HV0
  go_wp2_with fail
  refine wp_loop_rounds 3 ?_
  rw [rounds_succ]
  go_wp2_with fail
  refine (HR0.out _ K0.out).mono ?_
  rintro e y1 ⟨v, rfl, hown, hfr, k⟩
  obtain ⟨B, rcap, rfl, hB⟩ := ownR_form hown hfr
  have hqlt := (vec_lt HV0.out).2
  have HOwn := Lib.hid hown
  have HBg : Hid (runsV c ≠ [] → ∃ g, B = some ⟨g, 0, none⟩ ∧ g ≠ q) := Lib.hid fun h => let ⟨g, h1, h2⟩ := hB h; ⟨g, h1, by omega⟩
  have HK1 := Lib.hid (K0.out.trans k)
  have H0 : Hid (Bv y1 p q (layRuns (List.replicate c.length false) ((runsV c).take 0)) ∧ Kept [q] y1 y1) := Lib.hid ⟨HV0.out.keep0 k, Kept.refl _ _⟩
  clear hown hfr hB hqlt k HV0 K0 HR0 c0 c1
  have hal : (List.replicate c.length false).length = c.length := hcl0
  have hrl : (runsV c).length ≤ 65536 := Nat.le_trans (Bt.runsTo_length c c.length) (by omega)
  generalize hrs : runsV c = rs at *
  generalize hac : (List.replicate c.length false) = acc at *
  go_wp2_with fail
  go_loopw [27] (fun t wr => ∃ j : Nat, t = .int .i64 (j : Int) ∧ j ≤ rs.length ∧ Hid (Bv wr p q (layRuns acc (rs.take j)) ∧ Kept [q] y1 wr)) (fun t _ => rs.length - (intOf t).toNat)
  case atStart => exact ⟨0, rfl, Nat.zero_le _, H0⟩
  case round =>
    clear H0
    obtain ⟨j, rfl, hj, hr⟩ := hrel
    by_cases hlt : j < rs.length
    · obtain ⟨g, rfl, hgq⟩ := HBg.out (fun h0 => by rw [h0] at hlt; simp at hlt)
      have hO : OwnR wr (.slice (some ⟨g, 0, none⟩) rs.length rcap) rs := HOwn.out.kept hr.out.2 (fun i hi => by rw [List.mem_singleton.1 hi]; intro he; exact hgq (Option.some.inj he))
      have hcell := (runCells_get rs j hlt).imp (hO.cell _ _) (hO.cell _ _)
      have hmem : rs.getD j (0, 0) ∈ rs := by
        rw [List.getD_eq_getElem?_getD, List.getElem?_eq_getElem hlt]
        exact List.getElem_mem hlt
      have hb := HC0.out _ hmem
      have hsn := layRuns_snoc acc (rs.take j) (rs.getD j (0, 0))
      have htk : rs.take j ++ [rs.getD j (0, 0)] = rs.take (j + 1) := by
        rw [List.getD_eq_getElem?_getD, List.getElem?_eq_getElem hlt]
        exact (List.take_succ_eq_append_getElem hlt).symm
      rw [htk] at hsn
      rw [Nat.mul_comm] at hcell
      generalize rs.getD j (0, 0) = r at *
      obtain ⟨a, n⟩ := r
      obtain ⟨k0, k1⟩ := hcell
      simp only at k0 k1 hb hsn
      have hlen : (layRuns acc (rs.take j)).length = c.length := (layRuns_length _ _).trans hal
      have HSet := Lib.hid (fun z (k : Kept [] wr z) => Bt.setRun_ok (layRuns acc (rs.take j)) p q z (hr.out.1.keep0 k) (a : Int) (n : Int) (by omega) (by omega) (by omega) (by omega))
      have HK := Lib.hid hr.out.2
      have HSn := Lib.hid hsn
      generalize Bt.errOf _ = er at *
      clear hO hmem hb hsn htk hlen hr
      go_wp2_with fail
      refine (HSet.out _ ((Kept.refl _ _).alloc _)).mono ?_
      rintro e z ⟨rfl, hb, kz⟩
      have HN : Hid (Bv z p q (layRuns acc (rs.take (j + 1))) ∧ Kept [q] y1 z) := Lib.hid ⟨by rw [HSn.out]; exact hb, (HK.out.trans ((Kept.refl _ _).alloc _)).trans kz⟩
      clear hb kz HSet HK HSn k0 k1
      go_wp2_with fail
      go_roundw
      case rel => exact ⟨j + 1, by go_num, by omega, HN⟩
      case measure => simp [intOf] <;> omega
    · obtain rfl : j = rs.length := by omega
      have hb := hr.out.1
      rw [List.take_length, ← hac, ← hrs] at hb
      have HV1 := Lib.hid hb
      have K1 := Lib.hid (HK1.out.forget hr.out.2 (fun i hi => by rw [List.mem_singleton.1 hi]; omega))
      clear hb hr HOwn HBg HK1 HC0 hal hj hlt
      subst hrs hac
      go_wp2_with fail
      rw [rounds_succ]
      go_wp2_with fail
      refine (HR1.out _ K1.out).mono ?_
      rintro e y1 ⟨v, rfl, hown, hfr, k⟩
      obtain ⟨B, rcap, rfl, hB⟩ := ownR_form hown hfr
      have hqlt := (vec_lt HV1.out).2
      have HOwn := Lib.hid hown
      have HBg : Hid (runsV d ≠ [] → ∃ g, B = some ⟨g, 0, none⟩ ∧ g ≠ q) := Lib.hid fun h => let ⟨g, h1, h2⟩ := hB h; ⟨g, h1, by omega⟩
      have HK1 := Lib.hid (K1.out.trans k)
      have H0 : Hid (Bv y1 p q (layRuns (layRuns (List.replicate c.length false) (runsV c)) ((runsV d).take 0)) ∧ Kept [q] y1 y1) := Lib.hid ⟨HV1.out.keep0 k, Kept.refl _ _⟩
      clear hown hfr hB hqlt k HV1 K1 HR1
      have hal : (layRuns (List.replicate c.length false) (runsV c)).length = c.length := HAL.out
      have hrl : (runsV d).length ≤ 65536 := Nat.le_trans (Bt.runsTo_length d d.length) (by omega)
      generalize hrs : runsV d = rs at *
      generalize hac : (layRuns (List.replicate c.length false) (runsV c)) = acc at *
      go_wp2_with fail
      go_loopw [27] (fun t wr => ∃ j : Nat, t = .int .i64 (j : Int) ∧ j ≤ rs.length ∧ Hid (Bv wr p q (layRuns acc (rs.take j)) ∧ Kept [q] y1 wr)) (fun t _ => rs.length - (intOf t).toNat)
      case atStart => exact ⟨0, rfl, Nat.zero_le _, H0⟩
      case round =>
        clear H0
        obtain ⟨j, rfl, hj, hr⟩ := hrel
        by_cases hlt : j < rs.length
        · obtain ⟨g, rfl, hgq⟩ := HBg.out (fun h0 => by rw [h0] at hlt; simp at hlt)
          have hO : OwnR wr (.slice (some ⟨g, 0, none⟩) rs.length rcap) rs := HOwn.out.kept hr.out.2 (fun i hi => by rw [List.mem_singleton.1 hi]; intro he; exact hgq (Option.some.inj he))
          have hcell := (runCells_get rs j hlt).imp (hO.cell _ _) (hO.cell _ _)
          have hmem : rs.getD j (0, 0) ∈ rs := by
            rw [List.getD_eq_getElem?_getD, List.getElem?_eq_getElem hlt]
            exact List.getElem_mem hlt
          have hb := HC1.out _ hmem
          have hsn := layRuns_snoc acc (rs.take j) (rs.getD j (0, 0))
          have htk : rs.take j ++ [rs.getD j (0, 0)] = rs.take (j + 1) := by
            rw [List.getD_eq_getElem?_getD, List.getElem?_eq_getElem hlt]
            exact (List.take_succ_eq_append_getElem hlt).symm
          rw [htk] at hsn
          rw [Nat.mul_comm] at hcell
          generalize rs.getD j (0, 0) = r at *
          obtain ⟨a, n⟩ := r
          obtain ⟨k0, k1⟩ := hcell
          simp only at k0 k1 hb hsn
          have hlen : (layRuns acc (rs.take j)).length = c.length := (layRuns_length _ _).trans hal
          have HSet := Lib.hid (fun z (k : Kept [] wr z) => Bt.setRun_ok (layRuns acc (rs.take j)) p q z (hr.out.1.keep0 k) (a : Int) (n : Int) (by omega) (by omega) (by omega) (by omega))
          have HK := Lib.hid hr.out.2
          have HSn := Lib.hid hsn
          generalize Bt.errOf _ = er at *
          clear hO hmem hb hsn htk hlen hr
          go_wp2_with fail
          refine (HSet.out _ ((Kept.refl _ _).alloc _)).mono ?_
          rintro e z ⟨rfl, hb, kz⟩
          have HN : Hid (Bv z p q (layRuns acc (rs.take (j + 1))) ∧ Kept [q] y1 z) := Lib.hid ⟨by rw [HSn.out]; exact hb, (HK.out.trans ((Kept.refl _ _).alloc _)).trans kz⟩
          clear hb kz HSet HK HSn k0 k1
          go_wp2_with fail
          go_roundw
          case rel => exact ⟨j + 1, by go_num, by omega, HN⟩
          case measure => simp [intOf] <;> omega
        · obtain rfl : j = rs.length := by omega
          have hb := hr.out.1
          rw [List.take_length, ← hac, ← hrs] at hb
          have HV2 := Lib.hid hb
          have K2 := Lib.hid (HK1.out.forget hr.out.2 (fun i hi => by rw [List.mem_singleton.1 hi]; omega))
          clear hb hr HOwn HBg HK1 HC1 hal hj hlt
          subst hrs hac
          go_wp2_with fail
          rw [rounds_succ]
          go_wp2_with fail
          go_ret
          exact ⟨p, q, rfl, by rw [← HB.out]; exact HV2.out, K2.out⟩
end
end Go.Proofs.YtijlaganpnoefaaDoor.Bk
