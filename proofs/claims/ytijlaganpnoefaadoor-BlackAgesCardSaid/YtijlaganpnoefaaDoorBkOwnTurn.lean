/-
  Stage 12, black: the program's list: Turn.
-/
import Derived.Test.YtijlaganpnoefaaDoorBkOwnList
import Derived.Test.YtijlaganpnoefaaDoorBtNew
import Derived.Test.YtijlaganpnoefaaDoorBkAges
namespace Go.Proofs.YtijlaganpnoefaaDoor.Bk
open Go.RowKit Go.Proofs.YtijlaganpnoefaaDoor.Ar
open Go.Proofs.YtijlaganpnoefaaDoor.Bt (Bv hasV)
set_option linter.unusedVariables false
section
variable {w x y z : World} {s : Bs} {c d e : List Bool}
/-- A new row has come in at the array's head, the old ones have gone one place on. -/
theorem Obj2.turned (h : Obj2 w x s c d) (k : Kept [] x y) {np nq : Nat} (hn : Bv y np nq e) (hl : e.length = c.length) (hf : x.heap.size ≤ np ∧ x.heap.size ≤ nq) (kz : Kept [s.p] y z)
    (hh : Has z s.p 50 [.pointer (some ⟨np, 0, none⟩), .pointer (some ⟨s.p0, 0, none⟩)]) : Obj2 w z ⟨s.p, np, nq, s.p0, s.q0⟩ e c := by
  obtain ⟨e1, e2, e3, e4, e5, e6⟩ := h.apart
  have h1 := h.keep0 k
  have hlt := h.lt
  have hp := hlt s.p (by simp [Bs.all])
  have hq0 := hlt s.q0 (by simp [Bs.all])
  have hw := h.own
  have hm := h.start.more
  refine ⟨hh, hn.kept kz (by simp; omega) (by simp; omega), h1.r0.kept kz (by simpa using Ne.symm e1) (by simpa using Ne.symm e2), hl.symm, by rw [hl]; exact h.few, (show nq ≠ s.q0 by omega), fun i hi => ?_, h1.start.forget kz fun i hi => by rw [List.mem_singleton.1 hi]; exact hw _ (by simp [Bs.all])⟩
  unfold Bs.all at hi
  simp only [List.mem_cons, List.not_mem_nil, or_false] at hi
  rcases hi with rfl | rfl | rfl | rfl | rfl
  · exact hw _ (by simp [Bs.all])
  · omega
  · omega
  · exact hw _ (by simp [Bs.all])
  · exact hw _ (by simp [Bs.all])
set_option maxRecDepth 100000 in
set_option maxHeartbeats 4000000 in
theorem turn_own (h : Obj2 w x s c d) (hT : Wd.Table w) :
    Calls Tryd.prog 14 #[.pointer (some ⟨s.p, 0, none⟩)] x fun e y => e = .returned (.int .i64 (ones (ages c d))) ∧ ∃ np nq, Obj2 w y ⟨s.p, np, nq, s.p0, s.q0⟩ (List.replicate c.length false) c ∧ Kept s.all x y ∧ x.heap.size ≤ np ∧ x.heap.size ≤ nq := by
  have HC1 := Lib.hid (count_own h (Bt.tableKeep hT h.start))
  have hb1 : (listL (ages c d)).length ≤ 65536 := by have := list_len (ages c d); rw [ages_length] at this; have := h.few; omega
  have hb2 : (listL (turnL (ages c d))).length ≤ 65536 := by have := list_len (turnL (ages c d)); rw [turnL_length, ages_length] at this; have := h.few; omega
  have htc := turn_count (ages_aged c d)
  rw [ages_turn] at hb2 htc
  have HF := Lib.hid h.few
  have HO := Lib.hid h
  have HT := Lib.hid hT
  clear h hT
  generalize ones (ages c d) = o at *
  go_enter Tryd.func14, Tryd.ntmps14
  go_wp2_with fail
  refine HC1.out.mono ?_
  rintro e x1 ⟨rfl, k1⟩
  have H1 := Lib.hid (HO.out.keep0 k1)
  have HL := Lib.hid (len_own H1.out)
  have K1 := Lib.hid k1
  clear HC1 k1
  go_wp2_with fail
  refine HL.out.mono ?_
  rintro e x2 ⟨rfl, rfl⟩
  have HN := Lib.hid (Bt.newBv_ok c.length HF.out x1)
  clear HL
  go_wp2_with fail
  refine HN.out.mono ?_
  rintro e x2 ⟨rfl, hv, k2⟩
  have HV := Lib.hid hv
  have K2 := Lib.hid k2
  have h2 := H1.out.keep0 k2
  have c0 := h2.c0
  have f0 := h2.f 0
  have HD := Lib.hid h2.head
  clear HN hv k2 h2
  generalize hnp : x1.heap.size + 1 = np at *
  generalize hnq : x1.heap.size = nq at *
  go_wp2_with fail
  refine wp_loop_rounds 3 ?_
  rw [rounds_succ]
  go_wp2_with fail
  go_region
  all_goals
    have hd3 : Has (x2.setCell ⟨s.p, 0, none⟩ (.pointer (some ⟨np, 0, none⟩))).drew s.p 50 [.pointer (some ⟨np, 0, none⟩), .pointer (some ⟨s.p1, 0, none⟩)] := HD.out.put 0 (.pointer (some ⟨np, 0, none⟩))
    have k3 : Kept [s.p] x2 (x2.setCell ⟨s.p, 0, none⟩ (.pointer (some ⟨np, 0, none⟩))).drew := ((Kept.refl _ _).setCell _ _ (.inl (by simp))).drew
    have c1 := hd3.cell 1
    have f1 := hd3.free 1
    simp only [List.getElem?_cons_succ, List.getElem?_cons_zero] at c1
    have HD3 := Lib.hid hd3
    have K3 := Lib.hid k3
    clear hd3 k3 HD c0 f0
    generalize (x2.setCell ⟨s.p, 0, none⟩ (.pointer (some ⟨np, 0, none⟩))).drew = x3 at *
    go_wp2_with fail
    rw [rounds_succ]
    go_wp2_with fail
    go_region
    all_goals
      have hd4 : Has (x3.setCell ⟨s.p, 1, none⟩ (.pointer (some ⟨s.p0, 0, none⟩))).drew s.p 50 [.pointer (some ⟨np, 0, none⟩), .pointer (some ⟨s.p0, 0, none⟩)] := HD3.out.put 1 (.pointer (some ⟨s.p0, 0, none⟩))
      have k4 : Kept [s.p] x2 (x3.setCell ⟨s.p, 1, none⟩ (.pointer (some ⟨s.p0, 0, none⟩))).drew := (K3.out.setCell _ _ (.inl (by simp))).drew
      have ho4 := H1.out.turned K2.out HV.out List.length_replicate (by omega) k4 hd4
      have HO4 := Lib.hid ho4
      have K4 := Lib.hid ((K1.out.trans K2.out).none s.all |>.trans (k4.mono (fun i hi => by rw [List.mem_singleton.1 hi]; simp [Bs.all])))
      have HC2 := Lib.hid (count_own ho4 (Bt.tableKeep HT.out ho4.start))
      clear ho4 hd4 k4 HD3 K3 K2 HV H1 c1 f1
      generalize (x3.setCell ⟨s.p, 1, none⟩ (.pointer (some ⟨s.p0, 0, none⟩))).drew = x4 at *
      generalize (listL (ages c d)).length = n1 at *
      generalize (listL (ages (List.replicate c.length false) c)).length = n2 at *
      subst htc
      go_wp2_with fail
      rw [rounds_succ]
      go_wp2_with fail
      refine HC2.out.mono ?_
      rintro e x5 ⟨rfl, k5⟩
      have HO5 := Lib.hid (HO4.out.keep0 k5)
      have K5 := Lib.hid (K4.out.trans (k5.none _))
      clear k5 HC2
      go_wp2_with fail
      go_ret
      exact ⟨rfl, np, nq, HO5.out, K5.out, by have := K1.out.more; omega, by have := K1.out.more; omega⟩
end
end Go.Proofs.YtijlaganpnoefaaDoor.Bk
