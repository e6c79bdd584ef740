/-
  Several texts in one: BkBoth, BkOwnAll.
-/
import Derived.Test.YtoagghileebokaaGreatDoorG36
import Derived.Test.YtoagghileebokaaGreatDoorG41
import Derived.Test.YtoagghileebokaaGreatDoorG20
import Derived.Test.YtoagghileebokaaGreatDoorG37
import Derived.Test.YtoagghileebokaaGreatDoorG21
/-
  Stage 12, black: what both rows of bits tell together, in numbers: the runs of each laid into one row, the granules of the runs in order, the last one that is black.
-/
namespace Go.Proofs.YtoagghileebokaaGreatDoor.Bk
open Go.RowKit Go.Proofs.YtoagghileebokaaGreatDoor.Ar
open Go.Proofs.YtoagghileebokaaGreatDoor.Bt (bit bit_out bit_ext laid laid_length laid_bit layB layB_length runsTo runsV runsTo_clear runsTo_set nextO nextO_some nextO_none endV endV_spec cnt)
set_option linter.unusedVariables false

/-- From the bit e on, the runs l are what is set. -/
def Chain (bs : List Bool) : Nat → List (Nat × Nat) → Prop
  | e, [] => ∀ j, e ≤ j → j < bs.length → bit bs j = false
  | e, r :: l => e ≤ r.1 ∧ 1 ≤ r.2 ∧ r.1 + r.2 ≤ bs.length ∧ (∀ j, e ≤ j → j < r.1 → bit bs j = false) ∧ (∀ j, r.1 ≤ j → j < r.1 + r.2 → bit bs j = true) ∧ bit bs (r.1 + r.2) = false ∧ Chain bs (r.1 + r.2) l
theorem chain_from (bs : List Bool) : ∀ m e, bs.length - e < m → e ≤ bs.length → (e = 0 ∨ bit bs e = false) → ∃ l, runsV bs = runsTo bs e ++ l ∧ Chain bs e l
  | 0, e, h, _, _ => by omega
  | m + 1, e, h, he, hb => by
    cases hx : nextO bs (e : Int) true with
    | none =>
      have hz := nextO_none hx
      exact ⟨[], by rw [List.append_nil]; exact runsTo_clear he hz, hz⟩
    | some x =>
      obtain ⟨h1, h2, h3, h4⟩ := nextO_some hx
      obtain ⟨f1, f2, f3, f4⟩ := endV_spec h2 h3
      generalize endV bs x = f at *
      have hpre : x = 0 ∨ bit bs (x - 1) = false := by
        by_cases hxe : x = e
        · subst hxe
          rcases hb with hb | hb
          · exact .inl hb
          · rw [hb] at h3; cases h3
        · exact .inr (h4 (x - 1) (by omega) (by omega))
      obtain ⟨l, hl, hc⟩ := chain_from bs m f (by omega) f2 (.inr f3)
      refine ⟨(x, f - x) :: l, ?_, h1, by show 1 ≤ f - x; omega, by show x + (f - x) ≤ _; omega, h4, fun j j1 j2 => f4 j j1 (by have : j < x + (f - x) := j2; omega), ?_, ?_⟩
      · rw [hl, runsTo_set f1 hpre f4, runsTo_clear h1 h4, List.append_assoc]
        rfl
      · show bit bs (x + (f - x)) = false
        rw [show x + (f - x) = f by omega]
        exact f3
      · show Chain bs (x + (f - x)) l
        rw [show x + (f - x) = f by omega]
        exact hc
theorem chain_runs (bs : List Bool) : Chain bs 0 (runsV bs) := by
  obtain ⟨l, hl, hc⟩ := chain_from bs (bs.length + 1) 0 (by omega) (Nat.zero_le _) (.inl rfl)
  rw [hl]
  exact hc
theorem chain_mem {bs : List Bool} : ∀ {rs : List (Nat × Nat)} {e : Nat}, Chain bs e rs → ∀ r ∈ rs, 1 ≤ r.2 ∧ r.1 + r.2 ≤ bs.length
  | [], _, _, r, h => by cases h
  | x :: rs, e, ⟨h1, h2, h3, h4, h5, h6, h7⟩, r, h => by
    rcases List.mem_cons.1 h with rfl | h
    · exact ⟨h2, h3⟩
    · exact chain_mem h7 r h
/-- Both rows as one. -/
def orB (c d : List Bool) : List Bool := (List.range c.length).map fun j => bit c j || bit d j
theorem orB_length (c d : List Bool) : (orB c d).length = c.length := by unfold orB; rw [List.length_map, List.length_range]
theorem orB_bit (c d : List Bool) {j : Nat} (h : j < c.length) : bit (orB c d) j = (bit c j || bit d j) := by
  have e : bit (orB c d) j = (orB c d).getD j false := rfl
  rw [e, orB, List.getD_eq_getElem?_getD, List.getElem?_map, List.getElem?_range h]
  rfl
/-- Each of these runs is laid. -/
def layRuns (bs : List Bool) (rs : List (Nat × Nat)) : List Bool := rs.foldl (fun b r => layB b r.1 r.2 true) bs
theorem layRuns_snoc (bs : List Bool) (rs : List (Nat × Nat)) (r : Nat × Nat) : layRuns bs (rs ++ [r]) = layB (layRuns bs rs) r.1 r.2 true := by
  unfold layRuns
  rw [List.foldl_append]
  rfl
theorem layRuns_length : ∀ (rs : List (Nat × Nat)) (bs : List Bool), (layRuns bs rs).length = bs.length
  | [], _ => rfl
  | r :: rs, bs => (layRuns_length rs (layB bs r.1 r.2 true)).trans (layB_length _ _ _ _)
theorem layRuns_bit {d : List Bool} : ∀ {rs : List (Nat × Nat)} {e : Nat} (bs : List Bool), Chain d e rs → d.length = bs.length → ∀ j, j < bs.length → bit (layRuns bs rs) j = (bit bs j || (decide (e ≤ j) && bit d j))
  | [], e, bs, h, hl, j, hj => by
    show bit bs j = _
    by_cases hej : e ≤ j
    · rw [h j hej (by omega), Bool.and_false, Bool.or_false]
    · rw [decide_eq_false hej, Bool.false_and, Bool.or_false]
  | r :: rs, e, bs, ⟨h1, h2, h3, h4, h5, h6, h7⟩, hl, j, hj => by
    have hw : layB bs (r.1 : Int) (r.2 : Int) true = laid bs r.1 r.2 true := by
      unfold Bt.layB
      rw [if_pos ((Bt.within_iff _ _ _).2 (by omega)), Int.toNat_natCast, Int.toNat_natCast]
    show bit (layRuns (layB bs r.1 r.2 true) rs) j = _
    rw [layRuns_bit (layB bs r.1 r.2 true) h7 (by rw [layB_length]; exact hl) j (by rw [layB_length]; exact hj), hw, laid_bit _ _ _ _ j hj]
    by_cases a : j < e
    · rw [if_neg (by omega), decide_eq_false (show ¬ r.1 + r.2 ≤ j by omega), decide_eq_false (show ¬ e ≤ j by omega)]
    · rw [decide_eq_true (show e ≤ j by omega), Bool.true_and]
      by_cases b : j < r.1
      · rw [if_neg (by omega), decide_eq_false (show ¬ r.1 + r.2 ≤ j by omega), h4 j (by omega) b, Bool.false_and]
      · by_cases c : j < r.1 + r.2
        · rw [if_pos (by omega), h5 j (by omega) c, Bool.true_or, Bool.or_true]
        · rw [if_neg (by omega), decide_eq_true (show r.1 + r.2 ≤ j by omega), Bool.true_and]
theorem layRuns_both {c d : List Bool} (hl : d.length = c.length) : layRuns (layRuns (List.replicate c.length false) (runsV c)) (runsV d) = orB c d :=
  bit_ext (by rw [layRuns_length, layRuns_length, orB_length, List.length_replicate]) fun j hj => by
    have h1 : (layRuns (List.replicate c.length false) (runsV c)).length = c.length := by rw [layRuns_length, List.length_replicate]
    rw [layRuns_length, h1] at hj
    rw [layRuns_bit _ (chain_runs d) (by rw [h1]; exact hl) j (by rw [h1]; exact hj), layRuns_bit _ (chain_runs c) (by rw [List.length_replicate]) j (by rw [List.length_replicate]; exact hj), orB_bit c d hj, bit_no]
    simp
/-- The granules of a run; of runs. -/
def flat1 (r : Nat × Nat) : List Int := (List.range r.2).map fun k => ((r.1 + k : Nat) : Int)
def flatR (rs : List (Nat × Nat)) : List Int := rs.flatMap flat1
theorem flatR_snoc (rs : List (Nat × Nat)) (r : Nat × Nat) : flatR (rs ++ [r]) = flatR rs ++ flat1 r := by
  unfold flatR
  rw [List.flatMap_append]
  simp
theorem flatR_append (a b : List (Nat × Nat)) : flatR (a ++ b) = flatR a ++ flatR b := by
  unfold flatR
  exact List.flatMap_append
theorem flat1_len (r : Nat × Nat) : (flat1 r).length = r.2 := by unfold flat1; rw [List.length_map, List.length_range]
theorem take_next {rs : List (Nat × Nat)} {j : Nat} (h : j < rs.length) : rs.take j ++ [rs.getD j (0, 0)] = rs.take (j + 1) := by
  rw [List.getD_eq_getElem?_getD, List.getElem?_eq_getElem h]
  exact (List.take_succ_eq_append_getElem h).symm
theorem flat_bound {rs : List (Nat × Nat)} {j : Nat} (h : j < rs.length) : (flatR (rs.take j)).length + (rs.getD j (0, 0)).2 ≤ (flatR rs).length := by
  have e : flatR rs = flatR (rs.take j) ++ flat1 (rs.getD j (0, 0)) ++ flatR (rs.drop (j + 1)) := by
    rw [← flatR_snoc, take_next h, ← flatR_append, List.take_append_drop]
  rw [e, List.length_append, List.length_append, flat1_len]
  omega
theorem flat1_part (a k : Nat) : ((List.range k).map fun i => ((a + i : Nat) : Int)) ++ [((a + k : Nat) : Int)] = (List.range (k + 1)).map fun i => ((a + i : Nat) : Int) := by
  rw [List.range_succ, List.map_append]
  rfl
/-- Those from e on to f that are so. -/
def blk (f : Nat → Bool) : Nat → Nat → List Int
  | _, 0 => []
  | e, n + 1 => if f e = true then (e : Int) :: blk f (e + 1) n else blk f (e + 1) n
theorem blk_add (f : Nat → Bool) : ∀ (n e m : Nat), blk f e (n + m) = blk f e n ++ blk f (e + n) m
  | 0, e, m => by rw [Nat.zero_add]; rfl
  | n + 1, e, m => by
    rw [show n + 1 + m = (n + m) + 1 by omega]
    show (if f e = true then (e : Int) :: blk f (e + 1) (n + m) else blk f (e + 1) (n + m)) = (if f e = true then (e : Int) :: blk f (e + 1) n else blk f (e + 1) n) ++ _
    rw [blk_add f n (e + 1) m, show e + 1 + n = e + (n + 1) by omega]
    split <;> rfl
theorem blk_no (f : Nat → Bool) : ∀ (n e : Nat), (∀ j, e ≤ j → j < e + n → f j = false) → blk f e n = []
  | 0, _, _ => rfl
  | n + 1, e, h => by
    show (if f e = true then (e : Int) :: blk f (e + 1) n else blk f (e + 1) n) = []
    rw [if_neg (by rw [h e (Nat.le_refl _) (by omega)]; decide)]
    exact blk_no f n (e + 1) fun j h1 h2 => h j (by omega) (by omega)
theorem blk_yes (f : Nat → Bool) : ∀ (n e : Nat), (∀ j, e ≤ j → j < e + n → f j = true) → blk f e n = (List.range n).map fun k => ((e + k : Nat) : Int)
  | 0, _, _ => rfl
  | n + 1, e, h => by
    show (if f e = true then (e : Int) :: blk f (e + 1) n else blk f (e + 1) n) = _
    rw [if_pos (h e (Nat.le_refl _) (by omega)), blk_yes f n (e + 1) fun j h1 h2 => h j (by omega) (by omega), List.range_succ_eq_map, List.map_cons, List.map_map]
    congr 1
    apply List.map_congr_left
    intro k _
    show ((e + 1 + k : Nat) : Int) = ((e + (k + 1) : Nat) : Int)
    omega
theorem flat_chain {bs : List Bool} : ∀ {rs : List (Nat × Nat)} {e : Nat}, Chain bs e rs → e ≤ bs.length → flatR rs = blk (bit bs) e (bs.length - e)
  | [], e, h, he => (blk_no _ _ _ fun j h1 h2 => h j h1 (by omega)).symm
  | r :: rs, e, ⟨h1, h2, h3, h4, h5, h6, h7⟩, he => by
    show flat1 r ++ flatR rs = _
    rw [flat_chain h7 h3, show bs.length - e = (r.1 - e) + (r.2 + (bs.length - (r.1 + r.2))) by omega, blk_add, blk_no _ (r.1 - e) e fun j j1 j2 => h4 j j1 (by omega), List.nil_append, show e + (r.1 - e) = r.1 by omega, blk_add, blk_yes _ r.2 r.1 h5]
    rfl
theorem flat_runs (bs : List Bool) : flatR (runsV bs) = blk (bit bs) 0 bs.length := flat_chain (chain_runs bs) (Nat.zero_le _)
theorem listFrom_blk (f : Nat → Bool) : ∀ (ls : List Int) (e : Nat), (∀ j, j < ls.length → decide (0 < ls.getD j 0) = f (e + j)) → listFrom e ls = blk f e ls.length
  | [], _, _ => rfl
  | x :: ls, e, h => by
    have h0 := h 0 (by simp)
    have hr := listFrom_blk f ls (e + 1) fun j hj => by
      have := h (j + 1) (by simpa using hj)
      rw [show e + 1 + j = e + (j + 1) by omega, ← this]
      rfl
    show (if 0 < x then (e : Int) :: listFrom (e + 1) ls else listFrom (e + 1) ls) = if f e = true then (e : Int) :: blk f (e + 1) ls.length else blk f (e + 1) ls.length
    rw [hr]
    have h1 : decide (0 < x) = f e := h0
    by_cases hx : 0 < x
    · rw [if_pos hx, if_pos (by rw [← h1]; exact decide_eq_true hx)]
    · rw [if_neg hx, if_neg (by rw [← h1, decide_eq_false hx]; decide)]
theorem listL_or {c d : List Bool} (hl : d.length = c.length) : listL (ages c d) = blk (bit (orB c d)) 0 c.length := by
  unfold listL
  rw [listFrom_blk (bit (orB c d)) (ages c d) 0, ages_length]
  intro j hj
  rw [ages_length] at hj
  rw [ages_get c d hj, Nat.zero_add, orB_bit c d hj]
  cases bit c j <;> cases bit d j <;> rfl
theorem list_flat {c d : List Bool} (hl : d.length = c.length) : flatR (runsV (orB c d)) = listL (ages c d) := by rw [flat_runs, orB_length, listL_or hl]
end Go.Proofs.YtoagghileebokaaGreatDoor.Bk

/-
  Stage 12, black: the program's list: both rows as one.
-/
namespace Go.Proofs.YtoagghileebokaaGreatDoor.Bk
open Go.RowKit Go.Proofs.YtoagghileebokaaGreatDoor.Ar
open Go.Proofs.YtoagghileebokaaGreatDoor.Bt (Bv OwnR FreshV runsV runCells runCells_get layB tableKeep)
set_option linter.unusedVariables false
theorem accAt_len (c : List Bool) : (layRuns (List.replicate c.length false) (runsV c)).length = c.length := (layRuns_length _ _).trans List.length_replicate
/-- A row of runs of the call's own, as a value. -/
theorem ownR_form {y z : World} {v : Value} {rs : List (Nat × Nat)} (ho : OwnR z v rs) (hf : FreshV y v) : ∃ A cap, v = .slice A rs.length cap ∧ (rs ≠ [] → ∃ g, A = some ⟨g, 0, none⟩ ∧ y.heap.size ≤ g) := by
  rcases ho.form with ⟨h1, h2⟩ | ⟨g, cap, h1, _⟩
  · exact ⟨none, 0, by rw [h2]; exact h1, fun h => absurd h2 h⟩
  · refine ⟨_, cap, h1, fun _ => ⟨g, rfl, ?_⟩⟩
    subst h1
    rcases hf with hf | ⟨b, hb, hle⟩
    · cases hf
    · obtain rfl : g = b := Option.some.inj hb
      exact hle
section
variable {w x y : World} {s : Bs} {c d : List Bool}
set_option maxRecDepth 100000 in
set_option maxHeartbeats 8000000 in
theorem all_own (h : Obj2 w x s c d) (hT : Wd.Table x) : Calls Tryz.prog 93 #[.pointer (some ⟨s.p, 0, none⟩)] x fun e y => ∃ p q, e = .returned (.pointer (some ⟨p, 0, none⟩)) ∧ Bv y p q (orB c d) ∧ Kept [] x y := by
  have hf := h.few
  have hdl := h.len
  have HLen := Lib.hid (len_own h)
  have C0 := Lib.hid (fun y (k : Kept [] x y) => (h.keep0 k).c0)
  have C1 := Lib.hid (fun y (k : Kept [] x y) => (h.keep0 k).c1)
  have HN := Lib.hid (Bt.newBv_ok c.length hf x)
  have HB := Lib.hid (layRuns_both hdl)
  have HAL := Lib.hid (accAt_len c)
  have HR0 := Lib.hid (fun y (k : Kept [] x y) => Bt.runs_ok c s.p0 s.q0 y (h.r0.keep0 k) (tableKeep hT k))
  have HR1 := Lib.hid (fun y (k : Kept [] x y) => Bt.runs_ok d s.p1 s.q1 y (h.r1.keep0 k) (tableKeep hT k))
  have HC0 := Lib.hid (chain_mem (chain_runs c))
  have HC1 := Lib.hid (chain_mem (chain_runs d))
  have i0 : ∀ w, (Instr.index 104 (.agg #[.pointer (some ⟨s.p0, 0, none⟩), .pointer (some ⟨s.p1, 0, none⟩)]) (.int .i64 0)).run Tryz.prog w = .ok (.pointer (some ⟨s.p0, 0, none⟩)) w := fun _ => by kernel_rfl
  have i1 : ∀ w, (Instr.index 104 (.agg #[.pointer (some ⟨s.p0, 0, none⟩), .pointer (some ⟨s.p1, 0, none⟩)]) (.int .i64 1)).run Tryz.prog w = .ok (.pointer (some ⟨s.p1, 0, none⟩)) w := fun _ => by kernel_rfl
  have hcl0 : (List.replicate c.length false).length = c.length := List.length_replicate
  clear h hT
  go_enter Tryz.func93, Tryz.ntmps93
  go_wp2_with fail
  refine HLen.out.mono ?_
  rintro e y ⟨rfl, rfl⟩
  clear HLen
  go_wp2_with fail
  refine HN.out.mono ?_
  rintro e y0 ⟨rfl, hv, k⟩
  have HV0 := Lib.hid hv
  have K0 := Lib.hid k
  have hq0 : x.heap.size ≤ x.heap.size := Nat.le_refl _
  have c0 := C0.out _ k
  have c1 := C1.out _ k
  clear hv k HN C0 C1
  generalize hpp : x.heap.size + 1 = p at *
  generalize hqq : x.heap.size = q at hpp hq0 HV0
  go_wp2_with fail
  refine wp_loop_rounds 3 ?_
  rw [rounds_succ]
  go_wp2_with fail
  refine (HR0.out _ K0.out).mono ?_
  rintro e y1 ⟨v, rfl, hown, hfr, k⟩
  obtain ⟨B, rcap, rfl, hB⟩ := ownR_form hown hfr
  have hqlt := (vec_lt HV0.out).2
  have HOwn := Lib.hid hown
  have HBg : Hid (runsV c ≠ [] → ∃ g, B = some ⟨g, 0, none⟩ ∧ g ≠ q) := Lib.hid fun h => let ⟨g, h1, h2⟩ := hB h; ⟨g, h1, by omega⟩
  have HK1 := Lib.hid (K0.out.trans k)
  have H0 : Hid (Bv y1 p q (layRuns (List.replicate c.length false) ((runsV c).take 0)) ∧ Kept [q] y1 y1) := Lib.hid ⟨HV0.out.keep0 k, Kept.refl _ _⟩
  clear hown hfr hB hqlt k HV0 K0 HR0 c0 c1
  have hal : (List.replicate c.length false).length = c.length := hcl0
  have hrl : (runsV c).length ≤ 65536 := Nat.le_trans (Bt.runsTo_length c c.length) (by omega)
  generalize hrs : runsV c = rs at *
  generalize hac : (List.replicate c.length false) = acc at *
  go_wp2_with fail
  go_loopw [27] (fun t wr => ∃ j : Nat, t = .int .i64 (j : Int) ∧ j ≤ rs.length ∧ Hid (Bv wr p q (layRuns acc (rs.take j)) ∧ Kept [q] y1 wr)) (fun t _ => rs.length - (intOf t).toNat)
  case atStart => exact ⟨0, rfl, Nat.zero_le _, H0⟩
  case round =>
    clear H0
    obtain ⟨j, rfl, hj, hr⟩ := hrel
    by_cases hlt : j < rs.length
    · obtain ⟨g, rfl, hgq⟩ := HBg.out (fun h0 => by rw [h0] at hlt; simp at hlt)
      have hO : OwnR wr (.slice (some ⟨g, 0, none⟩) rs.length rcap) rs := HOwn.out.kept hr.out.2 (fun i hi => by rw [List.mem_singleton.1 hi]; intro he; exact hgq (Option.some.inj he))
      have hcell := (runCells_get rs j hlt).imp (hO.cell _ _) (hO.cell _ _)
      have hmem : rs.getD j (0, 0) ∈ rs := by
        rw [List.getD_eq_getElem?_getD, List.getElem?_eq_getElem hlt]
        exact List.getElem_mem hlt
      have hb := HC0.out _ hmem
      have hsn := layRuns_snoc acc (rs.take j) (rs.getD j (0, 0))
      have htk : rs.take j ++ [rs.getD j (0, 0)] = rs.take (j + 1) := by
        rw [List.getD_eq_getElem?_getD, List.getElem?_eq_getElem hlt]
        exact (List.take_succ_eq_append_getElem hlt).symm
      rw [htk] at hsn
      rw [Nat.mul_comm] at hcell
      generalize rs.getD j (0, 0) = r at *
      obtain ⟨a, n⟩ := r
      obtain ⟨k0, k1⟩ := hcell
      simp only at k0 k1 hb hsn
      have hlen : (layRuns acc (rs.take j)).length = c.length := (layRuns_length _ _).trans hal
      have HSet := Lib.hid (fun z (k : Kept [] wr z) => Bt.setRun_ok (layRuns acc (rs.take j)) p q z (hr.out.1.keep0 k) (a : Int) (n : Int) (by omega) (by omega) (by omega) (by omega))
      have HK := Lib.hid hr.out.2
      have HSn := Lib.hid hsn
      generalize Bt.errOf _ = er at *
      clear hO hmem hb hsn htk hlen hr
      go_wp2_with fail
      refine (HSet.out _ ((Kept.refl _ _).alloc _)).mono ?_
      rintro e z ⟨rfl, hb, kz⟩
      have HN : Hid (Bv z p q (layRuns acc (rs.take (j + 1))) ∧ Kept [q] y1 z) := Lib.hid ⟨by rw [HSn.out]; exact hb, (HK.out.trans ((Kept.refl _ _).alloc _)).trans kz⟩
      clear hb kz HSet HK HSn k0 k1
      go_wp2_with fail
      go_roundw
      case rel => exact ⟨j + 1, by go_num, by omega, HN⟩
      case measure => simp [intOf] <;> omega
    · obtain rfl : j = rs.length := by omega
      have hb := hr.out.1
      rw [List.take_length, ← hac, ← hrs] at hb
      have HV1 := Lib.hid hb
      have K1 := Lib.hid (HK1.out.forget hr.out.2 (fun i hi => by rw [List.mem_singleton.1 hi]; omega))
      clear hb hr HOwn HBg HK1 HC0 hal hj hlt
      subst hrs hac
      go_wp2_with fail
      rw [rounds_succ]
      go_wp2_with fail
      refine (HR1.out _ K1.out).mono ?_
      rintro e y1 ⟨v, rfl, hown, hfr, k⟩
      obtain ⟨B, rcap, rfl, hB⟩ := ownR_form hown hfr
      have hqlt := (vec_lt HV1.out).2
      have HOwn := Lib.hid hown
      have HBg : Hid (runsV d ≠ [] → ∃ g, B = some ⟨g, 0, none⟩ ∧ g ≠ q) := Lib.hid fun h => let ⟨g, h1, h2⟩ := hB h; ⟨g, h1, by omega⟩
      have HK1 := Lib.hid (K1.out.trans k)
      have H0 : Hid (Bv y1 p q (layRuns (layRuns (List.replicate c.length false) (runsV c)) ((runsV d).take 0)) ∧ Kept [q] y1 y1) := Lib.hid ⟨HV1.out.keep0 k, Kept.refl _ _⟩
      clear hown hfr hB hqlt k HV1 K1 HR1
      have hal : (layRuns (List.replicate c.length false) (runsV c)).length = c.length := HAL.out
      have hrl : (runsV d).length ≤ 65536 := Nat.le_trans (Bt.runsTo_length d d.length) (by omega)
      generalize hrs : runsV d = rs at *
      generalize hac : (layRuns (List.replicate c.length false) (runsV c)) = acc at *
      go_wp2_with fail
      go_loopw [27] (fun t wr => ∃ j : Nat, t = .int .i64 (j : Int) ∧ j ≤ rs.length ∧ Hid (Bv wr p q (layRuns acc (rs.take j)) ∧ Kept [q] y1 wr)) (fun t _ => rs.length - (intOf t).toNat)
      case atStart => exact ⟨0, rfl, Nat.zero_le _, H0⟩
      case round =>
        clear H0
        obtain ⟨j, rfl, hj, hr⟩ := hrel
        by_cases hlt : j < rs.length
        · obtain ⟨g, rfl, hgq⟩ := HBg.out (fun h0 => by rw [h0] at hlt; simp at hlt)
          have hO : OwnR wr (.slice (some ⟨g, 0, none⟩) rs.length rcap) rs := HOwn.out.kept hr.out.2 (fun i hi => by rw [List.mem_singleton.1 hi]; intro he; exact hgq (Option.some.inj he))
          have hcell := (runCells_get rs j hlt).imp (hO.cell _ _) (hO.cell _ _)
          have hmem : rs.getD j (0, 0) ∈ rs := by
            rw [List.getD_eq_getElem?_getD, List.getElem?_eq_getElem hlt]
            exact List.getElem_mem hlt
          have hb := HC1.out _ hmem
          have hsn := layRuns_snoc acc (rs.take j) (rs.getD j (0, 0))
          have htk : rs.take j ++ [rs.getD j (0, 0)] = rs.take (j + 1) := by
            rw [List.getD_eq_getElem?_getD, List.getElem?_eq_getElem hlt]
            exact (List.take_succ_eq_append_getElem hlt).symm
          rw [htk] at hsn
          rw [Nat.mul_comm] at hcell
          generalize rs.getD j (0, 0) = r at *
          obtain ⟨a, n⟩ := r
          obtain ⟨k0, k1⟩ := hcell
          simp only at k0 k1 hb hsn
          have hlen : (layRuns acc (rs.take j)).length = c.length := (layRuns_length _ _).trans hal
          have HSet := Lib.hid (fun z (k : Kept [] wr z) => Bt.setRun_ok (layRuns acc (rs.take j)) p q z (hr.out.1.keep0 k) (a : Int) (n : Int) (by omega) (by omega) (by omega) (by omega))
          have HK := Lib.hid hr.out.2
          have HSn := Lib.hid hsn
          generalize Bt.errOf _ = er at *
          clear hO hmem hb hsn htk hlen hr
          go_wp2_with fail
          refine (HSet.out _ ((Kept.refl _ _).alloc _)).mono ?_
          rintro e z ⟨rfl, hb, kz⟩
          have HN : Hid (Bv z p q (layRuns acc (rs.take (j + 1))) ∧ Kept [q] y1 z) := Lib.hid ⟨by rw [HSn.out]; exact hb, (HK.out.trans ((Kept.refl _ _).alloc _)).trans kz⟩
          clear hb kz HSet HK HSn k0 k1
          go_wp2_with fail
          go_roundw
          case rel => exact ⟨j + 1, by go_num, by omega, HN⟩
          case measure => simp [intOf] <;> omega
        · obtain rfl : j = rs.length := by omega
          have hb := hr.out.1
          rw [List.take_length, ← hac, ← hrs] at hb
          have HV2 := Lib.hid hb
          have K2 := Lib.hid (HK1.out.forget hr.out.2 (fun i hi => by rw [List.mem_singleton.1 hi]; omega))
          clear hb hr HOwn HBg HK1 HC1 hal hj hlt
          subst hrs hac
          go_wp2_with fail
          rw [rounds_succ]
          go_wp2_with fail
          go_ret
          exact ⟨p, q, rfl, by rw [← HB.out]; exact HV2.out, K2.out⟩
end
end Go.Proofs.YtoagghileebokaaGreatDoor.Bk
