/-
  The document's row of bools: Runs; and SameRuns.
-/
import Derived.Test.YtkkjdoadmfeebaaDoorBtRefFind
namespace Go.Proofs.YtkkjdoadmfeebaaDoor.Bt
open Go.RowKit Go.Proofs.YtkkjdoadmfeebaaDoor.Ar Go.Proofs.YtkkjdoadmfeebaaDoor.Wd
set_option linter.unusedVariables false

theorem runsTo_ne (bs : List Bool) (t : Nat) (h0 : 0 < t) (h : bit bs (t - 1) = true) : 0 < (runsTo bs t).length := by
  obtain ⟨s, rfl⟩ : ∃ s, t = s + 1 := ⟨t - 1, by omega⟩
  rw [show s + 1 - 1 = s by omega] at h
  show 0 < (if bit bs s then (if 0 < s ∧ bit bs (s - 1) = true then lastUp (runsTo bs s) else runsTo bs s ++ [(s, 1)]) else runsTo bs s).length
  rw [h, if_pos rfl]
  split
  · unfold lastUp
    rw [List.length_append, List.length_singleton]
    omega
  · rw [List.length_append, List.length_singleton]
    omega
theorem runsTo_within (bs : List Bool) : ∀ t, ∀ r ∈ runsTo bs t, r.1 + r.2 ≤ t
  | 0, r, h => by cases h
  | s + 1, r, h => by
    have ih := runsTo_within bs s
    have h' : r ∈ (if bit bs s then (if 0 < s ∧ bit bs (s - 1) = true then lastUp (runsTo bs s) else runsTo bs s ++ [(s, 1)]) else runsTo bs s) := h
    split at h'
    · split at h'
      · rename_i _ h2
        have hne := runsTo_ne bs s h2.1 h2.2
        unfold lastUp at h'
        rcases List.mem_append.1 h' with h3 | h3
        · have := ih r (List.dropLast_subset _ h3)
          omega
        · rw [List.mem_singleton.1 h3]
          have hl : (runsTo bs s).getLast?.getD (0, 0) ∈ runsTo bs s := by
            rw [List.getLast?_eq_getElem?, List.getElem?_eq_getElem (by omega)]
            exact List.getElem_mem _
          have := ih _ hl
          show _ + (_ + 1) ≤ _
          omega
      · rcases List.mem_append.1 h' with h3 | h3
        · have := ih r h3
          omega
        · rw [List.mem_singleton.1 h3]
          show s + 1 ≤ s + 1
          omega
    · have := ih r h'
      omega
theorem ownR_up {w : World} {g cap L : Nat} {rs : List (Nat × Nat)} (h : OwnR w (.slice (some ⟨g, 0, none⟩) rs.length cap) rs) (hL : rs.length = L + 1) :
    OwnR ((w.setCell ⟨g, L * 2, none⟩ (.int .i64 ((rs.getD L (0, 0)).1 : Int))).setCell ⟨g, L * 2 + 1, none⟩ (.int .i64 (((rs.getD L (0, 0)).2 : Int) + 1))) (.slice (some ⟨g, 0, none⟩) (L + 1) cap) (lastUp rs) := by
  obtain ⟨init, r, rfl⟩ : ∃ init r, rs = init ++ [r] := ⟨rs.dropLast, rs.getLast (by intro h0; rw [h0] at hL; cases hL), (List.dropLast_concat_getLast _).symm⟩
  have hLi : init.length = L := by rw [List.length_append, List.length_singleton] at hL; omega
  have hget : (init ++ [r]).getD L (0, 0) = r := by
    rw [List.getD, ← hLi, List.getElem?_append_right (Nat.le_refl _), Nat.sub_self]
    rfl
  rw [hget, lastUp_snoc]
  rcases h.2 with ⟨h1, _⟩ | ⟨g', cap', cur, h1, _, hg, hc, hm, hs, ht⟩
  · cases h1
  · injection h1 with h1 h2 h3
    injection h1 with h1
    injection h1 with h1
    subst h1 h3
    have hh : Has w g 43 cur.toList := by unfold Has; rw [Array.toArray_toList]; exact hg
    have h2' := (hh.put (L * 2) (.int .i64 (r.1 : Int))).put (L * 2 + 1) (.int .i64 ((r.2 : Int) + 1))
    refine ⟨by rw [runCells_length], .inr ⟨g, cap, ((cur.toList.set (L * 2) (.int .i64 (r.1 : Int))).set (L * 2 + 1) (.int .i64 ((r.2 : Int) + 1))).toArray, ?_, Nat.zero_le _, h2', ?_, hm, ?_, ?_⟩⟩
    · rw [List.length_append, List.length_singleton, hLi]
    · rw [List.length_append, List.length_singleton, hLi]
      rw [hL] at hc
      exact hc
    · simp [hs]
    · show (((cur.toList.set (L * 2) (.int .i64 (r.1 : Int))).set (L * 2 + 1) (.int .i64 ((r.2 : Int) + 1))).take ((init ++ [(r.1, r.2 + 1)]).length * 2)) = runCells (init ++ [(r.1, r.2 + 1)])
      have hn : (init ++ [(r.1, r.2 + 1)]).length = (init ++ [r]).length := by rw [List.length_append, List.length_append]; rfl
      rw [List.take_set, List.take_set, hn, ht, runCells_append, runCells_append]
      have hrl : (runCells init).length = L * 2 := by rw [runCells_length, hLi]
      show ((runCells init ++ [Value.int .i64 (r.1 : Int), Value.int .i64 (r.2 : Int)]).set (L * 2) _).set (L * 2 + 1) _ = runCells init ++ [Value.int .i64 (r.1 : Int), Value.int .i64 ((r.2 + 1 : Nat) : Int)]
      rw [List.set_append_right _ _ (by omega), List.set_append_right _ _ (by omega), hrl, Nat.sub_self, show L * 2 + 1 - L * 2 = 1 by omega]
      rfl
theorem getD_ext (a b : List (Nat × Nat)) (h : a.length = b.length) (e : ∀ j, j < a.length → a.getD j (0, 0) = b.getD j (0, 0)) : a = b := by
  apply List.ext_getElem h
  intro j h1 h2
  have := e j h1
  rw [List.getD, List.getD, List.getElem?_eq_getElem h1, List.getElem?_eq_getElem h2] at this
  exact this
theorem sameRuns_ok (w : World) (v1 v2 : Value) (r1 r2 : List (Nat × Nat)) (h1 : OwnR w v1 r1) (h2 : OwnR w v2 r2) (hl1 : r1.length ≤ 65536) (hl2 : r2.length ≤ 65536) :
    Calls Tryd.prog 26 #[v1, v2] w fun e w' => e = .returned (.bool (decide (r1 = r2))) ∧ ∃ k, w' = w.drewN k := by
  have hv1 : ∃ A c, v1 = .slice A r1.length c := by
    rcases h1.form with ⟨rfl, rfl⟩ | ⟨g, cap, rfl, _⟩
    · exact ⟨none, 0, rfl⟩
    · exact ⟨_, _, rfl⟩
  have hv2 : ∃ A c, v2 = .slice A r2.length c := by
    rcases h2.form with ⟨rfl, rfl⟩ | ⟨g, cap, rfl, _⟩
    · exact ⟨none, 0, rfl⟩
    · exact ⟨_, _, rfl⟩
  obtain ⟨A1, c1, rfl⟩ := hv1
  obtain ⟨A2, c2, rfl⟩ := hv2
  by_cases hlen : r1.length = r2.length
  · by_cases hn : r1 = []
    · subst hn
      obtain rfl : r2 = [] := List.eq_nil_of_length_eq_zero hlen.symm
      rw [decide_eq_true rfl]
      clear h1 h2
      simp only [List.length_nil]
      go_enter Tryd.func26, Tryd.ntmps26
      go_wp2_with fail
      go_loopw [5] (fun k wr => k = .int .i64 0 ∧ w = wr) (fun _ _ => 0)
      case atStart => exact ⟨rfl, rfl⟩
      case round =>
        obtain ⟨rfl, rfl⟩ := hrel
        go_wp2_with fail
        go_ret
        exact ⟨rfl, 0, rfl⟩
    · have p1 : 0 < r1.length := by
        rcases Nat.eq_zero_or_pos r1.length with h | h
        · exact absurd (List.eq_nil_of_length_eq_zero h) hn
        · exact h
      obtain ⟨g1, rfl⟩ : ∃ g, A1 = some ⟨g, 0, none⟩ := by
        rcases h1.form with ⟨h, h'⟩ | ⟨g, cap, h, _⟩
        · exact absurd h' hn
        · injection h with h
          exact ⟨g, h⟩
      obtain ⟨g2, rfl⟩ : ∃ g, A2 = some ⟨g, 0, none⟩ := by
        rcases h2.form with ⟨h, h'⟩ | ⟨g, cap, h, _⟩
        · rw [h'] at hlen
          simp at hlen
          exact absurd hlen hn
        · injection h with h
          exact ⟨g, h⟩
      have hcell1 := Lib.hid (fun i (hi : i < r1.length) => (runCells_get r1 i hi).imp (h1.cell _ _) (h1.cell _ _))
      have hcell2 := Lib.hid (fun i (hi : i < r2.length) => (runCells_get r2 i hi).imp (h2.cell _ _) (h2.cell _ _))
      rw [← hlen] at hcell2 ⊢
      clear h1 h2
      generalize hN : r1.length = N at *
      have HN := Lib.hid hN
      have Hlen := Lib.hid hlen
      clear hN hlen hn
      go_enter Tryd.func26, Tryd.ntmps26
      go_wp2_with fail
      go_loopw [5] (fun k wr => ∃ t : Nat, t ≤ N ∧ k = .int .i64 (t : Int) ∧ Hid (∀ j, j < t → r1.getD j (0, 0) = r2.getD j (0, 0)) ∧ ∃ nd, wr = w.drewN nd) (fun k _ => N - (intOf k).toNat)
      case atStart => exact ⟨0, Nat.zero_le _, rfl, Lib.hid (fun j hj => absurd hj (by omega)), 0, rfl⟩
      case round =>
        obtain ⟨t, ht, rfl, hr, nd, rfl⟩ := hrel
        by_cases hlt : t < N
        · obtain ⟨x1, x2⟩ := hcell1.out t hlt
          obtain ⟨y1, y2⟩ := hcell2.out t hlt
          rw [Nat.mul_comm] at x1 x2 y1 y2
          obtain ⟨a, ha⟩ : ∃ a, a = r1.getD t (0, 0) := ⟨_, rfl⟩
          obtain ⟨b, hb⟩ : ∃ b, b = r2.getD t (0, 0) := ⟨_, rfl⟩
          rw [← ha] at x1 x2
          rw [← hb] at y1 y2
          have Ha := Lib.hid ha
          have Hb := Lib.hid hb
          clear ha hb
          obtain ⟨a1, a2⟩ := a
          obtain ⟨b1, b2⟩ := b
          simp only at x1 x2 y1 y2
          have hne : ∀ (_ : (a1, a2) ≠ (b1, b2)), r1 ≠ r2 := fun h e => h (by rw [Ha.out, Hb.out, e])
          by_cases e1 : a1 = b1
          · by_cases e2 : a2 = b2
            · subst e1 e2
              have Hr : Hid (∀ j, j < t + 1 → r1.getD j (0, 0) = r2.getD j (0, 0)) := Lib.hid (fun j hj => by
                by_cases hjt : j = t
                · subst hjt
                  rw [← Ha.out, ← Hb.out]
                · exact hr.out j (by omega))
              clear hne hr
              go_wp2_with fail
              go_quiet (fail)
              go_wp2_with fail
              go_roundw
              case rel => exact ⟨t + 1, by omega, by go_num, Hr, nd + nq, by first | rfl | rw [World.drewN_drewN]⟩
              case measure => simp [intOf] <;> omega
            · subst e1
              have e3 : ¬ (a2 : Int) = (b2 : Int) := by omega
              have Hne := Lib.hid (hne (fun h => e2 (congrArg Prod.snd h)))
              clear hne hr e2
              go_wp2_with fail
              go_quiet (fail)
              go_wp2_with fail
              go_ret
              exact ⟨by rw [decide_eq_false Hne.out]; rfl, nd + nq, by first | rfl | rw [World.drewN_drewN]⟩
          · have e3 : ¬ (a1 : Int) = (b1 : Int) := by omega
            have Hne := Lib.hid (hne (fun h => e1 (congrArg Prod.fst h)))
            clear hne hr e1
            go_wp2_with fail
            go_quiet (fail)
            go_wp2_with fail
            go_ret
            exact ⟨by rw [decide_eq_false Hne.out]; rfl, nd + nq, by first | rfl | rw [World.drewN_drewN]⟩
        · obtain rfl : t = N := by omega
          have he : r1 = r2 := getD_ext r1 r2 (by rw [HN.out]; exact Hlen.out) (by rw [HN.out]; exact hr.out)
          have He := Lib.hid he
          clear he
          go_wp2_with fail
          go_ret
          exact ⟨by rw [decide_eq_true He.out]; rfl, nd, rfl⟩
  · rw [decide_eq_false (fun h => hlen (by rw [h]))]
    have hl : ¬ (r1.length : Int) = (r2.length : Int) := by omega
    clear h1 h2
    generalize r1.length = n1 at *
    generalize r2.length = n2 at *
    go_enter Tryd.func26, Tryd.ntmps26
    go_wp2_with fail
    go_ret
    exact ⟨rfl, 0, rfl⟩
theorem refRuns_ok (bs : List Bool) (p q : Nat) (w : World) (h : Rf w p q bs) :
    Calls Tryd.prog 34 #[.pointer (some ⟨p, 0, none⟩)] w (RunsPost w bs) := by
  have hf := h.few
  have H := Lib.hid h
  clear h
  generalize hn : bs.length = n at *
  have Hn := Lib.hid hn
  clear hn
  go_enter Tryd.func34, Tryd.ntmps34
  go_wp2_with fail
  go_loopw [3, 4] (fun l k wr => ∃ t : Nat, t ≤ n ∧ k = .int .i64 (t : Int) ∧ Hid (OwnR wr l (runsTo bs t) ∧ FreshV w l ∧ Kept [] w wr)) (fun _ k _ => n - (intOf k).toNat)
  case atStart => exact ⟨0, Nat.zero_le _, rfl, Lib.hid ⟨OwnR.nil _, .inl rfl, Kept.refl _ _⟩⟩
  case round =>
    obtain ⟨t, ht, rfl, hr⟩ := hrel
    have c0 := (H.out.keep0 hr.out.2.2).c0
    rw [Hn.out] at c0
    by_cases hlt : t < n
    · have hc := (H.out.keep0 hr.out.2.2).cell t (by rw [Hn.out]; exact hlt)
      have hstep : Hid (runsTo bs (t + 1) = if bit bs t then (if 0 < t ∧ bit bs (t - 1) = true then lastUp (runsTo bs t) else runsTo bs t ++ [(t, 1)]) else runsTo bs t) := Lib.hid rfl
      have hlen := runsTo_length bs t
      cases hb : bit bs t with
      | false =>
        rw [hb] at hc hstep
        have HE : Hid (runsTo bs (t + 1) = runsTo bs t) := Lib.hid (by rw [hstep.out, if_neg (by decide)])
        clear hb hstep
        go_wp2_with fail
        go_roundw
        case rel => exact ⟨t + 1, by omega, by go_num, Lib.hid (by rw [HE.out]; exact hr.out)⟩
        case measure => simp [intOf]; omega
      | true =>
        rw [hb] at hc hstep
        by_cases h0 : 0 < t
        · have hc1 := (H.out.keep0 hr.out.2.2).cell (t - 1) (by rw [Hn.out]; omega)
          have et : ((t : Int) - 1) = ((t - 1 : Nat) : Int) := by omega
          cases hb1 : bit bs (t - 1) with
          | true =>
            rw [hb1] at hc1
            have HE : Hid (runsTo bs (t + 1) = lastUp (runsTo bs t)) := Lib.hid (by rw [hstep.out, if_pos rfl, if_pos ⟨h0, hb1⟩])
            have hne := runsTo_ne bs t h0 hb1
            clear hb hb1 hstep
            rcases hr.out.1.form with ⟨hx, hy⟩ | ⟨g, cap, hx, hg, hcap⟩
            · rw [hy] at hne
              exact absurd hne (by decide)
            · obtain ⟨L, hL⟩ : ∃ L, (runsTo bs t).length = L + 1 := ⟨(runsTo bs t).length - 1, by omega⟩
              have hl := runCells_get (runsTo bs t) L (by omega)
              subst hx
              have d0 := hr.out.1.cell _ _ hl.1
              have d1 := hr.out.1.cell _ _ hl.2
              rw [hL] at hcap ⊢
              obtain ⟨ra, hra⟩ : ∃ ra, ra = ((runsTo bs t).getD L (0, 0)).1 := ⟨_, rfl⟩
              obtain ⟨rl, hrl⟩ : ∃ rl, rl = ((runsTo bs t).getD L (0, 0)).2 := ⟨_, rfl⟩
              rw [← hra, Nat.mul_comm] at d0
              rw [← hrl, Nat.mul_comm] at d1
              have fg : ∀ j, wr.frozen? ⟨g, j, none⟩ = false := fun j => by
                rcases hr.out.1.2 with ⟨h1, _⟩ | ⟨g', cap', cur, h1, _, hg', _⟩
                · cases h1
                · injection h1 with h1
                  injection h1 with h1
                  injection h1 with h1
                  subst h1
                  exact frozen_of_row wr g j cur _ hg'
              have f0 := fg (L * 2)
              have f1 := fg (L * 2 + 1)
              have hrb : rl ≤ 65536 := by
                have hmem : (runsTo bs t).getD L (0, 0) ∈ runsTo bs t := by
                  rw [List.getD, List.getElem?_eq_getElem (by omega)]
                  exact List.getElem_mem _
                have := runsTo_within bs t _ hmem
                omega
              clear fg
              have Hra := Lib.hid hra
              have Hrl := Lib.hid hrl
              clear hra hrl
              have el : ((L + 1 : Nat) : Int) - 1 = (L : Int) := by omega
              clear hl
              have HU := Lib.hid (ownR_up hr.out.1 hL)
              rw [← Hra.out, ← Hrl.out] at HU
              have HK := Lib.hid hr.out.2.2
              have HF := Lib.hid hr.out.2.1
              rw [hL] at HF
              have hfr : w.heap.size ≤ g := by
                rcases HF.out with h1 | ⟨b, h1, h2⟩
                · cases h1
                · injection h1 with h1
                  rw [← h1] at h2
                  exact h2
              have hLb : L ≤ 65536 := by omega
              clear hr hL
              go_wp2_with fail
              go_roundw
              case rel => exact ⟨t + 1, by omega, by go_num, Lib.hid ⟨by rw [HE.out]; exact HU.out.keep0 ((Kept.refl [] _).alloc _), HF.out, ((HK.out.setCell _ _ (.inr hfr)).setCell _ _ (.inr hfr)).alloc _⟩⟩
              case measure => simp [intOf] <;> omega
          | false =>
            rw [hb1] at hc1
            have HE : Hid (runsTo bs (t + 1) = runsTo bs t ++ [(t, 1)]) := Lib.hid (by rw [hstep.out, if_pos rfl, if_neg (by rw [hb1]; simp)])
            skip
            clear hb hb1 hstep et
            have hB := Has.new wr 43 [.int .i64 (t : Int), .int .i64 1]
            have h0' : (wr.alloc (.cells #[.int .i64 (t : Int), .int .i64 1] 43)).cell? ⟨wr.heap.size, 0, none⟩ = some (.int .i64 ((t : Nat) : Int)) := hB.cell 0
            have h1' : (wr.alloc (.cells #[.int .i64 (t : Int), .int .i64 1] 43)).cell? ⟨wr.heap.size, 1, none⟩ = some (.int .i64 ((1 : Nat) : Int)) := hB.cell 1
            have hka : Kept [] wr (wr.alloc (.cells #[.int .i64 (t : Int), .int .i64 1] 43)) := (Kept.refl [] wr).alloc _
            have HO3 := Lib.hid (hr.out.1.keep0 hka)
            have H0 := Lib.hid h0'
            have H1 := Lib.hid h1'
            have Hka := Lib.hid (hr.out.2.2.trans hka)
            have HF := Lib.hid hr.out.2.1
            clear hB h0' h1' hka
            generalize hrs0 : runsTo bs t = rs at *
            go_wp2_with (at_builtin; (refine append_run rfl (.tmp 51) (.tmp 54) rfl u3 rs rfl HO3.out wr.heap.size 1 (t, 1) rfl H0.out H1.out (by omega) ?_))
            intro v' w3 hO hG hV
            have hk3 : Kept [] w w3 := own_grown Hka.out HF.out hG
            rw [← World.size_alloc wr (.cells #[.int .i64 (t : Int), .int .i64 1] 43)] at hV
            have hF3 := own_fresh Hka.out HF.out hV
            have HNew : Hid (OwnR w3 v' (runsTo bs (t + 1)) ∧ FreshV w v' ∧ Kept [] w w3) := Lib.hid ⟨by rw [HE.out]; exact hO, hF3, hk3⟩
            clear hk3 hO hF3 hG hV H0 H1 HO3 Hka
            go_wp2_with fail
            go_roundw
            case rel => exact ⟨t + 1, by omega, by go_num, HNew⟩
            case measure => simp [intOf] <;> omega
        · have HE : Hid (runsTo bs (t + 1) = runsTo bs t ++ [(t, 1)]) := Lib.hid (by rw [hstep.out, if_pos rfl, if_neg (by omega)])
          clear hb hstep
          have hB := Has.new wr 43 [.int .i64 (t : Int), .int .i64 1]
          have h0' : (wr.alloc (.cells #[.int .i64 (t : Int), .int .i64 1] 43)).cell? ⟨wr.heap.size, 0, none⟩ = some (.int .i64 ((t : Nat) : Int)) := hB.cell 0
          have h1' : (wr.alloc (.cells #[.int .i64 (t : Int), .int .i64 1] 43)).cell? ⟨wr.heap.size, 1, none⟩ = some (.int .i64 ((1 : Nat) : Int)) := hB.cell 1
          have hka : Kept [] wr (wr.alloc (.cells #[.int .i64 (t : Int), .int .i64 1] 43)) := (Kept.refl [] wr).alloc _
          have HO3 := Lib.hid (hr.out.1.keep0 hka)
          have H0 := Lib.hid h0'
          have H1 := Lib.hid h1'
          have Hka := Lib.hid (hr.out.2.2.trans hka)
          have HF := Lib.hid hr.out.2.1
          clear hB h0' h1' hka
          generalize hrs0 : runsTo bs t = rs at *
          go_wp2_with (at_builtin; (refine append_run rfl (.tmp 51) (.tmp 54) rfl u3 rs rfl HO3.out wr.heap.size 1 (t, 1) rfl H0.out H1.out (by omega) ?_))
          intro v' w3 hO hG hV
          have hk3 : Kept [] w w3 := own_grown Hka.out HF.out hG
          rw [← World.size_alloc wr (.cells #[.int .i64 (t : Int), .int .i64 1] 43)] at hV
          have hF3 := own_fresh Hka.out HF.out hV
          have HNew : Hid (OwnR w3 v' (runsTo bs (t + 1)) ∧ FreshV w v' ∧ Kept [] w w3) := Lib.hid ⟨by rw [HE.out]; exact hO, hF3, hk3⟩
          clear hk3 hO hF3 hG hV H0 H1 HO3 Hka
          go_wp2_with fail
          go_roundw
          case rel => exact ⟨t + 1, by omega, by go_num, HNew⟩
          case measure => simp [intOf] <;> omega
    · obtain rfl : t = n := by omega
      go_wp2_with fail
      go_ret
      exact ⟨_, rfl, by have := hr.out.1; unfold runsV; rw [Hn.out]; exact this, hr.out.2.1, hr.out.2.2⟩
end Go.Proofs.YtkkjdoadmfeebaaDoor.Bt
