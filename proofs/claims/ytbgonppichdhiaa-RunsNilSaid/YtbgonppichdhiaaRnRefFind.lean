/-
  The document's set: the contracts of Of and First.
-/
import Derived.Test.YtbgonppichdhiaaRnRefDo
import Derived.Test.YtbgonppichdhiaaRnFirst
namespace Go.Proofs.Ytbgonppichdhiaa.Rn
open Go.RowKit Go.Proofs.Ytbgonppichdhiaa.Ar Go.Proofs.Ytbgonppichdhiaa.Bt Go.Proofs.Ytbgonppichdhiaa.Lk Go.Sort
set_option linter.unusedVariables false

theorem at_split {rs : List R} {t : Nat} (h : t < rs.length) : rs = rs.take t ++ rs.getD t (0, 0) :: rs.drop (t + 1) := by
  have e : rs.getD t (0, 0) = rs[t] := by rw [List.getD, List.getElem?_eq_getElem h]; rfl
  rw [e, List.getElem_cons_drop, List.take_append_drop]
theorem take_more {rs : List R} {t : Nat} (h : t < rs.length) : rs.take (t + 1) = rs.take t ++ [rs.getD t (0, 0)] := by
  have e : rs.getD t (0, 0) = rs[t] := by rw [List.getD, List.getElem?_eq_getElem h]; rfl
  rw [e, List.take_succ_eq_append_getElem h]
theorem getD_mem {rs : List R} {t : Nat} (h : t < rs.length) : rs.getD t (0, 0) ∈ rs := by
  rw [List.getD, List.getElem?_eq_getElem h]
  exact List.getElem_mem _
/-- The cells of a row of runs, in a later world. -/
theorem ownR_later {w : World} {v : Value} {rs : List R} (h : OwnR w v rs) : ∃ A c, v = .slice A rs.length c ∧ rs.length ≤ c ∧ (rs = [] ∨ ∃ g, A = some ⟨g, 0, none⟩ ∧ ∀ x, Kept [] w x → ∀ t, t < rs.length → x.cell? ⟨g, t * 2, none⟩ = some (.int .i64 ((rs.getD t (0, 0)).1 : Int)) ∧ x.cell? ⟨g, t * 2 + 1, none⟩ = some (.int .i64 ((rs.getD t (0, 0)).2 : Int))) := by
  rcases h.form with ⟨rfl, rfl⟩ | ⟨g, cap, rfl, _, hc⟩
  · exact ⟨none, 0, rfl, Nat.le_refl _, .inl rfl⟩
  · refine ⟨_, cap, rfl, hc, .inr ⟨g, rfl, fun x hk t ht => ?_⟩⟩
    have hx := h.keep0 hk
    have hg := runCells_get rs t ht
    rw [Nat.mul_comm] at hg
    exact ⟨hx.cell _ _ hg.1, hx.cell _ _ hg.2⟩

set_option maxHeartbeats 4000000 in
theorem refOf_ok (w : World) {r p q : Nat} {rs : List R} (h : RefAt w r p q rs) (hf : Fine 0 rs) (i : Int) :
    Calls Try.prog 15 #[.pointer (some ⟨r, 0, none⟩), .int .i64 i] w fun e w' => e = .returned (.tuple #[ofR (ofO rs i), .bool (ofO rs i).isSome]) ∧ Kept [] w w' := by
  have hka : ∀ o, Kept [] w (w.alloc o) := fun o => (Kept.refl [] w).alloc o
  have HL := Lib.hid (fun x (hk : Kept [] w x) => listR_ok x (h.keep0 hk) hf)
  have hnl := hf.len0
  have HM := Lib.hid (fun t (ht : t < rs.length) => (hf.mem _ (getD_mem ht)))
  rw [ofO_find hf]
  clear h hf
  go_enter Try.func15, Try.ntmps15
  go_wp2_with fail
  have h4 : Has (w.alloc (.cells #[.int .i64 0, .int .i64 0] 29)) w.heap.size 29 [.int .i64 0, .int .i64 0] := Has.new w _ [.int .i64 0, .int .i64 0]
  have hk0 := hka (.cells #[.int .i64 0, .int .i64 0] 29)
  generalize w.alloc (.cells #[.int .i64 0, .int .i64 0] 29) = W0 at *
  refine (HL.out _ hk0).mono ?_
  rintro e W1 ⟨v, rfl, hO, hF, hk1⟩
  have H4 := Lib.hid (h4.keep0 hk1)
  have Hk1 := Lib.hid (hk0.trans hk1)
  obtain ⟨A, cap, rfl, hcap, hcs⟩ := ownR_later hO
  have HCS := Lib.hid hcs
  clear h4 hk0 hk1 hO hF hcs HL hka
  obtain ⟨N, hN⟩ : ∃ N, N = rs.length := ⟨_, rfl⟩
  rw [← hN] at hnl hcap ⊢
  have HN := Lib.hid hN
  clear hN
  go_wp2_with fail
  go_loopw [7] (fun k wr => ∃ t : Nat, t ≤ N ∧ k = .int .i64 (t : Int) ∧ Hid ((∀ x ∈ rs.take t, innI x i = false) ∧ Kept [] W1 wr)) (fun k _ => N - (intOf k).toNat)
  case atStart => exact ⟨0, Nat.zero_le _, rfl, Lib.hid ⟨by simp, Kept.refl _ _⟩⟩
  case round =>
    obtain ⟨t, ht, rfl, hr⟩ := hrel
    by_cases hlt : t < N
    · have hltl : t < rs.length := by rw [← HN.out]; exact hlt
      obtain ⟨g, rfl, hcell⟩ : ∃ g, A = some ⟨g, 0, none⟩ ∧ ∀ x, Kept [] W1 x → ∀ t, t < rs.length → x.cell? ⟨g, t * 2, none⟩ = some (.int .i64 ((rs.getD t (0, 0)).1 : Int)) ∧ x.cell? ⟨g, t * 2 + 1, none⟩ = some (.int .i64 ((rs.getD t (0, 0)).2 : Int)) := by
        rcases HCS.out with e | h
        · rw [e] at hltl; simp at hltl
        · exact h
      obtain ⟨x1, x2⟩ := hcell wr hr.out.2 t hltl
      have hm := HM.out t hltl
      have hsp := at_split hltl
      have htm := take_more hltl
      have HCell := Lib.hid hcell
      obtain ⟨y, hy⟩ : ∃ y, y = rs.getD t (0, 0) := ⟨_, rfl⟩
      rw [← hy] at x1 x2 hm hsp htm
      obtain ⟨ra, rl⟩ := y
      simp only at x1 x2 hm
      have Hsp := Lib.hid hsp
      have Htm := Lib.hid htm
      clear hy hsp htm hltl hcell
      have hno : innI (ra, rl) i = false → Hid (∀ x ∈ rs.take (t + 1), innI x i = false) := fun hh => Lib.hid fun x hx => by
        rw [Htm.out] at hx
        rcases List.mem_append.1 hx with hx | hx
        · exact hr.out.1 x hx
        · rw [List.mem_singleton.1 hx]; exact hh
      by_cases c1 : (ra : Int) ≤ i
      · by_cases c2 : i < (ra : Int) + (rl : Int)
        · have HE : Hid (rs.find? (innI · i) = some (ra, rl)) := Lib.hid (by
            rw [Hsp.out]
            exact find_at hr.out.1 (decide_eq_true ⟨c1, by simp only; omega⟩))
          clear hno
          go_wp2_with fail
          go_quiet (fail)
          have hkq : Kept [] wr (wr.drewN nq) := (Kept.refl [] wr).drewN nq
          clear x1 x2
          generalize wr.drewN nq = W2 at hkq ⊢
          obtain ⟨x1, x2⟩ := HCell.out W2 (hr.out.2.trans hkq) t (by rw [← HN.out]; exact hlt)
          have hy : rs.getD t (0, 0) = (ra, rl) := by
            have := Hsp.out
            have hl : (rs.take t).length = t := by rw [List.length_take]; have := HN.out; omega
            have e2 : (rs.take t ++ (ra, rl) :: rs.drop (t + 1)).getD t (0, 0) = (ra, rl) := by
              rw [List.getD, List.getElem?_append_right (by omega), hl, Nat.sub_self]
              rfl
            rw [← this] at e2
            exact e2
          rw [hy] at x1 x2
          have h4 := H4.out.keep0 (hr.out.2.trans hkq)
          have c4 := h4.cell 0
          have c4' := h4.cell 1
          have f4 := h4.free 0
          have f4' := h4.free 1
          simp at c4 c4' x1 x2
          have Hkq := Lib.hid (Hk1.out.trans (hr.out.2.trans hkq))
          clear hkq h4 hy hr
          go_wp2_with fail
          exact bodyPost_ret (v := .tuple #[runV (ra : Nat) (rl : Nat), .bool true]) (by simp [results, Try.results15, go_sem, runV, c4, c4']) rfl ⟨by rw [HE.out]; rfl, (Hkq.out.setCell _ _ (.inr (Nat.le_refl _))).setCell _ _ (.inr (Nat.le_refl _))⟩
        · have HNo := hno (decide_eq_false fun hh => c2 (by have := hh.2; simp only at this; omega))
          clear hno
          go_wp2_with fail
          go_quiet (fail)
          have HR : Hid ((∀ x ∈ rs.take (t + 1), innI x i = false) ∧ Kept [] W1 (wr.drewN nq)) := Lib.hid ⟨HNo.out, hr.out.2.drewN nq⟩
          clear hr x1 x2
          go_wp2_with fail
          go_roundw
          case rel => exact ⟨t + 1, by omega, by go_num, HR⟩
          case measure => simp [intOf] <;> omega
      · have HNo := hno (decide_eq_false fun hh => c1 (by have := hh.1; simp only at this; omega))
        have hd : decide ((ra : Int) ≤ i) = false := decide_eq_false c1
        clear hno
        go_wp2_with fail
        go_quiet (fail)
        have HR : Hid ((∀ x ∈ rs.take (t + 1), innI x i = false) ∧ Kept [] W1 (wr.drewN nq)) := Lib.hid ⟨HNo.out, hr.out.2.drewN nq⟩
        clear hr x1 x2
        go_wp2_with fail
        go_roundw
        case rel => exact ⟨t + 1, by omega, by go_num, HR⟩
        case measure => simp [intOf] <;> omega
    · obtain rfl : t = N := by omega
      have HE : Hid (rs.find? (innI · i) = none) := Lib.hid (find_none (by
        have := hr.out.1
        rw [HN.out, List.take_length] at this
        exact this))
      have h4 := H4.out.keep0 hr.out.2
      have c4 := h4.cell 0
      have c4' := h4.cell 1
      have f4 := h4.free 0
      have f4' := h4.free 1
      simp at c4 c4'
      have Hkq := Lib.hid (Hk1.out.trans hr.out.2)
      clear h4 hr
      go_wp2_with fail
      exact bodyPost_ret (v := .tuple #[runV 0 0, .bool false]) (by simp [results, Try.results15, go_sem, runV, c4, c4']) rfl ⟨by rw [HE.out]; rfl, (Hkq.out.setCell _ _ (.inr (Nat.le_refl _))).setCell _ _ (.inr (Nat.le_refl _))⟩
set_option maxHeartbeats 8000000 in
theorem refFirst_ok (w : World) {r p q : Nat} {rs : List R} (h : RefAt w r p q rs) (hf : Fine 0 rs) (n fr : Int) (n1 : -9223372036854775808 ≤ n) (n2 : n ≤ 9223372036854775807) (f1 : -9223372036854775808 ≤ fr) (f2 : fr ≤ 9223372036854775807) :
    Calls Try.prog 17 #[.pointer (some ⟨r, 0, none⟩), .int .i64 n, .int .i64 fr] w fun e w' => e = .returned (.tuple #[firstR (firstO rs n fr) n, .bool (firstO rs n fr).isSome]) ∧ Kept [] w w' := by
  have hka : ∀ o, Kept [] w (w.alloc o) := fun o => (Kept.refl [] w).alloc o
  have HL := Lib.hid (fun x (hk : Kept [] w x) => listR_ok x (h.keep0 hk) hf)
  have hnl := hf.len0
  have HM := Lib.hid (fun t (ht : t < rs.length) => (hf.mem _ (getD_mem ht)))
  clear h hf
  go_enter Try.func17, Try.ntmps17
  go_wp2_with fail
  have h4 : Has (w.alloc (.cells #[.int .i64 0, .int .i64 0] 29)) w.heap.size 29 [.int .i64 0, .int .i64 0] := Has.new w _ [.int .i64 0, .int .i64 0]
  have hk0 := hka (.cells #[.int .i64 0, .int .i64 0] 29)
  generalize w.alloc (.cells #[.int .i64 0, .int .i64 0] 29) = W0 at *
  refine (HL.out _ hk0).mono ?_
  rintro e W1 ⟨v, rfl, hO, hF, hk1⟩
  have H4 := Lib.hid (h4.keep0 hk1)
  have Hk1 := Lib.hid (hk0.trans hk1)
  obtain ⟨A, cap, rfl, hcap, hcs⟩ := ownR_later hO
  have HCS := Lib.hid hcs
  clear h4 hk0 hk1 hO hF hcs HL hka
  obtain ⟨N, hN⟩ : ∃ N, N = rs.length := ⟨_, rfl⟩
  rw [← hN] at hnl hcap ⊢
  have HN := Lib.hid hN
  clear hN
  by_cases hn : 1 ≤ n
  · have HO : Hid (firstO rs n fr = (rs.find? (fits n fr)).map (fun r => max ((r.1 : Nat) : Int) fr)) := Lib.hid (by unfold firstO; rw [if_pos hn])
    go_wp2_with fail
    go_loopw [9] (fun k wr => ∃ t : Nat, t ≤ N ∧ k = .int .i64 (t : Int) ∧ Hid ((∀ x ∈ rs.take t, fits n fr x = false) ∧ Kept [] W1 wr)) (fun k _ => N - (intOf k).toNat)
    case atStart => exact ⟨0, Nat.zero_le _, rfl, Lib.hid ⟨by simp, Kept.refl _ _⟩⟩
    case round =>
      obtain ⟨t, ht, rfl, hr⟩ := hrel
      by_cases hlt : t < N
      · have hltl : t < rs.length := by rw [← HN.out]; exact hlt
        obtain ⟨g, rfl, hcell⟩ : ∃ g, A = some ⟨g, 0, none⟩ ∧ ∀ x, Kept [] W1 x → ∀ t, t < rs.length → x.cell? ⟨g, t * 2, none⟩ = some (.int .i64 ((rs.getD t (0, 0)).1 : Int)) ∧ x.cell? ⟨g, t * 2 + 1, none⟩ = some (.int .i64 ((rs.getD t (0, 0)).2 : Int)) := by
          rcases HCS.out with e | h
          · rw [e] at hltl; simp at hltl
          · exact h
        obtain ⟨x1, x2⟩ := hcell wr hr.out.2 t hltl
        have hm := HM.out t hltl
        have hsp := at_split hltl
        have htm := take_more hltl
        obtain ⟨y, hy⟩ : ∃ y, y = rs.getD t (0, 0) := ⟨_, rfl⟩
        rw [← hy] at x1 x2 hm hsp htm
        obtain ⟨ra, rl⟩ := y
        simp only at x1 x2 hm
        have Hsp := Lib.hid hsp
        have Htm := Lib.hid htm
        clear hy hsp htm hltl hcell
        have hno : fits n fr (ra, rl) = false → Hid (∀ x ∈ rs.take (t + 1), fits n fr x = false) := fun hh => Lib.hid fun x hx => by
          rw [Htm.out] at hx
          rcases List.mem_append.1 hx with hx | hx
          · exact hr.out.1 x hx
          · rw [List.mem_singleton.1 hx]; exact hh
        have hyes : fits n fr (ra, rl) = true → Hid (firstO rs n fr = some (max ((ra : Nat) : Int) fr)) := fun hh => Lib.hid (by
          rw [HO.out, Hsp.out, find_at hr.out.1 hh]
          rfl)
        rcases Int.lt_or_le (ra : Int) fr with hc | hc
        · have HM2 : Hid (max ((ra : Nat) : Int) fr = fr) := Lib.hid (by omega)
          have hws : IntKind.i64.wrap ((ra : Int) + (rl : Int) - fr) = (ra : Int) + (rl : Int) - fr := by rw [IntKind.wrap_i64]; omega
          have hwa : IntKind.i64.wrap ((ra : Int) + (rl : Int)) = (ra : Int) + (rl : Int) := by rw [IntKind.wrap_i64]; omega
          by_cases c1 : fr < (ra : Int) + (rl : Int)
          · by_cases c2 : n ≤ (ra : Int) + (rl : Int) - fr
            · have HE := hyes (decide_eq_true (by rw [HM2.out]; simp only; omega))
              rw [HM2.out] at HE
              clear hyes hno
              go_wp2_with fail
              go_quiet (fail)
              have hkq : Kept [] wr (wr.drewN nq) := (Kept.refl [] wr).drewN nq
              clear x1 x2 hws hwa
              generalize wr.drewN nq = W2 at hkq ⊢
              have h4 := H4.out.keep0 (hr.out.2.trans hkq)
              have c4 := h4.cell 0
              have c4' := h4.cell 1
              have f4 := h4.free 0
              have f4' := h4.free 1
              simp at c4 c4'
              have Hkq := Lib.hid (Hk1.out.trans (hr.out.2.trans hkq))
              clear hkq h4 hr
              go_wp2_with fail
              exact bodyPost_ret (v := .tuple #[runV (fr) n, .bool true]) (by simp [results, Try.results17, go_sem, runV, c4, c4']) rfl ⟨by rw [HE.out]; rfl, (Hkq.out.setCell _ _ (.inr (Nat.le_refl _))).setCell _ _ (.inr (Nat.le_refl _))⟩
            · have HNo := hno (decide_eq_false (by rw [HM2.out]; simp only; omega))
              clear hyes hno
              go_wp2_with fail
              go_quiet (fail)
              have HR : Hid ((∀ x ∈ rs.take (t + 1), fits n fr x = false) ∧ Kept [] W1 (wr.drewN nq)) := Lib.hid ⟨HNo.out, hr.out.2.drewN nq⟩
              clear hr x1 x2 hws hwa
              go_wp2_with fail
              go_roundw
              case rel => exact ⟨t + 1, by omega, by go_num, HR⟩
              case measure => simp [intOf] <;> omega
          · have HNo := hno (decide_eq_false (by rw [HM2.out]; simp only; omega))
            have hd : decide (fr < (ra : Int) + (rl : Int)) = false := decide_eq_false c1
            clear hyes hno
            go_wp2_with fail
            go_quiet (fail)
            have HR : Hid ((∀ x ∈ rs.take (t + 1), fits n fr x = false) ∧ Kept [] W1 (wr.drewN nq)) := Lib.hid ⟨HNo.out, hr.out.2.drewN nq⟩
            clear hr x1 x2 hws hwa hd
            go_wp2_with fail
            go_roundw
            case rel => exact ⟨t + 1, by omega, by go_num, HR⟩
            case measure => simp [intOf] <;> omega
        · have HM2 : Hid (max ((ra : Nat) : Int) fr = (ra : Int)) := Lib.hid (by omega)
          have hws : IntKind.i64.wrap ((ra : Int) + (rl : Int) - (ra : Int)) = (ra : Int) + (rl : Int) - (ra : Int) := by rw [IntKind.wrap_i64]; omega
          have hwa : IntKind.i64.wrap ((ra : Int) + (rl : Int)) = (ra : Int) + (rl : Int) := by rw [IntKind.wrap_i64]; omega
          by_cases c1 : (ra : Int) < (ra : Int) + (rl : Int)
          · by_cases c2 : n ≤ (ra : Int) + (rl : Int) - (ra : Int)
            · have HE := hyes (decide_eq_true (by rw [HM2.out]; simp only; omega))
              rw [HM2.out] at HE
              clear hyes hno
              go_wp2_with fail
              go_quiet (fail)
              have hkq : Kept [] wr (wr.drewN nq) := (Kept.refl [] wr).drewN nq
              clear x1 x2 hws hwa
              generalize wr.drewN nq = W2 at hkq ⊢
              have h4 := H4.out.keep0 (hr.out.2.trans hkq)
              have c4 := h4.cell 0
              have c4' := h4.cell 1
              have f4 := h4.free 0
              have f4' := h4.free 1
              simp at c4 c4'
              have Hkq := Lib.hid (Hk1.out.trans (hr.out.2.trans hkq))
              clear hkq h4 hr
              go_wp2_with fail
              exact bodyPost_ret (v := .tuple #[runV ((ra : Int)) n, .bool true]) (by simp [results, Try.results17, go_sem, runV, c4, c4']) rfl ⟨by rw [HE.out]; rfl, (Hkq.out.setCell _ _ (.inr (Nat.le_refl _))).setCell _ _ (.inr (Nat.le_refl _))⟩
            · have HNo := hno (decide_eq_false (by rw [HM2.out]; simp only; omega))
              clear hyes hno
              go_wp2_with fail
              go_quiet (fail)
              have HR : Hid ((∀ x ∈ rs.take (t + 1), fits n fr x = false) ∧ Kept [] W1 (wr.drewN nq)) := Lib.hid ⟨HNo.out, hr.out.2.drewN nq⟩
              clear hr x1 x2 hws hwa
              go_wp2_with fail
              go_roundw
              case rel => exact ⟨t + 1, by omega, by go_num, HR⟩
              case measure => simp [intOf] <;> omega
          · exfalso
            have := hm.2.1
            omega
      · obtain rfl : t = N := by omega
        have HE : Hid (firstO rs n fr = none) := Lib.hid (by
          rw [HO.out, find_none]
          · rfl
          · have := hr.out.1
            rw [HN.out, List.take_length] at this
            exact this)
        have h4 := H4.out.keep0 hr.out.2
        have c4 := h4.cell 0
        have c4' := h4.cell 1
        have f4 := h4.free 0
        have f4' := h4.free 1
        simp at c4 c4'
        have Hkq := Lib.hid (Hk1.out.trans hr.out.2)
        clear h4 hr
        go_wp2_with fail
        exact bodyPost_ret (v := .tuple #[runV 0 0, .bool false]) (by simp [results, Try.results17, go_sem, runV, c4, c4']) rfl ⟨by rw [HE.out]; rfl, (Hkq.out.setCell _ _ (.inr (Nat.le_refl _))).setCell _ _ (.inr (Nat.le_refl _))⟩
  · have HE : Hid (firstO rs n fr = none) := Lib.hid (by unfold firstO; rw [if_neg hn])
    have hd : decide (1 ≤ n) = false := decide_eq_false hn
    go_wp2_with fail
    go_loopw [9] (fun k wr => k = .int .i64 0 ∧ W1 = wr) (fun _ _ => 0)
    case atStart => exact ⟨rfl, rfl⟩
    case round =>
      obtain ⟨rfl, rfl⟩ := hrel
      have h4 := H4.out
      have c4 := h4.cell 0
      have c4' := h4.cell 1
      have f4 := h4.free 0
      have f4' := h4.free 1
      simp at c4 c4'
      clear h4
      go_wp2_with fail
      all_goals exact bodyPost_ret (v := .tuple #[runV 0 0, .bool false]) (by simp [results, Try.results17, go_sem, runV, c4, c4']) rfl ⟨by rw [HE.out]; rfl, (Hk1.out.setCell _ _ (.inr (Nat.le_refl _))).setCell _ _ (.inr (Nat.le_refl _))⟩
end Go.Proofs.Ytbgonppichdhiaa.Rn
