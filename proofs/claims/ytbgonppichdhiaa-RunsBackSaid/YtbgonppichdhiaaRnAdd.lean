/-
  The contract of Add.
-/
import Derived.Test.YtbgonppichdhiaaRnJoins
import Derived.StillTailTactics
namespace Go.Proofs.Ytbgonppichdhiaa.Rn
open Go.RowKit Go.Proofs.Ytbgonppichdhiaa.Ar Go.Proofs.Ytbgonppichdhiaa.Bt Go.Proofs.Ytbgonppichdhiaa.Lk Go.Sort
set_option linter.unusedVariables false

/-- What has become of a set: only its own blocks have turned, and what is new is fresh. -/
def Now (w : World) (p : Nat) (ns : List Nd) (rs : List R) (w' : World) : Prop :=
  ∃ ns', Rs w' p ns' ∧ runsIn ns' = rs ∧ Kept (blocks p ns) w w' ∧ ∀ b ∈ blocks p ns', b ∈ blocks p ns ∨ w.heap.size ≤ b
theorem Now.same {w w' : World} {p : Nat} {ns : List Nd} (h : Rs w p ns) (k : Kept [] w w') : Now w p ns (runsIn ns) w' := ⟨ns, h.keep0 k, rfl, k.none _, fun b hb => .inl hb⟩
theorem add_nil (w : World) (a n : Int) :
    Calls Try.prog 11 #[.pointer none, runV a n] w fun e w' => e = .returned (.int .i64 1) ∧ Kept [] w w' := by
  have hka : ∀ o, Kept [] w (w.alloc o) := fun o => (Kept.refl [] w).alloc o
  have HC := Lib.hid (fun x => check_nil a n x)
  unfold runV at *
  go_enter Try.func11, Try.ntmps11
  go_wp2_with fail
  refine (HC.out _).mono ?_
  rintro e w1 ⟨rfl, hk⟩
  have Hk := Lib.hid ((hka (.cells #[.int .i64 a, .int .i64 n] 29)).trans hk)
  clear hk
  go_wp2_with fail
  go_ret
  exact ⟨rfl, Hk.out⟩
theorem add_bad (w : World) (p : Nat) (a n : Int) (a1 : -9223372036854775808 ≤ a) (a2 : a ≤ 9223372036854775807) (n1 : -9223372036854775808 ≤ n) (n2 : n ≤ 9223372036854775807) (hv : valid a n = false) :
    Calls Try.prog 11 #[.pointer (some ⟨p, 0, none⟩), runV a n] w fun e w' => e = .returned (.int .i64 2) ∧ Kept [] w w' := by
  have hka : ∀ o, Kept [] w (w.alloc o) := fun o => (Kept.refl [] w).alloc o
  have HC := Lib.hid (fun x => check_ok p a n x a1 a2 n1 n2)
  rw [show errOf (valid a n) = 2 from by rw [hv]; rfl] at HC
  clear hv
  unfold runV at *
  go_enter Try.func11, Try.ntmps11
  go_wp2_with fail
  refine (HC.out _).mono ?_
  rintro e w1 ⟨rfl, hk⟩
  have Hk := Lib.hid ((hka (.cells #[.int .i64 a, .int .i64 n] 29)).trans hk)
  clear hk
  go_wp2_with fail
  go_ret
  exact ⟨rfl, Hk.out⟩
set_option maxHeartbeats 4000000 in
theorem add_have (w : World) (p : Nat) (ns : List Nd) (h : Rs w p ns) (hf : Fine 0 (runsIn ns)) (a n : Nat) (hn : 1 ≤ n) (hv : a + n ≤ 65536) (q : Nd) (Q : List Nd) (hq : postN ns (a : Nat) = q :: Q) (hlt : q.a < a + n) :
    Calls Try.prog 11 #[.pointer (some ⟨p, 0, none⟩), runV a n] w fun e w' => e = .returned (.int .i64 9) ∧ Kept [] w w' := by
  have hka : ∀ o, Kept [] w (w.alloc o) := fun o => (Kept.refl [] w).alloc o
  have HC := Lib.hid (fun x => check_ok p (a : Nat) (n : Nat) x (by omega) (by omega) (by omega) (by omega))
  rw [show errOf (valid (a : Nat) (n : Nat)) = 0 from by rw [(valid_iff _ _).2 (by omega)]; rfl] at HC
  have HBl := Lib.hid (fun x (hk : Kept [] w x) => below_ok x p ns (h.keep0 hk) (fun n hn => (fine_mem hf n hn).1) (a : Nat))
  have Hn := Lib.hid (fun x (hk : Kept [] w x) => rs_next (h.keep0 hk) (a : Nat))
  have Hs := Lib.hid (fun x (hk : Kept [] w x) => (rs_parts (h.keep0 hk) (a : Nat)).2.1)
  rw [hq] at Hn Hs
  clear hf h hq
  generalize lastB p (preN ns (a : Nat)) = lb at *
  have HE := Lib.hid (fun x => end_ok (a : Nat) (n : Nat) x (by omega) (by omega))
  unfold runV at *
  obtain ⟨b, ra, rl⟩ := q
  simp only at hlt
  have hltI : (ra : Int) < (a : Int) + (n : Int) := by omega
  go_enter Try.func11, Try.ntmps11
  go_wp2_with fail
  have hB : Has (w.alloc (.cells #[.int .i64 (a : Int), .int .i64 (n : Int)] 29)) w.heap.size 29 [.int .i64 (a : Int), .int .i64 (n : Int)] := Has.new w _ [.int .i64 (a : Int), .int .i64 (n : Int)]
  have hk0 := hka (.cells #[.int .i64 (a : Int), .int .i64 (n : Int)] 29)
  generalize w.alloc (.cells #[.int .i64 (a : Int), .int .i64 (n : Int)] 29) = W0 at *
  generalize w.heap.size = bx at *
  have HB := Lib.hid hB
  have Hk0 := Lib.hid hk0
  clear hB hk0 hka
  refine (HC.out _).mono ?_
  rintro e W1 ⟨rfl, hk1⟩
  have HB1 := Lib.hid (HB.out.keep0 hk1)
  have Hk1 := Lib.hid (Hk0.out.trans hk1)
  have d0 := HB1.out.cell 0
  simp at d0
  clear hk1 HC
  go_wp2_with fail
  refine (HBl.out _ Hk1.out).mono ?_
  rintro e W2 ⟨rfl, hk2⟩
  have HB2 := Lib.hid (HB1.out.keep0 hk2)
  have Hk2 := Lib.hid (Hk1.out.trans hk2)
  have c2 := Hn.out W2 Hk2.out
  have hs := Hs.out W2 Hk2.out
  rw [Seg.cons] at hs
  simp [ptr] at c2
  clear hk2 HBl d0
  go_wp2_with fail
  have b0 := cell_regrown (show W2.cell? ⟨b, 0, none⟩ = some (.int .i64 (ra : Int)) from hs.1.cell 0)
  have d0 := cell_regrown (show W2.cell? ⟨bx, 0, none⟩ = some (.int .i64 (a : Int)) from HB2.out.cell 0)
  have d1 := cell_regrown (show W2.cell? ⟨bx, 1, none⟩ = some (.int .i64 (n : Int)) from HB2.out.cell 1)
  have cC : ∀ d os, Calls Try.prog 29 #[.agg #[.int .i64 (a : Int), .int .i64 (n : Int)]] (grow (redrawn W2 d) os) fun e w'' => e = .returned (.int .i64 ((a : Int) + (n : Int))) ∧ ∃ p : Regrown, w'' = grow (redrawn W2 p.d) p.os :=
    fun d os => Calls.regrown_of ((HE.out _).mono fun _ _ ⟨he, hk⟩ => ⟨he, hk.below (Nat.le_refl _) (by simp)⟩)
  have CC := Lib.hid cC
  clear cC hs HE
  refine wp_region_quiet_below (by kernel_rfl) (by kernel_rfl) ?_
  repeat (first | go_big_quiet_step (exact CC.out _ _) | quiet_step (exact CC.out _ _))
  refine wpQuiet_nil ?_
  rintro _ ⟨⟨dq, osq⟩, rfl⟩
  have hk3 := Kept.ofBelow (below_regrown W2 dq osq) []
  clear b0 d0 d1 CC
  generalize grow (redrawn W2 dq) osq = W3 at hk3 ⊢
  have Hk3 := Lib.hid (Hk2.out.trans hk3)
  clear hk3
  go_wp2_with fail
  go_ret
  exact ⟨rfl, Hk3.out⟩
/-- One of two method values. -/
theorem index_first (x y : Addr) (w : World) : (Instr.index 61 (.agg #[.func (.func 30) #[.pointer (some x)] #[], .func (.func 30) #[.pointer (some y)] #[]]) (.int .i64 0)).run Try.prog w = .ok (.func (.func 30) #[.pointer (some x)] #[]) w := by kernel_rfl
theorem index_second (x y : Addr) (w : World) : (Instr.index 61 (.agg #[.func (.func 30) #[.pointer (some x)] #[], .func (.func 30) #[.pointer (some y)] #[]]) (.int .i64 1)).run Try.prog w = .ok (.func (.func 30) #[.pointer (some y)] #[]) w := by kernel_rfl

set_option maxRecDepth 100000 in
set_option maxHeartbeats 8000000 in
theorem add_yes (w : World) (p : Nat) (ns : List Nd) (h : Rs w p ns) (hf : Fine 0 (runsIn ns)) (a n : Nat) (hn : 1 ≤ n) (hv : a + n ≤ 65536) (hfree : ∀ q Q, postN ns (a : Nat) = q :: Q → a + n ≤ q.a) :
    Calls Try.prog 11 #[.pointer (some ⟨p, 0, none⟩), runV a n] w fun e w' => e = .returned (.int .i64 0) ∧ Now w p ns (addV (runsIn ns) a n) w' := by
  have hka : ∀ o, Kept [] w (w.alloc o) := fun o => (Kept.refl [] w).alloc o
  have HC := Lib.hid (fun x => check_ok p (a : Nat) (n : Nat) x (by omega) (by omega) (by omega) (by omega))
  rw [show errOf (valid (a : Nat) (n : Nat)) = 0 from by rw [(valid_iff _ _).2 (by omega)]; rfl] at HC
  have HBl := Lib.hid (fun x (hk : Kept [] w x) => below_ok x p ns (h.keep0 hk) (fun n hn => (fine_mem hf n hn).1) (a : Nat))
  have Hn := Lib.hid (fun x (hk : Kept [] w x) => rs_next (h.keep0 hk) (a : Nat))
  have Hs := Lib.hid (fun x (hk : Kept [] w x) => (rs_parts (h.keep0 hk) (a : Nat)).2.1)
  have HE := Lib.hid (fun x => end_ok (a : Nat) (n : Nat) x (by omega) (by omega))
  have hpq := preN_postN ns (a : Nat)
  have HR := Lib.hid (fun x (hk : Kept [] w x) => (show Rs x p (preN ns (a : Nat) ++ postN ns (a : Nat)) from by rw [hpq]; exact h.keep0 hk))
  have HV : Hid (∀ A : Nat, addV (runsIn ns) a n = runsIn (downN (preN ns (a : Nat)) (upN ⟨A, a, n⟩ (postN ns (a : Nat))))) := Lib.hid fun A => by
    obtain ⟨l, Q', e⟩ := upN_cons ⟨A, a, n⟩ (postN ns (a : Nat))
    rw [e, downN_runs, ← e, upN_runs, preN_runs, postN_runs]
    rfl
  have hsm : Small ns := fun n hn => (fine_mem hf n hn).1
  have HSm : Hid (∀ A : Nat, Small (preN ns (a : Nat) ++ upN ⟨A, a, n⟩ (postN ns (a : Nat))) ∧ Small ((⟨A, a, n⟩ : Nd) :: postN ns (a : Nat))) := Lib.hid fun A => by
    have h2 : Small ((⟨A, a, n⟩ : Nd) :: postN ns (a : Nat)) := fun k hk => by
      rcases List.mem_cons.1 hk with rfl | hk
      · exact hv
      · exact hsm k (by rw [← hpq]; exact List.mem_append_right _ hk)
    refine ⟨fun k hk => ?_, h2⟩
    rcases List.mem_append.1 hk with hk | hk
    · exact hsm k (by rw [← hpq]; exact List.mem_append_left _ hk)
    · exact h2.up k hk
  have HLt := Lib.hid h.mem
  have HBk : Hid (∀ b, b ∈ blocks p ns ↔ b = p ∨ (∃ k ∈ preN ns (a : Nat), b = k.b) ∨ ∃ k ∈ postN ns (a : Nat), b = k.b) := Lib.hid fun b => by
    have hbm : b ∈ blocks p ns ↔ b = p ∨ ∃ k ∈ ns, b = k.b := by
      simp only [blocks, List.mem_cons, List.mem_map]
      constructor
      · rintro (h | ⟨k, h1, h2⟩)
        · exact .inl h
        · exact .inr ⟨k, h1, h2.symm⟩
      · rintro (h | ⟨k, h1, h2⟩)
        · exact .inl h
        · exact .inr ⟨k, h1, h2.symm⟩
    rw [hbm]
    constructor
    · rintro (h | ⟨k, h1, h2⟩)
      · exact .inl h
      · rw [← hpq] at h1
        rcases List.mem_append.1 h1 with h1 | h1
        · exact .inr (.inl ⟨k, h1, h2⟩)
        · exact .inr (.inr ⟨k, h1, h2⟩)
    · rintro (h | ⟨k, h1, h2⟩ | ⟨k, h1, h2⟩)
      · exact .inl h
      · exact .inr ⟨k, by rw [← hpq]; exact List.mem_append_left _ h1, h2⟩
      · exact .inr ⟨k, by rw [← hpq]; exact List.mem_append_right _ h1, h2⟩
  have HPQ := Lib.hid hpq
  have HF := Lib.hid hfree
  clear hf h hpq hsm hfree
  obtain ⟨P, hP⟩ : ∃ P, P = preN ns (a : Nat) := ⟨_, rfl⟩
  obtain ⟨Q, hQ⟩ : ∃ Q, Q = postN ns (a : Nat) := ⟨_, rfl⟩
  rw [← hP] at HBl Hn HR HV HSm HBk HPQ
  rw [← hQ] at Hn Hs HR HV HSm HBk HPQ HF
  clear hP hQ
  unfold runV at *
  go_enter Try.func11, Try.ntmps11
  go_wp2_with fail
  have hB : Has (w.alloc (.cells #[.int .i64 (a : Int), .int .i64 (n : Int)] 29)) w.heap.size 29 [.int .i64 (a : Int), .int .i64 (n : Int)] := Has.new w _ [.int .i64 (a : Int), .int .i64 (n : Int)]
  have hk0 := hka (.cells #[.int .i64 (a : Int), .int .i64 (n : Int)] 29)
  generalize w.alloc (.cells #[.int .i64 (a : Int), .int .i64 (n : Int)] 29) = W0 at *
  obtain ⟨bx, hbx⟩ : ∃ bx, bx = w.heap.size := ⟨_, rfl⟩
  rw [← hbx] at hB ⊢
  have Hbx := Lib.hid hbx
  have HB := Lib.hid hB
  have Hk0 := Lib.hid hk0
  clear hB hk0 hka hbx
  refine (HC.out _).mono ?_
  rintro e W1 ⟨rfl, hk1⟩
  have HB1 := Lib.hid (HB.out.keep0 hk1)
  have Hk1 := Lib.hid (Hk0.out.trans hk1)
  have d0 := HB1.out.cell 0
  simp at d0
  clear hk1 HC
  go_wp2_with fail
  refine (HBl.out _ Hk1.out).mono ?_
  rintro e W2 ⟨rfl, hk2⟩
  have HB2 := Lib.hid (HB1.out.keep0 hk2)
  have Hk2 := Lib.hid (Hk1.out.trans hk2)
  have c2 := Hn.out W2 Hk2.out
  clear hk2 HBl d0
  generalize hlb : lastB p P = lb at *
  have Hlb := Lib.hid hlb
  clear hlb
  cases Q with
  | nil =>
    simp only [ptr] at c2
    go_wp2_with fail
    go_quiet (fail)
    have hk3 : Kept [] W2 (W2.drewN nq) := (Kept.refl [] W2).drewN nq
    generalize W2.drewN nq = W3 at hk3 ⊢
    have Hk3 := Lib.hid (Hk2.out.trans hk3)
    have HB3 := Lib.hid (HB2.out.keep0 hk3)
    clear hk3 c2
    have c2 : W3.cell? ⟨lb, 2, none⟩ = some (.pointer (none)) := Hn.out W3 Hk3.out
    have d0 := HB3.out.cell 0
    have d1 := HB3.out.cell 1
    simp at d0 d1
    go_wp2_with fail
    go_still_tail 6, (by kernel_rfl)
    change wpList _ _ _ _ _ W3.drew
    have hk4 : Kept [] W3 W3.drew := (Kept.refl [] W3).drew
    clear c2 d0 d1
    generalize W3.drew = W4 at hk4 ⊢
    have Hk4 := Lib.hid (Hk3.out.trans hk4)
    clear hk4
    have hk5 : Kept [] W4 (W4.alloc (.cells #[.int .i64 (a : Int), .int .i64 (n : Int), .pointer (none)] 52)) := (Kept.refl [] W4).alloc _
    have hm5 : Has (W4.alloc (.cells #[.int .i64 (a : Int), .int .i64 (n : Int), .pointer (none)] 52)) W4.heap.size 52 (linkV (a : Nat) (n : Nat) (none)) := Has.new W4 _ (linkV (a : Nat) (n : Nat) (none))
    have c2 : (W4.alloc (.cells #[.int .i64 (a : Int), .int .i64 (n : Int), .pointer (none)] 52)).cell? ⟨lb, 2, none⟩ = some (.pointer (none)) := Hn.out _ (Hk4.out.trans hk5)
    have f2 : (W4.alloc (.cells #[.int .i64 (a : Int), .int .i64 (n : Int), .pointer (none)] 52)).frozen? ⟨lb, 2, none⟩ = false := by
      obtain ⟨t, x, y, hh, _⟩ := (rs_iff.1 (HR.out _ (Hk4.out.trans hk5))).1.last
      rw [Hlb.out] at hh
      exact hh.free 2
    have Hk5 := Lib.hid (Hk4.out.trans hk5)
    have Hm5 := Lib.hid hm5
    have HA : Hid (w.heap.size ≤ W4.heap.size) := Lib.hid Hk4.out.more
    clear hk5 hm5
    go_wp2_with fail
    generalize W4.alloc (.cells #[.int .i64 (a : Int), .int .i64 (n : Int), .pointer (none)] 52) = W5 at *
    generalize W4.heap.size = A at *
    have HR5 := HR.out W5 Hk5.out
    have hlaid := rs_laid (m := ⟨A, a, n⟩) HR5 Hm5.out (fun k hk => by
      have := HLt.out k (by rw [← HPQ.out]; exact hk)
      have := HA.out
      show k.b ≠ A
      omega)
    rw [Hlb.out] at hlaid
    have hk6 : Kept (blocks p ns) w (W5.setCell ⟨lb, 2, none⟩ (.pointer (some ⟨A, 0, none⟩))) := (Hk5.out.none _).setCell _ _ (.inl (by
      rw [HBk.out]
      show lb = p ∨ _
      rcases lastB_mem p P with e | ⟨k, h1, e⟩
      · left; rw [← Hlb.out, e]
      · right; left; exact ⟨k, h1, by rw [← Hlb.out, e]⟩))
    generalize W5.setCell ⟨lb, 2, none⟩ (.pointer (some ⟨A, 0, none⟩)) = W6 at *
    have H6 : Hid (Kept (blocks p ns) w W6 ∧ Rs W6 p (P ++ (⟨A, a, n⟩ : Nd) :: ([]))) := Lib.hid ⟨hk6, hlaid⟩
    obtain ⟨ul, UQ, hU⟩ := upN_cons ⟨A, a, n⟩ ([])
    have HU := Lib.hid hU
    clear hk6 hlaid HR5 c2 f2 hU
    go_loopw [53] (fun i wr => ∃ k : Nat, k ≤ 2 ∧ i = .int .i64 (k : Int) ∧ Hid (Kept (blocks p ns) w wr ∧ Rs wr p (if k = 0 then P ++ (⟨A, a, n⟩ : Nd) :: ([]) else if k = 1 then P ++ upN ⟨A, a, n⟩ ([]) else downN P (upN ⟨A, a, n⟩ ([]))))) (fun i _ => 2 - (intOf i).toNat)
    case atStart => exact ⟨0, by omega, rfl, H6⟩
    case round =>
      clear H6
      obtain ⟨k, hk, rfl, hr⟩ := hrel
      match k, hk with
      | 0, _ =>
        have HJ := Lib.hid (joinUp wr p P ⟨A, a, n⟩ ([]) hr.out.2 (HSm.out A).2)
        have hix := index_first ⟨A, 0, none⟩ ⟨lb, 0, none⟩ wr
        go_wp2_with fail
        refine HJ.out.mono ?_
        rintro e y ⟨⟨v, rfl⟩, hR, hk⟩
        have HN : Hid (Kept (blocks p ns) w y ∧ Rs y p (P ++ upN ⟨A, a, n⟩ ([]))) := Lib.hid ⟨kept_also hr.out.1 hk fun i hi => by
          obtain rfl := List.mem_singleton.1 hi
          exact .inr HA.out, hR⟩
        clear hR hk HJ hix
        go_wp2_with fail
        go_roundw
        case rel => exact ⟨1, by omega, rfl, HN⟩
        case measure => simp [intOf]
      | 1, _ =>
        have hR1 : Rs wr p (P ++ (⟨A, a, ul⟩ : Nd) :: UQ) := by rw [← HU.out]; exact hr.out.2
        have HJ := Lib.hid (joinDown wr p P ⟨A, a, ul⟩ UQ hR1 (by rw [← HU.out]; exact (HSm.out A).1))
        rw [Hlb.out] at HJ
        clear hR1
        have hix := index_second ⟨A, 0, none⟩ ⟨lb, 0, none⟩ wr
        go_wp2_with fail
        refine HJ.out.mono ?_
        rintro e y ⟨⟨v, rfl⟩, hR, hk⟩
        have HN : Hid (Kept (blocks p ns) w y ∧ Rs y p (downN P (upN ⟨A, a, n⟩ ([])))) := Lib.hid ⟨kept_also hr.out.1 hk fun i hi => by
          obtain rfl := List.mem_singleton.1 hi
          left
          rw [HBk.out]
          rcases lastB_mem p P with e | ⟨k, h1, e⟩
          · left; rw [← Hlb.out, e]
          · right; left; exact ⟨k, h1, by rw [← Hlb.out, e]⟩, by rw [HU.out]; exact hR⟩
        clear hR hk HJ hix
        go_wp2_with fail
        go_roundw
        case rel => exact ⟨2, by omega, rfl, HN⟩
        case measure => simp [intOf]
      | 2, _ =>
        have HN : Hid (Now w p ns (addV (runsIn ns) a n) wr) := Lib.hid ⟨_, hr.out.2, (HV.out A).symm, hr.out.1, fun b hb => by
          rcases List.mem_cons.1 hb with rfl | hb
          · exact .inl List.mem_cons_self
          · obtain ⟨k, hk, rfl⟩ := List.mem_map.1 hb
            have hk' : k ∈ downN P (upN ⟨A, a, n⟩ ([])) := hk
            rw [HU.out] at hk'
            rcases downN_blocks P _ UQ k hk' with ⟨m, h1, h2⟩ | ⟨m, h1, h2⟩
            · left; rw [HBk.out]; exact .inr (.inl ⟨m, h1, h2⟩)
            · rw [← HU.out] at h1
              rcases upN_blocks _ ([]) m h1 with h3 | ⟨m', h3, h4⟩
              · right; rw [h2, h3]; exact HA.out
              · left; rw [HBk.out]; exact .inr (.inr ⟨m', h3, h2.trans h4⟩)⟩
        clear hr
        go_wp2_with fail
        go_ret
        exact ⟨rfl, HN.out⟩
  | cons q Q =>
    have hs := Hs.out W2 Hk2.out
    rw [Seg.cons] at hs
    obtain ⟨b, ra, rl⟩ := q
    have hge : (a : Int) + (n : Int) ≤ (ra : Int) := by
      have := HF.out _ _ rfl
      simp only at this
      omega
    simp only [ptr] at c2
    go_wp2_with fail
    have b0 := cell_regrown (show W2.cell? ⟨b, 0, none⟩ = some (.int .i64 (ra : Int)) from hs.1.cell 0)
    have d0 := cell_regrown (show W2.cell? ⟨bx, 0, none⟩ = some (.int .i64 (a : Int)) from HB2.out.cell 0)
    have d1 := cell_regrown (show W2.cell? ⟨bx, 1, none⟩ = some (.int .i64 (n : Int)) from HB2.out.cell 1)
    have cC : ∀ d os, Calls Try.prog 29 #[.agg #[.int .i64 (a : Int), .int .i64 (n : Int)]] (grow (redrawn W2 d) os) fun e w'' => e = .returned (.int .i64 ((a : Int) + (n : Int))) ∧ ∃ p : Regrown, w'' = grow (redrawn W2 p.d) p.os :=
      fun d os => Calls.regrown_of ((HE.out _).mono fun _ _ ⟨he, hk⟩ => ⟨he, hk.below (Nat.le_refl _) (by simp)⟩)
    have CC := Lib.hid cC
    clear cC hs HE
    refine wp_region_quiet_below (by kernel_rfl) (by kernel_rfl) ?_
    repeat (first | go_big_quiet_step (exact CC.out _ _) | quiet_step (exact CC.out _ _))
    refine wpQuiet_nil ?_
    rintro _ ⟨⟨dq, osq⟩, rfl⟩
    have hk3 := Kept.ofBelow (below_regrown W2 dq osq) []
    clear b0 d0 d1 CC
    generalize grow (redrawn W2 dq) osq = W3 at hk3 ⊢
    have Hk3 := Lib.hid (Hk2.out.trans hk3)
    have HB3 := Lib.hid (HB2.out.keep0 hk3)
    clear hk3 c2
    have c2 : W3.cell? ⟨lb, 2, none⟩ = some (.pointer (some ⟨b, 0, none⟩)) := Hn.out W3 Hk3.out
    have d0 := HB3.out.cell 0
    have d1 := HB3.out.cell 1
    simp at d0 d1
    go_wp2_with fail
    go_still_tail 6, (by kernel_rfl)
    change wpList _ _ _ _ _ W3.drew
    have hk4 : Kept [] W3 W3.drew := (Kept.refl [] W3).drew
    clear c2 d0 d1
    generalize W3.drew = W4 at hk4 ⊢
    have Hk4 := Lib.hid (Hk3.out.trans hk4)
    clear hk4
    have hk5 : Kept [] W4 (W4.alloc (.cells #[.int .i64 (a : Int), .int .i64 (n : Int), .pointer (some ⟨b, 0, none⟩)] 52)) := (Kept.refl [] W4).alloc _
    have hm5 : Has (W4.alloc (.cells #[.int .i64 (a : Int), .int .i64 (n : Int), .pointer (some ⟨b, 0, none⟩)] 52)) W4.heap.size 52 (linkV (a : Nat) (n : Nat) (some ⟨b, 0, none⟩)) := Has.new W4 _ (linkV (a : Nat) (n : Nat) (some ⟨b, 0, none⟩))
    have c2 : (W4.alloc (.cells #[.int .i64 (a : Int), .int .i64 (n : Int), .pointer (some ⟨b, 0, none⟩)] 52)).cell? ⟨lb, 2, none⟩ = some (.pointer (some ⟨b, 0, none⟩)) := Hn.out _ (Hk4.out.trans hk5)
    have f2 : (W4.alloc (.cells #[.int .i64 (a : Int), .int .i64 (n : Int), .pointer (some ⟨b, 0, none⟩)] 52)).frozen? ⟨lb, 2, none⟩ = false := by
      obtain ⟨t, x, y, hh, _⟩ := (rs_iff.1 (HR.out _ (Hk4.out.trans hk5))).1.last
      rw [Hlb.out] at hh
      exact hh.free 2
    have Hk5 := Lib.hid (Hk4.out.trans hk5)
    have Hm5 := Lib.hid hm5
    have HA : Hid (w.heap.size ≤ W4.heap.size) := Lib.hid Hk4.out.more
    clear hk5 hm5
    go_wp2_with fail
    generalize W4.alloc (.cells #[.int .i64 (a : Int), .int .i64 (n : Int), .pointer (some ⟨b, 0, none⟩)] 52) = W5 at *
    generalize W4.heap.size = A at *
    have HR5 := HR.out W5 Hk5.out
    have hlaid := rs_laid (m := ⟨A, a, n⟩) HR5 Hm5.out (fun k hk => by
      have := HLt.out k (by rw [← HPQ.out]; exact hk)
      have := HA.out
      show k.b ≠ A
      omega)
    rw [Hlb.out] at hlaid
    have hk6 : Kept (blocks p ns) w (W5.setCell ⟨lb, 2, none⟩ (.pointer (some ⟨A, 0, none⟩))) := (Hk5.out.none _).setCell _ _ (.inl (by
      rw [HBk.out]
      show lb = p ∨ _
      rcases lastB_mem p P with e | ⟨k, h1, e⟩
      · left; rw [← Hlb.out, e]
      · right; left; exact ⟨k, h1, by rw [← Hlb.out, e]⟩))
    generalize W5.setCell ⟨lb, 2, none⟩ (.pointer (some ⟨A, 0, none⟩)) = W6 at *
    have H6 : Hid (Kept (blocks p ns) w W6 ∧ Rs W6 p (P ++ (⟨A, a, n⟩ : Nd) :: ((⟨b, ra, rl⟩ : Nd) :: Q))) := Lib.hid ⟨hk6, hlaid⟩
    obtain ⟨ul, UQ, hU⟩ := upN_cons ⟨A, a, n⟩ ((⟨b, ra, rl⟩ : Nd) :: Q)
    have HU := Lib.hid hU
    clear hk6 hlaid HR5 c2 f2 hU
    go_loopw [53] (fun i wr => ∃ k : Nat, k ≤ 2 ∧ i = .int .i64 (k : Int) ∧ Hid (Kept (blocks p ns) w wr ∧ Rs wr p (if k = 0 then P ++ (⟨A, a, n⟩ : Nd) :: ((⟨b, ra, rl⟩ : Nd) :: Q) else if k = 1 then P ++ upN ⟨A, a, n⟩ ((⟨b, ra, rl⟩ : Nd) :: Q) else downN P (upN ⟨A, a, n⟩ ((⟨b, ra, rl⟩ : Nd) :: Q))))) (fun i _ => 2 - (intOf i).toNat)
    case atStart => exact ⟨0, by omega, rfl, H6⟩
    case round =>
      clear H6
      obtain ⟨k, hk, rfl, hr⟩ := hrel
      match k, hk with
      | 0, _ =>
        have HJ := Lib.hid (joinUp wr p P ⟨A, a, n⟩ ((⟨b, ra, rl⟩ : Nd) :: Q) hr.out.2 (HSm.out A).2)
        have hix := index_first ⟨A, 0, none⟩ ⟨lb, 0, none⟩ wr
        go_wp2_with fail
        refine HJ.out.mono ?_
        rintro e y ⟨⟨v, rfl⟩, hR, hk⟩
        have HN : Hid (Kept (blocks p ns) w y ∧ Rs y p (P ++ upN ⟨A, a, n⟩ ((⟨b, ra, rl⟩ : Nd) :: Q))) := Lib.hid ⟨kept_also hr.out.1 hk fun i hi => by
          obtain rfl := List.mem_singleton.1 hi
          exact .inr HA.out, hR⟩
        clear hR hk HJ hix
        go_wp2_with fail
        go_roundw
        case rel => exact ⟨1, by omega, rfl, HN⟩
        case measure => simp [intOf]
      | 1, _ =>
        have hR1 : Rs wr p (P ++ (⟨A, a, ul⟩ : Nd) :: UQ) := by rw [← HU.out]; exact hr.out.2
        have HJ := Lib.hid (joinDown wr p P ⟨A, a, ul⟩ UQ hR1 (by rw [← HU.out]; exact (HSm.out A).1))
        rw [Hlb.out] at HJ
        clear hR1
        have hix := index_second ⟨A, 0, none⟩ ⟨lb, 0, none⟩ wr
        go_wp2_with fail
        refine HJ.out.mono ?_
        rintro e y ⟨⟨v, rfl⟩, hR, hk⟩
        have HN : Hid (Kept (blocks p ns) w y ∧ Rs y p (downN P (upN ⟨A, a, n⟩ ((⟨b, ra, rl⟩ : Nd) :: Q)))) := Lib.hid ⟨kept_also hr.out.1 hk fun i hi => by
          obtain rfl := List.mem_singleton.1 hi
          left
          rw [HBk.out]
          rcases lastB_mem p P with e | ⟨k, h1, e⟩
          · left; rw [← Hlb.out, e]
          · right; left; exact ⟨k, h1, by rw [← Hlb.out, e]⟩, by rw [HU.out]; exact hR⟩
        clear hR hk HJ hix
        go_wp2_with fail
        go_roundw
        case rel => exact ⟨2, by omega, rfl, HN⟩
        case measure => simp [intOf]
      | 2, _ =>
        have HN : Hid (Now w p ns (addV (runsIn ns) a n) wr) := Lib.hid ⟨_, hr.out.2, (HV.out A).symm, hr.out.1, fun b hb => by
          rcases List.mem_cons.1 hb with rfl | hb
          · exact .inl List.mem_cons_self
          · obtain ⟨k, hk, rfl⟩ := List.mem_map.1 hb
            have hk' : k ∈ downN P (upN ⟨A, a, n⟩ ((⟨b, ra, rl⟩ : Nd) :: Q)) := hk
            rw [HU.out] at hk'
            rcases downN_blocks P _ UQ k hk' with ⟨m, h1, h2⟩ | ⟨m, h1, h2⟩
            · left; rw [HBk.out]; exact .inr (.inl ⟨m, h1, h2⟩)
            · rw [← HU.out] at h1
              rcases upN_blocks _ ((⟨b, ra, rl⟩ : Nd) :: Q) m h1 with h3 | ⟨m', h3, h4⟩
              · right; rw [h2, h3]; exact HA.out
              · left; rw [HBk.out]; exact .inr (.inr ⟨m', h3, h2.trans h4⟩)⟩
        clear hr
        go_wp2_with fail
        go_ret
        exact ⟨rfl, HN.out⟩
/-- What Add answers, and what it makes of the runs. -/
def addE (rs : List R) (a n : Int) : Int := cond (valid a n) (cond (freeB rs a.toNat n.toNat) 0 9) 2
def addW (rs : List R) (a n : Int) : List R := cond (valid a n && freeB rs a.toNat n.toNat) (addV rs a.toNat n.toNat) rs
theorem add_all (w : World) (p : Nat) (ns : List Nd) (h : Rs w p ns) (hf : Fine 0 (runsIn ns)) (a n : Int) (a1 : -9223372036854775808 ≤ a) (a2 : a ≤ 9223372036854775807) (n1 : -9223372036854775808 ≤ n) (n2 : n ≤ 9223372036854775807) :
    Calls Try.prog 11 #[.pointer (some ⟨p, 0, none⟩), runV a n] w fun e w' => e = .returned (.int .i64 (addE (runsIn ns) a n)) ∧ Now w p ns (addW (runsIn ns) a n) w' := by
  unfold addE addW
  cases hv : valid a n with
  | false => exact (add_bad w p a n a1 a2 n1 n2 hv).mono fun e w' ⟨he, hk⟩ => ⟨he, Now.same h hk⟩
  | true =>
    obtain ⟨v1, v2, v3⟩ := (valid_iff a n).1 hv
    obtain ⟨x, rfl⟩ := Int.eq_ofNat_of_zero_le v1
    obtain ⟨y, rfl⟩ := Int.eq_ofNat_of_zero_le (show 0 ≤ n by omega)
    simp only [Int.toNat_natCast, Bool.true_and, cond_true]
    have hfr : freeB (runsIn ns) x y = match postN ns (x : Nat) with | [] => true | q :: _ => !decide (q.a < x + y) := by
      unfold freeB
      rw [← postN_runs]
      cases postN ns (x : Nat) <;> rfl
    cases hq : freeB (runsIn ns) x y with
    | true =>
      rw [hq] at hfr
      exact add_yes w p ns h hf x y (by omega) (by omega) fun q Q e => by
        rw [e] at hfr
        have hfr : true = !decide (q.a < x + y) := hfr
        by_cases c : q.a < x + y
        · rw [decide_eq_true c] at hfr; cases hfr
        · omega
    | false =>
      rw [hq] at hfr
      cases hp : postN ns (x : Nat) with
      | nil => rw [hp] at hfr; cases hfr
      | cons q Q =>
        rw [hp] at hfr
        have hfr : false = !decide (q.a < x + y) := hfr
        by_cases c : q.a < x + y
        · exact (add_have w p ns h hf x y (by omega) (by omega) q Q hp c).mono fun e w' ⟨he, hk⟩ => ⟨he, Now.same h hk⟩
        · rw [decide_eq_false c] at hfr; cases hfr
end Go.Proofs.Ytbgonppichdhiaa.Rn
