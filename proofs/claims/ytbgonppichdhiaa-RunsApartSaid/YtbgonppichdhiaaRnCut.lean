/-
  The contract of Cut.
-/
import Derived.Test.YtbgonppichdhiaaRnAdd
import Derived.Test.YtbgonppichdhiaaRnWithout
namespace Go.Proofs.Ytbgonppichdhiaa.Rn
open Go.RowKit Go.Proofs.Ytbgonppichdhiaa.Ar Go.Proofs.Ytbgonppichdhiaa.Bt Go.Proofs.Ytbgonppichdhiaa.Lk Go.Sort
set_option linter.unusedVariables false

theorem cut_nil (w : World) (a n : Int) :
    Calls Try.prog 12 #[.pointer none, runV a n] w fun e w' => e = .returned (.int .i64 1) ∧ Kept [] w w' := by
  have hka : ∀ o, Kept [] w (w.alloc o) := fun o => (Kept.refl [] w).alloc o
  have HC := Lib.hid (fun x => check_nil a n x)
  unfold runV at *
  go_enter Try.func12, Try.ntmps12
  go_wp2_with fail
  refine (HC.out _).mono ?_
  rintro e w1 ⟨rfl, hk⟩
  have Hk := Lib.hid ((hka (.cells #[.int .i64 a, .int .i64 n] 29)).trans hk)
  clear hk
  go_wp2_with fail
  go_ret
  exact ⟨rfl, Hk.out⟩
theorem cut_bad (w : World) (p : Nat) (a n : Int) (a1 : -9223372036854775808 ≤ a) (a2 : a ≤ 9223372036854775807) (n1 : -9223372036854775808 ≤ n) (n2 : n ≤ 9223372036854775807) (hv : valid a n = false) :
    Calls Try.prog 12 #[.pointer (some ⟨p, 0, none⟩), runV a n] w fun e w' => e = .returned (.int .i64 2) ∧ Kept [] w w' := by
  have hka : ∀ o, Kept [] w (w.alloc o) := fun o => (Kept.refl [] w).alloc o
  have HC := Lib.hid (fun x => check_ok p a n x a1 a2 n1 n2)
  rw [show errOf (valid a n) = 2 from by rw [hv]; rfl] at HC
  clear hv
  unfold runV at *
  go_enter Try.func12, Try.ntmps12
  go_wp2_with fail
  refine (HC.out _).mono ?_
  rintro e w1 ⟨rfl, hk⟩
  have Hk := Lib.hid ((hka (.cells #[.int .i64 a, .int .i64 n] 29)).trans hk)
  clear hk
  go_wp2_with fail
  go_ret
  exact ⟨rfl, Hk.out⟩
set_option maxHeartbeats 4000000 in
theorem cut_none (w : World) (p : Nat) (ns : List Nd) (h : Rs w p ns) (hf : Fine 0 (runsIn ns)) (a n : Nat) (hn : 1 ≤ n) (hv : a + n ≤ 65536) (hq : postN ns (a : Nat) = []) :
    Calls Try.prog 12 #[.pointer (some ⟨p, 0, none⟩), runV a n] w fun e w' => e = .returned (.int .i64 3) ∧ Kept [] w w' := by
  have hka : ∀ o, Kept [] w (w.alloc o) := fun o => (Kept.refl [] w).alloc o
  have HC := Lib.hid (fun x => check_ok p (a : Nat) (n : Nat) x (by omega) (by omega) (by omega) (by omega))
  rw [show errOf (valid (a : Nat) (n : Nat)) = 0 from by rw [(valid_iff _ _).2 (by omega)]; rfl] at HC
  have HBl := Lib.hid (fun x (hk : Kept [] w x) => below_ok x p ns (h.keep0 hk) (fun n hn => (fine_mem hf n hn).1) (a : Nat))
  have Hn := Lib.hid (fun x (hk : Kept [] w x) => rs_next (h.keep0 hk) (a : Nat))
  have Hs := Lib.hid (fun x (hk : Kept [] w x) => (rs_parts (h.keep0 hk) (a : Nat)).2.1)
  rw [hq] at Hn Hs
  clear hf h hq Hs
  generalize lastB p (preN ns (a : Nat)) = lb at *
  unfold runV at *
  go_enter Try.func12, Try.ntmps12
  go_wp2_with fail
  have hB : Has (w.alloc (.cells #[.int .i64 (a : Int), .int .i64 (n : Int)] 29)) w.heap.size 29 [.int .i64 (a : Int), .int .i64 (n : Int)] := Has.new w _ [.int .i64 (a : Int), .int .i64 (n : Int)]
  have hk0 := hka (.cells #[.int .i64 (a : Int), .int .i64 (n : Int)] 29)
  generalize w.alloc (.cells #[.int .i64 (a : Int), .int .i64 (n : Int)] 29) = W0 at *
  obtain ⟨bx, hbx⟩ : ∃ bx, bx = w.heap.size := ⟨_, rfl⟩
  rw [← hbx] at hB ⊢
  have HB := Lib.hid hB
  have Hk0 := Lib.hid hk0
  clear hB hk0 hka hbx
  refine (HC.out _).mono ?_
  rintro e W1 ⟨rfl, hk1⟩
  have HB1 := Lib.hid (HB.out.keep0 hk1)
  have Hk1 := Lib.hid (Hk0.out.trans hk1)
  have d0 := HB1.out.cell 0
  simp at d0
  clear hk1 HC
  go_wp2_with fail
  refine (HBl.out _ Hk1.out).mono ?_
  rintro e W2 ⟨rfl, hk2⟩
  have HB2 := Lib.hid (HB1.out.keep0 hk2)
  have Hk2 := Lib.hid (Hk1.out.trans hk2)
  have c2 := Hn.out W2 Hk2.out
  clear hk2 HBl d0
  simp only [ptr] at c2
  go_wp2_with fail
  go_quiet (fail)
  have Hk3 := Lib.hid (Hk2.out.drewN nq)
  go_wp2_with fail
  go_ret
  exact ⟨rfl, Hk3.out⟩
set_option maxHeartbeats 4000000 in
theorem cut_high (w : World) (p : Nat) (ns : List Nd) (h : Rs w p ns) (hf : Fine 0 (runsIn ns)) (a n : Nat) (hn : 1 ≤ n) (hv : a + n ≤ 65536) (b ra rl : Nat) (Q : List Nd) (hq : postN ns (a : Nat) = ⟨b, ra, rl⟩ :: Q) (hlt : a < ra) :
    Calls Try.prog 12 #[.pointer (some ⟨p, 0, none⟩), runV a n] w fun e w' => e = .returned (.int .i64 3) ∧ Kept [] w w' := by
  have hka : ∀ o, Kept [] w (w.alloc o) := fun o => (Kept.refl [] w).alloc o
  have HC := Lib.hid (fun x => check_ok p (a : Nat) (n : Nat) x (by omega) (by omega) (by omega) (by omega))
  rw [show errOf (valid (a : Nat) (n : Nat)) = 0 from by rw [(valid_iff _ _).2 (by omega)]; rfl] at HC
  have HBl := Lib.hid (fun x (hk : Kept [] w x) => below_ok x p ns (h.keep0 hk) (fun n hn => (fine_mem hf n hn).1) (a : Nat))
  have Hn := Lib.hid (fun x (hk : Kept [] w x) => rs_next (h.keep0 hk) (a : Nat))
  have Hs := Lib.hid (fun x (hk : Kept [] w x) => (rs_parts (h.keep0 hk) (a : Nat)).2.1)
  have hrb : ra + rl ≤ 65536 := (fine_mem hf ⟨b, ra, rl⟩ (by rw [← preN_postN ns (a : Nat), hq]; simp)).1
  rw [hq] at Hn Hs
  clear hf h hq
  generalize lastB p (preN ns (a : Nat)) = lb at *
  have hltI : (a : Int) < (ra : Int) := by omega
  unfold runV at *
  go_enter Try.func12, Try.ntmps12
  go_wp2_with fail
  have hB : Has (w.alloc (.cells #[.int .i64 (a : Int), .int .i64 (n : Int)] 29)) w.heap.size 29 [.int .i64 (a : Int), .int .i64 (n : Int)] := Has.new w _ [.int .i64 (a : Int), .int .i64 (n : Int)]
  have hk0 := hka (.cells #[.int .i64 (a : Int), .int .i64 (n : Int)] 29)
  generalize w.alloc (.cells #[.int .i64 (a : Int), .int .i64 (n : Int)] 29) = W0 at *
  obtain ⟨bx, hbx⟩ : ∃ bx, bx = w.heap.size := ⟨_, rfl⟩
  rw [← hbx] at hB ⊢
  have HB := Lib.hid hB
  have Hk0 := Lib.hid hk0
  clear hB hk0 hka hbx
  refine (HC.out _).mono ?_
  rintro e W1 ⟨rfl, hk1⟩
  have HB1 := Lib.hid (HB.out.keep0 hk1)
  have Hk1 := Lib.hid (Hk0.out.trans hk1)
  have d0 := HB1.out.cell 0
  simp at d0
  clear hk1 HC
  go_wp2_with fail
  refine (HBl.out _ Hk1.out).mono ?_
  rintro e W2 ⟨rfl, hk2⟩
  have HB2 := Lib.hid (HB1.out.keep0 hk2)
  have Hk2 := Lib.hid (Hk1.out.trans hk2)
  have c2 := Hn.out W2 Hk2.out
  clear hk2 HBl d0
  have hs := Hs.out W2 Hk2.out
  rw [Seg.cons] at hs
  simp only [ptr] at c2
  go_wp2_with fail
  have b0 := cell_regrown (show W2.cell? ⟨b, 0, none⟩ = some (.int .i64 (ra : Int)) from hs.1.cell 0)
  have b1 := cell_regrown (show W2.cell? ⟨b, 1, none⟩ = some (.int .i64 (rl : Int)) from hs.1.cell 1)
  have d0 := cell_regrown (show W2.cell? ⟨bx, 0, none⟩ = some (.int .i64 (a : Int)) from HB2.out.cell 0)
  have d1 := cell_regrown (show W2.cell? ⟨bx, 1, none⟩ = some (.int .i64 (n : Int)) from HB2.out.cell 1)
  have cC : ∀ (x y : Nat), x + y ≤ 65536 → ∀ d os, Calls Try.prog 29 #[runV x y] (grow (redrawn W2 d) os) fun e w'' => e = .returned (.int .i64 ((x : Int) + (y : Int))) ∧ ∃ p : Regrown, w'' = grow (redrawn W2 p.d) p.os :=
    fun x y hxy d os => Calls.regrown_of ((end_ok x y _ (by omega) (by omega)).mono fun _ _ ⟨he, hk⟩ => ⟨he, hk.below (Nat.le_refl _) (by simp)⟩)
  unfold runV at cC
  have CR := Lib.hid (cC ra rl hrb)
  have CA := Lib.hid (cC a n hv)
  clear cC hs
  refine wp_region_quiet_below (by kernel_rfl) (by kernel_rfl) ?_
  repeat (first | go_big_quiet_step (first | exact CR.out _ _ | exact CA.out _ _) | quiet_step (first | exact CR.out _ _ | exact CA.out _ _))
  refine wpQuiet_nil ?_
  rintro _ ⟨⟨dq, osq⟩, rfl⟩
  have hk3 := Kept.ofBelow (below_regrown W2 dq osq) []
  clear b0 b1 d0 d1 CR
  generalize grow (redrawn W2 dq) osq = W3 at hk3 ⊢
  have Hk3 := Lib.hid (Hk2.out.trans hk3)
  clear hk3 CA
  go_wp2_with fail
  go_ret
  exact ⟨rfl, Hk3.out⟩
set_option maxHeartbeats 4000000 in
theorem cut_short (w : World) (p : Nat) (ns : List Nd) (h : Rs w p ns) (hf : Fine 0 (runsIn ns)) (a n : Nat) (hn : 1 ≤ n) (hv : a + n ≤ 65536) (b ra rl : Nat) (Q : List Nd) (hq : postN ns (a : Nat) = ⟨b, ra, rl⟩ :: Q) (hle : ra ≤ a) (hlt : ra + rl < a + n) :
    Calls Try.prog 12 #[.pointer (some ⟨p, 0, none⟩), runV a n] w fun e w' => e = .returned (.int .i64 3) ∧ Kept [] w w' := by
  have hka : ∀ o, Kept [] w (w.alloc o) := fun o => (Kept.refl [] w).alloc o
  have HC := Lib.hid (fun x => check_ok p (a : Nat) (n : Nat) x (by omega) (by omega) (by omega) (by omega))
  rw [show errOf (valid (a : Nat) (n : Nat)) = 0 from by rw [(valid_iff _ _).2 (by omega)]; rfl] at HC
  have HBl := Lib.hid (fun x (hk : Kept [] w x) => below_ok x p ns (h.keep0 hk) (fun n hn => (fine_mem hf n hn).1) (a : Nat))
  have Hn := Lib.hid (fun x (hk : Kept [] w x) => rs_next (h.keep0 hk) (a : Nat))
  have Hs := Lib.hid (fun x (hk : Kept [] w x) => (rs_parts (h.keep0 hk) (a : Nat)).2.1)
  have hrb : ra + rl ≤ 65536 := (fine_mem hf ⟨b, ra, rl⟩ (by rw [← preN_postN ns (a : Nat), hq]; simp)).1
  rw [hq] at Hn Hs
  clear hf h hq
  generalize lastB p (preN ns (a : Nat)) = lb at *
  have hleI : (ra : Int) ≤ (a : Int) := by omega
  have hltI : (ra : Int) + (rl : Int) < (a : Int) + (n : Int) := by omega
  unfold runV at *
  go_enter Try.func12, Try.ntmps12
  go_wp2_with fail
  have hB : Has (w.alloc (.cells #[.int .i64 (a : Int), .int .i64 (n : Int)] 29)) w.heap.size 29 [.int .i64 (a : Int), .int .i64 (n : Int)] := Has.new w _ [.int .i64 (a : Int), .int .i64 (n : Int)]
  have hk0 := hka (.cells #[.int .i64 (a : Int), .int .i64 (n : Int)] 29)
  generalize w.alloc (.cells #[.int .i64 (a : Int), .int .i64 (n : Int)] 29) = W0 at *
  obtain ⟨bx, hbx⟩ : ∃ bx, bx = w.heap.size := ⟨_, rfl⟩
  rw [← hbx] at hB ⊢
  have HB := Lib.hid hB
  have Hk0 := Lib.hid hk0
  clear hB hk0 hka hbx
  refine (HC.out _).mono ?_
  rintro e W1 ⟨rfl, hk1⟩
  have HB1 := Lib.hid (HB.out.keep0 hk1)
  have Hk1 := Lib.hid (Hk0.out.trans hk1)
  have d0 := HB1.out.cell 0
  simp at d0
  clear hk1 HC
  go_wp2_with fail
  refine (HBl.out _ Hk1.out).mono ?_
  rintro e W2 ⟨rfl, hk2⟩
  have HB2 := Lib.hid (HB1.out.keep0 hk2)
  have Hk2 := Lib.hid (Hk1.out.trans hk2)
  have c2 := Hn.out W2 Hk2.out
  clear hk2 HBl d0
  have hs := Hs.out W2 Hk2.out
  rw [Seg.cons] at hs
  simp only [ptr] at c2
  go_wp2_with fail
  have b0 := cell_regrown (show W2.cell? ⟨b, 0, none⟩ = some (.int .i64 (ra : Int)) from hs.1.cell 0)
  have b1 := cell_regrown (show W2.cell? ⟨b, 1, none⟩ = some (.int .i64 (rl : Int)) from hs.1.cell 1)
  have d0 := cell_regrown (show W2.cell? ⟨bx, 0, none⟩ = some (.int .i64 (a : Int)) from HB2.out.cell 0)
  have d1 := cell_regrown (show W2.cell? ⟨bx, 1, none⟩ = some (.int .i64 (n : Int)) from HB2.out.cell 1)
  have cC : ∀ (x y : Nat), x + y ≤ 65536 → ∀ d os, Calls Try.prog 29 #[runV x y] (grow (redrawn W2 d) os) fun e w'' => e = .returned (.int .i64 ((x : Int) + (y : Int))) ∧ ∃ p : Regrown, w'' = grow (redrawn W2 p.d) p.os :=
    fun x y hxy d os => Calls.regrown_of ((end_ok x y _ (by omega) (by omega)).mono fun _ _ ⟨he, hk⟩ => ⟨he, hk.below (Nat.le_refl _) (by simp)⟩)
  unfold runV at cC
  have CR := Lib.hid (cC ra rl hrb)
  have CA := Lib.hid (cC a n hv)
  clear cC hs
  refine wp_region_quiet_below (by kernel_rfl) (by kernel_rfl) ?_
  repeat (first | go_big_quiet_step (first | exact CR.out _ _ | exact CA.out _ _) | quiet_step (first | exact CR.out _ _ | exact CA.out _ _))
  refine wpQuiet_nil ?_
  rintro _ ⟨⟨dq, osq⟩, rfl⟩
  have hk3 := Kept.ofBelow (below_regrown W2 dq osq) []
  clear b0 b1 d0 d1 CR
  generalize grow (redrawn W2 dq) osq = W3 at hk3 ⊢
  have Hk3 := Lib.hid (Hk2.out.trans hk3)
  clear hk3 CA
  go_wp2_with fail
  go_ret
  exact ⟨rfl, Hk3.out⟩

/-- A link is put away: others stand in its place. -/
theorem rs_swap {x : World} {p : Nat} {P Q N : List Nd} {q : Nd} (h : Rs x p (P ++ q :: Q)) (hN : Seg x (ptr Q) N) (hn : (N.map Nd.b).Nodup) (hnew : ∀ m ∈ N, ∀ k ∈ P ++ q :: Q, k.b ≠ m.b) :
    Rs (x.setCell ⟨lastB p P, 2, none⟩ (.pointer (front (ptr Q) N))) p (P ++ (N ++ Q)) := by
  obtain ⟨h1, h2, h3⟩ := rs_iff.1 h
  have hk : Kept [lastB p P] x (x.setCell ⟨lastB p P, 2, none⟩ (.pointer (front (ptr Q) N))) := (Kept.refl _ x).setCell _ _ (.inl (by simp))
  have hap := h3
  rw [List.map_append, List.nodup_append] at hap
  obtain ⟨n1, n2, n3⟩ := hap
  rw [List.map_cons, List.nodup_cons] at n2
  rw [Seg.cons] at h2
  have hQ : ∀ n ∈ Q, n.b ≠ lastB p P := fun n hn => by
    rcases lastB_mem p P with e | ⟨k, hk', e⟩
    · rw [e]
      obtain ⟨v, hv⟩ := h2.2.mem n hn
      exact Has.block_type hv h1.1 (by decide)
    · rw [e]
      exact fun hb => n3 k.b (List.mem_map_of_mem hk') n.b (List.mem_cons_of_mem _ (List.mem_map_of_mem hn)) hb.symm
  have hNl : ∀ n ∈ N, n.b ≠ lastB p P := fun n hn => by
    rcases lastB_mem p P with e | ⟨k, hk', e⟩
    · rw [e]
      obtain ⟨v, hv⟩ := hN.mem n hn
      exact Has.block_type hv h1.1 (by decide)
    · rw [e]
      exact (hnew n hn k (List.mem_append_left _ hk')).symm
  refine rs_iff.2 ⟨?_, Seg.append.2 ⟨?_, ?_⟩, ?_⟩
  · rw [← front_ptr]
    exact h1.next n1 _
  · rw [front_none]
    exact hN.kept hk fun n hn => by simp; exact hNl n hn
  · exact h2.2.kept hk fun n hn => by simp; exact hQ n hn
  · rw [List.map_append, List.map_append, List.nodup_append, List.nodup_append]
    refine ⟨n1, ⟨hn, n2.2, fun a ha b hb => ?_⟩, fun a ha b hb => ?_⟩
    · obtain ⟨m, hm, rfl⟩ := List.mem_map.1 ha
      obtain ⟨k, hk', rfl⟩ := List.mem_map.1 hb
      exact (hnew m hm k (by simp [hk'])).symm
    · rcases List.mem_append.1 hb with hb | hb
      · obtain ⟨m, hm, rfl⟩ := List.mem_map.1 hb
        obtain ⟨k, hk', rfl⟩ := List.mem_map.1 ha
        exact hnew m hm k (by simp [hk'])
      · exact n3 a ha b (List.mem_cons_of_mem _ hb)
set_option maxRecDepth 100000 in
set_option maxHeartbeats 8000000 in
theorem cut_yes (w : World) (p : Nat) (ns : List Nd) (h : Rs w p ns) (hf : Fine 0 (runsIn ns)) (a n : Nat) (hn : 1 ≤ n) (hv : a + n ≤ 65536) (b ra rl : Nat) (Q : List Nd) (hq : postN ns (a : Nat) = ⟨b, ra, rl⟩ :: Q) (hle : ra ≤ a) (hge : a + n ≤ ra + rl) :
    Calls Try.prog 12 #[.pointer (some ⟨p, 0, none⟩), runV a n] w fun e w' => e = .returned (.int .i64 0) ∧ Now w p ns (cutV (runsIn ns) a n) w' := by
  have hka : ∀ o, Kept [] w (w.alloc o) := fun o => (Kept.refl [] w).alloc o
  have HC := Lib.hid (fun x => check_ok p (a : Nat) (n : Nat) x (by omega) (by omega) (by omega) (by omega))
  rw [show errOf (valid (a : Nat) (n : Nat)) = 0 from by rw [(valid_iff _ _).2 (by omega)]; rfl] at HC
  have HBl := Lib.hid (fun x (hk : Kept [] w x) => below_ok x p ns (h.keep0 hk) (fun n hn => (fine_mem hf n hn).1) (a : Nat))
  have Hn := Lib.hid (fun x (hk : Kept [] w x) => rs_next (h.keep0 hk) (a : Nat))
  have Hs := Lib.hid (fun x (hk : Kept [] w x) => (rs_parts (h.keep0 hk) (a : Nat)).2.1)
  have hrb : ra + rl ≤ 65536 := (fine_mem hf ⟨b, ra, rl⟩ (by rw [← preN_postN ns (a : Nat), hq]; simp)).1
  have hpq := preN_postN ns (a : Nat)
  have HR := Lib.hid (fun x (hk : Kept [] w x) => (show Rs x p (preN ns (a : Nat) ++ postN ns (a : Nat)) from by rw [hpq]; exact h.keep0 hk))
  have HV : Hid (cutV (runsIn ns) a n = runsIn (preN ns (a : Nat)) ++ (rest (ra, rl) a n ++ runsIn Q)) := Lib.hid (by
    unfold cutV
    rw [← postN_runs, hq, preN_runs]
    rfl)
  have HLt := Lib.hid h.mem
  rw [hq] at Hn Hs HR hpq
  have HPQ := Lib.hid hpq
  have HBk : Hid (∀ c, c ∈ blocks p ns ↔ c = p ∨ ∃ k ∈ ns, c = k.b) := Lib.hid fun c => by
    simp only [blocks, List.mem_cons, List.mem_map]
    constructor
    · rintro (h | ⟨k, h1, h2⟩)
      · exact .inl h
      · exact .inr ⟨k, h1, h2.symm⟩
    · rintro (h | ⟨k, h1, h2⟩)
      · exact .inl h
      · exact .inr ⟨k, h1, h2.symm⟩
  clear hf h hq hpq
  obtain ⟨P, hP⟩ : ∃ P, P = preN ns (a : Nat) := ⟨_, rfl⟩
  rw [← hP] at HBl Hn HR HV HPQ
  clear hP
  have hleI : (ra : Int) ≤ (a : Int) := by omega
  have hgeI : (a : Int) + (n : Int) ≤ (ra : Int) + (rl : Int) := by omega
  unfold runV at *
  go_enter Try.func12, Try.ntmps12
  go_wp2_with fail
  have hB : Has (w.alloc (.cells #[.int .i64 (a : Int), .int .i64 (n : Int)] 29)) w.heap.size 29 [.int .i64 (a : Int), .int .i64 (n : Int)] := Has.new w _ [.int .i64 (a : Int), .int .i64 (n : Int)]
  have hk0 := hka (.cells #[.int .i64 (a : Int), .int .i64 (n : Int)] 29)
  generalize w.alloc (.cells #[.int .i64 (a : Int), .int .i64 (n : Int)] 29) = W0 at *
  obtain ⟨bx, hbx⟩ : ∃ bx, bx = w.heap.size := ⟨_, rfl⟩
  rw [← hbx] at hB ⊢
  have HB := Lib.hid hB
  have Hk0 := Lib.hid hk0
  clear hB hk0 hka hbx
  refine (HC.out _).mono ?_
  rintro e W1 ⟨rfl, hk1⟩
  have HB1 := Lib.hid (HB.out.keep0 hk1)
  have Hk1 := Lib.hid (Hk0.out.trans hk1)
  have d0 := HB1.out.cell 0
  simp at d0
  clear hk1 HC
  go_wp2_with fail
  refine (HBl.out _ Hk1.out).mono ?_
  rintro e W2 ⟨rfl, hk2⟩
  have HB2 := Lib.hid (HB1.out.keep0 hk2)
  have Hk2 := Lib.hid (Hk1.out.trans hk2)
  have c2 := Hn.out W2 Hk2.out
  clear hk2 HBl d0
  generalize hlb : lastB p P = lb at *
  have Hlb := Lib.hid hlb
  clear hlb
  have hs := Hs.out W2 Hk2.out
  rw [Seg.cons] at hs
  simp only [ptr] at c2
  go_wp2_with fail
  have b0 := cell_regrown (show W2.cell? ⟨b, 0, none⟩ = some (.int .i64 (ra : Int)) from hs.1.cell 0)
  have b1 := cell_regrown (show W2.cell? ⟨b, 1, none⟩ = some (.int .i64 (rl : Int)) from hs.1.cell 1)
  have d0 := cell_regrown (show W2.cell? ⟨bx, 0, none⟩ = some (.int .i64 (a : Int)) from HB2.out.cell 0)
  have d1 := cell_regrown (show W2.cell? ⟨bx, 1, none⟩ = some (.int .i64 (n : Int)) from HB2.out.cell 1)
  have cC : ∀ (x y : Nat), x + y ≤ 65536 → ∀ d os, Calls Try.prog 29 #[runV x y] (grow (redrawn W2 d) os) fun e w'' => e = .returned (.int .i64 ((x : Int) + (y : Int))) ∧ ∃ p : Regrown, w'' = grow (redrawn W2 p.d) p.os :=
    fun x y hxy d os => Calls.regrown_of ((end_ok x y _ (by omega) (by omega)).mono fun _ _ ⟨he, hk⟩ => ⟨he, hk.below (Nat.le_refl _) (by simp)⟩)
  unfold runV at cC
  have CR := Lib.hid (cC ra rl hrb)
  have CA := Lib.hid (cC a n hv)
  clear cC hs
  refine wp_region_quiet_below (by kernel_rfl) (by kernel_rfl) ?_
  repeat (first | go_big_quiet_step (first | exact CR.out _ _ | exact CA.out _ _) | quiet_step (first | exact CR.out _ _ | exact CA.out _ _))
  refine wpQuiet_nil ?_
  rintro _ ⟨⟨dq, osq⟩, rfl⟩
  have hk3 := Kept.ofBelow (below_regrown W2 dq osq) []
  clear b0 b1 d0 d1 CR
  generalize grow (redrawn W2 dq) osq = W3 at hk3 ⊢
  have Hk3 := Lib.hid (Hk2.out.trans hk3)
  have HB3 := Lib.hid (HB2.out.keep0 hk3)
  clear hk3 CA c2
  have d0 := HB3.out.cell 0
  have d1 := HB3.out.cell 1
  simp at d0 d1
  have hs3 := Hs.out W3 Hk3.out
  rw [Seg.cons] at hs3
  have HW := Lib.hid (without_ok W3 b ra rl a n _ hs3.1 hrb hle hge)
  unfold runV at HW
  clear hs3
  go_wp2_with fail
  refine HW.out.mono ?_
  rintro e W4 ⟨N, rfl, hr, hseg, hnd, hfr, hk4⟩
  rw [front_none] at hseg ⊢
  have Hk4 := Lib.hid (Hk3.out.trans hk4)
  have HR4 := HR.out W4 Hk4.out
  have c2 := Hn.out W4 Hk4.out
  have f2 : W4.frozen? ⟨lb, 2, none⟩ = false := by
    obtain ⟨t, x, y, hh, _⟩ := (rs_iff.1 HR4).1.last
    rw [Hlb.out] at hh
    exact hh.free 2
  have hsw := rs_swap HR4 hseg hnd fun m hm k hk => by
    have h1 := HLt.out k (by rw [← HPQ.out]; exact hk)
    have h2 := hfr m hm
    have h3 := Hk3.out.more
    omega
  rw [Hlb.out] at hsw
  have hlbm : lb ∈ blocks p ns := by
    rw [HBk.out]
    rcases lastB_mem p P with e | ⟨k, h1, e⟩
    · left; rw [← Hlb.out, e]
    · right; exact ⟨k, by rw [← HPQ.out]; exact List.mem_append_left _ h1, by rw [← Hlb.out, e]⟩
  have hk5 : Kept (blocks p ns) w (W4.setCell ⟨lb, 2, none⟩ (.pointer (front (ptr Q) N))) := (Hk4.out.none _).setCell _ _ (.inl hlbm)
  have HN : Hid (Now w p ns (cutV (runsIn ns) a n) (W4.setCell ⟨lb, 2, none⟩ (.pointer (front (ptr Q) N)))) := Lib.hid ⟨_, hsw, by rw [runsIn_append, runsIn_append, hr, HV.out], hk5, fun c hc => by
    rcases List.mem_cons.1 hc with rfl | hc
    · exact .inl List.mem_cons_self
    · obtain ⟨k, hk, rfl⟩ := List.mem_map.1 hc
      rcases List.mem_append.1 hk with hk | hk
      · left; rw [HBk.out]; exact .inr ⟨k, by rw [← HPQ.out]; exact List.mem_append_left _ hk, rfl⟩
      · rcases List.mem_append.1 hk with hk | hk
        · right
          have := hfr k hk
          have := Hk3.out.more
          omega
        · left; rw [HBk.out]; exact .inr ⟨k, by rw [← HPQ.out]; exact List.mem_append_right _ (List.mem_cons_of_mem _ hk), rfl⟩⟩
  simp only [ptr] at c2
  clear hr hseg hnd hfr hk4 HR4 hsw hk5 hlbm HW
  generalize front (ptr Q) N = fp at *
  go_wp2_with fail
  go_ret
  exact ⟨rfl, HN.out⟩
/-- What Cut answers, and what it makes of the runs. -/
def cutE (rs : List R) (a n : Int) : Int := cond (valid a n) (cond (allB rs a.toNat n.toNat) 0 3) 2
def cutW (rs : List R) (a n : Int) : List R := cond (valid a n && allB rs a.toNat n.toNat) (cutV rs a.toNat n.toNat) rs
theorem cut_all (w : World) (p : Nat) (ns : List Nd) (h : Rs w p ns) (hf : Fine 0 (runsIn ns)) (a n : Int) (a1 : -9223372036854775808 ≤ a) (a2 : a ≤ 9223372036854775807) (n1 : -9223372036854775808 ≤ n) (n2 : n ≤ 9223372036854775807) :
    Calls Try.prog 12 #[.pointer (some ⟨p, 0, none⟩), runV a n] w fun e w' => e = .returned (.int .i64 (cutE (runsIn ns) a n)) ∧ Now w p ns (cutW (runsIn ns) a n) w' := by
  unfold cutE cutW
  cases hv : valid a n with
  | false => exact (cut_bad w p a n a1 a2 n1 n2 hv).mono fun e w' ⟨he, hk⟩ => ⟨he, Now.same h hk⟩
  | true =>
    obtain ⟨v1, v2, v3⟩ := (valid_iff a n).1 hv
    obtain ⟨x, rfl⟩ := Int.eq_ofNat_of_zero_le v1
    obtain ⟨y, rfl⟩ := Int.eq_ofNat_of_zero_le (show 0 ≤ n by omega)
    simp only [Int.toNat_natCast, Bool.true_and, cond_true]
    have hfr : allB (runsIn ns) x y = match postN ns (x : Nat) with | [] => false | q :: _ => decide (q.a ≤ x ∧ x + y ≤ q.a + q.l) := by
      unfold allB
      rw [← postN_runs]
      cases postN ns (x : Nat) <;> rfl
    cases hp : postN ns (x : Nat) with
    | nil =>
      rw [hp] at hfr
      have hfr : allB (runsIn ns) x y = false := hfr
      rw [hfr]
      exact (cut_none w p ns h hf x y (by omega) (by omega) hp).mono fun e w' ⟨he, hk⟩ => ⟨he, Now.same h hk⟩
    | cons q Q =>
      obtain ⟨b, ra, rl⟩ := q
      rw [hp] at hfr
      have hfr : allB (runsIn ns) x y = decide (ra ≤ x ∧ x + y ≤ ra + rl) := hfr
      rw [hfr]
      by_cases c1 : ra ≤ x
      · by_cases c2 : x + y ≤ ra + rl
        · rw [decide_eq_true ⟨c1, c2⟩]
          exact cut_yes w p ns h hf x y (by omega) (by omega) b ra rl Q hp c1 c2
        · rw [decide_eq_false (by omega)]
          exact (cut_short w p ns h hf x y (by omega) (by omega) b ra rl Q hp c1 (by omega)).mono fun e w' ⟨he, hk⟩ => ⟨he, Now.same h hk⟩
      · rw [decide_eq_false (by omega)]
        exact (cut_high w p ns h hf x y (by omega) (by omega) b ra rl Q hp (by omega)).mono fun e w' ⟨he, hk⟩ => ⟨he, Now.same h hk⟩
end Go.Proofs.Ytbgonppichdhiaa.Rn
