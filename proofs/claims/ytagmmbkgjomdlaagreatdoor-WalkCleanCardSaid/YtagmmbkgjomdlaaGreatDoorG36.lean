/-
  Several texts in one: WkOpen, WkHeavy.
-/
import Derived.Test.YtagmmbkgjomdlaaGreatDoorG33
import Derived.Test.YtagmmbkgjomdlaaGreatDoorG23
import Derived.SizedLaws
import Derived.Test.YtagmmbkgjomdlaaGreatDoorG38
/-
  How the arguments of layer 10's laws read: steps, with the rows of numbers that lie in them.
-/
namespace Go.Proofs.YtagmmbkgjomdlaaGreatDoor.Wk
open Go.Proofs.YtagmmbkgjomdlaaGreatDoor.Ar Go.RowKit Go.ChangeShapes Go.WideShapes Go.Proofs.YtagmmbkgjomdlaaGreatDoor.Sp
set_option linter.unusedVariables false

section
variable {H : Type} {enc : TypeId × Value → H} {w : World} {base : Nat} {spare : Nat → Bool} {held : Bool} {fuel : Nat}
theorem ints_of {A : Option Addr} {len cap : Nat} {x : DataW H × List MemPlace} (h : DataW.trod enc Tryz.prog w base spare held fuel 33 [.slice A len cap] = some x) :
    (∃ l : List Int, l.length = len ∧ Ir.Seen w A l ∧ ∀ v ∈ l, I64 v) ∧ (A = none → cap = 0) ∧ ((∀ n ∈ x.1.weights Tryz.prog 33, n ≤ reachBytes) → len ≤ 17592186044416) := by
  have hb : Tryz.prog.bytesOf 3 = 8 := by kernel_rfl
  rcases open_ints Tryz.underlying33 Tryz.underlying3 (by kernel_rfl) h with ⟨hcs, _⟩ | ⟨a, l, c, zs, hcs, _, hl, hm, hz, hx, hcell, hwz⟩
  · simp at hcs
    obtain ⟨rfl, rfl, rfl⟩ := hcs
    exact ⟨⟨[], rfl, fun hne => absurd rfl hne, fun v hv => by cases hv⟩, fun _ => rfl, fun _ => by omega⟩
  · simp at hcs
    obtain ⟨rfl, rfl, rfl⟩ := hcs
    have hzl : len ≤ zs.length := by rw [hz]; split <;> omega
    refine ⟨⟨zs.take len, by rw [List.length_take]; omega, fun hne => ?_, fun v hv => Ar.i64_of_wf (hwz v (List.mem_of_mem_take hv))⟩, (fun e => by cases e), fun hw => ?_⟩
    · have h0 : 0 < len := by
        rcases Nat.eq_zero_or_pos len with h | h
        · subst h; exact absurd (by simp) hne
        · exact h
      have hc := hcell 0 (by omega)
      obtain ⟨g, f, s⟩ := a
      have hs : s = none := by simpa [Addr.add] using World.cell?_spot hc
      subst hs
      refine ⟨g, f, rfl, by simpa [Addr.add] using World.block_lt_of_cell? w _ hc, fun j v hv => ?_⟩
      unfold Ir.ints at hv
      rw [List.getElem?_map, List.getElem?_take] at hv
      by_cases hj : j < len
      · rw [if_pos hj, List.getElem?_eq_getElem (by omega)] at hv
        have hcj := hcell j (by omega)
        rw [add_at] at hcj
        rw [hcj]
        simpa [List.getD, List.getElem?_eq_getElem (show j < zs.length by omega)] using hv
      · rw [if_neg hj] at hv
        cases hv
    · have h8 := hw (((lits .i64 (zs.take len) : List (DataW H)).length + (lits .i64 (zs.drop len) : List (DataW H)).length) * 8) (by rw [hx]; simp [DataW.weights, Tryz.underlying33, hb])
      have h9 : (lits .i64 (zs.take len) : List (DataW H)).length = len := by unfold lits; rw [List.length_map, List.length_take]; omega
      rw [h9] at h8
      unfold reachBytes at h8
      omega
/-- A step whose own row can be read. -/
structure Read (w : World) (s : Stp) : Prop where
  gs : ∃ gs : List Int, gs.length = s.len ∧ Ir.Seen w s.A gs ∧ ∀ g ∈ gs, I64 g
  nil : s.A = none → s.cap = 0
  few : s.len ≤ 17592186044416
  u : 0 ≤ s.u ∧ s.u < 18446744073709551616
theorem Read.keep0 {w x : World} {s : Stp} (h : Read w s) (k : Kept [] w x) : Read x s :=
  ⟨let ⟨gs, h1, h2, h3⟩ := h.gs; ⟨gs, h1, h2.keep0 k, h3⟩, h.nil, h.few, h.u⟩
set_option maxRecDepth 100000 in
theorem step_read {cs : List Value} {x : DataW H × List MemPlace} (h : DataW.trod enc Tryz.prog w base spare held fuel 35 cs = some x) (hw : ∀ n ∈ x.1.weights Tryz.prog 35, n ≤ reachBytes) : ∃ s : Stp, cs = s.cells ∧ s.ok ∧ Read w s := by
  obtain ⟨xs, m, _, hx, hlen, hxl, hf⟩ := DataW.trod_struct Tryz.underlying35 h
  have hC : Tryz.prog.cellsOf 35 = 6 := by kernel_rfl
  have hI : Tryz.prog.cellsOf 3 = 1 := by kernel_rfl
  have hU : Tryz.prog.cellsOf 32 = 1 := by kernel_rfl
  have hL : Tryz.prog.cellsOf 33 = 1 := by kernel_rfl
  rw [hC] at hlen
  match cs, hlen, xs, hxl with
  | [c0, c1, c2, c3, c4, c5], _, [y0, y1, y2, y3, y4, y5], _ =>
    have g0 := hf 0 _ rfl
    have g1 := hf 1 _ rfl
    have g2 := hf 2 _ rfl
    have g3 := hf 3 _ rfl
    have g4 := hf 4 _ rfl
    have g5 := hf 5 _ rfl
    simp [hI, hU, hL] at g0 g1 g2 g3 g4 g5
    obtain ⟨d, e0, _, w0⟩ := DataW.trod_int Tryz.underlying3 g0
    obtain ⟨g, e1, _, w1⟩ := DataW.trod_int Tryz.underlying3 g1
    obtain ⟨i, e2, _, w2⟩ := DataW.trod_int Tryz.underlying3 g2
    obtain ⟨n, e3, _, w3⟩ := DataW.trod_int Tryz.underlying3 g3
    obtain ⟨u, e4, _, w4⟩ := DataW.trod_int Tryz.underlying32 g4
    obtain ⟨A, len, cap, e5, h5⟩ := slice_of g5
    simp at e0 e1 e2 e3 e4
    subst e0 e1 e2 e3 e4 e5
    obtain ⟨k1, k2, k3⟩ := ints_of g5
    refine ⟨⟨d, g, i, n, u, A, len, cap⟩, rfl, ⟨Ar.i64_of_wf w0, Ar.i64_of_wf w1, Ar.i64_of_wf w2, Ar.i64_of_wf w3, h5⟩, ⟨k1, k2, k3 fun q hq => hw q ?_, Ar.u64_of_wf w4⟩⟩
    rw [hx]
    simp only [DataW.weights, Tryz.underlying35]
    simp only [List.map_cons, List.map_nil, DataW.weightsEach, List.mem_append]
    exact .inr (.inr (.inr (.inr (.inr (.inl hq)))))
theorem weights_all {P : Program} {e : TypeId} : ∀ {L : List (DataW H)} {d : DataW H}, d ∈ L → ∀ n ∈ d.weights P e, n ∈ DataW.weightsAll P e L
  | x :: L, d, h, n, hn => by
    simp only [DataW.weightsAll, List.mem_append]
    rcases List.mem_cons.1 h with rfl | h
    · exact .inl hn
    · exact .inr (weights_all h n hn)
theorem steps_read {A : Option Addr} {len cap : Nat} {x : DataW H × List MemPlace} (h : DataW.trod enc Tryz.prog w base spare held fuel 23 (Value.cells (.slice A len cap)).toList = some x)
    (hw : ∀ n ∈ x.1.weights Tryz.prog 23, n ≤ reachBytes) :
    ∃ L : List Stp, L.length = len ∧ len ≤ cap ∧ cap ≤ maxLen ∧ Sp.Steps w A L ∧ (∀ s ∈ L, s.ok) ∧ ∀ s ∈ L, Read w s := by
  have hC : Tryz.prog.cellsOf 35 = 6 := by kernel_rfl
  rcases Go.Deep.open_slice Tryz.underlying23 h with ⟨hcs, _⟩ | ⟨a, l, c, m, n, D, Pl, hcs, _, hl, hm, hmm, hxx, hx⟩
  · simp [Value.cells] at hcs
    obtain ⟨rfl, rfl, rfl⟩ := hcs
    exact ⟨[], rfl, Nat.le_refl _, by unfold maxLen; omega, fun hne => absurd rfl hne, (fun v hv => by cases hv), (fun v hv => by cases hv)⟩
  · simp [Value.cells] at hcs
    obtain ⟨rfl, rfl, rfl⟩ := hcs
    have hlm : len ≤ m := by rw [hmm]; split <;> omega
    obtain ⟨L, hL, hP⟩ := exists_list (P := fun i s => (s.ok ∧ Read w s) ∧ ∀ j v, s.cells[j]? = some v → w.cell? ((a.add (i * 6)).add j) = some v) len fun i hi => by
      obtain ⟨cs, h1, h2⟩ := hx i (by omega)
      obtain ⟨s, rfl, hs, hr⟩ := step_read h2 fun q hq => hw q (by
        rw [hxx]
        simp only [DataW.weights, Tryz.underlying23, List.mem_cons, List.mem_append]
        exact .inr (.inl (weights_all (List.mem_map.2 ⟨i, List.mem_range.2 hi, rfl⟩) q hq)))
      obtain ⟨_, hlen, hcell⟩ := World.cells?_some h1
      rw [hC] at hcell
      refine ⟨s, ⟨hs, hr⟩, fun j v hv => ?_⟩
      have hj : j < s.cells.length := (List.getElem?_eq_some_iff.1 hv).1
      have e := hcell (i := j) (by simpa [Stp.cells] using hj)
      rw [hv] at e
      exact e
    refine ⟨L, hL, hl, hm, fun hne => ?_, fun s hs => ?_, fun s hs => ?_⟩
    · have h0 : 0 < L.length := by
        cases L with
        | nil => exact absurd rfl hne
        | cons => simp
      have hc := (hP 0 L[0] (List.getElem?_eq_getElem h0)).2 0 _ rfl
      obtain ⟨g, f, s⟩ := a
      have hs : s = none := by simpa [Addr.add] using World.cell?_spot hc
      subst hs
      refine ⟨g, f, rfl, by simpa [Addr.add] using World.block_lt_of_cell? w _ hc, fun i s hi j v hv => ?_⟩
      have e := (hP i s hi).2 j v hv
      rw [add_at, add_at, Nat.add_assoc] at e
      exact e
    · obtain ⟨i, hi, rfl⟩ := List.mem_iff_getElem.1 hs
      exact (hP i _ (List.getElem?_eq_getElem hi)).1.1
    · obtain ⟨i, hi, rfl⟩ := List.mem_iff_getElem.1 hs
      exact (hP i _ (List.getElem?_eq_getElem hi)).1.2
end
end Go.Proofs.YtagmmbkgjomdlaaGreatDoor.Wk

/-
  The law's own guard, Heavy: what it lets through, the rows in the steps among it.
-/
namespace Go.Proofs.YtagmmbkgjomdlaaGreatDoor.Wk
open Go.RowKit Go.Proofs.YtagmmbkgjomdlaaGreatDoor.Ar Go.Proofs.YtagmmbkgjomdlaaGreatDoor.Sp
set_option linter.unusedVariables false
/-- The lengths of the steps' rows, together. -/
def sumL : List Stp → Int
  | [] => 0
  | s :: L => (s.len : Int) + sumL L
theorem sumL_append : ∀ a b : List Stp, sumL (a ++ b) = sumL a + sumL b
  | [], b => by show sumL b = 0 + sumL b; omega
  | s :: a, b => by show (s.len : Int) + sumL (a ++ b) = (s.len : Int) + sumL a + sumL b; rw [sumL_append a b]; omega
theorem sumL_most : ∀ L : List Stp, (∀ s ∈ L, s.len ≤ 17592186044416) → 0 ≤ sumL L ∧ sumL L ≤ 17592186044416 * (L.length : Int)
  | [], _ => by show (0 : Int) ≤ 0 ∧ (0 : Int) ≤ 17592186044416 * ((0 : Nat) : Int); omega
  | s :: L, h => by
    have h1 := sumL_most L fun t ht => h t (by simp [ht])
    have h2 := h s (by simp)
    show 0 ≤ (s.len : Int) + sumL L ∧ (s.len : Int) + sumL L ≤ 17592186044416 * ((L.length + 1 : Nat) : Int)
    omega
theorem sumL_mem : ∀ {L : List Stp} {s : Stp}, s ∈ L → (∀ t ∈ L, t.len ≤ 17592186044416) → (s.len : Int) ≤ sumL L
  | t :: L, s, h, hm => by
    have h1 := sumL_most L fun t ht => hm t (by simp [ht])
    show (s.len : Int) ≤ (t.len : Int) + sumL L
    rcases List.mem_cons.1 h with rfl | h
    · omega
    · have := sumL_mem h fun t ht => hm t (by simp [ht])
      omega
def HeavyPost2 (n : Int) (k : Nat) (L : List Stp) (w : World) (e : Ending) (w' : World) : Prop := (∃ b, e = .returned (.bool b) ∧ (b = false → Light n k L.length ∧ ∀ s ∈ L, s.len ≤ 300)) ∧ w = w'
set_option maxRecDepth 100000 in
set_option maxHeartbeats 4000000 in
theorem heavy2_ok (n : Int) (A1 : Option Addr) (k cap1 : Nat) (A2 : Option Addr) (L : List Stp) (cap2 : Nat) {w : World} (hS : Sp.Steps w A2 L) (hok : ∀ s ∈ L, s.len ≤ 17592186044416) (hk : k ≤ maxLen) (hL : L.length ≤ maxLen) :
    Calls Tryz.prog 6 #[.int .i64 n, .slice A1 k cap1, .slice A2 L.length cap2] w (HeavyPost2 n k L w) := by
  have HS := Lib.hid hS
  have HOk := Lib.hid hok
  clear hS hok
  unfold maxLen at hk hL
  go_enter Tryz.func6, Tryz.ntmps6
  go_wp2_with fail
  go_loop [7, 8] (fun v t => ∃ (j : Nat) (m : Int), v = .int .i64 m ∧ t = .int .i64 (j : Int) ∧ j ≤ 100 ∧ j ≤ L.length ∧ 0 ≤ m ∧ m ≤ 17592186044416 * (j : Int) ∧ Hid (m = sumL (L.take j))) (fun _ t => 100 - (intOf t).toNat)
  case atStart => exact ⟨0, 0, rfl, rfl, by omega, by omega, by omega, by omega, Lib.hid rfl⟩
  case round =>
    obtain ⟨j, m, rfl, rfl, hj, hjL, m0, m1, hm⟩ := hrel
    by_cases hlt : j < L.length
    · by_cases h100 : j < 100
      · obtain ⟨g, f, s, rfl, hg, hs, c0, c1, c2, c3, c4, c5⟩ := step_at HS.out j hlt
        have hlen := HOk.out s hs
        have hHs : Hid (m + (s.len : Int) = sumL (L.take (j + 1))) := Lib.hid (by
          obtain ⟨g', f', e', hg', hc⟩ := HS.out (by rintro rfl; cases hlt)
          have hx := hc j L[j] (List.getElem?_eq_getElem hlt) 5 _ rfl
          injection e' with e'
          injection e' with e1 e2 e3
          subst e1 e2
          rw [show f + (j * 6 + 5) = f + j * 6 + 5 by omega, c5] at hx
          injection hx with hx
          injection hx with hx1 hx2 hx3
          rw [List.take_succ_eq_append_getElem hlt, sumL_append, ← hm.out, hx2]
          show m + (L[j].len : Int) = m + ((L[j].len : Int) + 0)
          omega)
        go_wp2_with fail
        go_round
        case rel => exact ⟨j + 1, m + (s.len : Int), by go_num, by go_num, by omega, by omega, by omega, by omega, hHs⟩
        case measure => simp [intOf] <;> omega
      · have h1 : (60 : Nat) < L.length := by omega
        have hb : decide ((j : Int) < 100) = false := decide_eq_false (by omega)
        by_cases q1 : 600 < n
        · by_cases q2 : n ≤ 65536
          · go_wp2_with fail
            go_ret
            exact ⟨⟨_, rfl, fun h => by cases h⟩, rfl⟩
          · by_cases q3 : 70 < k
            · go_wp2_with fail
              go_ret
              exact ⟨⟨_, rfl, fun h => by cases h⟩, rfl⟩
            · by_cases q4 : 60 < L.length
              · go_wp2_with fail
                go_ret
                exact ⟨⟨_, rfl, fun h => by cases h⟩, rfl⟩
              · exact absurd h1 q4
        · by_cases q3 : 70 < k
          · go_wp2_with fail
            go_ret
            exact ⟨⟨_, rfl, fun h => by cases h⟩, rfl⟩
          · by_cases q4 : 60 < L.length
            · go_wp2_with fail
              go_ret
              exact ⟨⟨_, rfl, fun h => by cases h⟩, rfl⟩
            · exact absurd h1 q4
    · have hb : decide (j < L.length) = false := decide_eq_false (by omega)
      have hEach : Hid (¬ 300 < m → ∀ s ∈ L, s.len ≤ 300) := Lib.hid fun h s hs => by
        have h1 := hm.out
        rw [List.take_of_length_le (by omega)] at h1
        have := sumL_mem hs HOk.out
        omega
      clear hm HS HOk
      by_cases q1 : 600 < n
      · by_cases q2 : n ≤ 65536
        · go_wp2_with fail
          go_ret
          exact ⟨⟨_, rfl, fun h => by cases h⟩, rfl⟩
        · by_cases q3 : 70 < k
          · go_wp2_with fail
            go_ret
            exact ⟨⟨_, rfl, fun h => by cases h⟩, rfl⟩
          · by_cases q4 : 60 < L.length
            · go_wp2_with fail
              go_ret
              exact ⟨⟨_, rfl, fun h => by cases h⟩, rfl⟩
            · by_cases q5 : 300 < m
              · go_wp2_with fail
                go_ret
                exact ⟨⟨_, rfl, fun h => by cases h⟩, rfl⟩
              · go_wp2_with fail
                go_ret
                exact ⟨⟨_, rfl, fun _ => ⟨⟨.inr (by omega), by omega, by omega⟩, hEach.out q5⟩⟩, rfl⟩
      · by_cases q3 : 70 < k
        · go_wp2_with fail
          go_ret
          exact ⟨⟨_, rfl, fun h => by cases h⟩, rfl⟩
        · by_cases q4 : 60 < L.length
          · go_wp2_with fail
            go_ret
            exact ⟨⟨_, rfl, fun h => by cases h⟩, rfl⟩
          · by_cases q5 : 300 < m
            · go_wp2_with fail
              go_ret
              exact ⟨⟨_, rfl, fun h => by cases h⟩, rfl⟩
            · go_wp2_with fail
              go_ret
              exact ⟨⟨_, rfl, fun _ => ⟨⟨.inl (by omega), by omega, by omega⟩, hEach.out q5⟩⟩, rfl⟩
end Go.Proofs.YtagmmbkgjomdlaaGreatDoor.Wk
