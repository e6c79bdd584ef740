/-
  Stage 12, black: how the laws' steps read, with the rows of numbers in them; and their guard, Heavy.
-/
import Derived.Test.YtijlaganpnoefaaDoorIntRow
import Derived.Test.YtijlaganpnoefaaDoorWf
import Derived.ProofKit
import Derived.OpenShut
import Derived.ChangeOld
import Derived.Deep.Slices
import Derived.Deep.Fields
import Derived.SizedLaws
namespace Go.Proofs.YtijlaganpnoefaaDoor.Bk
open Go.Proofs.YtijlaganpnoefaaDoor.Ar Go.RowKit Go.ChangeShapes Go.WideShapes
set_option linter.unusedVariables false

def I64 (n : Int) : Prop := -9223372036854775808 ≤ n ∧ n ≤ 9223372036854775807
/-- A step: Do, L. -/
structure BStp where
  d : Int
  A : Option Addr
  len : Nat
  cap : Nat
def BStp.cells (s : BStp) : List Value := [.int .i64 s.d, .slice s.A s.len s.cap]
def BSteps (w : World) (A : Option Addr) (L : List BStp) : Prop := L ≠ [] → ∃ g f, A = some ⟨g, f, none⟩ ∧ g < w.heap.size ∧ ∀ i s, L[i]? = some s → ∀ j v, s.cells[j]? = some v → w.cell? ⟨g, f + (i * 2 + j), none⟩ = some v
theorem BSteps.keep0 {w w' : World} {A : Option Addr} {L : List BStp} (h : BSteps w A L) (k : Kept [] w w') : BSteps w' A L := by
  intro hL
  obtain ⟨g, f, e, hg, hc⟩ := h hL
  exact ⟨g, f, e, Nat.lt_of_lt_of_le hg k.more, fun i s hs j v hv => (World.cell?_of_block (w := w) (k.old g hg (by simp))).trans (hc i s hs j v hv)⟩
/-- Step j, where it lies. -/
theorem BSteps.at {w : World} {A : Option Addr} {L : List BStp} (h : BSteps w A L) (j : Nat) (hj : j < L.length) : ∃ g f, A = some ⟨g, f, none⟩ ∧ g < w.heap.size ∧ w.cell? ⟨g, f + j * 2, none⟩ = some (.int .i64 (L[j]'hj).d) ∧ w.cell? ⟨g, f + j * 2 + 1, none⟩ = some (.slice (L[j]'hj).A (L[j]'hj).len (L[j]'hj).cap) := by
  obtain ⟨g, f, e, hg, hc⟩ := h (by rintro rfl; cases hj)
  have h1 := hc j L[j] (List.getElem?_eq_getElem hj)
  exact ⟨g, f, e, hg, h1 0 _ rfl, h1 1 _ rfl⟩
theorem exists_list {P : Nat → BStp → Prop} : ∀ n : Nat, (∀ i, i < n → ∃ s, P i s) → ∃ L : List BStp, L.length = n ∧ ∀ i s, L[i]? = some s → P i s
  | 0, _ => ⟨[], rfl, fun i s h => by cases h⟩
  | n + 1, h => by
    obtain ⟨L, h1, h2⟩ := exists_list (P := P) n fun i hi => h i (by omega)
    obtain ⟨s, hs⟩ := h n (by omega)
    refine ⟨L ++ [s], by simp [h1], fun i t ht => ?_⟩
    rcases Nat.lt_or_ge i L.length with hi | hi
    · rw [List.getElem?_append_left hi] at ht
      exact h2 i t ht
    · rw [List.getElem?_append_right hi] at ht
      rcases Nat.eq_zero_or_pos (i - L.length) with h0 | h0
      · rw [h0] at ht
        obtain rfl := Option.some.inj ht
        rw [show i = n by omega]
        exact hs
      · rw [List.getElem?_eq_none (by simp; omega)] at ht
        cases ht
section
variable {H : Type} {enc : TypeId × Value → H} {w : World} {base : Nat} {spare : Nat → Bool} {held : Bool} {fuel : Nat}
theorem ints_of {A : Option Addr} {len cap : Nat} {x : DataW H × List MemPlace} (h : DataW.trod enc Tryd.prog w base spare held fuel 32 [.slice A len cap] = some x) :
    (∃ l : List Int, l.length = len ∧ Ir.Seen w A l ∧ ∀ v ∈ l, I64 v) ∧ (A = none → cap = 0) ∧ ((∀ n ∈ x.1.weights Tryd.prog 32, n ≤ reachBytes) → len ≤ 17592186044416) := by
  have hb : Tryd.prog.bytesOf 3 = 8 := by kernel_rfl
  rcases open_ints Tryd.underlying32 Tryd.underlying3 (by kernel_rfl) h with ⟨hcs, _⟩ | ⟨a, l, c, zs, hcs, _, hl, hm, hz, hx, hcell, hwz⟩
  · simp at hcs
    obtain ⟨rfl, rfl, rfl⟩ := hcs
    exact ⟨⟨[], rfl, fun hne => absurd rfl hne, fun v hv => by cases hv⟩, fun _ => rfl, fun _ => by omega⟩
  · simp at hcs
    obtain ⟨rfl, rfl, rfl⟩ := hcs
    have hzl : len ≤ zs.length := by rw [hz]; split <;> omega
    refine ⟨⟨zs.take len, by rw [List.length_take]; omega, fun hne => ?_, fun v hv => Ar.i64_of_wf (hwz v (List.mem_of_mem_take hv))⟩, (fun e => by cases e), fun hw => ?_⟩
    · have h0 : 0 < len := by
        rcases Nat.eq_zero_or_pos len with h | h
        · subst h; exact absurd (by simp) hne
        · exact h
      have hc := hcell 0 (by omega)
      obtain ⟨g, f, s⟩ := a
      have hs : s = none := by simpa [Addr.add] using World.cell?_spot hc
      subst hs
      refine ⟨g, f, rfl, by simpa [Addr.add] using World.block_lt_of_cell? w _ hc, fun j v hv => ?_⟩
      unfold Ir.ints at hv
      rw [List.getElem?_map, List.getElem?_take] at hv
      by_cases hj : j < len
      · rw [if_pos hj, List.getElem?_eq_getElem (by omega)] at hv
        have hcj := hcell j (by omega)
        rw [add_at] at hcj
        rw [hcj]
        simpa [List.getD, List.getElem?_eq_getElem (show j < zs.length by omega)] using hv
      · rw [if_neg hj] at hv
        cases hv
    · have h8 := hw (((lits .i64 (zs.take len) : List (DataW H)).length + (lits .i64 (zs.drop len) : List (DataW H)).length) * 8) (by rw [hx]; simp [DataW.weights, Tryd.underlying32, hb])
      have h9 : (lits .i64 (zs.take len) : List (DataW H)).length = len := by unfold lits; rw [List.length_map, List.length_take]; omega
      rw [h9] at h8
      unfold reachBytes at h8
      omega
/-- A step whose own row can be read. -/
structure BRead (w : World) (s : BStp) : Prop where
  d : I64 s.d
  gs : ∃ gs : List Int, gs.length = s.len ∧ Ir.Seen w s.A gs ∧ ∀ g ∈ gs, I64 g
  nil : s.A = none → s.cap = 0
  few : s.len ≤ 17592186044416
theorem BRead.keep0 {w x : World} {s : BStp} (h : BRead w s) (k : Kept [] w x) : BRead x s :=
  ⟨h.d, let ⟨gs, h1, h2, h3⟩ := h.gs; ⟨gs, h1, h2.keep0 k, h3⟩, h.nil, h.few⟩
theorem slice_of {c : Value} {x : DataW H × List MemPlace} (h : DataW.trod enc Tryd.prog w base spare held fuel 32 [c] = some x) : ∃ A len cap, c = .slice A len cap := by
  rcases Go.Deep.open_slice Tryd.underlying32 h with ⟨hcs, _⟩ | ⟨a, l, c', m, n, D, Pl, hcs, _⟩
  · simp at hcs
    exact ⟨_, _, _, hcs⟩
  · simp at hcs
    exact ⟨_, _, _, hcs⟩
set_option maxRecDepth 100000 in
theorem step_read {cs : List Value} {x : DataW H × List MemPlace} (h : DataW.trod enc Tryd.prog w base spare held fuel 34 cs = some x) (hw : ∀ n ∈ x.1.weights Tryd.prog 34, n ≤ reachBytes) : ∃ s : BStp, cs = s.cells ∧ BRead w s := by
  obtain ⟨xs, m, _, hx, hlen, hxl, hf⟩ := DataW.trod_struct Tryd.underlying34 h
  have hC : Tryd.prog.cellsOf 34 = 2 := by kernel_rfl
  have hI : Tryd.prog.cellsOf 3 = 1 := by kernel_rfl
  have hL : Tryd.prog.cellsOf 32 = 1 := by kernel_rfl
  rw [hC] at hlen
  match cs, hlen, xs, hxl with
  | [c0, c1], _, [y0, y1], _ =>
    have g0 := hf 0 _ rfl
    have g1 := hf 1 _ rfl
    simp [hI, hL] at g0 g1
    obtain ⟨d, e0, _, w0⟩ := DataW.trod_int Tryd.underlying3 g0
    obtain ⟨A, len, cap, e1⟩ := slice_of g1
    simp at e0
    subst e0 e1
    obtain ⟨k1, k2, k3⟩ := ints_of g1
    refine ⟨⟨d, A, len, cap⟩, rfl, ⟨Ar.i64_of_wf w0, k1, k2, k3 fun q hq => hw q ?_⟩⟩
    rw [hx]
    simp only [DataW.weights, Tryd.underlying34]
    simp only [List.map_cons, List.map_nil, DataW.weightsEach, List.mem_append]
    exact .inr (.inl hq)
theorem weights_all {P : Program} {e : TypeId} : ∀ {L : List (DataW H)} {d : DataW H}, d ∈ L → ∀ n ∈ d.weights P e, n ∈ DataW.weightsAll P e L
  | x :: L, d, h, n, hn => by
    simp only [DataW.weightsAll, List.mem_append]
    rcases List.mem_cons.1 h with rfl | h
    · exact .inl hn
    · exact .inr (weights_all h n hn)
theorem steps_read {A : Option Addr} {len cap : Nat} {x : DataW H × List MemPlace} (h : DataW.trod enc Tryd.prog w base spare held fuel 22 (Value.cells (.slice A len cap)).toList = some x)
    (hw : ∀ n ∈ x.1.weights Tryd.prog 22, n ≤ reachBytes) :
    ∃ L : List BStp, L.length = len ∧ len ≤ cap ∧ cap ≤ maxLen ∧ BSteps w A L ∧ (∀ s ∈ L, BRead w s) ∧ len ≤ 4398046511104 := by
  have hC : Tryd.prog.cellsOf 34 = 2 := by kernel_rfl
  rcases Go.Deep.open_slice Tryd.underlying22 h with ⟨hcs, _⟩ | ⟨a, l, c, m, n, D, Pl, hcs, _, hl, hm, hmm, hxx, hx⟩
  · simp [Value.cells] at hcs
    obtain ⟨rfl, rfl, rfl⟩ := hcs
    exact ⟨[], rfl, Nat.le_refl _, by unfold maxLen; omega, fun hne => absurd rfl hne, (fun v hv => by cases hv), by omega⟩
  · simp [Value.cells] at hcs
    obtain ⟨rfl, rfl, rfl⟩ := hcs
    have hlm : len ≤ m := by rw [hmm]; split <;> omega
    obtain ⟨L, hL, hP⟩ := exists_list (P := fun i s => BRead w s ∧ ∀ j v, s.cells[j]? = some v → w.cell? ((a.add (i * 2)).add j) = some v) len fun i hi => by
      obtain ⟨cs, h1, h2⟩ := hx i (by omega)
      obtain ⟨s, rfl, hr⟩ := step_read h2 fun q hq => hw q (by
        rw [hxx]
        simp only [DataW.weights, Tryd.underlying22, List.mem_cons, List.mem_append]
        exact .inr (.inl (weights_all (List.mem_map.2 ⟨i, List.mem_range.2 hi, rfl⟩) q hq)))
      obtain ⟨_, hlen, hcell⟩ := World.cells?_some h1
      rw [hC] at hcell
      refine ⟨s, hr, fun j v hv => ?_⟩
      have hj : j < s.cells.length := (List.getElem?_eq_some_iff.1 hv).1
      have e := hcell (i := j) (by simpa [BStp.cells] using hj)
      rw [hv] at e
      exact e
    refine ⟨L, hL, hl, hm, fun hne => ?_, fun s hs => ?_, ?_⟩
    · have h0 : 0 < L.length := by
        cases L with
        | nil => exact absurd rfl hne
        | cons => simp
      have hc := (hP 0 L[0] (List.getElem?_eq_getElem h0)).2 0 _ rfl
      obtain ⟨g, f, s⟩ := a
      have hs : s = none := by simpa [Addr.add] using World.cell?_spot hc
      subst hs
      refine ⟨g, f, rfl, by simpa [Addr.add] using World.block_lt_of_cell? w _ hc, fun i s hi j v hv => ?_⟩
      have e := (hP i s hi).2 j v hv
      rw [add_at, add_at, Nat.add_assoc] at e
      exact e
    · obtain ⟨i, hi, rfl⟩ := List.mem_iff_getElem.1 hs
      exact (hP i _ (List.getElem?_eq_getElem hi)).1
    · have hb : Tryd.prog.bytesOf 34 = 32 := by kernel_rfl
      have h8 := hw _ (by
        rw [hxx]
        simp only [DataW.weights, Tryd.underlying22, List.mem_cons]
        exact .inl rfl)
      rw [hb] at h8
      simp only [List.length_map, List.length_range] at h8
      unfold reachBytes at h8
      omega
end
/-! ### Heavy -/
def sumQ : List BStp → Int
  | [] => 0
  | s :: L => ((s.len / 4 : Nat) : Int) + sumQ L
theorem sumQ_append : ∀ a b : List BStp, sumQ (a ++ b) = sumQ a + sumQ b
  | [], b => by show sumQ b = 0 + sumQ b; omega
  | s :: a, b => by show ((s.len / 4 : Nat) : Int) + sumQ (a ++ b) = ((s.len / 4 : Nat) : Int) + sumQ a + sumQ b; rw [sumQ_append a b]; omega
theorem sumQ_nonneg : ∀ L : List BStp, 0 ≤ sumQ L
  | [] => Int.le_refl _
  | s :: L => by have := sumQ_nonneg L; show 0 ≤ ((s.len / 4 : Nat) : Int) + sumQ L; omega
theorem sumQ_mem : ∀ {L : List BStp} {s : BStp}, s ∈ L → ((s.len / 4 : Nat) : Int) ≤ sumQ L
  | t :: L, s, h => by
    have h1 := sumQ_nonneg L
    show ((s.len / 4 : Nat) : Int) ≤ ((t.len / 4 : Nat) : Int) + sumQ L
    rcases List.mem_cons.1 h with rfl | h
    · omega
    · have := sumQ_mem h
      omega
/-- What is let through. -/
def Light12 (n : Int) (L : List BStp) : Prop := (n ≤ 400 ∨ 65536 < n) ∧ L.length ≤ 100 ∧ ∀ s ∈ L, s.len ≤ 403
def HeavyPost12 (n : Int) (L : List BStp) (w : World) (e : Ending) (w' : World) : Prop := (∃ b, e = .returned (.bool b) ∧ (b = false → Light12 n L)) ∧ w = w'
set_option maxRecDepth 100000 in
set_option maxHeartbeats 4000000 in
theorem heavy12_ok (n : Int) (A : Option Addr) (L : List BStp) (cap : Nat) {w : World} (hS : BSteps w A L) (hok : ∀ s ∈ L, s.len ≤ 17592186044416) (hL : L.length ≤ 4398046511104) :
    Calls Tryd.prog 7 #[.int .i64 n, .slice A L.length cap] w (HeavyPost12 n L w) := by
  have HS := Lib.hid hS
  have HOk := Lib.hid hok
  clear hS hok
  go_enter Tryd.func7, Tryd.ntmps7
  go_wp2_with fail
  go_loop [5, 6] (fun v t => ∃ (j : Nat) (m : Int), v = .int .i64 ((L.length : Int) + m) ∧ t = .int .i64 (j : Int) ∧ j ≤ 100 ∧ j ≤ L.length ∧ 0 ≤ m ∧ m ≤ 4398046511104 * (j : Int) ∧ Hid (m = sumQ (L.take j))) (fun _ t => 100 - (intOf t).toNat)
  case atStart => exact ⟨0, 0, by simp, rfl, by omega, by omega, by omega, by omega, Lib.hid rfl⟩
  case round =>
    obtain ⟨j, m, rfl, rfl, hj, hjL, m0, m1, hm⟩ := hrel
    by_cases hlt : j < L.length
    · by_cases h100 : j < 100
      · obtain ⟨g, f, rfl, hg, c0, c1⟩ := HS.out.at j hlt
        have hlen := HOk.out L[j] (List.getElem_mem hlt)
        have hHs : Hid (m + ((L[j].len / 4 : Nat) : Int) = sumQ (L.take (j + 1))) := Lib.hid (by
          rw [List.take_succ_eq_append_getElem hlt, sumQ_append, ← hm.out]
          show m + ((L[j].len / 4 : Nat) : Int) = m + (((L[j].len / 4 : Nat) : Int) + 0)
          omega)
        generalize L[j] = s at *
        obtain ⟨sd, sA, sl, sc⟩ := s
        simp only at *
        have htd : (sl : Int).tdiv 4 = ((sl / 4 : Nat) : Int) := by rw [Int.tdiv_eq_ediv_of_nonneg (by omega)]; omega
        obtain ⟨z, hz⟩ : ∃ z : Nat, sl / 4 = z := ⟨_, rfl⟩
        rw [hz] at htd hHs
        have hz2 : z ≤ 4398046511104 := by omega
        clear hz
        go_wp2_with fail
        go_round
        case rel => exact ⟨j + 1, m + (z : Int), by rw [show (L.length : Int) + (m + (z : Int)) = (L.length : Int) + m + (z : Int) by omega], by go_num, by omega, by omega, by omega, by omega, hHs⟩
        case measure => simp [intOf] <;> omega
      · have hb : decide ((j : Int) < 100) = false := decide_eq_false (by omega)
        by_cases q5 : 100 < (L.length : Int) + m
        · go_wp2_with fail
          go_ret
          exact ⟨⟨_, rfl, fun h => by cases h⟩, rfl⟩
        · exfalso; omega
    · have hb : decide (j < L.length) = false := decide_eq_false (by omega)
      have hEach : Hid (¬ 100 < (L.length : Int) + m → L.length ≤ 100 ∧ ∀ s ∈ L, s.len ≤ 403) := Lib.hid fun h => by
        refine ⟨by omega, fun s hs => ?_⟩
        have h1 := hm.out
        rw [List.take_of_length_le (by omega)] at h1
        have := sumQ_mem hs
        omega
      clear hm HS HOk
      by_cases q5 : 100 < (L.length : Int) + m
      · go_wp2_with fail
        go_ret
        exact ⟨⟨_, rfl, fun h => by cases h⟩, rfl⟩
      · by_cases q1 : 400 < n
        · by_cases q2 : n ≤ 65536
          · go_wp2_with fail
            go_ret
            exact ⟨⟨_, rfl, fun h => by cases h⟩, rfl⟩
          · go_wp2_with fail
            go_ret
            exact ⟨⟨_, rfl, fun _ => ⟨.inr (by omega), hEach.out q5⟩⟩, rfl⟩
        · go_wp2_with fail
          go_ret
          exact ⟨⟨_, rfl, fun _ => ⟨.inl (by omega), hEach.out q5⟩⟩, rfl⟩
end Go.Proofs.YtijlaganpnoefaaDoor.Bk
