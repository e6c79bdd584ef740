/-
  Several texts in one: WkOpen, SpDrop.
-/
import Derived.Test.YtoagghileebokaaGreatDoorG03
import Derived.Test.YtoagghileebokaaGreatDoorG31
import Derived.SizedLaws
import Derived.Test.YtoagghileebokaaGreatDoorG24
import Derived.Test.YtoagghileebokaaGreatDoorG21
/-
  How the arguments of layer 10's laws read: steps, with the rows of numbers that lie in them.
-/
namespace Go.Proofs.YtoagghileebokaaGreatDoor.Wk
open Go.Proofs.YtoagghileebokaaGreatDoor.Ar Go.RowKit Go.ChangeShapes Go.WideShapes Go.Proofs.YtoagghileebokaaGreatDoor.Sp
set_option linter.unusedVariables false

section
variable {H : Type} {enc : TypeId × Value → H} {w : World} {base : Nat} {spare : Nat → Bool} {held : Bool} {fuel : Nat}
theorem ints_of {A : Option Addr} {len cap : Nat} {x : DataW H × List MemPlace} (h : DataW.trod enc Tryz.prog w base spare held fuel 24 [.slice A len cap] = some x) :
    (∃ l : List Int, l.length = len ∧ Ir.Seen w A l ∧ ∀ v ∈ l, I64 v) ∧ (A = none → cap = 0) ∧ ((∀ n ∈ x.1.weights Tryz.prog 24, n ≤ reachBytes) → len ≤ 17592186044416) := by
  have hb : Tryz.prog.bytesOf 3 = 8 := by kernel_rfl
  rcases open_ints Tryz.underlying24 Tryz.underlying3 (by kernel_rfl) h with ⟨hcs, _⟩ | ⟨a, l, c, zs, hcs, _, hl, hm, hz, hx, hcell, hwz⟩
  · simp at hcs
    obtain ⟨rfl, rfl, rfl⟩ := hcs
    exact ⟨⟨[], rfl, fun hne => absurd rfl hne, fun v hv => by cases hv⟩, fun _ => rfl, fun _ => by omega⟩
  · simp at hcs
    obtain ⟨rfl, rfl, rfl⟩ := hcs
    have hzl : len ≤ zs.length := by rw [hz]; split <;> omega
    refine ⟨⟨zs.take len, by rw [List.length_take]; omega, fun hne => ?_, fun v hv => Ar.i64_of_wf (hwz v (List.mem_of_mem_take hv))⟩, (fun e => by cases e), fun hw => ?_⟩
    · have h0 : 0 < len := by
        rcases Nat.eq_zero_or_pos len with h | h
        · subst h; exact absurd (by simp) hne
        · exact h
      have hc := hcell 0 (by omega)
      obtain ⟨g, f, s⟩ := a
      have hs : s = none := by simpa [Addr.add] using World.cell?_spot hc
      subst hs
      refine ⟨g, f, rfl, by simpa [Addr.add] using World.block_lt_of_cell? w _ hc, fun j v hv => ?_⟩
      unfold Ir.ints at hv
      rw [List.getElem?_map, List.getElem?_take] at hv
      by_cases hj : j < len
      · rw [if_pos hj, List.getElem?_eq_getElem (by omega)] at hv
        have hcj := hcell j (by omega)
        rw [add_at] at hcj
        rw [hcj]
        simpa [List.getD, List.getElem?_eq_getElem (show j < zs.length by omega)] using hv
      · rw [if_neg hj] at hv
        cases hv
    · have h8 := hw (((lits .i64 (zs.take len) : List (DataW H)).length + (lits .i64 (zs.drop len) : List (DataW H)).length) * 8) (by rw [hx]; simp [DataW.weights, Tryz.underlying24, hb])
      have h9 : (lits .i64 (zs.take len) : List (DataW H)).length = len := by unfold lits; rw [List.length_map, List.length_take]; omega
      rw [h9] at h8
      unfold reachBytes at h8
      omega
/-- A step whose own row can be read. -/
structure Read (w : World) (s : Stp) : Prop where
  gs : ∃ gs : List Int, gs.length = s.len ∧ Ir.Seen w s.A gs ∧ ∀ g ∈ gs, I64 g
  nil : s.A = none → s.cap = 0
  few : s.len ≤ 17592186044416
  u : 0 ≤ s.u ∧ s.u < 18446744073709551616
theorem Read.keep0 {w x : World} {s : Stp} (h : Read w s) (k : Kept [] w x) : Read x s :=
  ⟨let ⟨gs, h1, h2, h3⟩ := h.gs; ⟨gs, h1, h2.keep0 k, h3⟩, h.nil, h.few, h.u⟩
set_option maxRecDepth 100000 in
theorem step_read {cs : List Value} {x : DataW H × List MemPlace} (h : DataW.trod enc Tryz.prog w base spare held fuel 110 cs = some x) (hw : ∀ n ∈ x.1.weights Tryz.prog 110, n ≤ reachBytes) : ∃ s : Stp, cs = s.cells ∧ s.ok ∧ Read w s := by
  obtain ⟨xs, m, _, hx, hlen, hxl, hf⟩ := DataW.trod_struct Tryz.underlying110 h
  have hC : Tryz.prog.cellsOf 110 = 6 := by kernel_rfl
  have hI : Tryz.prog.cellsOf 3 = 1 := by kernel_rfl
  have hU : Tryz.prog.cellsOf 55 = 1 := by kernel_rfl
  have hL : Tryz.prog.cellsOf 24 = 1 := by kernel_rfl
  rw [hC] at hlen
  match cs, hlen, xs, hxl with
  | [c0, c1, c2, c3, c4, c5], _, [y0, y1, y2, y3, y4, y5], _ =>
    have g0 := hf 0 _ rfl
    have g1 := hf 1 _ rfl
    have g2 := hf 2 _ rfl
    have g3 := hf 3 _ rfl
    have g4 := hf 4 _ rfl
    have g5 := hf 5 _ rfl
    simp [hI, hU, hL] at g0 g1 g2 g3 g4 g5
    obtain ⟨d, e0, _, w0⟩ := DataW.trod_int Tryz.underlying3 g0
    obtain ⟨g, e1, _, w1⟩ := DataW.trod_int Tryz.underlying3 g1
    obtain ⟨i, e2, _, w2⟩ := DataW.trod_int Tryz.underlying3 g2
    obtain ⟨n, e3, _, w3⟩ := DataW.trod_int Tryz.underlying3 g3
    obtain ⟨u, e4, _, w4⟩ := DataW.trod_int Tryz.underlying55 g4
    obtain ⟨A, len, cap, e5, h5⟩ := slice_of g5
    simp at e0 e1 e2 e3 e4
    subst e0 e1 e2 e3 e4 e5
    obtain ⟨k1, k2, k3⟩ := ints_of g5
    refine ⟨⟨d, g, i, n, u, A, len, cap⟩, rfl, ⟨Ar.i64_of_wf w0, Ar.i64_of_wf w1, Ar.i64_of_wf w2, Ar.i64_of_wf w3, h5⟩, ⟨k1, k2, k3 fun q hq => hw q ?_, Ar.u64_of_wf w4⟩⟩
    rw [hx]
    simp only [DataW.weights, Tryz.underlying110]
    simp only [List.map_cons, List.map_nil, DataW.weightsEach, List.mem_append]
    exact .inr (.inr (.inr (.inr (.inr (.inl hq)))))
theorem weights_all {P : Program} {e : TypeId} : ∀ {L : List (DataW H)} {d : DataW H}, d ∈ L → ∀ n ∈ d.weights P e, n ∈ DataW.weightsAll P e L
  | x :: L, d, h, n, hn => by
    simp only [DataW.weightsAll, List.mem_append]
    rcases List.mem_cons.1 h with rfl | h
    · exact .inl hn
    · exact .inr (weights_all h n hn)
theorem steps_read {A : Option Addr} {len cap : Nat} {x : DataW H × List MemPlace} (h : DataW.trod enc Tryz.prog w base spare held fuel 23 (Value.cells (.slice A len cap)).toList = some x)
    (hw : ∀ n ∈ x.1.weights Tryz.prog 23, n ≤ reachBytes) :
    ∃ L : List Stp, L.length = len ∧ len ≤ cap ∧ cap ≤ maxLen ∧ Sp.Steps w A L ∧ (∀ s ∈ L, s.ok) ∧ ∀ s ∈ L, Read w s := by
  have hC : Tryz.prog.cellsOf 110 = 6 := by kernel_rfl
  rcases Go.Deep.open_slice Tryz.underlying23 h with ⟨hcs, _⟩ | ⟨a, l, c, m, n, D, Pl, hcs, _, hl, hm, hmm, hxx, hx⟩
  · simp [Value.cells] at hcs
    obtain ⟨rfl, rfl, rfl⟩ := hcs
    exact ⟨[], rfl, Nat.le_refl _, by unfold maxLen; omega, fun hne => absurd rfl hne, (fun v hv => by cases hv), (fun v hv => by cases hv)⟩
  · simp [Value.cells] at hcs
    obtain ⟨rfl, rfl, rfl⟩ := hcs
    have hlm : len ≤ m := by rw [hmm]; split <;> omega
    obtain ⟨L, hL, hP⟩ := exists_list (P := fun i s => (s.ok ∧ Read w s) ∧ ∀ j v, s.cells[j]? = some v → w.cell? ((a.add (i * 6)).add j) = some v) len fun i hi => by
      obtain ⟨cs, h1, h2⟩ := hx i (by omega)
      obtain ⟨s, rfl, hs, hr⟩ := step_read h2 fun q hq => hw q (by
        rw [hxx]
        simp only [DataW.weights, Tryz.underlying23, List.mem_cons, List.mem_append]
        exact .inr (.inl (weights_all (List.mem_map.2 ⟨i, List.mem_range.2 hi, rfl⟩) q hq)))
      obtain ⟨_, hlen, hcell⟩ := World.cells?_some h1
      rw [hC] at hcell
      refine ⟨s, ⟨hs, hr⟩, fun j v hv => ?_⟩
      have hj : j < s.cells.length := (List.getElem?_eq_some_iff.1 hv).1
      have e := hcell (i := j) (by simpa [Stp.cells] using hj)
      rw [hv] at e
      exact e
    refine ⟨L, hL, hl, hm, fun hne => ?_, fun s hs => ?_, fun s hs => ?_⟩
    · have h0 : 0 < L.length := by
        cases L with
        | nil => exact absurd rfl hne
        | cons => simp
      have hc := (hP 0 L[0] (List.getElem?_eq_getElem h0)).2 0 _ rfl
      obtain ⟨g, f, s⟩ := a
      have hs : s = none := by simpa [Addr.add] using World.cell?_spot hc
      subst hs
      refine ⟨g, f, rfl, by simpa [Addr.add] using World.block_lt_of_cell? w _ hc, fun i s hi j v hv => ?_⟩
      have e := (hP i s hi).2 j v hv
      rw [add_at, add_at, Nat.add_assoc] at e
      exact e
    · obtain ⟨i, hi, rfl⟩ := List.mem_iff_getElem.1 hs
      exact (hP i _ (List.getElem?_eq_getElem hi)).1.1
    · obtain ⟨i, hi, rfl⟩ := List.mem_iff_getElem.1 hs
      exact (hP i _ (List.getElem?_eq_getElem hi)).1.2
end
end Go.Proofs.YtoagghileebokaaGreatDoor.Wk

/-
  The contract of Drop.
-/
namespace Go.Proofs.YtoagghileebokaaGreatDoor.Sp
open Go.RowKit Go.Proofs.YtoagghileebokaaGreatDoor.Ar Go.Proofs.YtoagghileebokaaGreatDoor.Sh
open Go.Proofs.YtoagghileebokaaGreatDoor.Hd (Hd Fields)
open Go.Proofs.YtoagghileebokaaGreatDoor.Tb (Ty Tab blk)
open Go.Proofs.YtoagghileebokaaGreatDoor.Bt (Bv atI prevO nextO has_ok hasV bit)
open Go.Proofs.YtoagghileebokaaGreatDoor.Wd (Table)
set_option linter.unusedVariables false
section
variable {w : World} {s : Ids} {l : List Ty} {ws : List Int} {bs : List Bool}
set_option maxRecDepth 100000 in
theorem drop_no (hG : Glob w s) (h : Spc w s l ws bs) (g : Int) (g0 : -9223372036854775808 ≤ g) (g1 : g ≤ 9223372036854775807) (hv : hasV bs g = false) :
    Calls Tryz.prog 78 #[.pointer (some ⟨s.sp, 0, none⟩), .int .i64 g] w fun e w' => e = .returned (.int .i64 3) ∧ Kept [] w w' := by
  obtain ⟨c0, c1, c2⟩ := h.cells
  have H := Lib.hid (has_ok bs _ _ w h.bv g g0 g1)
  rw [hv] at H
  clear h hG hv
  go_enter Tryz.func78, Tryz.ntmps78
  go_wp2_with fail
  refine H.out.mono ?_
  rintro e w1 ⟨rfl, hk⟩
  have HK := Lib.hid hk
  clear hk H
  go_wp2_with fail
  go_ret
  exact ⟨rfl, HK.out⟩
set_option maxRecDepth 100000 in
set_option maxHeartbeats 1000000 in
theorem drop_yes (hG : Glob w s) (h : Spc w s l ws bs) (g : Int) (g0 : 0 ≤ g) (g1 : g ≤ 1000000) (hv : hasV bs g = true) (hp : prevEndV bs ws g ≤ 300000) (hn : 0 ≤ nextStartV bs ws g ∧ nextStartV bs ws g ≤ 300000) :
    Calls Tryz.prog 78 #[.pointer (some ⟨s.sp, 0, none⟩), .int .i64 g] w fun e w' => e = .returned (.int .i64 0) ∧ Spc w' s l (dropW ws bs g) (dropB ws bs g) ∧ Kept s.turn w w' := by
  obtain ⟨c0, c1, c2⟩ := h.cells
  have hp0 := (prevEndV_bound h g).1
  have H := Lib.hid (has_ok bs _ _ w h.bv g (by omega) (by omega))
  rw [hv] at H
  have HP := Lib.hid (fun y (k : Kept [] w y) => prevEnd_ok (hG.keep0 k) (h.keep0 k) g (by omega) (by omega))
  have HN := Lib.hid (fun y (k : Kept [] w y) => nextStart_ok (hG.keep0 k) (h.keep0 k) g (by omega) (by omega))
  have HB := Lib.hid (fun y (k : Kept [] w y) => become_ok (hG.keep0 k).zero (h.keep0 k) (prevEndV bs ws g) (nextStartV bs ws g) hp0 hp hn.1 hn.2 none 0 [] (Seen.nil _ _) (fun g o e => by cases e) near_nil (by simp))
  clear h hG hv
  unfold dropW dropB
  generalize prevEndV bs ws g = pe at *
  generalize nextStartV bs ws g = ns at *
  generalize becomeW ws pe [] ns = ws2 at *
  generalize becomeB bs pe [] ns = bs2 at *
  go_enter Tryz.func78, Tryz.ntmps78
  go_wp2_with fail
  refine H.out.mono ?_
  rintro e w1 ⟨rfl, hk⟩
  have HK := Lib.hid hk
  clear hk H c0 c1 c2
  go_wp2_with fail
  refine (HP.out _ HK.out).mono ?_
  rintro e w2 ⟨rfl, hk⟩
  have HK2 := Lib.hid (HK.out.trans hk)
  clear hk HP HK
  go_wp2_with fail
  refine (HN.out _ HK2.out).mono ?_
  rintro e w3 ⟨rfl, hk⟩
  have HK3 := Lib.hid (HK2.out.trans hk)
  clear hk HN HK2
  go_wp2_with fail
  refine (HB.out _ HK3.out).mono ?_
  rintro e w4 ⟨⟨v4, rfl⟩, hS, hk⟩
  have HS := Lib.hid hS
  have HK4 := Lib.hid ((HK3.out.none _).trans hk)
  clear hk hS HB HK3
  go_wp2_with fail
  go_ret
  exact ⟨rfl, HS.out, HK4.out⟩
end
end Go.Proofs.YtoagghileebokaaGreatDoor.Sp
