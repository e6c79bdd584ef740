/-
  The loop over a view's references: the contract of the function that references hands back.
-/
import Derived.Test.YtpnjblledbihcaaDoorShMeth
import Derived.Test.YtpnjblledbihcaaDoorGKd
import Derived.Test.YtpnjblledbihcaaDoorRoundAny
import Derived.Test.YtpnjblledbihcaaDoorLoopKit
import Derived.Shelf.Abstract
import Derived.Shelf.RegionOpen
import Derived.OwnWalkIn
import Derived.TacticsInMore
import Derived.LoopNIn
import Derived.LoopIn
import Derived.Sort.CutIn
namespace Go.Proofs.YtpnjblledbihcaaDoor.Sh
open Go.RowKit Go.Proofs.YtpnjblledbihcaaDoor.Ar Go.Shelf Go.Sort
open Go.Proofs.YtpnjblledbihcaaDoor.Hd (Hd)
open Go.Proofs.YtpnjblledbihcaaDoor.Tb (Ty)
set_option linter.unusedVariables false
attribute [local go_sem] Oper.semAt_some

/-- The block of the slice that lies in the box b. -/
def ownAt (W : World) (b : Nat) : Option Nat := match W.cell? ⟨b, 0, none⟩ with | some v => v.ownBlock | none => none
theorem ownAt_of {W W' : World} {b : Nat} (h : W'.heap[b]? = W.heap[b]?) : ownAt W' b = ownAt W b := by
  unfold ownAt
  rw [World.cell?_of_block (w := W) h]
theorem ownAt_has {W : World} {b : Nat} {t : TypeId} {v : Value} (h : Has W b t [v]) : ownAt W b = v.ownBlock := by
  unfold ownAt
  rw [h.cell 0]
  rfl
/-- What a round that goes on keeps: all cells but the box b and the slice in it. -/
structure Kpt (b : Nat) (A B : World) : Prop where
  size : A.heap.size ≤ B.heap.size
  same : ∀ i o, i ≠ b → ownAt A b ≠ some i → A.heap[i]? = some o → o.isCells = true → B.heap[i]? = some o
  own : ownAt B b = ownAt A b ∨ ∃ g, ownAt B b = some g ∧ A.heap.size ≤ g
namespace Kpt
theorem refl (b : Nat) (W : World) : Kpt b W W := ⟨Nat.le_refl _, fun _ _ _ _ h _ => h, .inl rfl⟩
theorem trans {b : Nat} {A B C : World} (h : Kpt b A B) (k : Kpt b B C) : Kpt b A C := by
  refine ⟨Nat.le_trans h.size k.size, fun i o hi ha ho hc => ?_, ?_⟩
  · refine k.same i o hi (fun e => ?_) (h.same i o hi ha ho hc) hc
    rcases h.own with h1 | ⟨g, h1, h2⟩
    · rw [h1] at e; exact ha e
    · rw [h1] at e
      injection e with e
      have := (Array.getElem?_eq_some_iff.1 ho).1
      omega
  · rcases k.own with k1 | ⟨g, k1, k2⟩
    · rw [k1]; exact h.own
    · exact .inr ⟨g, k1, Nat.le_trans h.size k2⟩
theorem put {b n : Nat} (hb : b < n) (W : World) (l : Nat) (o o' : Obj) (hl : n ≤ l) (h : W.heap[l]? = some o) (hc : o.isCells = false) : Kpt b W (W.putObj l o') := by
  have hlt := (Array.getElem?_eq_some_iff.1 h).1
  refine ⟨(grownBy_putObj' W l o').size, fun i x hi _ hx hxc => ?_, .inl ?_⟩
  · have hne : i ≠ l := by rintro rfl; rw [h] at hx; injection hx with hx; rw [hx, hxc] at hc; cases hc
    exact ((grownBy_putObj' W l o').block i (Array.getElem?_eq_some_iff.1 hx).1 (fun e => hne (by injection e))).trans hx
  · exact ownAt_of ((grownBy_putObj' W l o').block b (by omega) (fun e => by injection e with e; omega))
theorem has {b : Nat} {A B : World} (h : Kpt b A B) {i : Nat} {t : TypeId} {cs : List Value} (hi : i ≠ b) (ho : ownAt A b ≠ some i) (hh : Has A i t cs) : Has B i t cs := h.same i _ hi ho hh rfl
end Kpt
theorem grownBy_of {A B : World} (k : Kept [] A B) : A.grownBy B none :=
  ⟨k.os, k.tape, k.out, k.more, fun i hi _ => k.old i hi (by simp)⟩

/-- A row that begins with these numbers. -/
def LayI (w : World) (g : Nat) (l : List Int) : Prop := ∃ rest, Has w g 3 (Ir.ints l ++ rest)
theorem LayI.cell {w : World} {g : Nat} {l : List Int} (h : LayI w g l) (j : Nat) (hj : j < l.length) : w.cell? ⟨g, j, none⟩ = some (.int .i64 (l.getD j 0)) := by
  obtain ⟨r, h⟩ := h
  rw [h.cell, List.getElem?_append_left (by rw [Ir.ints_length]; exact hj)]
  exact Ir.ints_get l j hj
theorem layI_of_own {w : World} {v : Value} {l : List Int} (h : Ir.Own w v l) (hl : l ≠ []) : ∃ g cap, v = .slice (some ⟨g, 0, none⟩) l.length cap ∧ LayI w g l := by
  rcases h.2 with ⟨_, h0⟩ | ⟨g, cap, cur, rfl, _, hg, hc, hm, _, ht⟩
  · exact absurd (List.eq_nil_of_length_eq_zero h0) hl
  · refine ⟨g, cap, rfl, cur.toList.drop (l.length * 1), ?_⟩
    rw [← ht, List.take_append_drop]
    unfold Has
    simpa using hg

/-- The slots that are references, with their words. -/
def pairs (ws : List Int) (g : Int) (t : Ty) (sl : Nat) : List (Int × Int) := (Kd.refsTo t.k t.wd t.ms sl).map fun r => (r, ws.getD (2 * g + 1 + r).toNat 0)
theorem refsTo_mem {k : Nat} {wd : Int} {mk m : Nat} {r : Int} (h : r ∈ Kd.refsTo k wd mk m) : ∃ n : Nat, r = (n : Int) ∧ n < m := by
  unfold Kd.refsTo at h
  obtain ⟨n, hn, rfl⟩ := List.mem_map.1 h
  exact ⟨n, rfl, List.mem_range.1 (List.mem_filter.1 hn).1⟩
/-- What is gone over: of no view nothing. -/
def Src (W : World) (x : Option Addr) (prs : List (Int × Int)) : Prop :=
  (x = none ∧ prs = []) ∨ ∃ v p q m g h t sl ws, x = some ⟨v, 0, none⟩ ∧ View W v p (g : Nat) h t (sl : Nat) ∧ Arena W p q ws m ∧ t.k < 256 ∧ t.ms < 18446744073709551616 ∧ Kd.err t.k t.wd t.ms h.ln = 0 ∧ Kd.slots t.k t.wd h.ln = (sl : Int) ∧ 2 * g + 1 + sl ≤ ws.length ∧ prs = pairs ws g t sl
theorem Src.keep0 {W W' : World} {x : Option Addr} {prs : List (Int × Int)} (h : Src W x prs) (k : Kept [] W W') : Src W' x prs := by
  rcases h with h | ⟨v, p, q, m, g, hh, t, sl, ws, h1, h2, h3, h4⟩
  · exact .inl h
  · exact .inr ⟨v, p, q, m, g, hh, t, sl, ws, h1, h2.keep0 k, h3.keep0 k, h4⟩

abbrev El (prs : List (Int × Int)) := { n : Int × Int // n ∈ prs }
def encs {prs : List (Int × Int)} (x : El prs) : Array Value := #[.int .i64 x.1.1, .int .u64 x.1.2]
def vals {prs : List (Int × Int)} (xs : List (El prs)) : List (Int × Int) := xs.map (·.1)
theorem vals_snoc {prs : List (Int × Int)} (xs : List (El prs)) (x : El prs) : vals (xs ++ [x]) = vals xs ++ [x.1] := by simp [vals]
theorem take_succ_getD {l : List (Int × Int)} {j : Nat} (h : j < l.length) : l.take (j + 1) = l.take j ++ [l.getD j (0, 0)] := by
  rw [List.take_succ_eq_append_getElem h, List.getD_eq_getElem?_getD, List.getElem?_eq_getElem h]
  rfl

set_option maxRecDepth 100000 in
set_option maxHeartbeats 4000000 in
theorem refs1_in (n : Nat) (hn : 1 ≤ n) (b bb : Nat) (x : Option Addr) (prs : List (Int × Int)) (l : Nat) (J Jx : List (El prs) → World → Prop) (W : World) (hJ : AbidesFrom W.heap.size J)
    (hY : ∀ pre x W1, J pre W1 → pre.length < prs.length → YieldAt Fence.wide (n - 1) Tryd.prog l (encs x) W1 fun e W' =>
      (e = .returned (.bool true) ∧ J (pre ++ [x]) W' ∧ Kpt b W1 W') ∨ (e = .returned (.bool false) ∧ Jx (pre ++ [x]) W'))
    (hB : Has W bb 30 [.pointer x]) (hS : Src W x prs) {tb : TypeId} {vb : Value} (hb : Has W b tb [vb]) (hti : tb ≠ 3) (htu : tb ≠ 22) (hob : vb.ownBlock = none) (h0 : J [] W) :
    CallsIn Fence.wide n Tryd.prog 65 #[.func (.yield l) #[] #[], .pointer (some ⟨bb, 0, none⟩)] W fun e' W' => (∃ v, e' = .returned v) ∧
      ((∃ xs, vals xs = prs ∧ J xs W') ∨ (∃ pre, (∃ rest, prs = vals pre ++ rest) ∧ Jx pre W')) := by
  have cb := hB.cell 0
  simp at cb
  have H0 := Lib.hid h0
  have HY := Lib.hid hY
  have HJ := Lib.hid hJ
  have HB := Lib.hid hB
  have Hb := Lib.hid hb
  have Hob := Lib.hid hob
  have Hti := Lib.hid hti
  have Htu := Lib.hid htu
  clear hB h0 hY hJ hb hob hti htu
  rcases hS with ⟨rfl, rfl⟩ | ⟨v, p, q, m, g, hh, t, sl, ws, rfl, hV, hA, hk, hm, he, hsl, hroom, hprs⟩
  · refine callsIn_of_wp Tryd.func65 rfl trivial ?_ rfl
    simp only [Tryd.ntmps65, List.size_toArray, List.length_cons, List.length_nil, Nat.reduceAdd, Nat.reduceSub, Array.replicate_succ, Array.replicate_zero, List.push_toArray, List.append_toArray, List.nil_append, List.cons_append]
    gi_wp2_with (fail)
    refine bodyPost_ret (results_none rfl _ _ _) rfl ?_
    exact ⟨⟨_, rfl⟩, .inl ⟨[], rfl, H0.out⟩⟩
  · have HV := Lib.hid hV
    have HA := Lib.hid hA
    have hshort := hA.short
    have hR := Kd.refs_ok t.k t.wd t.ms hh.ln hk hm
    unfold Kd.RefsPost Kd.refsR at hR
    simp only [he, hsl, if_true, Int.toNat_natCast] at hR
    unfold Kd.typV at hR
    have HR := Lib.hid hR
    have hlen0 := Kd.refsTo_length t.k t.wd t.ms sl
    have Hprs : Hid (prs = (Kd.refsTo t.k t.wd t.ms sl).map fun r => (r, ws.getD (2 * (g : Int) + 1 + r).toNat 0)) := Lib.hid hprs
    have hmem : Hid (∀ r ∈ Kd.refsTo t.k t.wd t.ms sl, ∃ n : Nat, r = (n : Int) ∧ n < sl) := Lib.hid fun r hr => refsTo_mem hr
    obtain ⟨c0, c1, c2, c3, c4, c5, c6, c7, c8, c9⟩ := hV.cells
    clear hR he hsl hV hA hprs c0 c1 c2 c3 c5 c9
    generalize Kd.refsTo t.k t.wd t.ms sl = R at *
    have Hlen0 := Lib.hid hlen0
    clear hlen0
    refine callsIn_of_wp Tryd.func65 rfl trivial ?_ rfl
    simp only [Tryd.ntmps65, List.size_toArray, List.length_cons, List.length_nil, Nat.reduceAdd, Nat.reduceSub, Array.replicate_succ, Array.replicate_zero, List.push_toArray, List.append_toArray, List.nil_append, List.cons_append]
    gi_wp2_with (fail)
    have hmix : Tryd.prog.follows .mixedOrders = true := by kernel_rfl
    gi_cut [3, 4] from 57 (fun a b wr => Hid (b = .int .i64 0 ∧ Ir.Own wr a R ∧ Kept [] W wr))
    case first =>
      refine Rk.wpIn_headAny (r := none) (C := fun w' => ∃ n, w' = W.drewN n) 9 (by kernel_rfl) (by kernel_rfl) ⟨1, rfl⟩ ?_
      simp only [List.take_succ_cons, List.take_zero]
      repeat (quiet_step (fail))
      refine wpQuiet_nil ?_
      rintro _ ⟨nq, rfl⟩ fuel hf
      rw [Rk.fence_none]
      obtain ⟨f, rfl⟩ : ∃ f, fuel = f + 6 := ⟨fuel - 6, by simp at hf; omega⟩
      clear hf
      have hk1 : Kept [] W (W.drewN nq) := (Kept.refl [] W).drewN nq
      generalize W.drewN nq = W1 at hk1 ⊢
      refine wpAnyIn_ready (rs := [9]) (by decide +kernel) (by simp) ?_
      refine AllReadyIn.cons rfl (fun K hK => ?_) AllReadyIn.nil
      go_simp
      refine ⟨trivial, (callsIn_wide.2 (HR.out _)).mono ?_⟩
      rintro e w1 ⟨v1, rfl, hO, k1⟩
      go_simp
      refine hK _ _ ?_
      clear hK K
      refine wpAnyIn_take (i := 10) (v := _) rfl rfl (by kernel_rfl) (by kernel_rfl) (by kernel_rfl) (fun _ _ _ h => h) ⟨Or.inl ⟨by rfl, by intro w; go_simp; try with_reducible rfl⟩, fun _ => rfl⟩ ?_
      refine wpAnyIn_take (i := 11) (v := _) rfl rfl (by kernel_rfl) (by kernel_rfl) (by kernel_rfl) (fun _ _ _ h => h) ⟨Or.inl ⟨by rfl, by intro w; go_simp; try with_reducible rfl⟩, fun _ => rfl⟩ ?_
      refine wpAnyIn_take (i := 12) (v := _) rfl rfl (by kernel_rfl) (by kernel_rfl) (by kernel_rfl) (fun _ _ _ h => h) ⟨Or.inl ⟨by rfl, by intro w; go_simp; try with_reducible rfl⟩, fun _ => rfl⟩ ?_
      refine wpAnyIn_take (i := 13) (v := _) rfl rfl (by kernel_rfl) (by kernel_rfl) (by kernel_rfl) (fun _ _ _ h => h) ⟨Or.inl ⟨by rfl, by intro w; go_simp; try with_reducible rfl⟩, fun _ => rfl⟩ ?_
      refine wpAnyIn_take (i := 14) (v := _) rfl rfl (by kernel_rfl) (by kernel_rfl) (by kernel_rfl) (fun _ _ _ h => h) ⟨Or.inl ⟨by rfl, by intro w; go_simp; try with_reducible rfl⟩, fun _ => rfl⟩ ?_
      refine wpAnyIn_done (by kernel_rfl) ?_ _
      gi_wp2_with (fail)
      try go_simp
      gi_meet
      exact Lib.hid ⟨rfl, hO, hk1.trans k1⟩
    case rest =>
    have hb4 := hcut.out.1
    subst hb4
    have HO1 := Lib.hid hcut.out.2.1
    have HK1 := Lib.hid hcut.out.2.2
    clear hcut c4 c6 c7 c8 cb HR
    have cb : wc.cell? ⟨bb, 0, none⟩ = some (.pointer (some ⟨v, 0, none⟩)) := (HB.out.keep0 HK1.out).cell 0
    obtain ⟨c0, c1, c2, c3, c4, c5, c6, c7, c8, c9⟩ := (HV.out.keep0 HK1.out).cells
    clear c2 c3 c4 c5 c6 c7 c8
    generalize wc = w1 at *
    have HX : Hid (∀ d, Calls Tryd.prog 41 #[.int .i64 (g : Int)] (w1.drewN d) fun e w'' => e = .returned (.int .i64 (2 * (g : Int))) ∧ ∃ m, w'' = w1.drewN m) := Lib.hid fun d => (first_ok (w := w1.drewN d) (g : Int) (by omega) (by omega)).mono fun e w' ⟨h1, h2⟩ => ⟨h1, d, h2.symm⟩
    have hwr : Hid (IntKind.i64.wrap (2 * (g : Int) + 1) = 2 * (g : Int) + 1) := Lib.hid (by rw [IntKind.wrap_i64]; omega)
    have hwd : Hid (∀ y, Kept [] w1 y → Calls Tryd.prog 53 #[.pointer (some ⟨p, 0, none⟩), .int .i64 (2 * (g : Int) + 1), .int .i64 (sl : Int)] y fun e w' =>
        ∃ gw, e = .returned (.tuple #[.slice (some ⟨gw, 0, none⟩) sl sl, .int .i64 0]) ∧ Has w' gw 22 (ints (cutW ws (2 * (g : Int) + 1) (sl : Int))) ∧ Kept [] y w') := Lib.hid fun y ky => by
      have hin : Ar.within ws.length (2 * (g : Int) + 1) (sl : Int) = true := (Ar.within_iff _ _ _).2 ⟨by omega, by omega, by omega⟩
      refine (words_ok (HA.out.keep0 (HK1.out.trans ky)) (2 * (g : Int) + 1) (sl : Int) hin).mono ?_
      rintro e w' ⟨gw, h1, _, h2, h3⟩
      exact ⟨gw, h1, h2, h3⟩
    gi_wp2_with (fail)
    gi_cut [5, 6] from 57 (fun a b wr => Hid (∃ gw, a = .slice (some ⟨gw, 0, none⟩) sl sl ∧ Has wr gw 22 (ints (cutW ws (2 * (g : Int) + 1) (sl : Int))) ∧ Kept [] w1 wr))
    case first =>
      refine Rk.wpIn_headAny (r := none) (C := fun w' => ∃ n, w' = w1.drewN n) 14 (by kernel_rfl) (by kernel_rfl) ⟨1, rfl⟩ ?_
      simp only [List.take_succ_cons, List.take_zero]
      repeat (quiet_step (exact HX.out _))
      refine wpQuiet_nil ?_
      rintro _ ⟨nq, rfl⟩ fuel hf
      rw [Rk.fence_none]
      obtain ⟨f, rfl⟩ : ∃ f, fuel = f + 6 := ⟨fuel - 6, by simp at hf; omega⟩
      clear hf
      have hk1 : Kept [] w1 (w1.drewN nq) := (Kept.refl [] w1).drewN nq
      generalize w1.drewN nq = W1 at hk1 ⊢
      refine wpAnyIn_ready (rs := [14]) (by decide +kernel) (by simp) ?_
      refine AllReadyIn.cons rfl (fun K hK => ?_) AllReadyIn.nil
      go_simp
      rw [hwr.out]
      refine ⟨trivial, (callsIn_wide.2 (hwd.out _ hk1)).mono ?_⟩
      rintro e w1 ⟨gw, rfl, hO, k1⟩
      go_simp
      refine hK _ _ ?_
      clear hK K
      refine wpAnyIn_take (i := 15) (v := _) rfl rfl (by kernel_rfl) (by kernel_rfl) (by kernel_rfl) (fun _ _ _ h => h) ⟨Or.inl ⟨by rfl, by intro w; go_simp; try with_reducible rfl⟩, fun _ => rfl⟩ ?_
      refine wpAnyIn_take (i := 16) (v := _) rfl rfl (by kernel_rfl) (by kernel_rfl) (by kernel_rfl) (fun _ _ _ h => h) ⟨Or.inl ⟨by rfl, by intro w; go_simp; try with_reducible rfl⟩, fun _ => rfl⟩ ?_
      refine wpAnyIn_take (i := 17) (v := _) rfl rfl (by kernel_rfl) (by kernel_rfl) (by kernel_rfl) (fun _ _ _ h => h) ⟨Or.inl ⟨by rfl, by intro w; go_simp; try with_reducible rfl⟩, fun _ => rfl⟩ ?_
      refine wpAnyIn_take (i := 18) (v := _) rfl rfl (by kernel_rfl) (by kernel_rfl) (by kernel_rfl) (fun _ _ _ h => h) ⟨Or.inl ⟨by rfl, by intro w; go_simp; try with_reducible rfl⟩, fun _ => rfl⟩ ?_
      refine wpAnyIn_take (i := 19) (v := _) rfl rfl (by kernel_rfl) (by kernel_rfl) (by kernel_rfl) (fun _ _ _ h => h) ⟨Or.inl ⟨by rfl, by intro w; go_simp; try with_reducible rfl⟩, fun _ => rfl⟩ ?_
      refine wpAnyIn_done (by kernel_rfl) ?_ _
      gi_wp2_with (fail)
      try go_simp
      gi_meet
      exact Lib.hid ⟨gw, rfl, hO, hk1.trans k1⟩
    case rest =>
    obtain ⟨gw, hu5, hwd5, hk5⟩ := hcut.out
    subst hu5
    have HW5 := Lib.hid hwd5
    have HK5 := Lib.hid (HK1.out.trans hk5)
    have HO5 := HO1.out.keep0 hk5
    have hform : ∃ A cap, u3 = .slice A R.length cap ∧ (R ≠ [] → ∃ rg, A = some ⟨rg, 0, none⟩ ∧ LayI wc rg R) := by
      by_cases hR : R = []
      · rcases HO5.form with ⟨h1, _⟩ | ⟨g', cap', h1, _⟩
        · exact ⟨none, 0, by rw [h1, hR]; rfl, fun h => absurd hR h⟩
        · exact ⟨_, _, h1, fun h => absurd hR h⟩
      · obtain ⟨rg, cap, h1, h2⟩ := layI_of_own HO5 hR
        exact ⟨_, _, h1, fun _ => ⟨rg, rfl, h2⟩⟩
    obtain ⟨A, cap, hu3, hA⟩ := hform
    subst hu3
    have HAl := Lib.hid hA
    have HJ5 : Hid (J [] wc) := Lib.hid (HJ.out [] W wc none H0.out (grownBy_of HK5.out) (fun r e => by cases e))
    have Hbox : Hid (Has wc b tb [vb]) := Lib.hid (Hb.out.keep0 HK5.out)
    have Hown : Hid (ownAt wc b = none) := Lib.hid ((ownAt_has Hbox.out).trans Hob.out)
    clear hcut hwd5 hk5 HO5 HK1 HO1 hA cb c0 c1 c9 HX hwd hwr
    obtain ⟨N, hN⟩ : ∃ N, N = R.length := ⟨_, rfl⟩
    rw [← hN]
    have HNR := Lib.hid hN
    have hNb : N ≤ 65536 := by have := Hlen0.out; omega
    clear hN
    have hpl : Hid (prs.length = N) := Lib.hid (by rw [Hprs.out, List.length_map, HNR.out])
    gi_wp2_with (fail)
    gi_loopw [44] (fun t wr => ∃ j : Nat, j ≤ N ∧ t = .int .i64 (j : Int) ∧ Hid (∃ pre : List (El prs), vals pre = prs.take j ∧ J pre wr ∧ Kpt b wc wr)) (fun t _ => N - (intOf t).toNat)
    case atStart => exact ⟨0, Nat.zero_le _, rfl, Lib.hid ⟨[], rfl, HJ5.out, Kpt.refl _ _⟩⟩
    case round =>
      obtain ⟨j, hj, rfl, hr⟩ := hrel
      by_cases hlt : j < N
      · have hne : R ≠ [] := by rintro rfl; have := HNR.out; simp at this; omega
        obtain ⟨rg, rfl, hlay⟩ := HAl.out hne
        obtain ⟨pre, hpre, hJp, hkp⟩ := hr.out
        have hjR : j < R.length := by have := HNR.out; omega
        have hrm : R.getD j 0 ∈ R := by rw [List.getD_eq_getElem?_getD, List.getElem?_eq_getElem hjR]; exact List.getElem_mem hjR
        obtain ⟨rn, hrn, hrs⟩ := hmem.out _ hrm
        have hrb : rg ≠ b := by
          rintro rfl
          obtain ⟨rest, hh⟩ := hlay
          exact Has.block_type hh Hbox.out (Ne.symm Hti.out) rfl
        have hgb : gw ≠ b := by
          rintro rfl
          exact Has.block_type HW5.out Hbox.out (Ne.symm Htu.out) rfl
        have hlay' : LayI wr rg R := by
          obtain ⟨rest, hh⟩ := hlay
          exact ⟨rest, hkp.has hrb (by rw [Hown.out]; simp) hh⟩
        have hgw' : Has wr gw 22 (ints (cutW ws (2 * (g : Int) + 1) (sl : Int))) := hkp.has hgb (by rw [Hown.out]; simp) HW5.out
        have hcl : (cutW ws (2 * (g : Int) + 1) (sl : Int)).length = sl := by
          rw [cutW_length _ _ _ ((Ar.within_iff _ _ _).2 ⟨by omega, by omega, by omega⟩)]; simp
        have d1 := hlay'.cell j hjR
        rw [hrn] at d1
        have d2 := hgw'.cell rn
        rw [ints_get _ rn (by rw [hcl]; exact hrs), show (cutW ws (2 * (g : Int) + 1) (sl : Int)).getD rn 0 = ws.getD (2 * (g : Int) + 1 + (rn : Int)).toNat 0 by
          unfold cutW
          rw [cut_get _ _ _ _ (by simpa using hrs)]
          congr 1 <;> omega] at d2
        have hpj : prs.getD j (0, 0) = ((rn : Int), ws.getD (2 * (g : Int) + 1 + (rn : Int)).toNat 0) := by
          rw [Hprs.out, List.getD_eq_getElem?_getD, List.getElem?_map, List.getElem?_eq_getElem hjR]
          have : R[j] = (rn : Int) := by rw [← hrn, List.getD_eq_getElem?_getD, List.getElem?_eq_getElem hjR]; rfl
          rw [this]
          rfl
        have hjp : j < prs.length := by have := hpl.out; omega
        have hpm : ((rn : Int), ws.getD (2 * (g : Int) + 1 + (rn : Int)).toNat 0) ∈ prs := by
          rw [← hpj, List.getD_eq_getElem?_getD, List.getElem?_eq_getElem hjp]; exact List.getElem_mem hjp
        have hlen : pre.length < prs.length := by
          have := congrArg List.length hpre
          unfold vals at this
          rw [List.length_map, List.length_take] at this
          omega
        have hnext : Hid (vals (pre ++ [⟨_, hpm⟩]) = prs.take (j + 1)) := Lib.hid (by rw [vals_snoc, hpre, take_succ_getD hjp, hpj])
        obtain ⟨fn, tmps, assign, body, hy, hR⟩ := HY.out pre ⟨_, hpm⟩ wr hJp hlen
        dsimp only [encs] at hy
        have HKp := Lib.hid hkp
        clear hlay hlay' hgw' hcl hpj hpre hlen hjp hkp hJp hr hrm hrn hjR hne
        generalize ws.getD (2 * (g : Int) + 1 + (rn : Int)).toNat 0 = u at *
        gi_wp2_with (fail)
        refine hR.mono ?_
        rintro e3 W3 (⟨rfl, hJ3, hkp3⟩ | ⟨rfl, hJx⟩)
        · have HN : Hid (∃ pre : List (El prs), vals pre = prs.take (j + 1) ∧ J pre W3 ∧ Kpt b wc W3) := Lib.hid ⟨_, hnext.out, hJ3, HKp.out.trans hkp3⟩
          clear hJ3 hkp3 hy hR
          gi_wp2_with (fail)
          go_roundw
          case rel => exact ⟨j + 1, by omega, by go_num, HN⟩
          case measure => simp [intOf]; omega
        · have HN : Hid (prs = vals (pre ++ [⟨_, hpm⟩]) ++ prs.drop (j + 1)) := Lib.hid (by rw [hnext.out, List.take_append_drop])
          clear hy hR
          gi_wp2_with (fail)
          refine bodyPost_ret (results_none rfl _ _ _) rfl ?_
          exact ⟨⟨_, rfl⟩, .inr ⟨_, ⟨_, HN.out⟩, hJx⟩⟩
      · obtain rfl : j = N := by omega
        obtain ⟨pre, hpre, hJp, hkp⟩ := hr.out
        have HF := Lib.hid (And.intro (show vals pre = prs by rw [hpre, List.take_of_length_le (by rw [hpl.out]; exact Nat.le_refl _)]) hJp)
        clear hr hpre hJp hkp
        gi_wp2_with (fail)
        go_end0
        exact ⟨⟨_, rfl⟩, .inl ⟨pre, HF.out.1, HF.out.2⟩⟩

theorem refs_stops (n : Nat) (hn : 1 ≤ n) (b bb : Nat) (x : Option Addr) (prs : List (Int × Int)) (w : World) (hB : Has w bb 30 [.pointer x]) (hS : Src w x prs) {tb : TypeId} {vb : Value} (hb : Has w b tb [vb]) (hti : tb ≠ 3) (htu : tb ≠ 22) (hob : vb.ownBlock = none) :
    SeqStopsK Fence.wide n Tryd.prog 65 #[.pointer (some ⟨bb, 0, none⟩)] (encs (prs := prs)) (Kpt b) (fun xs => vals xs = prs) (fun pre => ∃ rest, prs = vals pre ++ rest) prs.length w :=
  fun l J Jx W hW hJ _ hY h0 => refs1_in n hn b bb x prs l J Jx W hJ hY (hB.keep0 (Kept.ofBelow hW [])) (hS.keep0 (Kept.ofBelow hW [])) (hb.keep0 (Kept.ofBelow hW [])) hti htu hob h0
end Go.Proofs.YtpnjblledbihcaaDoor.Sh
