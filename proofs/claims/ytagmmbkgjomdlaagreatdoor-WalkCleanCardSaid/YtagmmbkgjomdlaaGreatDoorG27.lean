/-
  Several texts in one: ShMeth, ShIter, ShRefs, ShBoth.
-/
import Derived.Test.YtagmmbkgjomdlaaGreatDoorG24
import Derived.Test.YtagmmbkgjomdlaaGreatDoorG06
import Derived.Lib.QuietBelow
import Derived.WalkSpells
import Derived.Test.YtagmmbkgjomdlaaGreatDoorG23
import Derived.Test.YtagmmbkgjomdlaaGreatDoorG20
import Derived.Test.YtagmmbkgjomdlaaGreatDoorG01
import Derived.Shelf.Abstract
import Derived.Shelf.RegionOpen
import Derived.OwnWalkIn
import Derived.TacticsInMore
import Derived.LoopNIn
import Derived.LoopIn
import Derived.Sort.CutIn
import Derived.Test.YtagmmbkgjomdlaaGreatDoorG34
import Derived.Test.YtagmmbkgjomdlaaGreatDoorG15
import Derived.Test.YtagmmbkgjomdlaaGreatDoorG13
/-
  The contracts of a view's methods that go over no slots: At, Head, Slots, word, Load, Store, Ref; of nil's too.
-/
namespace Go.Proofs.YtagmmbkgjomdlaaGreatDoor.Sh
open Go.RowKit Go.Proofs.YtagmmbkgjomdlaaGreatDoor.Ar Go.Sort
open Go.Proofs.YtagmmbkgjomdlaaGreatDoor.Hd (Hd Fields cells4 free4 ret_one0)
open Go.Proofs.YtagmmbkgjomdlaaGreatDoor.Tb (Ty)
set_option linter.unusedVariables false

section
variable {w : World} {v p : Nat} {g : Int} {h : Hd} {t : Ty} {sl : Int}
/-! ### nil -/
/-! ### A view -/
set_option maxRecDepth 100000 in
set_option maxHeartbeats 1000000 in
theorem vhead_ok (H : View w v p g h t sl) : Calls Tryz.prog 133 #[.pointer (some ⟨v, 0, none⟩)] w fun e w' => e = .returned h.val ∧ Kept [] w w' := by
  have hb := Hd.Hd.new w Hd.zero
  have k0 : Kept [] w (w.alloc (.cells #[.int .u8 Hd.zero.tg, .int .i64 Hd.zero.ty, .int .i64 Hd.zero.ln, .int .i64 Hd.zero.sz] 76)) := (Kept.refl [] w).alloc _
  obtain ⟨c0, c1, c2, c3, c4, c5, c6, c7, c8, c9⟩ := (H.keep0 k0).cells
  have HN : Hid (Has (w.alloc (.cells #[.int .u8 h.tg, .int .i64 h.ty, .int .i64 h.ln, .int .i64 h.sz] 76)) w.heap.size 76 [.int .u8 h.tg, .int .i64 h.ty, .int .i64 h.ln, .int .i64 h.sz]) := Lib.hid (Hd.Hd.new w h)
  have HK : Hid (Kept [] w (w.alloc (.cells #[.int .u8 h.tg, .int .i64 h.ty, .int .i64 h.ln, .int .i64 h.sz] 76))) := Lib.hid ((Kept.refl [] w).alloc _)
  unfold Hd.val
  unfold Hd.zero at *
  simp only at hb k0 c0 c1 c2 c3 c4 c5 c6 c7 c8 c9
  obtain ⟨f0, f1, f2, f3⟩ := free4 hb
  obtain ⟨d0, d1, d2, d3⟩ := cells4 hb
  clear hb k0 H
  generalize h.tg = xg at *
  generalize h.ty = xt at *
  generalize h.ln = xn at *
  generalize h.sz = xs at *
  go_enter Tryz.func133, Tryz.ntmps133
  go_wp2_with fail
  exact ret_one0 rfl rfl HN.out rfl ⟨rfl, HK.out⟩
def slotE (sl s : Int) : Int := if 0 ≤ s ∧ s < sl then 0 else 2
def slotW (g sl s : Int) : Int := if 0 ≤ s ∧ s < sl then 2 * g + 1 + s else 0
set_option maxRecDepth 100000 in
set_option maxHeartbeats 1000000 in
theorem vword_ok (H : View w v p g h t sl) (s : Int) (g0 : 0 ≤ g) (g1 : g ≤ 65536) (l1 : sl ≤ 65536) : Calls Tryz.prog 80 #[.pointer (some ⟨v, 0, none⟩), .int .i64 s] w fun e w' => e = .returned (.tuple #[.int .i64 (slotW g sl s), .int .i64 (slotE sl s)]) ∧ w = w' := by
  obtain ⟨c0, c1, c2, c3, c4, c5, c6, c7, c8, c9⟩ := H.cells
  have HX := Lib.hid (fun (y : World) => first_ok (w := y) g (by omega) (by omega))
  clear H
  unfold slotW slotE
  by_cases h0 : s < 0
  · rw [if_neg (by omega), if_neg (by omega)]
    go_enter Tryz.func80, Tryz.ntmps80
    go_wp2
    go_ret2
    exact ⟨rfl, rfl⟩
  · by_cases h1 : sl ≤ s
    · rw [if_neg (by omega), if_neg (by omega)]
      go_enter Tryz.func80, Tryz.ntmps80
      go_wp2
      go_ret2
      exact ⟨rfl, rfl⟩
    · rw [if_pos (by omega), if_pos (by omega)]
      have h0' : 0 ≤ s := by omega
      have h1' : s < sl := by omega
      clear h0 h1
      go_enter Tryz.func80, Tryz.ntmps80
      go_wp2_with fail
      refine (HX.out _).mono ?_
      rintro e x1 ⟨rfl, rfl⟩
      go_wp2_with fail
      go_ret2
      exact ⟨rfl, rfl⟩
def vloadV (ws : List Int) (g sl s : Int) : Int := if 0 ≤ s ∧ s < sl then ws.getD (2 * g + 1 + s).toNat 0 else 0
set_option maxRecDepth 100000 in
set_option maxHeartbeats 1000000 in
theorem vload_ok (H : View w v p g h t sl) {q : Nat} {ws : List Int} {n : Int} (hA : Arena w p q ws n) (s : Int) (g0 : 0 ≤ g) (l0 : 0 ≤ sl) (hr : 2 * g + 1 + sl ≤ ws.length) : Calls Tryz.prog 102 #[.pointer (some ⟨v, 0, none⟩), .int .i64 s] w fun e w' => e = .returned (.tuple #[.int .u64 (vloadV ws g sl s), .int .i64 (slotE sl s)]) ∧ w = w' := by
  have hs := hA.short
  obtain ⟨c0, c1, c2, c3, c4, c5, c6, c7, c8, c9⟩ := H.cells
  unfold vloadV
  by_cases hc : 0 ≤ s ∧ s < sl
  · have HV := Lib.hid (vword_ok H s g0 (by omega) (by omega))
    have hw : Ar.within ws.length (2 * g + 1 + s) 1 = true := (Ar.within_iff _ _ _).2 ⟨by omega, by omega, by omega⟩
    have hl : loadV ws (2 * g + 1 + s) = ws.getD (2 * g + 1 + s).toNat 0 := by unfold loadV; rw [if_pos hw]
    have HL := Lib.hid (load_any hA (2 * g + 1 + s) (by omega) (by omega))
    rw [hw, hl, show errOf true = 0 from rfl] at HL
    unfold slotW slotE at HV
    unfold slotE
    simp only [if_pos hc] at HV ⊢
    clear H hA hw hl
    generalize ws.getD (2 * g + 1 + s).toNat 0 = u at *
    go_enter Tryz.func102, Tryz.ntmps102
    go_wp2_with fail
    refine HV.out.mono ?_
    rintro e x1 ⟨rfl, rfl⟩
    go_wp2_with fail
    refine HL.out.mono ?_
    rintro e x1 ⟨rfl, rfl⟩
    go_wp2_with fail
    go_ret2
    exact ⟨rfl, rfl⟩
  · have HV := Lib.hid (vword_ok H s g0 (by omega) (by omega))
    unfold slotW slotE at HV
    unfold slotE
    simp only [if_neg hc] at HV ⊢
    clear H hA
    go_enter Tryz.func102, Tryz.ntmps102
    go_wp2_with fail
    refine HV.out.mono ?_
    rintro e x1 ⟨rfl, rfl⟩
    go_wp2_with fail
    go_ret2
    exact ⟨rfl, rfl⟩
/-- The words behind a Store. -/
def vput (ws : List Int) (g sl s u : Int) : List Int := if 0 ≤ s ∧ s < sl then ws.set (2 * g + 1 + s).toNat u else ws
theorem putW_one (ws : List Int) (i : Nat) (u : Int) (h : i < ws.length) : putW ws i [u] = ws.set i u := by
  unfold putW
  rw [List.set_eq_take_append_cons_drop, if_pos h]
  rfl
set_option maxRecDepth 100000 in
set_option maxHeartbeats 1000000 in
theorem vstore_ok (H : View w v p g h t sl) {q : Nat} {ws : List Int} {n : Int} (hA : Arena w p q ws n) (s u : Int) (g0 : 0 ≤ g) (l0 : 0 ≤ sl) (hr : 2 * g + 1 + sl ≤ ws.length) : Calls Tryz.prog 36 #[.pointer (some ⟨v, 0, none⟩), .int .i64 s, .int .u64 u] w fun e w' =>
    e = .returned (.int .i64 (slotE sl s)) ∧ (∃ n', Arena w' p q (vput ws g sl s u) n') ∧ Kept [p, q] w w' := by
  have hs := hA.short
  obtain ⟨c0, c1, c2, c3, c4, c5, c6, c7, c8, c9⟩ := H.cells
  have HV := Lib.hid (vword_ok H s g0 (by omega) (by omega))
  unfold vput
  by_cases hc : 0 ≤ s ∧ s < sl
  · have hw : Ar.within ws.length (2 * g + 1 + s) 1 = true := (Ar.within_iff _ _ _).2 ⟨by omega, by omega, by omega⟩
    have hl : fillW ws (2 * g + 1 + s) 1 u = ws.set (2 * g + 1 + s).toNat u := by
      unfold fillW
      rw [if_pos hw]
      exact putW_one ws _ u (by omega)
    have HL := Lib.hid (store_any hA (2 * g + 1 + s) u (by omega) (by omega))
    rw [hw, hl, show errOf true = 0 from rfl] at HL
    unfold slotW slotE at HV
    unfold slotE
    simp only [if_pos hc] at HV ⊢
    clear H hA hw hl
    generalize ws.set (2 * g + 1 + s).toNat u = ws' at *
    generalize fillN ws n (2 * g + 1 + s) 1 = n' at *
    go_enter Tryz.func36, Tryz.ntmps36
    go_wp2_with fail
    refine HV.out.mono ?_
    rintro e x1 ⟨rfl, rfl⟩
    go_wp2_with fail
    refine HL.out.mono ?_
    rintro e x1 ⟨rfl, a1, k1⟩
    have HF := Lib.hid (And.intro a1 k1)
    clear a1 k1 HL HV
    go_wp2_with fail
    go_ret
    exact ⟨rfl, ⟨n', HF.out.1⟩, HF.out.2⟩
  · unfold slotW slotE at HV
    unfold slotE
    simp only [if_neg hc] at HV ⊢
    have HA := Lib.hid hA
    clear H hA
    go_enter Tryz.func36, Tryz.ntmps36
    go_wp2_with fail
    refine HV.out.mono ?_
    rintro e x1 ⟨rfl, rfl⟩
    go_wp2_with fail
    go_ret
    exact ⟨rfl, ⟨n, HA.out⟩, Kept.refl _ _⟩
end
end Go.Proofs.YtagmmbkgjomdlaaGreatDoor.Sh

/-
  The loop over a view's references: the contract of the function that references hands back.
-/
namespace Go.Proofs.YtagmmbkgjomdlaaGreatDoor.Sh
open Go.RowKit Go.Proofs.YtagmmbkgjomdlaaGreatDoor.Ar Go.Shelf Go.Sort
open Go.Proofs.YtagmmbkgjomdlaaGreatDoor.Hd (Hd)
open Go.Proofs.YtagmmbkgjomdlaaGreatDoor.Tb (Ty)
set_option linter.unusedVariables false
attribute [local go_sem] Oper.semAt_some

/-- The block of the slice that lies in the box b. -/
def ownAt (W : World) (b : Nat) : Option Nat := match W.cell? ⟨b, 0, none⟩ with | some v => v.ownBlock | none => none
theorem ownAt_of {W W' : World} {b : Nat} (h : W'.heap[b]? = W.heap[b]?) : ownAt W' b = ownAt W b := by
  unfold ownAt
  rw [World.cell?_of_block (w := W) h]
theorem ownAt_has {W : World} {b : Nat} {t : TypeId} {v : Value} (h : Has W b t [v]) : ownAt W b = v.ownBlock := by
  unfold ownAt
  rw [h.cell 0]
  rfl
/-- What a round that goes on keeps: all cells but the box b and the slice in it. -/
structure Kpt (b : Nat) (A B : World) : Prop where
  size : A.heap.size ≤ B.heap.size
  same : ∀ i o, i ≠ b → ownAt A b ≠ some i → A.heap[i]? = some o → o.isCells = true → B.heap[i]? = some o
  own : ownAt B b = ownAt A b ∨ ∃ g, ownAt B b = some g ∧ A.heap.size ≤ g
namespace Kpt
theorem refl (b : Nat) (W : World) : Kpt b W W := ⟨Nat.le_refl _, fun _ _ _ _ h _ => h, .inl rfl⟩
theorem trans {b : Nat} {A B C : World} (h : Kpt b A B) (k : Kpt b B C) : Kpt b A C := by
  refine ⟨Nat.le_trans h.size k.size, fun i o hi ha ho hc => ?_, ?_⟩
  · refine k.same i o hi (fun e => ?_) (h.same i o hi ha ho hc) hc
    rcases h.own with h1 | ⟨g, h1, h2⟩
    · rw [h1] at e; exact ha e
    · rw [h1] at e
      injection e with e
      have := (Array.getElem?_eq_some_iff.1 ho).1
      omega
  · rcases k.own with k1 | ⟨g, k1, k2⟩
    · rw [k1]; exact h.own
    · exact .inr ⟨g, k1, Nat.le_trans h.size k2⟩
theorem put {b n : Nat} (hb : b < n) (W : World) (l : Nat) (o o' : Obj) (hl : n ≤ l) (h : W.heap[l]? = some o) (hc : o.isCells = false) : Kpt b W (W.putObj l o') := by
  have hlt := (Array.getElem?_eq_some_iff.1 h).1
  refine ⟨(grownBy_putObj' W l o').size, fun i x hi _ hx hxc => ?_, .inl ?_⟩
  · have hne : i ≠ l := by rintro rfl; rw [h] at hx; injection hx with hx; rw [hx, hxc] at hc; cases hc
    exact ((grownBy_putObj' W l o').block i (Array.getElem?_eq_some_iff.1 hx).1 (fun e => hne (by injection e))).trans hx
  · exact ownAt_of ((grownBy_putObj' W l o').block b (by omega) (fun e => by injection e with e; omega))
theorem has {b : Nat} {A B : World} (h : Kpt b A B) {i : Nat} {t : TypeId} {cs : List Value} (hi : i ≠ b) (ho : ownAt A b ≠ some i) (hh : Has A i t cs) : Has B i t cs := h.same i _ hi ho hh rfl
end Kpt
theorem grownBy_of {A B : World} (k : Kept [] A B) : A.grownBy B none :=
  ⟨k.os, k.tape, k.out, k.more, fun i hi _ => k.old i hi (by simp)⟩

/-- A row that begins with these numbers. -/
def LayI (w : World) (g : Nat) (l : List Int) : Prop := ∃ rest, Has w g 3 (Ir.ints l ++ rest)
theorem LayI.cell {w : World} {g : Nat} {l : List Int} (h : LayI w g l) (j : Nat) (hj : j < l.length) : w.cell? ⟨g, j, none⟩ = some (.int .i64 (l.getD j 0)) := by
  obtain ⟨r, h⟩ := h
  rw [h.cell, List.getElem?_append_left (by rw [Ir.ints_length]; exact hj)]
  exact Ir.ints_get l j hj
theorem layI_of_own {w : World} {v : Value} {l : List Int} (h : Ir.Own w v l) (hl : l ≠ []) : ∃ g cap, v = .slice (some ⟨g, 0, none⟩) l.length cap ∧ LayI w g l := by
  rcases h.2 with ⟨_, h0⟩ | ⟨g, cap, cur, rfl, _, hg, hc, hm, _, ht⟩
  · exact absurd (List.eq_nil_of_length_eq_zero h0) hl
  · refine ⟨g, cap, rfl, cur.toList.drop (l.length * 1), ?_⟩
    rw [← ht, List.take_append_drop]
    unfold Has
    simpa using hg

/-- The slots that are references, with their words. -/
def pairs (ws : List Int) (g : Int) (t : Ty) (sl : Nat) : List (Int × Int) := (Kd.refsTo t.k t.wd t.ms sl).map fun r => (r, ws.getD (2 * g + 1 + r).toNat 0)
theorem refsTo_mem {k : Nat} {wd : Int} {mk m : Nat} {r : Int} (h : r ∈ Kd.refsTo k wd mk m) : ∃ n : Nat, r = (n : Int) ∧ n < m := by
  unfold Kd.refsTo at h
  obtain ⟨n, hn, rfl⟩ := List.mem_map.1 h
  exact ⟨n, rfl, List.mem_range.1 (List.mem_filter.1 hn).1⟩
/-- What is gone over: of no view nothing. -/
def Src (W : World) (x : Option Addr) (prs : List (Int × Int)) : Prop :=
  (x = none ∧ prs = []) ∨ ∃ v p q m g h t sl ws, x = some ⟨v, 0, none⟩ ∧ View W v p (g : Nat) h t (sl : Nat) ∧ Arena W p q ws m ∧ t.k < 256 ∧ t.ms < 18446744073709551616 ∧ Kd.err t.k t.wd t.ms h.ln = 0 ∧ Kd.slots t.k t.wd h.ln = (sl : Int) ∧ 2 * g + 1 + sl ≤ ws.length ∧ prs = pairs ws g t sl
theorem Src.keep0 {W W' : World} {x : Option Addr} {prs : List (Int × Int)} (h : Src W x prs) (k : Kept [] W W') : Src W' x prs := by
  rcases h with h | ⟨v, p, q, m, g, hh, t, sl, ws, h1, h2, h3, h4⟩
  · exact .inl h
  · exact .inr ⟨v, p, q, m, g, hh, t, sl, ws, h1, h2.keep0 k, h3.keep0 k, h4⟩

abbrev El (prs : List (Int × Int)) := { n : Int × Int // n ∈ prs }
def encs {prs : List (Int × Int)} (x : El prs) : Array Value := #[.int .i64 x.1.1, .int .u64 x.1.2]
def vals {prs : List (Int × Int)} (xs : List (El prs)) : List (Int × Int) := xs.map (·.1)
theorem vals_snoc {prs : List (Int × Int)} (xs : List (El prs)) (x : El prs) : vals (xs ++ [x]) = vals xs ++ [x.1] := by simp [vals]
theorem take_succ_getD {l : List (Int × Int)} {j : Nat} (h : j < l.length) : l.take (j + 1) = l.take j ++ [l.getD j (0, 0)] := by
  rw [List.take_succ_eq_append_getElem h, List.getD_eq_getElem?_getD, List.getElem?_eq_getElem h]
  rfl

set_option maxRecDepth 100000 in
set_option maxHeartbeats 4000000 in
theorem refs1_in (n : Nat) (hn : 1 ≤ n) (b bb : Nat) (x : Option Addr) (prs : List (Int × Int)) (l : Nat) (J Jx : List (El prs) → World → Prop) (W : World) (hJ : AbidesFrom W.heap.size J)
    (hY : ∀ pre x W1, J pre W1 → pre.length < prs.length → YieldAt Fence.wide (n - 1) Tryz.prog l (encs x) W1 fun e W' =>
      (e = .returned (.bool true) ∧ J (pre ++ [x]) W' ∧ Kpt b W1 W') ∨ (e = .returned (.bool false) ∧ Jx (pre ++ [x]) W'))
    (hB : Has W bb 86 [.pointer x]) (hS : Src W x prs) {tb : TypeId} {vb : Value} (hb : Has W b tb [vb]) (hti : tb ≠ 3) (htu : tb ≠ 32) (hob : vb.ownBlock = none) (h0 : J [] W) :
    CallsIn Fence.wide n Tryz.prog 156 #[.func (.yield l) #[] #[], .pointer (some ⟨bb, 0, none⟩)] W fun e' W' => (∃ v, e' = .returned v) ∧
      ((∃ xs, vals xs = prs ∧ J xs W') ∨ (∃ pre, (∃ rest, prs = vals pre ++ rest) ∧ Jx pre W')) := by
  have cb := hB.cell 0
  simp at cb
  have H0 := Lib.hid h0
  have HY := Lib.hid hY
  have HJ := Lib.hid hJ
  have HB := Lib.hid hB
  have Hb := Lib.hid hb
  have Hob := Lib.hid hob
  have Hti := Lib.hid hti
  have Htu := Lib.hid htu
  clear hB h0 hY hJ hb hob hti htu
  rcases hS with ⟨rfl, rfl⟩ | ⟨v, p, q, m, g, hh, t, sl, ws, rfl, hV, hA, hk, hm, he, hsl, hroom, hprs⟩
  · refine callsIn_of_wp Tryz.func156 rfl trivial ?_ rfl
    simp only [Tryz.ntmps156, List.size_toArray, List.length_cons, List.length_nil, Nat.reduceAdd, Nat.reduceSub, Array.replicate_succ, Array.replicate_zero, List.push_toArray, List.append_toArray, List.nil_append, List.cons_append]
    gi_wp2_with (fail)
    refine bodyPost_ret (results_none rfl _ _ _) rfl ?_
    exact ⟨⟨_, rfl⟩, .inl ⟨[], rfl, H0.out⟩⟩
  · have HV := Lib.hid hV
    have HA := Lib.hid hA
    have hshort := hA.short
    have hR := Kd.refs_ok t.k t.wd t.ms hh.ln hk hm
    unfold Kd.RefsPost Kd.refsR at hR
    simp only [he, hsl, if_true, Int.toNat_natCast] at hR
    unfold Kd.typV at hR
    have HR := Lib.hid hR
    have hlen0 := Kd.refsTo_length t.k t.wd t.ms sl
    have Hprs : Hid (prs = (Kd.refsTo t.k t.wd t.ms sl).map fun r => (r, ws.getD (2 * (g : Int) + 1 + r).toNat 0)) := Lib.hid hprs
    have hmem : Hid (∀ r ∈ Kd.refsTo t.k t.wd t.ms sl, ∃ n : Nat, r = (n : Int) ∧ n < sl) := Lib.hid fun r hr => refsTo_mem hr
    obtain ⟨c0, c1, c2, c3, c4, c5, c6, c7, c8, c9⟩ := hV.cells
    clear hR he hsl hV hA hprs c0 c1 c2 c3 c5 c9
    generalize Kd.refsTo t.k t.wd t.ms sl = R at *
    have Hlen0 := Lib.hid hlen0
    clear hlen0
    refine callsIn_of_wp Tryz.func156 rfl trivial ?_ rfl
    simp only [Tryz.ntmps156, List.size_toArray, List.length_cons, List.length_nil, Nat.reduceAdd, Nat.reduceSub, Array.replicate_succ, Array.replicate_zero, List.push_toArray, List.append_toArray, List.nil_append, List.cons_append]
    gi_wp2_with (fail)
    have hmix : Tryz.prog.follows .mixedOrders = true := by kernel_rfl
    gi_cut [3, 4] from 57 (fun a b wr => Hid (b = .int .i64 0 ∧ Ir.Own wr a R ∧ Kept [] W wr))
    case first =>
      refine Rk.wpIn_headAny (r := none) (C := fun w' => ∃ n, w' = W.drewN n) 9 (by kernel_rfl) (by kernel_rfl) ⟨1, rfl⟩ ?_
      simp only [List.take_succ_cons, List.take_zero]
      repeat (quiet_step (fail))
      refine wpQuiet_nil ?_
      rintro _ ⟨nq, rfl⟩ fuel hf
      rw [Rk.fence_none]
      obtain ⟨f, rfl⟩ : ∃ f, fuel = f + 6 := ⟨fuel - 6, by simp at hf; omega⟩
      clear hf
      have hk1 : Kept [] W (W.drewN nq) := (Kept.refl [] W).drewN nq
      generalize W.drewN nq = W1 at hk1 ⊢
      refine wpAnyIn_ready (rs := [9]) (by decide +kernel) (by simp) ?_
      refine AllReadyIn.cons rfl (fun K hK => ?_) AllReadyIn.nil
      go_simp
      refine ⟨trivial, (callsIn_wide.2 (HR.out _)).mono ?_⟩
      rintro e w1 ⟨v1, rfl, hO, k1⟩
      go_simp
      refine hK _ _ ?_
      clear hK K
      refine wpAnyIn_take (i := 10) (v := _) rfl rfl (by kernel_rfl) (by kernel_rfl) (by kernel_rfl) (fun _ _ _ h => h) ⟨Or.inl ⟨by rfl, by intro w; go_simp; try with_reducible rfl⟩, fun _ => rfl⟩ ?_
      refine wpAnyIn_take (i := 11) (v := _) rfl rfl (by kernel_rfl) (by kernel_rfl) (by kernel_rfl) (fun _ _ _ h => h) ⟨Or.inl ⟨by rfl, by intro w; go_simp; try with_reducible rfl⟩, fun _ => rfl⟩ ?_
      refine wpAnyIn_take (i := 12) (v := _) rfl rfl (by kernel_rfl) (by kernel_rfl) (by kernel_rfl) (fun _ _ _ h => h) ⟨Or.inl ⟨by rfl, by intro w; go_simp; try with_reducible rfl⟩, fun _ => rfl⟩ ?_
      refine wpAnyIn_take (i := 13) (v := _) rfl rfl (by kernel_rfl) (by kernel_rfl) (by kernel_rfl) (fun _ _ _ h => h) ⟨Or.inl ⟨by rfl, by intro w; go_simp; try with_reducible rfl⟩, fun _ => rfl⟩ ?_
      refine wpAnyIn_take (i := 14) (v := _) rfl rfl (by kernel_rfl) (by kernel_rfl) (by kernel_rfl) (fun _ _ _ h => h) ⟨Or.inl ⟨by rfl, by intro w; go_simp; try with_reducible rfl⟩, fun _ => rfl⟩ ?_
      refine wpAnyIn_done (by kernel_rfl) ?_ _
      gi_wp2_with (fail)
      try go_simp
      gi_meet
      exact Lib.hid ⟨rfl, hO, hk1.trans k1⟩
    case rest =>
    have hb4 := hcut.out.1
    subst hb4
    have HO1 := Lib.hid hcut.out.2.1
    have HK1 := Lib.hid hcut.out.2.2
    clear hcut c4 c6 c7 c8 cb HR
    have cb : wc.cell? ⟨bb, 0, none⟩ = some (.pointer (some ⟨v, 0, none⟩)) := (HB.out.keep0 HK1.out).cell 0
    obtain ⟨c0, c1, c2, c3, c4, c5, c6, c7, c8, c9⟩ := (HV.out.keep0 HK1.out).cells
    clear c2 c3 c4 c5 c6 c7 c8
    generalize wc = w1 at *
    have HX : Hid (∀ d, Calls Tryz.prog 116 #[.int .i64 (g : Int)] (w1.drewN d) fun e w'' => e = .returned (.int .i64 (2 * (g : Int))) ∧ ∃ m, w'' = w1.drewN m) := Lib.hid fun d => (first_ok (w := w1.drewN d) (g : Int) (by omega) (by omega)).mono fun e w' ⟨h1, h2⟩ => ⟨h1, d, h2.symm⟩
    have hwr : Hid (IntKind.i64.wrap (2 * (g : Int) + 1) = 2 * (g : Int) + 1) := Lib.hid (by rw [IntKind.wrap_i64]; omega)
    have hwd : Hid (∀ y, Kept [] w1 y → Calls Tryz.prog 158 #[.pointer (some ⟨p, 0, none⟩), .int .i64 (2 * (g : Int) + 1), .int .i64 (sl : Int)] y fun e w' =>
        ∃ gw, e = .returned (.tuple #[.slice (some ⟨gw, 0, none⟩) sl sl, .int .i64 0]) ∧ Has w' gw 32 (ints (cutW ws (2 * (g : Int) + 1) (sl : Int))) ∧ Kept [] y w') := Lib.hid fun y ky => by
      have hin : Ar.within ws.length (2 * (g : Int) + 1) (sl : Int) = true := (Ar.within_iff _ _ _).2 ⟨by omega, by omega, by omega⟩
      refine (words_ok (HA.out.keep0 (HK1.out.trans ky)) (2 * (g : Int) + 1) (sl : Int) hin).mono ?_
      rintro e w' ⟨gw, h1, _, h2, h3⟩
      exact ⟨gw, h1, h2, h3⟩
    gi_wp2_with (fail)
    gi_cut [5, 6] from 57 (fun a b wr => Hid (∃ gw, a = .slice (some ⟨gw, 0, none⟩) sl sl ∧ Has wr gw 32 (ints (cutW ws (2 * (g : Int) + 1) (sl : Int))) ∧ Kept [] w1 wr))
    case first =>
      refine Rk.wpIn_headAny (r := none) (C := fun w' => ∃ n, w' = w1.drewN n) 14 (by kernel_rfl) (by kernel_rfl) ⟨1, rfl⟩ ?_
      simp only [List.take_succ_cons, List.take_zero]
      repeat (quiet_step (exact HX.out _))
      refine wpQuiet_nil ?_
      rintro _ ⟨nq, rfl⟩ fuel hf
      rw [Rk.fence_none]
      obtain ⟨f, rfl⟩ : ∃ f, fuel = f + 6 := ⟨fuel - 6, by simp at hf; omega⟩
      clear hf
      have hk1 : Kept [] w1 (w1.drewN nq) := (Kept.refl [] w1).drewN nq
      generalize w1.drewN nq = W1 at hk1 ⊢
      refine wpAnyIn_ready (rs := [14]) (by decide +kernel) (by simp) ?_
      refine AllReadyIn.cons rfl (fun K hK => ?_) AllReadyIn.nil
      go_simp
      rw [hwr.out]
      refine ⟨trivial, (callsIn_wide.2 (hwd.out _ hk1)).mono ?_⟩
      rintro e w1 ⟨gw, rfl, hO, k1⟩
      go_simp
      refine hK _ _ ?_
      clear hK K
      refine wpAnyIn_take (i := 15) (v := _) rfl rfl (by kernel_rfl) (by kernel_rfl) (by kernel_rfl) (fun _ _ _ h => h) ⟨Or.inl ⟨by rfl, by intro w; go_simp; try with_reducible rfl⟩, fun _ => rfl⟩ ?_
      refine wpAnyIn_take (i := 16) (v := _) rfl rfl (by kernel_rfl) (by kernel_rfl) (by kernel_rfl) (fun _ _ _ h => h) ⟨Or.inl ⟨by rfl, by intro w; go_simp; try with_reducible rfl⟩, fun _ => rfl⟩ ?_
      refine wpAnyIn_take (i := 17) (v := _) rfl rfl (by kernel_rfl) (by kernel_rfl) (by kernel_rfl) (fun _ _ _ h => h) ⟨Or.inl ⟨by rfl, by intro w; go_simp; try with_reducible rfl⟩, fun _ => rfl⟩ ?_
      refine wpAnyIn_take (i := 18) (v := _) rfl rfl (by kernel_rfl) (by kernel_rfl) (by kernel_rfl) (fun _ _ _ h => h) ⟨Or.inl ⟨by rfl, by intro w; go_simp; try with_reducible rfl⟩, fun _ => rfl⟩ ?_
      refine wpAnyIn_take (i := 19) (v := _) rfl rfl (by kernel_rfl) (by kernel_rfl) (by kernel_rfl) (fun _ _ _ h => h) ⟨Or.inl ⟨by rfl, by intro w; go_simp; try with_reducible rfl⟩, fun _ => rfl⟩ ?_
      refine wpAnyIn_done (by kernel_rfl) ?_ _
      gi_wp2_with (fail)
      try go_simp
      gi_meet
      exact Lib.hid ⟨gw, rfl, hO, hk1.trans k1⟩
    case rest =>
    obtain ⟨gw, hu5, hwd5, hk5⟩ := hcut.out
    subst hu5
    have HW5 := Lib.hid hwd5
    have HK5 := Lib.hid (HK1.out.trans hk5)
    have HO5 := HO1.out.keep0 hk5
    have hform : ∃ A cap, u3 = .slice A R.length cap ∧ (R ≠ [] → ∃ rg, A = some ⟨rg, 0, none⟩ ∧ LayI wc rg R) := by
      by_cases hR : R = []
      · rcases HO5.form with ⟨h1, _⟩ | ⟨g', cap', h1, _⟩
        · exact ⟨none, 0, by rw [h1, hR]; rfl, fun h => absurd hR h⟩
        · exact ⟨_, _, h1, fun h => absurd hR h⟩
      · obtain ⟨rg, cap, h1, h2⟩ := layI_of_own HO5 hR
        exact ⟨_, _, h1, fun _ => ⟨rg, rfl, h2⟩⟩
    obtain ⟨A, cap, hu3, hA⟩ := hform
    subst hu3
    have HAl := Lib.hid hA
    have HJ5 : Hid (J [] wc) := Lib.hid (HJ.out [] W wc none H0.out (grownBy_of HK5.out) (fun r e => by cases e))
    have Hbox : Hid (Has wc b tb [vb]) := Lib.hid (Hb.out.keep0 HK5.out)
    have Hown : Hid (ownAt wc b = none) := Lib.hid ((ownAt_has Hbox.out).trans Hob.out)
    clear hcut hwd5 hk5 HO5 HK1 HO1 hA cb c0 c1 c9 HX hwd hwr
    obtain ⟨N, hN⟩ : ∃ N, N = R.length := ⟨_, rfl⟩
    rw [← hN]
    have HNR := Lib.hid hN
    have hNb : N ≤ 65536 := by have := Hlen0.out; omega
    clear hN
    have hpl : Hid (prs.length = N) := Lib.hid (by rw [Hprs.out, List.length_map, HNR.out])
    gi_wp2_with (fail)
    gi_loopw [44] (fun t wr => ∃ j : Nat, j ≤ N ∧ t = .int .i64 (j : Int) ∧ Hid (∃ pre : List (El prs), vals pre = prs.take j ∧ J pre wr ∧ Kpt b wc wr)) (fun t _ => N - (intOf t).toNat)
    case atStart => exact ⟨0, Nat.zero_le _, rfl, Lib.hid ⟨[], rfl, HJ5.out, Kpt.refl _ _⟩⟩
    case round =>
      obtain ⟨j, hj, rfl, hr⟩ := hrel
      by_cases hlt : j < N
      · have hne : R ≠ [] := by rintro rfl; have := HNR.out; simp at this; omega
        obtain ⟨rg, rfl, hlay⟩ := HAl.out hne
        obtain ⟨pre, hpre, hJp, hkp⟩ := hr.out
        have hjR : j < R.length := by have := HNR.out; omega
        have hrm : R.getD j 0 ∈ R := by rw [List.getD_eq_getElem?_getD, List.getElem?_eq_getElem hjR]; exact List.getElem_mem hjR
        obtain ⟨rn, hrn, hrs⟩ := hmem.out _ hrm
        have hrb : rg ≠ b := by
          rintro rfl
          obtain ⟨rest, hh⟩ := hlay
          exact Has.block_type hh Hbox.out (Ne.symm Hti.out) rfl
        have hgb : gw ≠ b := by
          rintro rfl
          exact Has.block_type HW5.out Hbox.out (Ne.symm Htu.out) rfl
        have hlay' : LayI wr rg R := by
          obtain ⟨rest, hh⟩ := hlay
          exact ⟨rest, hkp.has hrb (by rw [Hown.out]; simp) hh⟩
        have hgw' : Has wr gw 32 (ints (cutW ws (2 * (g : Int) + 1) (sl : Int))) := hkp.has hgb (by rw [Hown.out]; simp) HW5.out
        have hcl : (cutW ws (2 * (g : Int) + 1) (sl : Int)).length = sl := by
          rw [cutW_length _ _ _ ((Ar.within_iff _ _ _).2 ⟨by omega, by omega, by omega⟩)]; simp
        have d1 := hlay'.cell j hjR
        rw [hrn] at d1
        have d2 := hgw'.cell rn
        rw [ints_get _ rn (by rw [hcl]; exact hrs), show (cutW ws (2 * (g : Int) + 1) (sl : Int)).getD rn 0 = ws.getD (2 * (g : Int) + 1 + (rn : Int)).toNat 0 by
          unfold cutW
          rw [cut_get _ _ _ _ (by simpa using hrs)]
          congr 1 <;> omega] at d2
        have hpj : prs.getD j (0, 0) = ((rn : Int), ws.getD (2 * (g : Int) + 1 + (rn : Int)).toNat 0) := by
          rw [Hprs.out, List.getD_eq_getElem?_getD, List.getElem?_map, List.getElem?_eq_getElem hjR]
          have : R[j] = (rn : Int) := by rw [← hrn, List.getD_eq_getElem?_getD, List.getElem?_eq_getElem hjR]; rfl
          rw [this]
          rfl
        have hjp : j < prs.length := by have := hpl.out; omega
        have hpm : ((rn : Int), ws.getD (2 * (g : Int) + 1 + (rn : Int)).toNat 0) ∈ prs := by
          rw [← hpj, List.getD_eq_getElem?_getD, List.getElem?_eq_getElem hjp]; exact List.getElem_mem hjp
        have hlen : pre.length < prs.length := by
          have := congrArg List.length hpre
          unfold vals at this
          rw [List.length_map, List.length_take] at this
          omega
        have hnext : Hid (vals (pre ++ [⟨_, hpm⟩]) = prs.take (j + 1)) := Lib.hid (by rw [vals_snoc, hpre, take_succ_getD hjp, hpj])
        obtain ⟨fn, tmps, assign, body, hy, hR⟩ := HY.out pre ⟨_, hpm⟩ wr hJp hlen
        dsimp only [encs] at hy
        have HKp := Lib.hid hkp
        clear hlay hlay' hgw' hcl hpj hpre hlen hjp hkp hJp hr hrm hrn hjR hne
        generalize ws.getD (2 * (g : Int) + 1 + (rn : Int)).toNat 0 = u at *
        gi_wp2_with (fail)
        refine hR.mono ?_
        rintro e3 W3 (⟨rfl, hJ3, hkp3⟩ | ⟨rfl, hJx⟩)
        · have HN : Hid (∃ pre : List (El prs), vals pre = prs.take (j + 1) ∧ J pre W3 ∧ Kpt b wc W3) := Lib.hid ⟨_, hnext.out, hJ3, HKp.out.trans hkp3⟩
          clear hJ3 hkp3 hy hR
          gi_wp2_with (fail)
          go_roundw
          case rel => exact ⟨j + 1, by omega, by go_num, HN⟩
          case measure => simp [intOf]; omega
        · have HN : Hid (prs = vals (pre ++ [⟨_, hpm⟩]) ++ prs.drop (j + 1)) := Lib.hid (by rw [hnext.out, List.take_append_drop])
          clear hy hR
          gi_wp2_with (fail)
          refine bodyPost_ret (results_none rfl _ _ _) rfl ?_
          exact ⟨⟨_, rfl⟩, .inr ⟨_, ⟨_, HN.out⟩, hJx⟩⟩
      · obtain rfl : j = N := by omega
        obtain ⟨pre, hpre, hJp, hkp⟩ := hr.out
        have HF := Lib.hid (And.intro (show vals pre = prs by rw [hpre, List.take_of_length_le (by rw [hpl.out]; exact Nat.le_refl _)]) hJp)
        clear hr hpre hJp hkp
        gi_wp2_with (fail)
        go_end0
        exact ⟨⟨_, rfl⟩, .inl ⟨pre, HF.out.1, HF.out.2⟩⟩

theorem refs_stops (n : Nat) (hn : 1 ≤ n) (b bb : Nat) (x : Option Addr) (prs : List (Int × Int)) (w : World) (hB : Has w bb 86 [.pointer x]) (hS : Src w x prs) {tb : TypeId} {vb : Value} (hb : Has w b tb [vb]) (hti : tb ≠ 3) (htu : tb ≠ 32) (hob : vb.ownBlock = none) :
    SeqStopsK Fence.wide n Tryz.prog 156 #[.pointer (some ⟨bb, 0, none⟩)] (encs (prs := prs)) (Kpt b) (fun xs => vals xs = prs) (fun pre => ∃ rest, prs = vals pre ++ rest) prs.length w :=
  fun l J Jx W hW hJ _ hY h0 => refs1_in n hn b bb x prs l J Jx W hJ hY (hB.keep0 (Kept.ofBelow hW [])) (hS.keep0 (Kept.ofBelow hW [])) (hb.keep0 (Kept.ofBelow hW [])) hti htu hob h0
end Go.Proofs.YtagmmbkgjomdlaaGreatDoor.Sh

/-
  The contracts of Refs and Targets.
-/
namespace Go.Proofs.YtagmmbkgjomdlaaGreatDoor.Sh
open Go.RowKit Go.Proofs.YtagmmbkgjomdlaaGreatDoor.Ar Go.Proofs.YtagmmbkgjomdlaaGreatDoor.Lk Go.Shelf Go.Sort
set_option linter.unusedVariables false
attribute [local go_sem] Oper.semAt_some

def FreshV (w : World) (v : Value) : Prop := v.ownBlock = none ∨ ∃ b, v.ownBlock = some b ∧ w.heap.size ≤ b
theorem kpt_of {W X : World} {b : Nat} {t : TypeId} {v v' : Value} (hb : Has W b t [v]) (hK : Kept (b :: v.ownBlock.toList) W X) (hb' : Has X b t [v']) (hv : v'.ownBlock = v.ownBlock ∨ ∃ g, v'.ownBlock = some g ∧ W.heap.size ≤ g) : Kpt b W X := by
  refine ⟨hK.more, fun i o hi ho h _ => ?_, ?_⟩
  · rw [hK.old i (Array.getElem?_eq_some_iff.1 h).1 fun hm => ?_]
    · exact h
    · rcases List.mem_cons.1 hm with e | e
      · exact hi e
      · refine ho ?_
        rw [ownAt_has hb]
        simpa using e
  · rw [ownAt_has hb, ownAt_has hb']
    exact hv
theorem references_ok (x : Option Addr) (w : World) :
    Calls Tryz.prog 137 #[.pointer x] w fun e w' => e = .returned (.func (.func 156) #[] #[.pointer (some ⟨w.heap.size, 0, none⟩)]) ∧ w' = w.alloc (.cells #[.pointer x] 86) := by
  go_enter Tryz.func137, Tryz.ntmps137
  go_wp2_with fail
  go_ret
  exact ⟨rfl, rfl⟩
/-- The slots alone; the words that are not 0. -/
def slotsOf (prs : List (Int × Int)) : List Int := prs.map (·.1)
theorem slotsOf_length (prs : List (Int × Int)) : (slotsOf prs).length ≤ prs.length := by unfold slotsOf; rw [List.length_map]; exact Nat.le_refl _
theorem slotsOf_snoc (prs : List (Int × Int)) (x : Int × Int) : slotsOf (prs ++ [x]) = slotsOf prs ++ [x.1] := by simp [slotsOf]
set_option maxRecDepth 100000 in
set_option maxHeartbeats 4000000 in
/-- All slots that are references. -/
theorem vrefs_ok (w : World) (x : Option Addr) (prs : List (Int × Int)) (h : Src w x prs) (hlb : prs.length ≤ 65536) :
    Calls Tryz.prog 101 #[.pointer x] w fun e w' => ∃ v, e = .returned v ∧ Ir.Own w' v (slotsOf prs) ∧ FreshV w v ∧ Kept [] w w' := by
  have H := Lib.hid h
  clear h
  refine (callsIn_wide (n := 5)).1 ?_
  refine callsIn_of_wp_marks Tryz.func101 rfl trivial ?_ rfl
  simp only [Tryz.ntmps101, List.size_toArray, List.length_cons, List.length_nil, Nat.reduceAdd, Nat.reduceSub, Array.replicate_succ, Array.replicate_zero, List.push_toArray, List.append_toArray, List.nil_append, List.cons_append]
  gi_wp2_with (fail)
  have hk2 : Kept [] w (w.alloc (.cells #[.slice none 0 0] 33)) := (Kept.refl [] w).alloc _
  have h3 := Has.new w 33 [.slice none 0 0]
  have hz2 : (w.alloc (.cells #[.slice none 0 0] 33)).heap.size = w.heap.size + 1 := by simp
  have HL := Lib.hid (references_ok x (w.alloc (.cells #[.slice none 0 0] 33)))
  obtain ⟨w2, hw2⟩ : ∃ w2, w.alloc (.cells #[.slice none 0 0] 33) = w2 := ⟨_, rfl⟩
  have hw2' : w.alloc (.cells [.slice none 0 0].toArray 33) = w2 := hw2
  rw [hw2] at hk2 hz2 HL ⊢
  rw [hw2'] at h3
  clear hw2 hw2'
  have H3 := Lib.hid h3
  have Hk2 := Lib.hid hk2
  have Hz2 := Lib.hid hz2
  clear h3 hk2 hz2
  refine ⟨trivial, (callsIn_wide.2 HL.out).mono ?_⟩
  rintro e0 w0 ⟨rfl, hw0⟩
  have hk0 : Kept [] w2 w0 := by rw [hw0]; exact (Kept.refl [] w2).alloc _
  have hb0 : Has w0 w2.heap.size 86 [.pointer x] := by rw [hw0]; exact Has.new w2 _ _
  rw [Hz2.out] at hb0 ⊢
  have Hk0 := Lib.hid hk0
  have Hb0 := Lib.hid hb0
  clear hk0 hb0 hw0 HL
  gi_wp2_with (fail)
  have Hkw := Lib.hid (Hk2.out.trans Hk0.out)
  have H30 := Lib.hid (H3.out.keep0 Hk0.out)
  have Hlt0 := Lib.hid H30.out.lt
  refine wpIn_rangeFunc_ownG rfl (by decide) (gf := 156) (lb := #[.pointer (some ⟨w.heap.size + 1, 0, none⟩)]) rfl trivial (enters_of Tryz.func156 (by kernel_rfl) rfl)
    (refs_stops 4 (by decide) w.heap.size (w.heap.size + 1) x prs w0 Hb0.out (H.out.keep0 Hkw.out) H30.out (by decide) (by decide) rfl)
    (fun h k => h.trans k) (fun W l o o' hl h hc _ => Kpt.put Hlt0.out W l o o' hl h hc) (Below.refl _ _) (fun _ => rfl)
    (fun pre W => (∃ v, Has W w.heap.size 33 [v] ∧ Ir.Own W v (slotsOf (vals pre)) ∧ FreshV w v) ∧ Kept [] w W)
    (fun _ _ _ => False)
    (OwnFrom.and (fun pre X Y row hs hg hr => by
      obtain ⟨v, h1, h2, h3⟩ := hs
      exact ⟨v, own_has (β := Unit) (f := fun _ => [v]) () X Y row h1 hg hr, Ir.own_from () X Y row h2 hg hr, h3⟩) (own_kept Hkw.out.more))
    (fun _ _ _ _ _ hs _ _ => hs)
    ⟨⟨_, H30.out, Ir.Own.nil _, .inl rfl⟩, Hkw.out⟩
    ?A ?assign ?body ?done ?stop
  case assign =>
    intro l y W K hK
    unfold encs
    gi_wp2_with (fail)
    exact hK
  case body =>
    rintro l pre y W ⟨⟨v, hi3, hO, hV⟩, hk⟩ hlen
    have hlr : (slotsOf (vals pre)).length ≤ 65536 := Nat.le_trans (slotsOf_length _) (by unfold vals; rw [List.length_map]; omega)
    have hsn := slotsOf_snoc (vals pre) y.1
    rw [← vals_snoc] at hsn
    obtain ⟨rs, hs⟩ : ∃ rs, rs = slotsOf (vals pre) := ⟨_, rfl⟩
    rw [← hs] at hsn hO hlr
    have Hsn := Lib.hid hsn
    clear hsn hs
    obtain ⟨⟨ra, ru⟩, hy⟩ := y
    simp only at Hsn
    have c3 := hi3.cell 0
    have f3 := hi3.free 0
    simp at c3
    have c3a : (W.alloc (.cells #[.int .i64 ra] 3)).cell? ⟨w.heap.size, 0, none⟩ = some v := (hi3.alloc _).cell 0
    have Hk := Lib.hid hk
    have H3' := Lib.hid hi3
    have HO := Lib.hid hO
    have HV := Lib.hid hV
    clear hk hlen hO hV
    dsimp only
    clear hi3
    have hka : Kept [] W (W.alloc (.cells #[.int .i64 ra] 3)) := (Kept.refl [] W).alloc _
    have hB : Has (W.alloc (.cells #[.int .i64 ra] 3)) W.heap.size 3 [.int .i64 ra] := Has.new W 3 [.int .i64 ra]
    have h0 : (W.alloc (.cells #[.int .i64 ra] 3)).cell? ⟨W.heap.size, 0, none⟩ = some (.int .i64 ra) := hB.cell 0
    have hOa := HO.out.keep0 hka
    have H0 := Lib.hid h0
    have HOa := Lib.hid hOa
    have Hka := Lib.hid hka
    clear h0 hOa hka hB c3a
    gi_wp2_with (gi_at_builtin; refine Ir.append_one_in rfl (.tmp 9) (.tmp 11) rfl v rs rfl HOa.out W.heap.size 1 ra rfl H0.out (by omega) ?_)
    all_goals
      intro v' w3 hO hG hV
      have hk3 : Kept [] w w3 := own_grown (Hk.out.trans Hka.out) HV.out hG
      have hF3 := own_fresh (v' := v') (Hk.out.trans Hka.out) HV.out (by rw [World.size_alloc]; exact hV)
      have hS := Ar.kept_grown hG
      have hne : w.heap.size ∉ v.ownBlock.toList := fun hm => by
        obtain ⟨cs, hcs⟩ := Ir.own_cells HO.out _ hm
        exact Has.block_type H3'.out hcs (by decide) rfl
      have h3 := (H3'.out.keep0 Hka.out).kept hS hne
      have c3 := h3.cell 0
      have f3 := h3.free 0
      simp at c3
      have hown : v'.ownBlock = v.ownBlock ∨ ∃ g, v'.ownBlock = some g ∧ W.heap.size ≤ g := by
        rcases hV with h | h
        · exact .inl h
        · exact .inr ⟨_, h, by omega⟩
      obtain ⟨g', cap', rfl, hg', _⟩ : ∃ g cap, v' = .slice (some ⟨g, 0, none⟩) (rs ++ [ra]).length cap ∧ g < w3.heap.size ∧ (rs ++ [ra]).length ≤ cap := by
        rcases hO.form with ⟨_, h⟩ | h
        · simp at h
        · obtain ⟨g, cap, h1, h2, h3, _⟩ := h
          exact ⟨g, cap, h1, h2, h3⟩
      have HO3 := Lib.hid hO
      have Hk3 := Lib.hid hk3
      have HF3 := Lib.hid hF3
      have HS := Lib.hid ((Hka.out.none _).trans hS)
      have H33 := Lib.hid h3
      have Hne := Lib.hid hne
      have Hown := Lib.hid hown
      clear hO hk3 hF3 hS h3 hne hG hV H0 HOa hown
      obtain ⟨len, hlen⟩ : ∃ len, len = (rs ++ [ra]).length := ⟨_, rfl⟩
      rw [← hlen] at HO3 HF3 Hown ⊢
      clear hlen
      gi_wp2_with (fail)
      have hKS : Kept [w.heap.size] w3 (w3.setCell ⟨w.heap.size, 0, none⟩ (.slice (some ⟨g', 0, none⟩) len cap')) := (Kept.refl _ w3).setCell _ _ (.inl (by simp))
      have hKA : Kept (w.heap.size :: v.ownBlock.toList) W (w3.setCell ⟨w.heap.size, 0, none⟩ (.slice (some ⟨g', 0, none⟩) len cap')) := (HS.out.mono fun b hb => List.mem_cons_of_mem _ hb).trans (hKS.mono (by simp))
      have hbx : Has (w3.setCell ⟨w.heap.size, 0, none⟩ (.slice (some ⟨g', 0, none⟩) len cap')) w.heap.size 33 [.slice (some ⟨g', 0, none⟩) len cap'] := H33.out.put 0 _
      refine ⟨keepsFrom_of hKA ?_, kpt_of H3'.out hKA hbx Hown.out, ⟨_, hbx, ?_, HF3.out⟩, Hk3.out.forget hKS (by simp)⟩
      · intro b hb
        rcases List.mem_cons.1 hb with rfl | hb
        · exact ⟨_, _, H3'.out⟩
        · exact ⟨_, Ir.own_cells HO.out b hb⟩
      · rw [Hsn.out]
        exact HO3.out.kept hKS fun g hg e => by
          obtain rfl := List.mem_singleton.1 hg
          obtain ⟨cs, hcs⟩ := Ir.own_cells HO3.out w.heap.size (by rw [e]; simp)
          exact Has.block_type H33.out hcs (by decide) rfl
  case done =>
    rintro D xs W hD hx ⟨⟨v, hi3, hO, hV⟩, hk⟩ hK
    have c3 := hi3.cell 0
    simp at c3
    have HKd := Lib.hid hK
    have Hk := Lib.hid hk
    have HE : Hid (vals xs = prs) := Lib.hid hx
    have HO := Lib.hid hO
    have HV := Lib.hid hV
    clear hK hk hi3 hx hO hV
    generalize vals xs = P at *
    gi_wp2_with (fail)
    refine ⟨by simp, .inl ⟨_, _, rfl, run_takeDeferred HKd.out, ?_⟩⟩
    exact ⟨_, results_tmp rfl _ _ _, ⟨v, rfl, by rw [← HE.out]; exact Ir.own_put HO.out D _ _ HKd.out rfl, HV.out, kept_put Hk.out D _ (Nat.le_trans Hkw.out.more hD)⟩⟩
  case stop =>
    rintro D c pre W _ _ h _
    exact h.elim

end Go.Proofs.YtagmmbkgjomdlaaGreatDoor.Sh

/-
  An arena and a table that a law has made; the calls of shape on them.
-/
namespace Go.Proofs.YtagmmbkgjomdlaaGreatDoor.Sh
open Go.RowKit Go.Proofs.YtagmmbkgjomdlaaGreatDoor.Ar
open Go.Proofs.YtagmmbkgjomdlaaGreatDoor.Hd (Hd Fields encW ofL of_facts can_obj encW_yes word_range fitE)
open Go.Proofs.YtagmmbkgjomdlaaGreatDoor.Tb (Ty Tab Made blk getT hasT sizeE sizeT own_blk blk_own)
set_option linter.unusedVariables false

structure Both (w x : World) (p q tp : Nat) (A : Option Addr) (c : Nat) (l : List Ty) (ws : List Int) : Prop where
  kept : Kept [] w x
  ar : ∃ m, Arena x p q ws m
  tab : Tab x tp A c l
  hp : w.heap.size ≤ p
  hq : w.heap.size ≤ q
  np : tp ∉ [p, q]
  nb : ∀ g ∈ blk A, g ∉ [p, q]
  wm : Wm ws
namespace Both
variable {w x y : World} {p q tp : Nat} {A : Option Addr} {c : Nat} {l : List Ty} {ws ws' : List Int} {m : Int}
theorem keep0 (h : Both w x p q tp A c l ws) (k : Kept [] x y) : Both w y p q tp A c l ws := by
  obtain ⟨m, ha⟩ := h.ar
  exact ⟨h.kept.trans k, ⟨m, ha.keep0 k⟩, h.tab.keep0 k, h.hp, h.hq, h.np, h.nb, h.wm⟩
theorem wrote (h : Both w x p q tp A c l ws) (k : Kept [p, q] x y) (ha : ∃ m, Arena y p q ws' m) (hw : Wm ws') : Both w y p q tp A c l ws' := by
  refine ⟨h.kept.forget k ?_, ha, h.tab.kept k h.np ?_, h.hp, h.hq, h.np, h.nb, hw⟩
  · intro i hi
    have := h.hp
    have := h.hq
    simp at hi
    omega
  · intro g hg e
    exact h.nb g (blk_own e) hg
theorem fields (h : Both w x p q tp A c l ws) (hF : Fields w) : Fields x := hF.keep0 h.kept
end Both
section
variable {w x : World} {p q tp : Nat} {A : Option Addr} {c : Nat} {l : List Ty} {ws : List Int}
/-- A view, with the arena and the table. -/
structure Vw (w x : World) (v p q tp : Nat) (A : Option Addr) (c : Nat) (l : List Ty) (ws : List Int) (g : Int) (h : Hd) (t : Ty) (sl : Int) : Prop where
  both : Both w x p q tp A c l ws
  view : View x v p g h t sl
  nv : v ∉ [p, q]
theorem Vw.keep0 {y : World} {v : Nat} {g : Int} {h : Hd} {t : Ty} {sl : Int} (H : Vw w x v p q tp A c l ws g h t sl) (k : Kept [] x y) : Vw w y v p q tp A c l ws g h t sl := ⟨H.both.keep0 k, H.view.keep0 k, H.nv⟩
theorem Vw.wrote {y : World} {v : Nat} {g : Int} {h : Hd} {t : Ty} {sl : Int} {ws' : List Int} (H : Vw w x v p q tp A c l ws g h t sl) (k : Kept [p, q] x y) (ha : ∃ m, Arena y p q ws' m) (hw : Wm ws') : Vw w y v p q tp A c l ws' g h t sl :=
  ⟨H.both.wrote k ha hw, H.view.kept k H.nv, H.nv⟩
/-- A block of another kind may turn. -/
theorem Vw.beside {y : World} {v b : Nat} {g : Int} {h : Hd} {t : Ty} {sl : Int} {cs : List Value} (H : Vw w x v p q tp A c l ws g h t sl) (hb : Has x b 76 cs) (hwb : w.heap.size ≤ b) (k : Kept [b] x y) : Vw w y v p q tp A c l ws g h t sl := by
  obtain ⟨m, ha⟩ := H.both.ar
  have n1 : p ∉ [b] := by simpa using Has.block_type ha.head hb (by decide)
  have n2 : q ∉ [b] := by simpa using Has.block_type ha.row hb (by decide)
  have n3 : tp ∉ [b] := by simpa using Has.block_type H.both.tab.head hb (by decide)
  have n4 : v ∉ [b] := by simpa using Has.block_type H.view.row hb (by decide)
  have n5 : ∀ g ∈ [b], (Value.slice A l.length c).ownBlock ≠ some g := by
    intro g hg e
    obtain rfl := List.mem_singleton.1 hg
    rcases H.both.tab.own.2 with ⟨h1, _⟩ | ⟨g', cap', cur, h1, _, hg', _⟩
    · injection h1 with h1
      subst h1
      cases e
    · injection h1 with h1
      subst h1
      have e' : g' = g := by injection e
      subst e'
      have e2 := hg'.symm.trans hb
      injection e2 with e2
      injection e2 with _ e2
      exact absurd e2 (by decide)
  refine ⟨⟨H.both.kept.forget k (by simpa using hwb), ⟨m, ha.kept k n1 n2⟩, H.both.tab.kept k n3 n5, H.both.hp, H.both.hq, H.both.np, H.both.nb, H.both.wm⟩, H.view.kept k n4, H.nv⟩
/-- What is known of what stands there. -/
structure Facts (ws : List Int) (l : List Ty) (g : Int) (gn sl : Nat) : Prop where
  gEq : g = (gn : Int)
  slEq : ofS ws l g = (sl : Int)
  k : (ofT ws l g).k < 256
  ms : (ofT ws l g).ms < 18446744073709551616
  err : Kd.err (ofT ws l g).k (ofT ws l g).wd (ofT ws l g).ms (hdH ws g).ln = 0
  slots : Kd.slots (ofT ws l g).k (ofT ws l g).wd (hdH ws g).ln = (sl : Int)
  room : 2 * gn + 1 + sl ≤ ws.length
theorem facts_of {g : Int} (hT : Tab x tp A c l) (h : ofE ws l g = 0) : ∃ gn sl, Facts ws l g gn sl := by
  have S := stand_of h
  have hto := getT_ok hT (hdH ws g).ty
  obtain ⟨j0, j1⟩ := (inG_iff _ _ _).1 S.isin
  have hfit := S.fit
  unfold Hd.fitL fitE at hfit
  by_cases hc : (hdH ws g).can
  · rw [if_neg (by simpa using hc), if_neg (by simpa using S.tag)] at hfit
    have hne : ¬ (sizeE l (hdH ws g).ty (hdH ws g).ln ≠ 0 ∨ ofL l (hdH ws g).ty (hdH ws g).ln ≠ hdH ws g) := by
      intro hh
      rw [if_pos hh] at hfit
      cases hfit
    have he : sizeE l (hdH ws g).ty (hdH ws g).ln = 0 := Classical.byContradiction fun e => hne (.inl e)
    have ho : ofL l (hdH ws g).ty (hdH ws g).ln = hdH ws g := Classical.byContradiction fun e => hne (.inr e)
    have hhas : hasT l (hdH ws g).ty = true := by
      cases hx : hasT l (hdH ws g).ty with
      | true => rfl
      | false => unfold sizeE at he; rw [hx, if_neg (by decide)] at he; cases he
    have herr : Kd.err (ofT ws l g).k (ofT ws l g).wd (ofT ws l g).ms (hdH ws g).ln = 0 := by
      unfold sizeE at he
      rw [hhas] at he
      exact he
    obtain ⟨b0, b1⟩ := Kd.slots_bound herr
    have hsz : (hdH ws g).sz = Kd.sizeR (ofT ws l g).k (ofT ws l g).wd (ofT ws l g).ms (hdH ws g).ln := by
      rw [← ho]
      unfold Hd.ofL Hd.ofH
      rw [if_pos he]
      simp only
      unfold sizeT
      rw [hhas]
      rfl
    have hss : ofS ws l g = Kd.slots (ofT ws l g).k (ofT ws l g).wd (hdH ws g).ln := by unfold ofS Kd.slotsR; rw [if_pos herr]
    unfold Kd.sizeR at hsz
    rw [if_pos herr] at hsz
    refine ⟨g.toNat, (ofS ws l g).toNat, by omega, by rw [hss]; omega, hto.1, hto.2, herr, by rw [hss]; omega, ?_⟩
    rw [hss]
    omega
  · rw [if_pos hc] at hfit
    cases hfit
end
end Go.Proofs.YtagmmbkgjomdlaaGreatDoor.Sh
