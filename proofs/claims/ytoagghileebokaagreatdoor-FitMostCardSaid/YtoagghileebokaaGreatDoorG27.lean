/-
  Several texts in one: OwnIn, ShMeth, ShIter, ShRefs.
-/
import Derived.Test.YtoagghileebokaaGreatDoorG24
import Derived.Test.YtoagghileebokaaGreatDoorG31
import Derived.Test.YtoagghileebokaaGreatDoorG11
import Derived.Test.YtoagghileebokaaGreatDoorG16
import Derived.Maps.OwnIn
import Derived.Test.YtoagghileebokaaGreatDoorG12
import Derived.Test.YtoagghileebokaaGreatDoorG15
import Derived.Lib.QuietBelow
import Derived.WalkSpells
import Derived.Shelf.Abstract
import Derived.Shelf.RegionOpen
import Derived.OwnWalkIn
import Derived.TacticsInMore
import Derived.LoopNIn
import Derived.LoopIn
import Derived.Sort.CutIn
/-
  In a round: append of a number to a row of numbers ([]int), of a word to a row of words ([]uint64); what the loop's book-keeping leaves of such a row.
-/
namespace Go.Proofs.YtoagghileebokaaGreatDoor.Ir
open Go.RowKit Go.Proofs.YtoagghileebokaaGreatDoor.Ar
theorem append_one_in {F : Fence} {n : Nat} {w : World} {ops : Array Oper} {rest : List Oper} {o : Oper} {a : Act} {Q : Exit → Act → World → Prop} (hgd : o.guard = none) (s x : Operand)
    (ho : o.op = .call { callee := .builtin .append, args := #[s, x], argTypes := #[24, 24] })
    (v : Value) (l : List Int) (hs : a.eval s = v) (hown : Ir.Own w v l) (g c : Nat) (z : Int) (hx : a.eval x = .slice (some ⟨g, 0, none⟩) 1 c)
    (h0 : w.cell? ⟨g, 0, none⟩ = some (.int .i64 z)) (hb : l.length ≤ 1073741824)
    (h : ∀ v' w', Ir.Own w' v' (l ++ [z]) → w.grownBy w' v.ownBlock → (v'.ownBlock = v.ownBlock ∨ v'.ownBlock = some w.heap.size) → wpListIn F n Tryz.prog ops Q rest (a.put o.dst v') w') : wpListIn F n Tryz.prog ops Q (o :: rest) a w := by
  obtain ⟨i0, hi, hz0, hz1, hz2⟩ := info_parts info_i64
  refine wpListIn_append_own_at w hgd s x 24 ho 0 3 i0 _ 1 8 Tryz.underlying24 hi hz0 hz1 hz2 rfl (by decide) v l.length (Ir.ints l) hs hown ⟨g, 0, none⟩ 1 c (Ir.ints [z]) hx rfl ?_ (Ir.ints_one _) (by unfold maxLen; omega) (by omega) (Nat.zero_le _) ?_
  · intro j u hu
    rw [add_at, Nat.zero_add]
    match j, hu with
    | 0, hu => rw [← Option.some.inj (show some (Value.int .i64 z) = some u from hu)]; exact h0
  · intro v' w' h1 h2 _ h4
    refine h v' w' ?_ h2 h4
    unfold Ir.Own Ir.ints at *
    rw [List.length_append, List.map_append]
    exact h1
theorem own_from {B : Nat} {v : Value} {rs : List Int} : OwnFrom B (fun (_ : Unit) W => Ir.Own W v rs) :=
  fun s X Y row hs hg hr => Ir.Own.keep hs hg (by
    rcases hs.2 with ⟨rfl, _⟩ | ⟨g, cap, cur, rfl, _, hb, _⟩
    · exact .inl rfl
    · refine .inr fun e => ?_
      obtain ⟨_, o, ho, hc⟩ := hr g e.symm
      rw [ho] at hb
      injection hb with hb
      subst hb
      cases hc)
theorem own_cells {w : World} {v : Value} {rs : List Int} (h : Ir.Own w v rs) : ∀ b ∈ v.ownBlock.toList, ∃ cs, Has w b 3 cs := by
  intro b hb
  rcases h.2 with ⟨rfl, _⟩ | ⟨g, cap, cur, rfl, _, hg, _⟩
  · cases hb
  · obtain rfl : b = g := by simpa [Value.ownBlock] using hb
    exact ⟨cur.toList, hg⟩
theorem own_put {w : World} {v : Value} {rs : List Int} (h : Ir.Own w v rs) (D : Nat) (o o' : Obj) (hD : w.heap[D]? = some o) (hc : o.isCells = false) : Ir.Own (w.putObj D o') v rs :=
  own_from (B := 0) () w _ (some D) h (grownBy_putObj' w D o') fun r e => by injection e with e; subst e; exact ⟨Nat.zero_le _, o, hD, hc⟩
end Go.Proofs.YtoagghileebokaaGreatDoor.Ir
namespace Go.Proofs.YtoagghileebokaaGreatDoor.Ar
open Go.RowKit
theorem append_one_in {F : Fence} {n : Nat} {w : World} {ops : Array Oper} {rest : List Oper} {o : Oper} {a : Act} {Q : Exit → Act → World → Prop} (hgd : o.guard = none) (s x : Operand)
    (ho : o.op = .call { callee := .builtin .append, args := #[s, x], argTypes := #[130, 130] })
    (v : Value) (l : List Int) (hs : a.eval s = v) (hown : Own w v l) (g c : Nat) (z : Int) (hx : a.eval x = .slice (some ⟨g, 0, none⟩) 1 c)
    (h0 : w.cell? ⟨g, 0, none⟩ = some (.int .u64 z)) (hb : l.length ≤ 1073741824)
    (h : ∀ v' w', Own w' v' (l ++ [z]) → w.grownBy w' v.ownBlock → (v'.ownBlock = v.ownBlock ∨ v'.ownBlock = some w.heap.size) → wpListIn F n Tryz.prog ops Q rest (a.put o.dst v') w') : wpListIn F n Tryz.prog ops Q (o :: rest) a w := by
  obtain ⟨i0, hi, hz0, hz1, hz2⟩ := info_parts info_u64
  refine wpListIn_append_own_at w hgd s x 130 ho 0 55 i0 _ 1 8 Tryz.underlying130 hi hz0 hz1 hz2 rfl (by decide) v l.length (ints l) hs hown ⟨g, 0, none⟩ 1 c (ints [z]) hx rfl ?_ (ints_one _) (by unfold maxLen; omega) (by omega) (Nat.zero_le _) ?_
  · intro j u hu
    rw [add_at, Nat.zero_add]
    match j, hu with
    | 0, hu => rw [← Option.some.inj (show some (Value.int .u64 z) = some u from hu)]; exact h0
  · intro v' w' h1 h2 _ h4
    refine h v' w' ?_ h2 h4
    unfold Own ints at *
    rw [List.length_append, List.map_append]
    exact h1
theorem own_from {B : Nat} {v : Value} {rs : List Int} : OwnFrom B (fun (_ : Unit) W => Own W v rs) :=
  fun s X Y row hs hg hr => Own.keep hs hg (by
    rcases hs.2 with ⟨rfl, _⟩ | ⟨g, cap, cur, rfl, _, hb, _⟩
    · exact .inl rfl
    · refine .inr fun e => ?_
      obtain ⟨_, o, ho, hc⟩ := hr g e.symm
      rw [ho] at hb
      injection hb with hb
      subst hb
      cases hc)
theorem own_cells {w : World} {v : Value} {rs : List Int} (h : Own w v rs) : ∀ b ∈ v.ownBlock.toList, ∃ cs, Has w b 55 cs := by
  intro b hb
  rcases h.2 with ⟨rfl, _⟩ | ⟨g, cap, cur, rfl, _, hg, _⟩
  · cases hb
  · obtain rfl : b = g := by simpa [Value.ownBlock] using hb
    exact ⟨cur.toList, hg⟩
theorem own_put {w : World} {v : Value} {rs : List Int} (h : Own w v rs) (D : Nat) (o o' : Obj) (hD : w.heap[D]? = some o) (hc : o.isCells = false) : Own (w.putObj D o') v rs :=
  own_from (B := 0) () w _ (some D) h (grownBy_putObj' w D o') fun r e => by injection e with e; subst e; exact ⟨Nat.zero_le _, o, hD, hc⟩
theorem kept_grown {w w' : World} {v : Value} (hg : w.grownBy w' v.ownBlock) : Kept v.ownBlock.toList w w' :=
  (Kept.refl _ w).grown hg fun g e => .inl (by rw [e]; simp)
end Go.Proofs.YtoagghileebokaaGreatDoor.Ar

/-
  The contracts of a view's methods that go over no slots: At, Head, Slots, word, Load, Store, Ref; of nil's too.
-/
namespace Go.Proofs.YtoagghileebokaaGreatDoor.Sh
open Go.RowKit Go.Proofs.YtoagghileebokaaGreatDoor.Ar Go.Sort
open Go.Proofs.YtoagghileebokaaGreatDoor.Hd (Hd Fields cells4 free4 ret_one0)
open Go.Proofs.YtoagghileebokaaGreatDoor.Tb (Ty)
set_option linter.unusedVariables false

section
variable {w : World} {v p : Nat} {g : Int} {h : Hd} {t : Ty} {sl : Int}
/-! ### nil -/
/-! ### A view -/
set_option maxRecDepth 100000 in
set_option maxHeartbeats 1000000 in
theorem vhead_ok (H : View w v p g h t sl) : Calls Tryz.prog 144 #[.pointer (some ⟨v, 0, none⟩)] w fun e w' => e = .returned h.val ∧ Kept [] w w' := by
  have hb := Hd.Hd.new w Hd.zero
  have k0 : Kept [] w (w.alloc (.cells #[.int .u8 Hd.zero.tg, .int .i64 Hd.zero.ty, .int .i64 Hd.zero.ln, .int .i64 Hd.zero.sz] 49)) := (Kept.refl [] w).alloc _
  obtain ⟨c0, c1, c2, c3, c4, c5, c6, c7, c8, c9⟩ := (H.keep0 k0).cells
  have HN : Hid (Has (w.alloc (.cells #[.int .u8 h.tg, .int .i64 h.ty, .int .i64 h.ln, .int .i64 h.sz] 49)) w.heap.size 49 [.int .u8 h.tg, .int .i64 h.ty, .int .i64 h.ln, .int .i64 h.sz]) := Lib.hid (Hd.Hd.new w h)
  have HK : Hid (Kept [] w (w.alloc (.cells #[.int .u8 h.tg, .int .i64 h.ty, .int .i64 h.ln, .int .i64 h.sz] 49))) := Lib.hid ((Kept.refl [] w).alloc _)
  unfold Hd.val
  unfold Hd.zero at *
  simp only at hb k0 c0 c1 c2 c3 c4 c5 c6 c7 c8 c9
  obtain ⟨f0, f1, f2, f3⟩ := free4 hb
  obtain ⟨d0, d1, d2, d3⟩ := cells4 hb
  clear hb k0 H
  generalize h.tg = xg at *
  generalize h.ty = xt at *
  generalize h.ln = xn at *
  generalize h.sz = xs at *
  go_enter Tryz.func144, Tryz.ntmps144
  go_wp2_with fail
  exact ret_one0 rfl rfl HN.out rfl ⟨rfl, HK.out⟩
def slotE (sl s : Int) : Int := if 0 ≤ s ∧ s < sl then 0 else 2
def slotW (g sl s : Int) : Int := if 0 ≤ s ∧ s < sl then 2 * g + 1 + s else 0
set_option maxRecDepth 100000 in
set_option maxHeartbeats 1000000 in
theorem vword_ok (H : View w v p g h t sl) (s : Int) (g0 : 0 ≤ g) (g1 : g ≤ 65536) (l1 : sl ≤ 65536) : Calls Tryz.prog 114 #[.pointer (some ⟨v, 0, none⟩), .int .i64 s] w fun e w' => e = .returned (.tuple #[.int .i64 (slotW g sl s), .int .i64 (slotE sl s)]) ∧ w = w' := by
  obtain ⟨c0, c1, c2, c3, c4, c5, c6, c7, c8, c9⟩ := H.cells
  have HX := Lib.hid (fun (y : World) => first_ok (w := y) g (by omega) (by omega))
  clear H
  unfold slotW slotE
  by_cases h0 : s < 0
  · rw [if_neg (by omega), if_neg (by omega)]
    go_enter Tryz.func114, Tryz.ntmps114
    go_wp2
    go_ret2
    exact ⟨rfl, rfl⟩
  · by_cases h1 : sl ≤ s
    · rw [if_neg (by omega), if_neg (by omega)]
      go_enter Tryz.func114, Tryz.ntmps114
      go_wp2
      go_ret2
      exact ⟨rfl, rfl⟩
    · rw [if_pos (by omega), if_pos (by omega)]
      have h0' : 0 ≤ s := by omega
      have h1' : s < sl := by omega
      clear h0 h1
      go_enter Tryz.func114, Tryz.ntmps114
      go_wp2_with fail
      refine (HX.out _).mono ?_
      rintro e x1 ⟨rfl, rfl⟩
      go_wp2_with fail
      go_ret2
      exact ⟨rfl, rfl⟩
/-- The words behind a Store. -/
def vput (ws : List Int) (g sl s u : Int) : List Int := if 0 ≤ s ∧ s < sl then ws.set (2 * g + 1 + s).toNat u else ws
theorem putW_one (ws : List Int) (i : Nat) (u : Int) (h : i < ws.length) : putW ws i [u] = ws.set i u := by
  unfold putW
  rw [List.set_eq_take_append_cons_drop, if_pos h]
  rfl
set_option maxRecDepth 100000 in
set_option maxHeartbeats 1000000 in
theorem vstore_ok (H : View w v p g h t sl) {q : Nat} {ws : List Int} {n : Int} (hA : Arena w p q ws n) (s u : Int) (g0 : 0 ≤ g) (l0 : 0 ≤ sl) (hr : 2 * g + 1 + sl ≤ ws.length) : Calls Tryz.prog 82 #[.pointer (some ⟨v, 0, none⟩), .int .i64 s, .int .u64 u] w fun e w' =>
    e = .returned (.int .i64 (slotE sl s)) ∧ (∃ n', Arena w' p q (vput ws g sl s u) n') ∧ Kept [p, q] w w' := by
  have hs := hA.short
  obtain ⟨c0, c1, c2, c3, c4, c5, c6, c7, c8, c9⟩ := H.cells
  have HV := Lib.hid (vword_ok H s g0 (by omega) (by omega))
  unfold vput
  by_cases hc : 0 ≤ s ∧ s < sl
  · have hw : Ar.within ws.length (2 * g + 1 + s) 1 = true := (Ar.within_iff _ _ _).2 ⟨by omega, by omega, by omega⟩
    have hl : fillW ws (2 * g + 1 + s) 1 u = ws.set (2 * g + 1 + s).toNat u := by
      unfold fillW
      rw [if_pos hw]
      exact putW_one ws _ u (by omega)
    have HL := Lib.hid (store_any hA (2 * g + 1 + s) u (by omega) (by omega))
    rw [hw, hl, show errOf true = 0 from rfl] at HL
    unfold slotW slotE at HV
    unfold slotE
    simp only [if_pos hc] at HV ⊢
    clear H hA hw hl
    generalize ws.set (2 * g + 1 + s).toNat u = ws' at *
    generalize fillN ws n (2 * g + 1 + s) 1 = n' at *
    go_enter Tryz.func82, Tryz.ntmps82
    go_wp2_with fail
    refine HV.out.mono ?_
    rintro e x1 ⟨rfl, rfl⟩
    go_wp2_with fail
    refine HL.out.mono ?_
    rintro e x1 ⟨rfl, a1, k1⟩
    have HF := Lib.hid (And.intro a1 k1)
    clear a1 k1 HL HV
    go_wp2_with fail
    go_ret
    exact ⟨rfl, ⟨n', HF.out.1⟩, HF.out.2⟩
  · unfold slotW slotE at HV
    unfold slotE
    simp only [if_neg hc] at HV ⊢
    have HA := Lib.hid hA
    clear H hA
    go_enter Tryz.func82, Tryz.ntmps82
    go_wp2_with fail
    refine HV.out.mono ?_
    rintro e x1 ⟨rfl, rfl⟩
    go_wp2_with fail
    go_ret
    exact ⟨rfl, ⟨n, HA.out⟩, Kept.refl _ _⟩
end
end Go.Proofs.YtoagghileebokaaGreatDoor.Sh

/-
  The loop over a view's references: the contract of the function that references hands back.
-/
namespace Go.Proofs.YtoagghileebokaaGreatDoor.Sh
open Go.RowKit Go.Proofs.YtoagghileebokaaGreatDoor.Ar Go.Shelf Go.Sort
open Go.Proofs.YtoagghileebokaaGreatDoor.Hd (Hd)
open Go.Proofs.YtoagghileebokaaGreatDoor.Tb (Ty)
set_option linter.unusedVariables false
attribute [local go_sem] Oper.semAt_some

/-- The block of the slice that lies in the box b. -/
def ownAt (W : World) (b : Nat) : Option Nat := match W.cell? ⟨b, 0, none⟩ with | some v => v.ownBlock | none => none
theorem ownAt_of {W W' : World} {b : Nat} (h : W'.heap[b]? = W.heap[b]?) : ownAt W' b = ownAt W b := by
  unfold ownAt
  rw [World.cell?_of_block (w := W) h]
theorem ownAt_has {W : World} {b : Nat} {t : TypeId} {v : Value} (h : Has W b t [v]) : ownAt W b = v.ownBlock := by
  unfold ownAt
  rw [h.cell 0]
  rfl
/-- What a round that goes on keeps: all cells but the box b and the slice in it. -/
structure Kpt (b : Nat) (A B : World) : Prop where
  size : A.heap.size ≤ B.heap.size
  same : ∀ i o, i ≠ b → ownAt A b ≠ some i → A.heap[i]? = some o → o.isCells = true → B.heap[i]? = some o
  own : ownAt B b = ownAt A b ∨ ∃ g, ownAt B b = some g ∧ A.heap.size ≤ g
namespace Kpt
theorem refl (b : Nat) (W : World) : Kpt b W W := ⟨Nat.le_refl _, fun _ _ _ _ h _ => h, .inl rfl⟩
theorem trans {b : Nat} {A B C : World} (h : Kpt b A B) (k : Kpt b B C) : Kpt b A C := by
  refine ⟨Nat.le_trans h.size k.size, fun i o hi ha ho hc => ?_, ?_⟩
  · refine k.same i o hi (fun e => ?_) (h.same i o hi ha ho hc) hc
    rcases h.own with h1 | ⟨g, h1, h2⟩
    · rw [h1] at e; exact ha e
    · rw [h1] at e
      injection e with e
      have := (Array.getElem?_eq_some_iff.1 ho).1
      omega
  · rcases k.own with k1 | ⟨g, k1, k2⟩
    · rw [k1]; exact h.own
    · exact .inr ⟨g, k1, Nat.le_trans h.size k2⟩
theorem put {b n : Nat} (hb : b < n) (W : World) (l : Nat) (o o' : Obj) (hl : n ≤ l) (h : W.heap[l]? = some o) (hc : o.isCells = false) : Kpt b W (W.putObj l o') := by
  have hlt := (Array.getElem?_eq_some_iff.1 h).1
  refine ⟨(grownBy_putObj' W l o').size, fun i x hi _ hx hxc => ?_, .inl ?_⟩
  · have hne : i ≠ l := by rintro rfl; rw [h] at hx; injection hx with hx; rw [hx, hxc] at hc; cases hc
    exact ((grownBy_putObj' W l o').block i (Array.getElem?_eq_some_iff.1 hx).1 (fun e => hne (by injection e))).trans hx
  · exact ownAt_of ((grownBy_putObj' W l o').block b (by omega) (fun e => by injection e with e; omega))
theorem has {b : Nat} {A B : World} (h : Kpt b A B) {i : Nat} {t : TypeId} {cs : List Value} (hi : i ≠ b) (ho : ownAt A b ≠ some i) (hh : Has A i t cs) : Has B i t cs := h.same i _ hi ho hh rfl
end Kpt
theorem grownBy_of {A B : World} (k : Kept [] A B) : A.grownBy B none :=
  ⟨k.os, k.tape, k.out, k.more, fun i hi _ => k.old i hi (by simp)⟩

/-- A row that begins with these numbers. -/
def LayI (w : World) (g : Nat) (l : List Int) : Prop := ∃ rest, Has w g 3 (Ir.ints l ++ rest)
theorem LayI.cell {w : World} {g : Nat} {l : List Int} (h : LayI w g l) (j : Nat) (hj : j < l.length) : w.cell? ⟨g, j, none⟩ = some (.int .i64 (l.getD j 0)) := by
  obtain ⟨r, h⟩ := h
  rw [h.cell, List.getElem?_append_left (by rw [Ir.ints_length]; exact hj)]
  exact Ir.ints_get l j hj
/-- The slots that are references, with their words. -/
def pairs (ws : List Int) (g : Int) (t : Ty) (sl : Nat) : List (Int × Int) := (Kd.refsTo t.k t.wd t.ms sl).map fun r => (r, ws.getD (2 * g + 1 + r).toNat 0)
theorem refsTo_mem {k : Nat} {wd : Int} {mk m : Nat} {r : Int} (h : r ∈ Kd.refsTo k wd mk m) : ∃ n : Nat, r = (n : Int) ∧ n < m := by
  unfold Kd.refsTo at h
  obtain ⟨n, hn, rfl⟩ := List.mem_map.1 h
  exact ⟨n, rfl, List.mem_range.1 (List.mem_filter.1 hn).1⟩
/-- What is gone over: of no view nothing. -/
def Src (W : World) (x : Option Addr) (prs : List (Int × Int)) : Prop :=
  (x = none ∧ prs = []) ∨ ∃ v p q m g h t sl ws, x = some ⟨v, 0, none⟩ ∧ View W v p (g : Nat) h t (sl : Nat) ∧ Arena W p q ws m ∧ t.k < 256 ∧ t.ms < 18446744073709551616 ∧ Kd.err t.k t.wd t.ms h.ln = 0 ∧ Kd.slots t.k t.wd h.ln = (sl : Int) ∧ 2 * g + 1 + sl ≤ ws.length ∧ prs = pairs ws g t sl
theorem Src.keep0 {W W' : World} {x : Option Addr} {prs : List (Int × Int)} (h : Src W x prs) (k : Kept [] W W') : Src W' x prs := by
  rcases h with h | ⟨v, p, q, m, g, hh, t, sl, ws, h1, h2, h3, h4⟩
  · exact .inl h
  · exact .inr ⟨v, p, q, m, g, hh, t, sl, ws, h1, h2.keep0 k, h3.keep0 k, h4⟩

abbrev El (prs : List (Int × Int)) := { n : Int × Int // n ∈ prs }
def encs {prs : List (Int × Int)} (x : El prs) : Array Value := #[.int .i64 x.1.1, .int .u64 x.1.2]
def vals {prs : List (Int × Int)} (xs : List (El prs)) : List (Int × Int) := xs.map (·.1)
theorem vals_snoc {prs : List (Int × Int)} (xs : List (El prs)) (x : El prs) : vals (xs ++ [x]) = vals xs ++ [x.1] := by simp [vals]
end Go.Proofs.YtoagghileebokaaGreatDoor.Sh

/-
  The contracts of Refs and Targets.
-/
namespace Go.Proofs.YtoagghileebokaaGreatDoor.Sh
open Go.RowKit Go.Proofs.YtoagghileebokaaGreatDoor.Ar Go.Proofs.YtoagghileebokaaGreatDoor.Lk Go.Shelf Go.Sort
set_option linter.unusedVariables false
attribute [local go_sem] Oper.semAt_some

def FreshV (w : World) (v : Value) : Prop := v.ownBlock = none ∨ ∃ b, v.ownBlock = some b ∧ w.heap.size ≤ b
end Go.Proofs.YtoagghileebokaaGreatDoor.Sh
