/-
  Several texts in one: BtCopy, SpMem, SpCell, SpIter.
-/
import Derived.Test.YtoagghileebokaaGreatDoorG20
import Derived.Laws.CopyOwn
import Derived.Deep.RegionHeld3
import Derived.Stop.RegionWithIn
import Derived.Test.YtoagghileebokaaGreatDoorG18
import Derived.Test.YtoagghileebokaaGreatDoorG15
import Derived.Test.YtoagghileebokaaGreatDoorG07
import Derived.Test.YtoagghileebokaaGreatDoorG06
import Derived.Lib.QuietBelow
import Derived.Deep.QuietTactic
import Derived.BigQuiet
import Derived.Test.YtoagghileebokaaGreatDoorG13
import Derived.Test.YtoagghileebokaaGreatDoorG16
import Derived.Shelf.Abstract
import Derived.OwnWalkIn
import Derived.TacticsInMore
import Derived.LoopNIn
import Derived.LoopIn
/-
  The contract of Copy.
-/
namespace Go.Proofs.YtoagghileebokaaGreatDoor.Bt
open Go.RowKit Go.Proofs.YtoagghileebokaaGreatDoor.Ar Go.Proofs.YtoagghileebokaaGreatDoor.Wd
set_option linter.unusedVariables false

end Go.Proofs.YtoagghileebokaaGreatDoor.Bt

/-
  A space in memory; what it tells of its arena, its granules and its starts; behind, gapWord.
-/
namespace Go.Proofs.YtoagghileebokaaGreatDoor.Sp
open Go.RowKit Go.Proofs.YtoagghileebokaaGreatDoor.Ar Go.Proofs.YtoagghileebokaaGreatDoor.Sh
open Go.Proofs.YtoagghileebokaaGreatDoor.Hd (Hd Fields encW gapH errH gap_ok encode_ok cells4 free4)
open Go.Proofs.YtoagghileebokaaGreatDoor.Tb (Ty Tab blk blk_own own_blk cells3)
open Go.Proofs.YtoagghileebokaaGreatDoor.Bt (Bv)
open Go.Proofs.YtoagghileebokaaGreatDoor.Wd (Table)
set_option linter.unusedVariables false

/-- The blocks of a space: its own, its arena's, its table's, its bits'. -/
structure Ids where
  sp : Nat
  ap : Nat
  aq : Nat
  tp : Nat
  A : Option Addr
  c : Nat
  bp : Nat
  bq : Nat
  n : Nat
/-- A space, with its types, its words and its bits. -/
structure Spc (w : World) (s : Ids) (l : List Ty) (ws : List Int) (bs : List Bool) : Prop where
  head : Has w s.sp 72 [.pointer (some ⟨s.ap, 0, none⟩), .pointer (some ⟨s.tp, 0, none⟩), .pointer (some ⟨s.bp, 0, none⟩)]
  ar : ∃ m, Arena w s.ap s.aq ws m
  tab : Tab w s.tp s.A s.c l
  bv : Bv w s.bp s.bq bs
  wm : Wm ws
/-- The blocks that a call may turn. -/
def Ids.turn (s : Ids) : List Nat := [s.ap, s.aq, s.bq]
namespace Spc
variable {w w' : World} {s : Ids} {l : List Ty} {ws ws' : List Int} {bs bs' : List Bool}
theorem short (h : Spc w s l ws bs) : ws.length ≤ 65536 := let ⟨m, a⟩ := h.ar; a.short
theorem few (h : Spc w s l ws bs) : bs.length ≤ 65536 := let ⟨m, a, b⟩ := h.bv; a.few
theorem wds (h : Spc w s l ws bs) : Wds ws := wds_of h.wm
theorem keep0 (h : Spc w s l ws bs) (k : Kept [] w w') : Spc w' s l ws bs := by
  obtain ⟨m, ha⟩ := h.ar
  exact ⟨h.head.keep0 k, ⟨m, ha.keep0 k⟩, h.tab.keep0 k, h.bv.keep0 k, h.wm⟩
theorem drewN (h : Spc w s l ws bs) (n : Nat) : Spc (w.drewN n) s l ws bs := h.keep0 ((Kept.refl [] w).drewN n)
theorem tab_ne (h : Spc w s l ws bs) {b : Nat} {t : TypeId} {cs : List Value} (hb : Has w b t cs) (ht : t ≠ 57) : (Value.slice s.A l.length s.c).ownBlock ≠ some b := Tb.Own.block_type h.tab.own hb ht
/-- The arena alone has turned. -/
theorem arena (h : Spc w s l ws bs) (k : Kept [s.ap, s.aq] w w') (ha : ∃ m, Arena w' s.ap s.aq ws' m) (hw : Wm ws') : Spc w' s l ws' bs := by
  obtain ⟨m, a⟩ := h.ar
  obtain ⟨vs, bv, _⟩ := h.bv
  have n1 : s.sp ∉ [s.ap, s.aq] := by simpa using ⟨Has.block_type h.head a.head (by decide), Has.block_type h.head a.row (by decide)⟩
  have n2 : s.tp ∉ [s.ap, s.aq] := by simpa using ⟨Has.block_type h.tab.head a.head (by decide), Has.block_type h.tab.head a.row (by decide)⟩
  have n3 : s.bp ∉ [s.ap, s.aq] := by simpa using ⟨Has.block_type bv.head a.head (by decide), Has.block_type bv.head a.row (by decide)⟩
  have n4 : s.bq ∉ [s.ap, s.aq] := by simpa using ⟨Has.block_type bv.row a.head (by decide), Has.block_type bv.row a.row (by decide)⟩
  refine ⟨h.head.kept k n1, ha, h.tab.kept k n2 ?_, h.bv.kept k n3 n4, hw⟩
  intro g hg
  rcases List.mem_cons.1 hg with rfl | hg
  · exact h.tab_ne a.head (by decide)
  · rw [List.mem_singleton.1 hg]; exact h.tab_ne a.row (by decide)
/-- The bits alone have turned. -/
theorem bits (h : Spc w s l ws bs) (k : Kept [s.bq] w w') (hb : Bv w' s.bp s.bq bs') : Spc w' s l ws bs' := by
  obtain ⟨m, a⟩ := h.ar
  obtain ⟨vs, bv, _⟩ := h.bv
  have n1 : s.sp ∉ [s.bq] := by simpa using Has.block_type h.head bv.row (by decide)
  have n2 : s.tp ∉ [s.bq] := by simpa using Has.block_type h.tab.head bv.row (by decide)
  have n3 : s.ap ∉ [s.bq] := by simpa using Has.block_type a.head bv.row (by decide)
  have n4 : s.aq ∉ [s.bq] := by simpa using Has.block_type a.row bv.row (by decide)
  refine ⟨h.head.kept k n1, ⟨m, a.kept k n3 n4⟩, h.tab.kept k n2 ?_, hb, h.wm⟩
  intro g hg
  rw [List.mem_singleton.1 hg]; exact h.tab_ne bv.row (by decide)
theorem cells (h : Spc w s l ws bs) : w.cell? ⟨s.sp, 0, none⟩ = some (.pointer (some ⟨s.ap, 0, none⟩)) ∧ w.cell? ⟨s.sp, 1, none⟩ = some (.pointer (some ⟨s.tp, 0, none⟩)) ∧ w.cell? ⟨s.sp, 2, none⟩ = some (.pointer (some ⟨s.bp, 0, none⟩)) := cells3 h.head
/-- A block of another kind is none of those that may turn. -/
theorem beside (h : Spc w s l ws bs) {b : Nat} {t : TypeId} {cs : List Value} (hb : Has w b t cs) (h1 : t ≠ 132) (h2 : t ≠ 55) (h3 : t ≠ 178) : b ∉ s.turn := by
  obtain ⟨m, a⟩ := h.ar
  obtain ⟨vs, bv, _⟩ := h.bv
  simpa [Ids.turn] using ⟨Has.block_type hb a.head h1, Has.block_type hb a.row h2, Has.block_type hb bv.row h3⟩
theorem turn_lt (h : Spc w s l ws bs) : ∀ i ∈ s.turn, i < w.heap.size := by
  obtain ⟨m, a⟩ := h.ar
  obtain ⟨vs, bv, _⟩ := h.bv
  intro i hi
  simp [Ids.turn] at hi
  rcases hi with rfl | rfl | rfl
  · exact a.head.lt
  · exact a.row.lt
  · exact bv.row.lt
end Spc
/-- The granules. -/
def gran (ws : List Int) : Int := (ws.length : Int) / 2
section
variable {w : World} {s : Ids} {l : List Ty} {ws : List Int} {bs : List Bool}
theorem arena_ok (h : Spc w s l ws bs) : Calls Tryz.prog 71 #[.pointer (some ⟨s.sp, 0, none⟩)] w fun e w' => e = .returned (.pointer (some ⟨s.ap, 0, none⟩)) ∧ w = w' := by
  obtain ⟨c0, _, _⟩ := h.cells
  clear h
  generalize s.sp = b at *
  generalize s.ap = d at *
  go_enter Tryz.func71, Tryz.ntmps71
  go_wp2_with fail
  go_ret
  exact ⟨rfl, rfl⟩
set_option maxRecDepth 100000 in
theorem granules_ok (h : Spc w s l ws bs) : Calls Tryz.prog 42 #[.pointer (some ⟨s.sp, 0, none⟩)] w fun e w' => e = .returned (.int .i64 (gran ws)) ∧ w = w' := by
  obtain ⟨m, a⟩ := h.ar
  have hs := a.short
  have H1 := Lib.hid (arena_ok h)
  have H2 := Lib.hid (len_any a)
  have ed : (ws.length : Int).tdiv 2 = gran ws := Int.tdiv_eq_ediv_of_nonneg (by omega)
  have ED := Lib.hid ed
  clear h a ed
  generalize ws.length = L at *
  generalize gran ws = G at *
  go_enter Tryz.func42, Tryz.ntmps42
  go_wp2_with fail
  refine H1.out.mono ?_
  rintro e w1 ⟨rfl, rfl⟩
  go_wp2_with fail
  refine H2.out.mono ?_
  rintro e w1 ⟨rfl, rfl⟩
  go_wp2_with fail
  go_ret
  exact ⟨ret_int (by have := ED.out; rw [Int.tdiv_eq_ediv_of_nonneg (by omega)] at this; omega), rfl⟩
end
theorem cells5 {w : World} {b : Nat} {t : TypeId} {v0 v1 v2 v3 v4 : Value} (h : Has w b t [v0, v1, v2, v3, v4]) : w.cell? ⟨b, 0, none⟩ = some v0 ∧ w.cell? ⟨b, 1, none⟩ = some v1 ∧ w.cell? ⟨b, 2, none⟩ = some v2 ∧ w.cell? ⟨b, 3, none⟩ = some v3 ∧ w.cell? ⟨b, 4, none⟩ = some v4 :=
  ⟨h.cell 0, h.cell 1, h.cell 2, h.cell 3, h.cell 4⟩
theorem free5 {w : World} {b : Nat} {t : TypeId} {cs : List Value} (h : Has w b t cs) : w.frozen? ⟨b, 0, none⟩ = false ∧ w.frozen? ⟨b, 1, none⟩ = false ∧ w.frozen? ⟨b, 2, none⟩ = false ∧ w.frozen? ⟨b, 3, none⟩ = false ∧ w.frozen? ⟨b, 4, none⟩ = false :=
  ⟨h.free 0, h.free 1, h.free 2, h.free 3, h.free 4⟩
theorem behind_ok (c : Cel) (h0 : -1000000000000 ≤ c.a) (h1 : c.a ≤ 1000000000000) (h2 : -1000000000000 ≤ c.h.sz) (h3 : c.h.sz ≤ 1000000000000) (w : World) :
    Calls Tryz.prog 52 #[c.val] w fun e w' => e = .returned (.int .i64 (c.a + c.h.sz)) ∧ Kept [] w w' := by
  unfold Cel.val
  have hb := Has.new w 51 [.int .i64 c.a, .int .u8 c.h.tg, .int .i64 c.h.ty, .int .i64 c.h.ln, .int .i64 c.h.sz]
  obtain ⟨c0, c1, c2, c3, c4⟩ := cells5 hb
  have hk : Kept [] w (w.alloc (.cells #[.int .i64 c.a, .int .u8 c.h.tg, .int .i64 c.h.ty, .int .i64 c.h.ln, .int .i64 c.h.sz] 51)) := (Kept.refl [] w).alloc _
  have HK := Lib.hid hk
  clear hb hk
  generalize c.a = a at *
  generalize c.h.sz = z at *
  go_enter Tryz.func52, Tryz.ntmps52
  go_wp2_with fail
  go_ret
  exact ⟨rfl, HK.out⟩
set_option maxRecDepth 100000 in
set_option maxHeartbeats 1000000 in
theorem gapWord_ok {w : World} (hF : Fields w) (z : Int) (z0 : -9223372036854775808 ≤ z) (z1 : z ≤ 9223372036854775807) :
    Calls Tryz.prog 70 #[.int .i64 z] w fun e w' => e = .returned (.int .u64 (gapW z)) ∧ Kept [] w w' := by
  have HG := Lib.hid (fun g (g0 : 0 ≤ g) (g1 : g ≤ 255) => gap_ok hF g z g0 g1 z0 z1)
  have HE := Lib.hid (fun y (k : Kept [] w y) (x : Hd) (ok : x.ok) => encode_ok (hF.keep0 k) x ok)
  have HOK : Hid (∀ g : Int, 0 ≤ g → g ≤ 255 → (gapH g z).ok) := Lib.hid fun g g0 g1 => by
    unfold gapH
    split
    · constructor <;> simp <;> omega
    · exact Hd.zero_ok
  unfold gapW
  clear hF
  by_cases e1 : z = 1
  · rw [if_pos e1]
    have hok := Lib.hid (HOK.out 2 (by omega) (by omega))
    have hg := Lib.hid (HG.out 2 (by omega) (by omega))
    have he1 : (z == 1) = true := by simpa using e1
    clear HOK HG e1
    generalize errH ⟨2, 0, 0, z⟩ = er at *
    generalize gapH 2 z = x at *
    have HX := Lib.hid (fun y (k : Kept [] w y) => HE.out y k x hok.out)
    clear HE
    generalize encW x = u at *
    generalize errH x = er2 at *
    unfold Hd.val at *
    generalize x.tg = xg at *
    generalize x.ty = xt at *
    generalize x.ln = xn at *
    generalize x.sz = xs at *
    go_enter Tryz.func70, Tryz.ntmps70
    go_wp2_with fail
    refine hg.out.mono ?_
    rintro e w1 ⟨rfl, hk⟩
    have hb := Has.new w1 49 [.int .u8 xg, .int .i64 xt, .int .i64 xn, .int .i64 xs]
    obtain ⟨c0, c1, c2, c3⟩ := cells4 hb
    have HK := Lib.hid (hk.alloc (.cells #[.int .u8 xg, .int .i64 xt, .int .i64 xn, .int .i64 xs] 49))
    clear hb hk hg
    go_wp2_with fail
    refine (HX.out _ HK.out).mono ?_
    rintro e w2 ⟨rfl, hk⟩
    go_wp2_with fail
    go_ret
    exact ⟨rfl, HK.out.trans hk⟩
  · rw [if_neg e1]
    have hok := Lib.hid (HOK.out 3 (by omega) (by omega))
    have hg := Lib.hid (HG.out 3 (by omega) (by omega))
    have he1 : (z == 1) = false := by simpa using e1
    clear HOK HG e1
    generalize errH ⟨3, 0, 0, z⟩ = er at *
    generalize gapH 3 z = x at *
    have HX := Lib.hid (fun y (k : Kept [] w y) => HE.out y k x hok.out)
    clear HE
    generalize encW x = u at *
    generalize errH x = er2 at *
    unfold Hd.val at *
    generalize x.tg = xg at *
    generalize x.ty = xt at *
    generalize x.ln = xn at *
    generalize x.sz = xs at *
    go_enter Tryz.func70, Tryz.ntmps70
    go_wp2_with fail
    refine hg.out.mono ?_
    rintro e w1 ⟨rfl, hk⟩
    have hb := Has.new w1 49 [.int .u8 xg, .int .i64 xt, .int .i64 xn, .int .i64 xs]
    obtain ⟨c0, c1, c2, c3⟩ := cells4 hb
    have HK := Lib.hid (hk.alloc (.cells #[.int .u8 xg, .int .i64 xt, .int .i64 xn, .int .i64 xs] 49))
    clear hb hk hg
    go_wp2_with fail
    refine (HX.out _ HK.out).mono ?_
    rintro e w2 ⟨rfl, hk⟩
    go_wp2_with fail
    go_ret
    exact ⟨rfl, HK.out.trans hk⟩
end Go.Proofs.YtoagghileebokaaGreatDoor.Sp

/-
  The contract of cell: the cell that begins at a granule, and whether one may.
-/
namespace Go.Proofs.YtoagghileebokaaGreatDoor.Sp
open Go.RowKit Go.Proofs.YtoagghileebokaaGreatDoor.Ar Go.Proofs.YtoagghileebokaaGreatDoor.Sh Go.Sort
open Go.Proofs.YtoagghileebokaaGreatDoor.Hd (Hd Fields cells4 free4 fitL fits_tab)
open Go.Proofs.YtoagghileebokaaGreatDoor.Tb (Ty Tab blk cells3)
open Go.Proofs.YtoagghileebokaaGreatDoor.Kd (ret_row)
set_option linter.unusedVariables false

def put5 (b : Nat) (v0 v1 v2 v3 v4 : Value) (w : World) : World := ((((w.setCell ⟨b, 0, none⟩ v0).setCell ⟨b, 1, none⟩ v1).setCell ⟨b, 2, none⟩ v2).setCell ⟨b, 3, none⟩ v3).setCell ⟨b, 4, none⟩ v4
theorem put5_has {b : Nat} {t : TypeId} {w : World} {a0 a1 a2 a3 a4 : Value} (h : Has w b t [a0, a1, a2, a3, a4]) (v0 v1 v2 v3 v4 : Value) : Has (put5 b v0 v1 v2 v3 v4 w) b t [v0, v1, v2, v3, v4] := ((((h.put 0 v0).put 1 v1).put 2 v2).put 3 v3).put 4 v4
theorem put5_kept {b : Nat} {S : List Nat} {w0 w : World} (h : Kept S w0 w) (hb : b ∈ S ∨ w0.heap.size ≤ b) (v0 v1 v2 v3 v4 : Value) : Kept S w0 (put5 b v0 v1 v2 v3 v4 w) :=
  ((((h.setCell ⟨b, 0, none⟩ v0 hb).setCell ⟨b, 1, none⟩ v1 hb).setCell ⟨b, 2, none⟩ v2 hb).setCell ⟨b, 3, none⟩ v3 hb).setCell ⟨b, 4, none⟩ v4 hb
theorem size_cell : (Tryz.prog.info? 51).map (·.size) = some 5 := by kernel_rfl
theorem ret_cel {f : Func} {p u : Tmp} (h : f.results = #[.cell p 51, .tmp u]) {a : Act} {w0 w : World} {g : Nat} {a0 a1 a2 a3 a4 v0 v1 v2 v3 v4 : Value} (hp : a.tmps.getD p undef = .pointer (some ⟨g, 0, none⟩)) (hH : Has w g 51 [a0, a1, a2, a3, a4]) (hk : Kept [] w0 w) (hg : w0.heap.size ≤ g)
    (hdf : a.defers = []) {E : Value} (hE : a.tmps.getD u undef = E) {R : Ending → World → Prop}
    (hR : ∀ X, Kept [] w0 X → R (.returned (.tuple #[.agg #[v0, v1, v2, v3, v4], E])) X) : bodyPost Tryz.prog f R .ret a (put5 g v0 v1 v2 v3 v4 w) := by
  refine ret_row h _ hp (put5_has hH v0 v1 v2 v3 v4) rfl Tryz.underlying51 rfl size_cell hdf ?_
  rw [hE]
  exact hR _ (put5_kept hk (.inr hg) _ _ _ _ _)
section
variable {w : World} {s : Ids} {l : List Ty} {ws : List Int} {bs : List Bool}
set_option maxRecDepth 100000 in
set_option maxHeartbeats 4000000 in
theorem cell_ok (hF : Fields w) (h : Spc w s l ws bs) (g : Int) (g0 : 0 ≤ g) (g1 : g ≤ 4611686018427387903) :
    Calls Tryz.prog 56 #[.pointer (some ⟨s.sp, 0, none⟩), .int .i64 g] w fun e w' => e = .returned (.tuple #[(cellC ws l g).val, .bool (cellB ws l g)]) ∧ Kept [] w w' := by
  obtain ⟨m, ha⟩ := h.ar
  have hsh := h.short
  have hG : 0 ≤ gran ws ∧ gran ws ≤ 32768 := by unfold gran; omega
  have hb := Has.new w 51 [.int .i64 0, .int .u8 0, .int .i64 0, .int .i64 0, .int .i64 0]
  have k0 : Kept [] w (w.alloc (.cells #[.int .i64 0, .int .u8 0, .int .i64 0, .int .i64 0, .int .i64 0] 51)) := (Kept.refl [] w).alloc _
  have HH := Lib.hid (fun y (k : Kept [] w y) => head_any (hF.keep0 k) (ha.keep0 k) h.wds g (by omega) (by omega))
  have hok := hdH_ok (g := g) h.wds
  have HFt := Lib.hid (fun y (k : Kept [] w y) => fits_tab (hF.keep0 k) (h.tab.keep0 k) (hdH ws g) hok)
  have HGr := Lib.hid (fun y (k : Kept [] w y) => granules_ok (h.keep0 k))
  have HSp := Lib.hid (fun y (k : Kept [] w y) => (h.keep0 k).cells)
  have HN : Hid (∀ y : World, Has (y.alloc (.cells #[.int .u8 (hdH ws g).tg, .int .i64 (hdH ws g).ty, .int .i64 (hdH ws g).ln, .int .i64 (hdH ws g).sz] 49)) y.heap.size 49 [.int .u8 (hdH ws g).tg, .int .i64 (hdH ws g).ty, .int .i64 (hdH ws g).ln, .int .i64 (hdH ws g).sz]) := Lib.hid fun y => Hd.Hd.new y _
  have hz0 := hok.s0
  have hz1 := hok.s1
  have hcb : cellB ws l g = decide (hdE ws g = 0 ∧ fitL l (hdH ws g) = 0 ∧ (hdH ws g).sz ≤ gran ws - g) := rfl
  unfold cellC
  rw [hcb]
  obtain ⟨i0, i1, i2⟩ := HSp.out _ k0
  clear hcb hok h hF ha
  generalize gran ws = G at *
  generalize hdE ws g = er at *
  generalize fitL l (hdH ws g) = fe at *
  generalize hdH ws g = x at *
  generalize s.sp = sp at *
  generalize s.ap = ap at *
  generalize s.tp = tp at *
  have HB := Lib.hid hb
  have K0 := Lib.hid k0
  clear hb k0
  unfold Hd.val Cel.val at *
  by_cases h1 : er = 0
  · by_cases h2 : fe = 0
    · by_cases h3 : x.sz ≤ G - g
      · rw [decide_eq_true ⟨h1, h2, h3⟩, if_pos rfl]
        simp only
        have hb1 : (er != 0) = false := by rw [h1]; rfl
        have hb2 : (fe != 0) = false := by rw [h2]; rfl
        clear h1 h2
        generalize x.tg = xg at *
        generalize x.ty = xt at *
        generalize x.ln = xn at *
        generalize x.sz = xs at *
        have hwr : IntKind.i64.wrap (G - g) = G - g := by rw [IntKind.wrap_i64]; omega
        have hgt : decide (G - g < xs) = false := decide_eq_false (by omega)
        clear h3
        go_enter Tryz.func56, Tryz.ntmps56
        go_wp2_with fail
        refine (HH.out _ K0.out).mono ?_
        rintro e x1 ⟨rfl, k1⟩
        have K1 := Lib.hid ((K0.out.trans k1).alloc (.cells #[.int .u8 xg, .int .i64 xt, .int .i64 xn, .int .i64 xs] 49))
        have b1 := HN.out x1
        have r1 := (HB.out.keep0 k1).alloc (.cells #[.int .u8 xg, .int .i64 xt, .int .i64 xn, .int .i64 xs] 49)
        have R1 := Lib.hid r1
        have B1 := Lib.hid b1
        clear k1 b1 HH HN HB r1 i0 i1 i2
        go_wp2_with fail
        generalize x1.alloc (.cells #[.int .u8 xg, .int .i64 xt, .int .i64 xn, .int .i64 xs] 49) = y1 at *
        generalize x1.heap.size = hb at *
        obtain ⟨p0, p1, p2, p3⟩ := cells4 B1.out
        have c0 := cell_regrown p0
        have c1 := cell_regrown p1
        have c2 := cell_regrown p2
        have c3 := cell_regrown p3
        have s1 := cell_regrown (HSp.out _ K1.out).2.1
        have C1 : Hid (∀ d os, Calls Tryz.prog 92 #[.pointer (some ⟨tp, 0, none⟩), .agg #[.int .u8 xg, .int .i64 xt, .int .i64 xn, .int .i64 xs]] (grow (redrawn y1 d) os) fun e z => e = .returned (.int .i64 fe) ∧ ∃ p : Regrown, z = grow (redrawn y1 p.d) p.os) :=
          Lib.hid fun d os => Calls.regrown_of ((HFt.out _ (K1.out.trans (Kept.ofBelow (below_regrown y1 d os) []))).mono fun _ _ ⟨he, hk⟩ => ⟨he, hk.below (Nat.le_refl _) (by simp)⟩)
        have C2 : Hid (∀ d os, Calls Tryz.prog 42 #[.pointer (some ⟨sp, 0, none⟩)] (grow (redrawn y1 d) os) fun e z => e = .returned (.int .i64 G) ∧ ∃ p : Regrown, z = grow (redrawn y1 p.d) p.os) :=
          Lib.hid fun d os => Calls.regrown_of ((HGr.out _ (K1.out.trans (Kept.ofBelow (below_regrown y1 d os) []))).mono fun _ _ ⟨he, hk⟩ => ⟨he, by rw [← hk]; exact (Kept.refl [] _).below (Nat.le_refl _) (by simp)⟩)
        clear p0 p1 p2 p3 HFt HGr HSp
        refine wp_region_quiet_below (by kernel_rfl) (by kernel_rfl) ?_
        repeat (first | go_big_quiet_step (first | exact C1.out _ _ | exact C2.out _ _) | quiet_step (first | exact C1.out _ _ | exact C2.out _ _))
        refine wpQuiet_nil ?_
        rintro _ ⟨⟨dq, osq⟩, rfl⟩
        have hk3 := Kept.ofBelow (below_regrown y1 dq osq) []
        clear c0 c1 c2 c3 s1 C1 C2 hwr hgt hb1 hb2
        generalize grow (redrawn y1 dq) osq = y3 at hk3 ⊢
        have K3 := Lib.hid (K1.out.trans hk3)
        have b3 := B1.out.keep0 hk3
        have r3 := R1.out.keep0 hk3
        obtain ⟨c0, c1, c2, c3⟩ := cells4 b3
        obtain ⟨f0, f1, f2, f3, f4⟩ := free5 r3
        obtain ⟨d0, d1, d2, d3, d4⟩ := cells5 r3
        have R3 := Lib.hid r3
        clear hk3 b3 r3 B1 R1 K1
        go_wp2_with fail
        exact ret_cel rfl rfl R3.out K3.out (Nat.le_refl _) rfl rfl fun X hX => ⟨rfl, hX⟩
      · rw [decide_eq_false (by rintro ⟨a, b, c⟩; exact h3 c), if_neg (by decide)]
        unfold Cel.zero Hd.zero
        have hb1 : (er != 0) = false := by rw [h1]; rfl
        have hb2 : (fe != 0) = false := by rw [h2]; rfl
        clear h1 h2
        generalize x.tg = xg at *
        generalize x.ty = xt at *
        generalize x.ln = xn at *
        generalize x.sz = xs at *
        have hwr : IntKind.i64.wrap (G - g) = G - g := by rw [IntKind.wrap_i64]; omega
        have hgt : decide (G - g < xs) = true := decide_eq_true (by omega)
        clear h3
        go_enter Tryz.func56, Tryz.ntmps56
        go_wp2_with fail
        refine (HH.out _ K0.out).mono ?_
        rintro e x1 ⟨rfl, k1⟩
        have K1 := Lib.hid ((K0.out.trans k1).alloc (.cells #[.int .u8 xg, .int .i64 xt, .int .i64 xn, .int .i64 xs] 49))
        have b1 := HN.out x1
        have r1 := (HB.out.keep0 k1).alloc (.cells #[.int .u8 xg, .int .i64 xt, .int .i64 xn, .int .i64 xs] 49)
        have R1 := Lib.hid r1
        have B1 := Lib.hid b1
        clear k1 b1 HH HN HB r1 i0 i1 i2
        go_wp2_with fail
        generalize x1.alloc (.cells #[.int .u8 xg, .int .i64 xt, .int .i64 xn, .int .i64 xs] 49) = y1 at *
        generalize x1.heap.size = hb at *
        obtain ⟨p0, p1, p2, p3⟩ := cells4 B1.out
        have c0 := cell_regrown p0
        have c1 := cell_regrown p1
        have c2 := cell_regrown p2
        have c3 := cell_regrown p3
        have s1 := cell_regrown (HSp.out _ K1.out).2.1
        have C1 : Hid (∀ d os, Calls Tryz.prog 92 #[.pointer (some ⟨tp, 0, none⟩), .agg #[.int .u8 xg, .int .i64 xt, .int .i64 xn, .int .i64 xs]] (grow (redrawn y1 d) os) fun e z => e = .returned (.int .i64 fe) ∧ ∃ p : Regrown, z = grow (redrawn y1 p.d) p.os) :=
          Lib.hid fun d os => Calls.regrown_of ((HFt.out _ (K1.out.trans (Kept.ofBelow (below_regrown y1 d os) []))).mono fun _ _ ⟨he, hk⟩ => ⟨he, hk.below (Nat.le_refl _) (by simp)⟩)
        have C2 : Hid (∀ d os, Calls Tryz.prog 42 #[.pointer (some ⟨sp, 0, none⟩)] (grow (redrawn y1 d) os) fun e z => e = .returned (.int .i64 G) ∧ ∃ p : Regrown, z = grow (redrawn y1 p.d) p.os) :=
          Lib.hid fun d os => Calls.regrown_of ((HGr.out _ (K1.out.trans (Kept.ofBelow (below_regrown y1 d os) []))).mono fun _ _ ⟨he, hk⟩ => ⟨he, by rw [← hk]; exact (Kept.refl [] _).below (Nat.le_refl _) (by simp)⟩)
        clear p0 p1 p2 p3 HFt HGr HSp
        refine wp_region_quiet_below (by kernel_rfl) (by kernel_rfl) ?_
        repeat (first | go_big_quiet_step (first | exact C1.out _ _ | exact C2.out _ _) | quiet_step (first | exact C1.out _ _ | exact C2.out _ _))
        refine wpQuiet_nil ?_
        rintro _ ⟨⟨dq, osq⟩, rfl⟩
        have hk3 := Kept.ofBelow (below_regrown y1 dq osq) []
        clear c0 c1 c2 c3 s1 C1 C2 hwr hgt hb1 hb2
        generalize grow (redrawn y1 dq) osq = y3 at hk3 ⊢
        have K3 := Lib.hid (K1.out.trans hk3)
        have b3 := B1.out.keep0 hk3
        have r3 := R1.out.keep0 hk3
        obtain ⟨c0, c1, c2, c3⟩ := cells4 b3
        obtain ⟨f0, f1, f2, f3, f4⟩ := free5 r3
        obtain ⟨d0, d1, d2, d3, d4⟩ := cells5 r3
        have R3 := Lib.hid r3
        clear hk3 b3 r3 B1 R1 K1
        go_wp2_with fail
        exact ret_cel rfl rfl R3.out K3.out (Nat.le_refl _) rfl rfl fun X hX => ⟨rfl, hX⟩
    · rw [decide_eq_false (by rintro ⟨a, b, c⟩; exact h2 b), if_neg (by decide)]
      unfold Cel.zero Hd.zero
      have hb1 : (er != 0) = false := by rw [h1]; rfl
      have hb2 : (fe != 0) = true := by rw [bne_iff_ne]; exact h2
      clear h1 h2
      generalize x.tg = xg at *
      generalize x.ty = xt at *
      generalize x.ln = xn at *
      generalize x.sz = xs at *
      go_enter Tryz.func56, Tryz.ntmps56
      go_wp2_with fail
      refine (HH.out _ K0.out).mono ?_
      rintro e x1 ⟨rfl, k1⟩
      have K1 := Lib.hid ((K0.out.trans k1).alloc (.cells #[.int .u8 xg, .int .i64 xt, .int .i64 xn, .int .i64 xs] 49))
      have b1 := HN.out x1
      have r1 := (HB.out.keep0 k1).alloc (.cells #[.int .u8 xg, .int .i64 xt, .int .i64 xn, .int .i64 xs] 49)
      have R1 := Lib.hid r1
      have B1 := Lib.hid b1
      clear k1 b1 HH HN HB r1 i0 i1 i2
      go_wp2_with fail
      generalize x1.alloc (.cells #[.int .u8 xg, .int .i64 xt, .int .i64 xn, .int .i64 xs] 49) = y1 at *
      generalize x1.heap.size = hb at *
      obtain ⟨p0, p1, p2, p3⟩ := cells4 B1.out
      have c0 := cell_regrown p0
      have c1 := cell_regrown p1
      have c2 := cell_regrown p2
      have c3 := cell_regrown p3
      have s1 := cell_regrown (HSp.out _ K1.out).2.1
      have C1 : Hid (∀ d os, Calls Tryz.prog 92 #[.pointer (some ⟨tp, 0, none⟩), .agg #[.int .u8 xg, .int .i64 xt, .int .i64 xn, .int .i64 xs]] (grow (redrawn y1 d) os) fun e z => e = .returned (.int .i64 fe) ∧ ∃ p : Regrown, z = grow (redrawn y1 p.d) p.os) :=
        Lib.hid fun d os => Calls.regrown_of ((HFt.out _ (K1.out.trans (Kept.ofBelow (below_regrown y1 d os) []))).mono fun _ _ ⟨he, hk⟩ => ⟨he, hk.below (Nat.le_refl _) (by simp)⟩)
      have C2 : Hid (∀ d os, Calls Tryz.prog 42 #[.pointer (some ⟨sp, 0, none⟩)] (grow (redrawn y1 d) os) fun e z => e = .returned (.int .i64 G) ∧ ∃ p : Regrown, z = grow (redrawn y1 p.d) p.os) :=
        Lib.hid fun d os => Calls.regrown_of ((HGr.out _ (K1.out.trans (Kept.ofBelow (below_regrown y1 d os) []))).mono fun _ _ ⟨he, hk⟩ => ⟨he, by rw [← hk]; exact (Kept.refl [] _).below (Nat.le_refl _) (by simp)⟩)
      clear p0 p1 p2 p3 HFt HGr HSp
      refine wp_region_quiet_below (by kernel_rfl) (by kernel_rfl) ?_
      repeat (first | go_big_quiet_step (first | exact C1.out _ _ | exact C2.out _ _) | quiet_step (first | exact C1.out _ _ | exact C2.out _ _))
      refine wpQuiet_nil ?_
      rintro _ ⟨⟨dq, osq⟩, rfl⟩
      have hk3 := Kept.ofBelow (below_regrown y1 dq osq) []
      clear c0 c1 c2 c3 s1 C1 C2 hb1 hb2
      generalize grow (redrawn y1 dq) osq = y3 at hk3 ⊢
      have K3 := Lib.hid (K1.out.trans hk3)
      have b3 := B1.out.keep0 hk3
      have r3 := R1.out.keep0 hk3
      obtain ⟨c0, c1, c2, c3⟩ := cells4 b3
      obtain ⟨f0, f1, f2, f3, f4⟩ := free5 r3
      obtain ⟨d0, d1, d2, d3, d4⟩ := cells5 r3
      have R3 := Lib.hid r3
      clear hk3 b3 r3 B1 R1 K1
      go_wp2_with fail
      exact ret_cel rfl rfl R3.out K3.out (Nat.le_refl _) rfl rfl fun X hX => ⟨rfl, hX⟩
  · rw [decide_eq_false (by rintro ⟨a, b, c⟩; exact h1 a), if_neg (by decide)]
    unfold Cel.zero Hd.zero
    have hb1 : (er != 0) = true := by rw [bne_iff_ne]; exact h1
    clear h1
    generalize x.tg = xg at *
    generalize x.ty = xt at *
    generalize x.ln = xn at *
    generalize x.sz = xs at *
    go_enter Tryz.func56, Tryz.ntmps56
    go_wp2_with fail
    refine (HH.out _ K0.out).mono ?_
    rintro e x1 ⟨rfl, k1⟩
    have K1 := Lib.hid ((K0.out.trans k1).alloc (.cells #[.int .u8 xg, .int .i64 xt, .int .i64 xn, .int .i64 xs] 49))
    have b1 := HN.out x1
    have r1 := (HB.out.keep0 k1).alloc (.cells #[.int .u8 xg, .int .i64 xt, .int .i64 xn, .int .i64 xs] 49)
    have R1 := Lib.hid r1
    have B1 := Lib.hid b1
    clear k1 b1 HH HN HB r1 i0 i1 i2
    go_wp2_with fail
    generalize x1.alloc (.cells #[.int .u8 xg, .int .i64 xt, .int .i64 xn, .int .i64 xs] 49) = y1 at *
    generalize x1.heap.size = hb at *
    obtain ⟨p0, p1, p2, p3⟩ := cells4 B1.out
    have c0 := cell_regrown p0
    have c1 := cell_regrown p1
    have c2 := cell_regrown p2
    have c3 := cell_regrown p3
    have s1 := cell_regrown (HSp.out _ K1.out).2.1
    have C1 : Hid (∀ d os, Calls Tryz.prog 92 #[.pointer (some ⟨tp, 0, none⟩), .agg #[.int .u8 xg, .int .i64 xt, .int .i64 xn, .int .i64 xs]] (grow (redrawn y1 d) os) fun e z => e = .returned (.int .i64 fe) ∧ ∃ p : Regrown, z = grow (redrawn y1 p.d) p.os) :=
      Lib.hid fun d os => Calls.regrown_of ((HFt.out _ (K1.out.trans (Kept.ofBelow (below_regrown y1 d os) []))).mono fun _ _ ⟨he, hk⟩ => ⟨he, hk.below (Nat.le_refl _) (by simp)⟩)
    have C2 : Hid (∀ d os, Calls Tryz.prog 42 #[.pointer (some ⟨sp, 0, none⟩)] (grow (redrawn y1 d) os) fun e z => e = .returned (.int .i64 G) ∧ ∃ p : Regrown, z = grow (redrawn y1 p.d) p.os) :=
      Lib.hid fun d os => Calls.regrown_of ((HGr.out _ (K1.out.trans (Kept.ofBelow (below_regrown y1 d os) []))).mono fun _ _ ⟨he, hk⟩ => ⟨he, by rw [← hk]; exact (Kept.refl [] _).below (Nat.le_refl _) (by simp)⟩)
    clear p0 p1 p2 p3 HFt HGr HSp
    refine wp_region_quiet_below (by kernel_rfl) (by kernel_rfl) ?_
    repeat (first | go_big_quiet_step (first | exact C1.out _ _ | exact C2.out _ _) | quiet_step (first | exact C1.out _ _ | exact C2.out _ _))
    refine wpQuiet_nil ?_
    rintro _ ⟨⟨dq, osq⟩, rfl⟩
    have hk3 := Kept.ofBelow (below_regrown y1 dq osq) []
    clear c0 c1 c2 c3 s1 C1 C2 hb1
    generalize grow (redrawn y1 dq) osq = y3 at hk3 ⊢
    have K3 := Lib.hid (K1.out.trans hk3)
    have b3 := B1.out.keep0 hk3
    have r3 := R1.out.keep0 hk3
    obtain ⟨c0, c1, c2, c3⟩ := cells4 b3
    obtain ⟨f0, f1, f2, f3, f4⟩ := free5 r3
    obtain ⟨d0, d1, d2, d3, d4⟩ := cells5 r3
    have R3 := Lib.hid r3
    clear hk3 b3 r3 B1 R1 K1
    go_wp2_with fail
    exact ret_cel rfl rfl R3.out K3.out (Nat.le_refl _) rfl rfl fun X hX => ⟨rfl, hX⟩
end
end Go.Proofs.YtoagghileebokaaGreatDoor.Sp

/-
  The loop over a space's cells: the contract of the function that cells hands back.
-/
namespace Go.Proofs.YtoagghileebokaaGreatDoor.Sp
open Go.RowKit Go.Proofs.YtoagghileebokaaGreatDoor.Ar Go.Proofs.YtoagghileebokaaGreatDoor.Sh Go.Shelf Go.Sort
open Go.Proofs.YtoagghileebokaaGreatDoor.Hd (Hd Fields)
open Go.Proofs.YtoagghileebokaaGreatDoor.Tb (Ty Tab)
open Go.Proofs.YtoagghileebokaaGreatDoor.Bt (Bv)
set_option linter.unusedVariables false
attribute [local go_sem] Oper.semAt_some

/-- The block of the slice that lies in the box b. -/
def ownAt (W : World) (b : Nat) : Option Nat := match W.cell? ⟨b, 0, none⟩ with | some v => v.ownBlock | none => none
theorem ownAt_of {W W' : World} {b : Nat} (h : W'.heap[b]? = W.heap[b]?) : ownAt W' b = ownAt W b := by
  unfold ownAt
  rw [World.cell?_of_block (w := W) h]
theorem ownAt_has {W : World} {b : Nat} {t : TypeId} {v : Value} (h : Has W b t [v]) : ownAt W b = v.ownBlock := by
  unfold ownAt
  rw [h.cell 0]
  rfl
/-- What a round that goes on keeps: all cells but the box b and the slice in it. -/
structure Kpw (b : Nat) (A B : World) : Prop where
  size : A.heap.size ≤ B.heap.size
  same : ∀ i o, i ≠ b → ownAt A b ≠ some i → A.heap[i]? = some o → o.isCells = true → B.heap[i]? = some o
  own : ownAt B b = ownAt A b ∨ ∃ g, ownAt B b = some g ∧ A.heap.size ≤ g ∧ g < B.heap.size
namespace Kpw
theorem refl (b : Nat) (W : World) : Kpw b W W := ⟨Nat.le_refl _, fun _ _ _ _ h _ => h, .inl rfl⟩
theorem trans {b : Nat} {A B C : World} (h : Kpw b A B) (k : Kpw b B C) : Kpw b A C := by
  refine ⟨Nat.le_trans h.size k.size, fun i o hi ha ho hc => ?_, ?_⟩
  · refine k.same i o hi (fun e => ?_) (h.same i o hi ha ho hc) hc
    rcases h.own with h1 | ⟨g, h1, h2, _⟩
    · rw [h1] at e; exact ha e
    · rw [h1] at e
      injection e with e
      have := (Array.getElem?_eq_some_iff.1 ho).1
      omega
  · rcases k.own with k1 | ⟨g, k1, k2, k3⟩
    · rw [k1]
      rcases h.own with h1 | ⟨g, h1, h2, h3⟩
      · exact .inl h1
      · exact .inr ⟨g, h1, h2, Nat.lt_of_lt_of_le h3 k.size⟩
    · exact .inr ⟨g, k1, Nat.le_trans h.size k2, k3⟩
theorem put {b n : Nat} (hb : b < n) (W : World) (l : Nat) (o o' : Obj) (hl : n ≤ l) (h : W.heap[l]? = some o) (hc : o.isCells = false) : Kpw b W (W.putObj l o') := by
  have hlt := (Array.getElem?_eq_some_iff.1 h).1
  refine ⟨(grownBy_putObj' W l o').size, fun i x hi _ hx hxc => ?_, .inl ?_⟩
  · have hne : i ≠ l := by rintro rfl; rw [h] at hx; injection hx with hx; rw [hx, hxc] at hc; cases hc
    exact ((grownBy_putObj' W l o').block i (Array.getElem?_eq_some_iff.1 hx).1 (fun e => hne (by injection e))).trans hx
  · exact ownAt_of ((grownBy_putObj' W l o').block b (by omega) (fun e => by injection e with e; omega))
theorem ofKept {b : Nat} {A B : World} (k : Kept [] A B) (hb : b < A.heap.size) : Kpw b A B :=
  ⟨k.more, fun i o _ _ ho _ => (k.old i (Array.getElem?_eq_some_iff.1 ho).1 (by simp)).trans ho, .inl (ownAt_of (k.old b hb (by simp)))⟩
theorem has {b : Nat} {A B : World} (h : Kpw b A B) {i : Nat} {t : TypeId} {cs : List Value} (hi : i ≠ b) (ho : ownAt A b ≠ some i) (hh : Has A i t cs) : Has B i t cs := h.same i _ hi ho hh rfl
end Kpw
theorem grownBy_of {A B : World} (k : Kept [] A B) : A.grownBy B none :=
  ⟨k.os, k.tape, k.out, k.more, fun i hi _ => k.old i hi (by simp)⟩
/-- A space is the same where its blocks are. -/
theorem Spc.moved {w w' : World} {s : Ids} {l : List Ty} {ws : List Int} {bs : List Bool} (h : Spc w s l ws bs) (k : ∀ i o, (∃ t cs, (t = 72 ∨ t = 132 ∨ t = 55 ∨ t = 97 ∨ t = 57 ∨ t = 180 ∨ t = 178) ∧ Has w i t cs) → w.heap[i]? = some o → w'.heap[i]? = some o) : Spc w' s l ws bs := by
  obtain ⟨m, a⟩ := h.ar
  obtain ⟨vs, bv, hM⟩ := h.bv
  refine ⟨k _ _ ⟨_, _, by simp, h.head⟩ h.head, ⟨m, k _ _ ⟨_, _, by simp, a.head⟩ a.head, k _ _ ⟨_, _, by simp, a.row⟩ a.row, a.short⟩, ⟨k _ _ ⟨_, _, by simp, h.tab.head⟩ h.tab.head, ⟨h.tab.own.1, ?_⟩, h.tab.nil, h.tab.len, h.tab.all⟩, ⟨vs, ⟨k _ _ ⟨_, _, by simp, bv.head⟩ bv.head, k _ _ ⟨_, _, by simp, bv.row⟩ bv.row, bv.len, bv.few, bv.word⟩, hM⟩, h.wm⟩
  rcases h.tab.own.2 with hn | ⟨g, cap, cur, e, hb, hg, rest⟩
  · exact .inl hn
  · refine .inr ⟨g, cap, cur, e, hb, ?_, rest⟩
    have hh : Has w g 57 cur.toList := by unfold Has; simpa using hg
    exact k _ _ ⟨_, _, by simp, hh⟩ hg
theorem Spc.kpw {w w' : World} {s : Ids} {l : List Ty} {ws : List Int} {bs : List Bool} {b : Nat} {tb : TypeId} {vb : Value} (h : Spc w s l ws bs) (hb : Has w b tb [vb]) (ht : tb ∉ [72, 132, 55, 97, 57, 180, 178]) (hn : ownAt w b = none) (k : Kpw b w w') : Spc w' s l ws bs := by
  refine h.moved fun i o ⟨t, cs, hi, hh⟩ ho => ?_
  refine k.same i o ?_ (by rw [hn]; simp) ho ?_
  · refine Has.block_type hh hb ?_
    rintro rfl
    exact ht (by simp; omega)
  · rw [hh] at ho
    injection ho with ho
    rw [← ho]
    rfl
theorem fields_kpw {w w' : World} {b : Nat} {tb : TypeId} {vb : Value} (h : Fields w) (hb : Has w b tb [vb]) (hn : ownAt w b = none) (k : Kpw b w w') : Fields w' := by
  obtain ⟨t, fr, hh⟩ := h
  refine ⟨t, fr, k.same _ _ ?_ (by rw [hn]; simp) hh rfl⟩
  rintro e
  rw [← e] at hb
  have e2 := hb.symm.trans hh
  injection e2 with e2
  injection e2 with e3
  have := congrArg Array.size e3
  simp [Hd.fieldCells] at this
abbrev El (cs : List Cel) := { c : Cel // c ∈ cs }
def encs {cs : List Cel} (x : El cs) : Array Value := #[.agg #[.int .i64 x.1.a, .int .u8 x.1.h.tg, .int .i64 x.1.h.ty, .int .i64 x.1.h.ln, .int .i64 x.1.h.sz]]
def vals {cs : List Cel} (xs : List (El cs)) : List Cel := xs.map (·.1)
theorem vals_snoc {cs : List Cel} (xs : List (El cs)) (x : El cs) : vals (xs ++ [x]) = vals xs ++ [x.1] := by simp [vals]

set_option maxRecDepth 100000 in
set_option maxHeartbeats 4000000 in
theorem cells1_in (n : Nat) (hn : 1 ≤ n) (b bg bb : Nat) (s : Ids) (l : List Ty) (ws : List Int) (bs : List Bool) (g : Int) (cs : List Cel) (y : Nat) (J Jx : List (El cs) → World → Prop) (W : World) (hJ : AbidesFrom W.heap.size J)
    (hY : ∀ pre x W1, J pre W1 → pre.length < cs.length → YieldAt Fence.wide (n - 1) Tryz.prog y (encs x) W1 fun e W' =>
      (e = .returned (.bool true) ∧ J (pre ++ [x]) W' ∧ Kpw b W1 W') ∨ (e = .returned (.bool false) ∧ Jx (pre ++ [x]) W'))
    (hG : Has W bg 3 [.int .i64 g]) (g0 : 0 ≤ g) (g1 : g ≤ 1000000) (hB : Has W bb 29 [.pointer (some ⟨s.sp, 0, none⟩)]) (hF : Fields W) (hS : Spc W s l ws bs) (hC : Scans ws l g cs)
    {tb : TypeId} {vb : Value} (hb : Has W b tb [vb]) (ht : tb ∉ [72, 132, 55, 97, 57, 180, 178]) (hti : tb ≠ 29) (hob : vb.ownBlock = none) (h0 : J [] W) :
    CallsIn Fence.wide n Tryz.prog 55 #[.func (.yield y) #[] #[], .pointer (some ⟨bg, 0, none⟩), .pointer (some ⟨bb, 0, none⟩)] W fun e' W' => (∃ v, e' = .returned v) ∧
      ((∃ xs, vals xs = cs ∧ J xs W') ∨ (∃ pre, (∃ rest, cs = vals pre ++ rest) ∧ Jx pre W')) := by
  have cg := hG.cell 0
  simp at cg
  have hown : ownAt W b = none := (ownAt_has hb).trans hob
  have hsh := hS.short
  have hgr : 0 ≤ gran ws ∧ gran ws ≤ 32768 := by unfold gran; omega
  have HSp : Hid (∀ X, Kpw b W X → Spc X s l ws bs) := Lib.hid fun X k => hS.kpw hb ht hown k
  have HFd : Hid (∀ X, Kpw b W X → Fields X) := Lib.hid fun X k => fields_kpw hF hb hown k
  have HBb : Hid (∀ X, Kpw b W X → Has X bb 29 [.pointer (some ⟨s.sp, 0, none⟩)]) := Lib.hid fun X k => k.has (Has.block_type hB hb (Ne.symm hti)) (by rw [hown]; simp) hB
  have Hlt := Lib.hid hb.lt
  have Hown := Lib.hid hown
  have H0 := Lib.hid h0
  have HY := Lib.hid hY
  have HJ := Lib.hid hJ
  have HC := Lib.hid hC
  clear hG h0 hY hJ hb hob hti ht hown hS hF hB hC
  refine callsIn_of_wp Tryz.func55 rfl trivial ?_ rfl
  simp only [Tryz.ntmps55, List.size_toArray, List.length_cons, List.length_nil, Nat.reduceAdd, Nat.reduceSub, Array.replicate_succ, Array.replicate_zero, List.push_toArray, List.append_toArray, List.nil_append, List.cons_append]
  gi_wp2_with (fail)
  clear cg
  gi_loopw [4] (fun t wr => ∃ a : Int, t = .int .i64 a ∧ 0 ≤ a ∧ a ≤ 1000000 ∧ Hid (∃ (pre : List (El cs)) (rest : List Cel), vals pre ++ rest = cs ∧ Scans ws l a rest ∧ J pre wr ∧ Kpw b W wr)) (fun t _ => (gran ws - intOf t).toNat)
  case atStart => exact ⟨g, rfl, g0, g1, Lib.hid ⟨[], cs, rfl, HC.out, H0.out, Kpw.refl _ _⟩⟩
  case round =>
    obtain ⟨a, rfl, a0, a1, hr⟩ := hrel
    obtain ⟨pre, rest, hpr, hsc, hJp, hkp⟩ := hr.out
    have HS1 := Lib.hid (HSp.out _ hkp)
    have cb := (HBb.out _ hkp).cell 0
    simp at cb
    have HGr := Lib.hid (granules_ok HS1.out)
    have HCl := Lib.hid (cell_ok (HFd.out _ hkp) HS1.out a a0 (by omega))
    have Hsc := Lib.hid hsc
    have Hpr := Lib.hid hpr
    have HJp := Lib.hid hJp
    have Hkp := Lib.hid hkp
    clear hr hpr hsc hJp hkp
    obtain ⟨G, hG⟩ : ∃ G, gran ws = G := ⟨_, rfl⟩
    rw [hG] at HGr hgr ⊢
    have HGe := Lib.hid hG
    clear hG
    by_cases hlt : a < G
    · gi_wp2_with (fail)
      refine ⟨trivial, (callsIn_wide.2 HGr.out).mono ?_⟩
      rintro e1 w1 ⟨rfl, rfl⟩
      clear HGr
      gi_wp2_with (fail)
      cases rest with
      | nil =>
        have hcb : cellB ws l a = false := Hsc.out
        unfold cellC at HCl
        rw [hcb, if_neg (by decide)] at HCl
        unfold Cel.val Cel.zero Hd.zero at HCl
        simp only at HCl
        refine ⟨trivial, (callsIn_wide.2 HCl.out).mono ?_⟩
        rintro e1 w1 ⟨rfl, hk1⟩
        have Hk1 := Lib.hid hk1
        clear hk1 HCl hcb Hsc
        gi_wp2_with (fail)
        refine ⟨(fun f h => by cases h), ?_⟩
        gi_wp2_with (fail)
        refine bodyPost_ret (results_none rfl _ _ _) rfl ?_
        refine ⟨⟨_, rfl⟩, .inl ⟨pre, by have := Hpr.out; rwa [List.append_nil] at this, HJ.out pre wr _ none HJp.out (grownBy_of (Hk1.out.alloc _)) (fun r e => by cases e)⟩⟩
      | cons c rest =>
        obtain ⟨hcb, hce, hsr⟩ := Hsc.out
        have hfa := cellB_facts hcb
        unfold cellC at HCl
        rw [hcb, if_pos rfl, ← hce] at HCl
        have hca : c.a = a := by rw [hce]
        have hsz : c.h.sz = (hdH ws a).sz := by rw [hce]
        have hmem : c ∈ cs := by rw [← Hpr.out]; simp
        have hlen : pre.length < cs.length := by
          have := congrArg List.length Hpr.out
          unfold vals at this
          simp at this
          omega
        have Hnext : Hid (vals (pre ++ [⟨c, hmem⟩]) ++ rest = cs) := Lib.hid (by rw [vals_snoc]; simpa using Hpr.out)
        have Hsr : Hid (Scans ws l (c.a + c.h.sz) rest) := Lib.hid (by rw [hca]; exact hsr)
        have hz1 : 1 ≤ c.h.sz := by omega
        have hz2 : c.a + c.h.sz ≤ G := by have := HGe.out; unfold gran at this; omega
        have HBh := Lib.hid (fun X => behind_ok c (by omega) (by omega) (by omega) (by omega) X)
        have Hyy := Lib.hid (fun X (hJX : J pre X) => HY.out pre ⟨c, hmem⟩ X hJX hlen)
        clear hcb hce hsr hfa hsz Hsc
        obtain ⟨ca, ⟨ct, cy, cl, cz⟩⟩ := c
        simp only at hca hz1 hz2 HBh HCl Hsr
        subst hca
        unfold Cel.val at HCl HBh
        simp only at HCl HBh
        refine ⟨trivial, (callsIn_wide.2 HCl.out).mono ?_⟩
        rintro e1 w1 ⟨rfl, hk1⟩
        have hb2 : Has (w1.alloc (.cells #[.int .i64 ca, .int .u8 ct, .int .i64 cy, .int .i64 cl, .int .i64 cz] 51)) w1.heap.size 51 [.int .i64 ca, .int .u8 ct, .int .i64 cy, .int .i64 cl, .int .i64 cz] := Has.new w1 _ _
        have hk2 : Kept [] wr (w1.alloc (.cells #[.int .i64 ca, .int .u8 ct, .int .i64 cy, .int .i64 cl, .int .i64 cz] 51)) := hk1.alloc _
        have hbw : wr.heap.size ≤ w1.heap.size := hk1.more
        clear hk1 HCl
        obtain ⟨d0, d1, d2, d3, d4⟩ := cells5 hb2
        have Hb2 := Lib.hid hb2
        have Hk2 := Lib.hid hk2
        clear hb2 hk2
        gi_wp2_with (fail)
        generalize w1.alloc (.cells #[.int .i64 ca, .int .u8 ct, .int .i64 cy, .int .i64 cl, .int .i64 cz] 51) = w2 at *
        generalize w1.heap.size = xb at *
        obtain ⟨fn, tmps, assign, body, hy, hR⟩ := Hyy.out w2 (HJ.out pre wr w2 none HJp.out (grownBy_of Hk2.out) (fun r e => by cases e))
        dsimp only [encs] at hy
        clear Hyy
        gi_wp2_with (fail)
        rw [hy, Oper.uponIn_round]
        refine ⟨fun _ => hn, hR.mono ?_⟩
        rintro e3 W3 (⟨rfl, hJ3, hkp3⟩ | ⟨rfl, hJx⟩)
        · have hxb : xb ≠ b := by
            rintro rfl
            have := Hlt.out
            have := Hkp.out.size
            omega
          have ho2 : ownAt w2 b ≠ some xb := by
            have hlb : b < wr.heap.size := Nat.lt_of_lt_of_le Hlt.out Hkp.out.size
            rw [ownAt_of (Hk2.out.old b hlb (by simp))]
            rcases Hkp.out.own with h1 | ⟨g', h1, _, h3⟩
            · rw [h1, Hown.out]; simp
            · rw [h1]
              intro e
              injection e with e
              omega
          have hb3 := hkp3.has hxb ho2 Hb2.out
          clear d0 d1 d2 d3 d4
          obtain ⟨d0, d1, d2, d3, d4⟩ := cells5 hb3
          have HN : Hid (∀ X, Kept [] W3 X → ∃ (pre : List (El cs)) (rest : List Cel), vals pre ++ rest = cs ∧ Scans ws l (ca + cz) rest ∧ J pre X ∧ Kpw b W X) :=
            Lib.hid fun X k => ⟨_, rest, Hnext.out, Hsr.out, HJ.out _ W3 X none hJ3 (grownBy_of k) (fun r e => by cases e), ((Hkp.out.trans (Kpw.ofKept Hk2.out (Nat.lt_of_lt_of_le Hlt.out Hkp.out.size))).trans hkp3).trans (Kpw.ofKept k (Nat.lt_of_lt_of_le Hlt.out (Nat.le_trans Hkp.out.size (Nat.le_trans Hk2.out.more hkp3.size))))⟩
          clear hJ3 hkp3 hy hR hxb ho2 hb3 HJp Hkp Hnext Hsr
          gi_wp2_with (fail)
          refine ⟨trivial, (callsIn_wide.2 (HBh.out _)).mono ?_⟩
          rintro e4 W4 ⟨rfl, hk4⟩
          have HN4 := Lib.hid (HN.out _ hk4)
          clear HN hk4 HBh
          gi_wp2_with (fail)
          go_roundw
          case rel => exact ⟨ca + cz, rfl, by omega, by omega, HN4⟩
          case measure => simp [intOf]; omega
        · have HE : Hid (cs = vals (pre ++ [⟨_, hmem⟩]) ++ rest) := Lib.hid Hnext.out.symm
          clear hy hR
          gi_wp2_with (fail)
          refine bodyPost_ret (results_none rfl _ _ _) rfl ?_
          exact ⟨⟨_, rfl⟩, .inr ⟨_, ⟨_, HE.out⟩, hJx⟩⟩
    · have hcb : cellB ws l a = false := cellB_out (by have := HGe.out; unfold gran at this; omega)
      have hnil : rest = [] := by
        cases rest with
        | nil => rfl
        | cons c rest => have := Hsc.out.1; rw [hcb] at this; cases this
      subst hnil
      clear hcb HCl
      gi_wp2_with (fail)
      refine ⟨trivial, (callsIn_wide.2 HGr.out).mono ?_⟩
      rintro e1 w1 ⟨rfl, rfl⟩
      clear HGr
      gi_wp2_with (fail)
      go_end0
      exact ⟨⟨_, rfl⟩, .inl ⟨pre, by have := Hpr.out; rwa [List.append_nil] at this, HJp.out⟩⟩

theorem cells_stops (n : Nat) (hn : 1 ≤ n) (b bg bb : Nat) (s : Ids) (l : List Ty) (ws : List Int) (bs : List Bool) (g : Int) (cs : List Cel) (w : World)
    (hG : Has w bg 3 [.int .i64 g]) (g0 : 0 ≤ g) (g1 : g ≤ 1000000) (hB : Has w bb 29 [.pointer (some ⟨s.sp, 0, none⟩)]) (hF : Fields w) (hS : Spc w s l ws bs) (hC : Scans ws l g cs)
    {tb : TypeId} {vb : Value} (hb : Has w b tb [vb]) (ht : tb ∉ [72, 132, 55, 97, 57, 180, 178]) (hti : tb ≠ 29) (hob : vb.ownBlock = none) :
    SeqStopsK Fence.wide n Tryz.prog 55 #[.pointer (some ⟨bg, 0, none⟩), .pointer (some ⟨bb, 0, none⟩)] (encs (cs := cs)) (Kpw b) (fun xs => vals xs = cs) (fun pre => ∃ rest, cs = vals pre ++ rest) cs.length w :=
  fun y J Jx W hW hJ _ hY h0 => cells1_in n hn b bg bb s l ws bs g cs y J Jx W hJ hY (hG.keep0 (Kept.ofBelow hW [])) g0 g1 (hB.keep0 (Kept.ofBelow hW [])) (hF.keep0 (Kept.ofBelow hW [])) (hS.keep0 (Kept.ofBelow hW [])) hC (hb.keep0 (Kept.ofBelow hW [])) ht hti hob h0
end Go.Proofs.YtoagghileebokaaGreatDoor.Sp
