/-
  A space in memory; what it tells of its arena, its granules and its starts; behind, gapWord.
-/
import Derived.Test.YtfdombfdgpclcaaGreatDoorSpBits
import Derived.Test.YtfdombfdgpclcaaGreatDoorGBb
import Derived.Test.YtfdombfdgpclcaaGreatDoorGS
import Derived.Test.YtfdombfdgpclcaaGreatDoorGT
namespace Go.Proofs.YtfdombfdgpclcaaGreatDoor.Sp
open Go.RowKit Go.Proofs.YtfdombfdgpclcaaGreatDoor.Ar Go.Proofs.YtfdombfdgpclcaaGreatDoor.Sh
open Go.Proofs.YtfdombfdgpclcaaGreatDoor.Hd (Hd Fields encW gapH errH gap_ok encode_ok cells4 free4)
open Go.Proofs.YtfdombfdgpclcaaGreatDoor.Tb (Ty Tab blk blk_own own_blk cells3)
open Go.Proofs.YtfdombfdgpclcaaGreatDoor.Bt (Bv)
open Go.Proofs.YtfdombfdgpclcaaGreatDoor.Wd (Table)
set_option linter.unusedVariables false

/-- The blocks of a space: its own, its arena's, its table's, its bits'. -/
structure Ids where
  sp : Nat
  ap : Nat
  aq : Nat
  tp : Nat
  A : Option Addr
  c : Nat
  bp : Nat
  bq : Nat
/-- A space, with its types, its words and its bits. -/
structure Spc (w : World) (s : Ids) (l : List Ty) (ws : List Int) (bs : List Bool) : Prop where
  head : Has w s.sp 73 [.pointer (some ⟨s.ap, 0, none⟩), .pointer (some ⟨s.tp, 0, none⟩), .pointer (some ⟨s.bp, 0, none⟩)]
  ar : ∃ m, Arena w s.ap s.aq ws m
  tab : Tab w s.tp s.A s.c l
  bv : Bv w s.bp s.bq bs
  wm : Wm ws
/-- The blocks that a call may turn. -/
def Ids.turn (s : Ids) : List Nat := [s.ap, s.aq, s.bq]
namespace Spc
variable {w w' : World} {s : Ids} {l : List Ty} {ws ws' : List Int} {bs bs' : List Bool}
theorem short (h : Spc w s l ws bs) : ws.length ≤ 65536 := let ⟨m, a⟩ := h.ar; a.short
theorem few (h : Spc w s l ws bs) : bs.length ≤ 65536 := let ⟨m, a, b⟩ := h.bv; a.few
theorem wds (h : Spc w s l ws bs) : Wds ws := wds_of h.wm
theorem keep0 (h : Spc w s l ws bs) (k : Kept [] w w') : Spc w' s l ws bs := by
  obtain ⟨m, ha⟩ := h.ar
  exact ⟨h.head.keep0 k, ⟨m, ha.keep0 k⟩, h.tab.keep0 k, h.bv.keep0 k, h.wm⟩
theorem drewN (h : Spc w s l ws bs) (n : Nat) : Spc (w.drewN n) s l ws bs := h.keep0 ((Kept.refl [] w).drewN n)
theorem tab_ne (h : Spc w s l ws bs) {b : Nat} {t : TypeId} {cs : List Value} (hb : Has w b t cs) (ht : t ≠ 54) : (Value.slice s.A l.length s.c).ownBlock ≠ some b := Tb.Own.block_type h.tab.own hb ht
/-- The arena alone has turned. -/
theorem arena (h : Spc w s l ws bs) (k : Kept [s.ap, s.aq] w w') (ha : ∃ m, Arena w' s.ap s.aq ws' m) (hw : Wm ws') : Spc w' s l ws' bs := by
  obtain ⟨m, a⟩ := h.ar
  obtain ⟨vs, bv, _⟩ := h.bv
  have n1 : s.sp ∉ [s.ap, s.aq] := by simpa using ⟨Has.block_type h.head a.head (by decide), Has.block_type h.head a.row (by decide)⟩
  have n2 : s.tp ∉ [s.ap, s.aq] := by simpa using ⟨Has.block_type h.tab.head a.head (by decide), Has.block_type h.tab.head a.row (by decide)⟩
  have n3 : s.bp ∉ [s.ap, s.aq] := by simpa using ⟨Has.block_type bv.head a.head (by decide), Has.block_type bv.head a.row (by decide)⟩
  have n4 : s.bq ∉ [s.ap, s.aq] := by simpa using ⟨Has.block_type bv.row a.head (by decide), Has.block_type bv.row a.row (by decide)⟩
  refine ⟨h.head.kept k n1, ha, h.tab.kept k n2 ?_, h.bv.kept k n3 n4, hw⟩
  intro g hg
  rcases List.mem_cons.1 hg with rfl | hg
  · exact h.tab_ne a.head (by decide)
  · rw [List.mem_singleton.1 hg]; exact h.tab_ne a.row (by decide)
/-- The bits alone have turned. -/
theorem bits (h : Spc w s l ws bs) (k : Kept [s.bq] w w') (hb : Bv w' s.bp s.bq bs') : Spc w' s l ws bs' := by
  obtain ⟨m, a⟩ := h.ar
  obtain ⟨vs, bv, _⟩ := h.bv
  have n1 : s.sp ∉ [s.bq] := by simpa using Has.block_type h.head bv.row (by decide)
  have n2 : s.tp ∉ [s.bq] := by simpa using Has.block_type h.tab.head bv.row (by decide)
  have n3 : s.ap ∉ [s.bq] := by simpa using Has.block_type a.head bv.row (by decide)
  have n4 : s.aq ∉ [s.bq] := by simpa using Has.block_type a.row bv.row (by decide)
  refine ⟨h.head.kept k n1, ⟨m, a.kept k n3 n4⟩, h.tab.kept k n2 ?_, hb, h.wm⟩
  intro g hg
  rw [List.mem_singleton.1 hg]; exact h.tab_ne bv.row (by decide)
theorem cells (h : Spc w s l ws bs) : w.cell? ⟨s.sp, 0, none⟩ = some (.pointer (some ⟨s.ap, 0, none⟩)) ∧ w.cell? ⟨s.sp, 1, none⟩ = some (.pointer (some ⟨s.tp, 0, none⟩)) ∧ w.cell? ⟨s.sp, 2, none⟩ = some (.pointer (some ⟨s.bp, 0, none⟩)) := cells3 h.head
/-- A block of another kind is none of those that may turn. -/
theorem beside (h : Spc w s l ws bs) {b : Nat} {t : TypeId} {cs : List Value} (hb : Has w b t cs) (h1 : t ≠ 93) (h2 : t ≠ 34) (h3 : t ≠ 139) : b ∉ s.turn := by
  obtain ⟨m, a⟩ := h.ar
  obtain ⟨vs, bv, _⟩ := h.bv
  simpa [Ids.turn] using ⟨Has.block_type hb a.head h1, Has.block_type hb a.row h2, Has.block_type hb bv.row h3⟩
theorem turn_lt (h : Spc w s l ws bs) : ∀ i ∈ s.turn, i < w.heap.size := by
  obtain ⟨m, a⟩ := h.ar
  obtain ⟨vs, bv, _⟩ := h.bv
  intro i hi
  simp [Ids.turn] at hi
  rcases hi with rfl | rfl | rfl
  · exact a.head.lt
  · exact a.row.lt
  · exact bv.row.lt
end Spc
/-- The granules. -/
def gran (ws : List Int) : Int := (ws.length : Int) / 2
section
variable {w : World} {s : Ids} {l : List Ty} {ws : List Int} {bs : List Bool}
theorem arena_ok (h : Spc w s l ws bs) : Calls Tryz.prog 47 #[.pointer (some ⟨s.sp, 0, none⟩)] w fun e w' => e = .returned (.pointer (some ⟨s.ap, 0, none⟩)) ∧ w = w' := by
  obtain ⟨c0, _, _⟩ := h.cells
  clear h
  generalize s.sp = b at *
  generalize s.ap = d at *
  go_enter Tryz.func47, Tryz.ntmps47
  go_wp2_with fail
  go_ret
  exact ⟨rfl, rfl⟩
set_option maxRecDepth 100000 in
theorem granules_ok (h : Spc w s l ws bs) : Calls Tryz.prog 22 #[.pointer (some ⟨s.sp, 0, none⟩)] w fun e w' => e = .returned (.int .i64 (gran ws)) ∧ w = w' := by
  obtain ⟨m, a⟩ := h.ar
  have hs := a.short
  have H1 := Lib.hid (arena_ok h)
  have H2 := Lib.hid (len_any a)
  have ed : (ws.length : Int).tdiv 2 = gran ws := Int.tdiv_eq_ediv_of_nonneg (by omega)
  have ED := Lib.hid ed
  clear h a ed
  generalize ws.length = L at *
  generalize gran ws = G at *
  go_enter Tryz.func22, Tryz.ntmps22
  go_wp2_with fail
  refine H1.out.mono ?_
  rintro e w1 ⟨rfl, rfl⟩
  go_wp2_with fail
  refine H2.out.mono ?_
  rintro e w1 ⟨rfl, rfl⟩
  go_wp2_with fail
  go_ret
  exact ⟨ret_int (by have := ED.out; rw [Int.tdiv_eq_ediv_of_nonneg (by omega)] at this; omega), rfl⟩
set_option maxRecDepth 100000 in
theorem starts_ok (h : Spc w s l ws bs) : Calls Tryz.prog 16 #[.pointer (some ⟨s.sp, 0, none⟩)] w fun e w' => e = .returned (.pointer (some ⟨w.heap.size + 1, 0, none⟩)) ∧ Bv w' (w.heap.size + 1) w.heap.size bs ∧ Kept [] w w' := by
  obtain ⟨_, _, c2⟩ := h.cells
  have H1 := Lib.hid (Bt.copy_ok bs _ _ w h.bv)
  clear h
  generalize s.sp = b at *
  generalize s.bp = d at *
  go_enter Tryz.func16, Tryz.ntmps16
  go_wp2_with fail
  refine H1.out.mono ?_
  rintro e w1 ⟨rfl, hb, hk⟩
  go_wp2_with fail
  go_ret
  exact ⟨rfl, hb, hk⟩
end
theorem cells5 {w : World} {b : Nat} {t : TypeId} {v0 v1 v2 v3 v4 : Value} (h : Has w b t [v0, v1, v2, v3, v4]) : w.cell? ⟨b, 0, none⟩ = some v0 ∧ w.cell? ⟨b, 1, none⟩ = some v1 ∧ w.cell? ⟨b, 2, none⟩ = some v2 ∧ w.cell? ⟨b, 3, none⟩ = some v3 ∧ w.cell? ⟨b, 4, none⟩ = some v4 :=
  ⟨h.cell 0, h.cell 1, h.cell 2, h.cell 3, h.cell 4⟩
theorem free5 {w : World} {b : Nat} {t : TypeId} {cs : List Value} (h : Has w b t cs) : w.frozen? ⟨b, 0, none⟩ = false ∧ w.frozen? ⟨b, 1, none⟩ = false ∧ w.frozen? ⟨b, 2, none⟩ = false ∧ w.frozen? ⟨b, 3, none⟩ = false ∧ w.frozen? ⟨b, 4, none⟩ = false :=
  ⟨h.free 0, h.free 1, h.free 2, h.free 3, h.free 4⟩
theorem behind_ok (c : Cel) (h0 : -1000000000000 ≤ c.a) (h1 : c.a ≤ 1000000000000) (h2 : -1000000000000 ≤ c.h.sz) (h3 : c.h.sz ≤ 1000000000000) (w : World) :
    Calls Tryz.prog 27 #[c.val] w fun e w' => e = .returned (.int .i64 (c.a + c.h.sz)) ∧ Kept [] w w' := by
  unfold Cel.val
  have hb := Has.new w 45 [.int .i64 c.a, .int .u8 c.h.tg, .int .i64 c.h.ty, .int .i64 c.h.ln, .int .i64 c.h.sz]
  obtain ⟨c0, c1, c2, c3, c4⟩ := cells5 hb
  have hk : Kept [] w (w.alloc (.cells #[.int .i64 c.a, .int .u8 c.h.tg, .int .i64 c.h.ty, .int .i64 c.h.ln, .int .i64 c.h.sz] 45)) := (Kept.refl [] w).alloc _
  have HK := Lib.hid hk
  clear hb hk
  generalize c.a = a at *
  generalize c.h.sz = z at *
  go_enter Tryz.func27, Tryz.ntmps27
  go_wp2_with fail
  go_ret
  exact ⟨rfl, HK.out⟩
set_option maxRecDepth 100000 in
set_option maxHeartbeats 1000000 in
theorem gapWord_ok {w : World} (hF : Fields w) (z : Int) (z0 : -9223372036854775808 ≤ z) (z1 : z ≤ 9223372036854775807) :
    Calls Tryz.prog 46 #[.int .i64 z] w fun e w' => e = .returned (.int .u64 (gapW z)) ∧ Kept [] w w' := by
  have HG := Lib.hid (fun g (g0 : 0 ≤ g) (g1 : g ≤ 255) => gap_ok hF g z g0 g1 z0 z1)
  have HE := Lib.hid (fun y (k : Kept [] w y) (x : Hd) (ok : x.ok) => encode_ok (hF.keep0 k) x ok)
  have HOK : Hid (∀ g : Int, 0 ≤ g → g ≤ 255 → (gapH g z).ok) := Lib.hid fun g g0 g1 => by
    unfold gapH
    split
    · constructor <;> simp <;> omega
    · exact Hd.zero_ok
  unfold gapW
  clear hF
  by_cases e1 : z = 1
  · rw [if_pos e1]
    have hok := Lib.hid (HOK.out 2 (by omega) (by omega))
    have hg := Lib.hid (HG.out 2 (by omega) (by omega))
    have he1 : (z == 1) = true := by simpa using e1
    clear HOK HG e1
    generalize errH ⟨2, 0, 0, z⟩ = er at *
    generalize gapH 2 z = x at *
    have HX := Lib.hid (fun y (k : Kept [] w y) => HE.out y k x hok.out)
    clear HE
    generalize encW x = u at *
    generalize errH x = er2 at *
    unfold Hd.val at *
    generalize x.tg = xg at *
    generalize x.ty = xt at *
    generalize x.ln = xn at *
    generalize x.sz = xs at *
    go_enter Tryz.func46, Tryz.ntmps46
    go_wp2_with fail
    refine hg.out.mono ?_
    rintro e w1 ⟨rfl, hk⟩
    have hb := Has.new w1 43 [.int .u8 xg, .int .i64 xt, .int .i64 xn, .int .i64 xs]
    obtain ⟨c0, c1, c2, c3⟩ := cells4 hb
    have HK := Lib.hid (hk.alloc (.cells #[.int .u8 xg, .int .i64 xt, .int .i64 xn, .int .i64 xs] 43))
    clear hb hk hg
    go_wp2_with fail
    refine (HX.out _ HK.out).mono ?_
    rintro e w2 ⟨rfl, hk⟩
    go_wp2_with fail
    go_ret
    exact ⟨rfl, HK.out.trans hk⟩
  · rw [if_neg e1]
    have hok := Lib.hid (HOK.out 3 (by omega) (by omega))
    have hg := Lib.hid (HG.out 3 (by omega) (by omega))
    have he1 : (z == 1) = false := by simpa using e1
    clear HOK HG e1
    generalize errH ⟨3, 0, 0, z⟩ = er at *
    generalize gapH 3 z = x at *
    have HX := Lib.hid (fun y (k : Kept [] w y) => HE.out y k x hok.out)
    clear HE
    generalize encW x = u at *
    generalize errH x = er2 at *
    unfold Hd.val at *
    generalize x.tg = xg at *
    generalize x.ty = xt at *
    generalize x.ln = xn at *
    generalize x.sz = xs at *
    go_enter Tryz.func46, Tryz.ntmps46
    go_wp2_with fail
    refine hg.out.mono ?_
    rintro e w1 ⟨rfl, hk⟩
    have hb := Has.new w1 43 [.int .u8 xg, .int .i64 xt, .int .i64 xn, .int .i64 xs]
    obtain ⟨c0, c1, c2, c3⟩ := cells4 hb
    have HK := Lib.hid (hk.alloc (.cells #[.int .u8 xg, .int .i64 xt, .int .i64 xn, .int .i64 xs] 43))
    clear hb hk hg
    go_wp2_with fail
    refine (HX.out _ HK.out).mono ?_
    rintro e w2 ⟨rfl, hk⟩
    go_wp2_with fail
    go_ret
    exact ⟨rfl, HK.out.trans hk⟩
end Go.Proofs.YtfdombfdgpclcaaGreatDoor.Sp
