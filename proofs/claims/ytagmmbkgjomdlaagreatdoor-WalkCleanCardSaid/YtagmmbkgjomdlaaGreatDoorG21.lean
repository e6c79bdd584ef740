/-
  Several texts in one: BtNew, SpEnds, WkCell, WkIter.
-/
import Derived.Test.YtagmmbkgjomdlaaGreatDoorG04
import Derived.Test.YtagmmbkgjomdlaaGreatDoorG22
import Derived.Test.YtagmmbkgjomdlaaGreatDoorG06
import Derived.Test.YtagmmbkgjomdlaaGreatDoorG20
import Derived.Lib.QuietBelow
import Derived.Deep.QuietTactic
import Derived.BigQuiet
/-
  A new vector: all of its bits are clear.
-/
namespace Go.Proofs.YtagmmbkgjomdlaaGreatDoor.Bt
open Go.RowKit Go.Proofs.YtagmmbkgjomdlaaGreatDoor.Ar Go.Proofs.YtagmmbkgjomdlaaGreatDoor.Wd
set_option linter.unusedVariables false

theorem zeroMeans (n : Nat) : Means (List.replicate n false) (List.replicate 1024 0) := fun i hi => by
  rw [List.length_replicate] at hi
  have h1 : bit (List.replicate n false) i = false := by
    unfold bit
    rw [List.getD, List.getElem?_replicate]
    split <;> rfl
  have h2 : (List.replicate 1024 (0 : Int)).getD (i / 64) 0 = 0 := by
    rw [List.getD, List.getElem?_replicate]
    split <;> rfl
  rw [h1, h2]
  exact (Nat.zero_testBit _).symm
theorem newBv_ok (n : Nat) (hn : n ≤ 65536) (w : World) :
    Calls Tryz.prog 127 #[.int .i64 n] w fun e w' => e = .returned (.tuple #[.pointer (some ⟨w.heap.size + 1, 0, none⟩), .int .i64 0]) ∧ Bv w' (w.heap.size + 1) w.heap.size (List.replicate n false) ∧ Kept [] w w' :=
  (new_ok n hn w).mono fun _ _ ⟨he, hv, hk⟩ => ⟨he, ⟨_, by rw [List.length_replicate]; exact hv, zeroMeans n⟩, hk⟩
end Go.Proofs.YtagmmbkgjomdlaaGreatDoor.Bt

/-
  The contracts of prevEnd, nextStart, and bare.
-/
namespace Go.Proofs.YtagmmbkgjomdlaaGreatDoor.Sp
open Go.RowKit Go.Proofs.YtagmmbkgjomdlaaGreatDoor.Ar Go.Proofs.YtagmmbkgjomdlaaGreatDoor.Sh
open Go.Proofs.YtagmmbkgjomdlaaGreatDoor.Hd (Hd Fields cells4 free4 isHead isHead_iff decH)
open Go.Proofs.YtagmmbkgjomdlaaGreatDoor.Tb (Ty Tab blk cells3)
open Go.Proofs.YtagmmbkgjomdlaaGreatDoor.Bt (Bv atI prevO nextO prev_ok next_ok newBv_ok)
open Go.Proofs.YtagmmbkgjomdlaaGreatDoor.Wd (Table)
set_option linter.unusedVariables false

theorem hdH_sz (ws : List Int) (g : Int) : 0 ≤ (hdH ws g).sz ∧ (hdH ws g).sz ≤ 16777215 := by
  unfold hdH
  split
  · unfold decH
    split
    · rename_i h
      have := can_sz (isHead_iff.1 h).1
      omega
    · decide
  · decide
def prevEndV (bs : List Bool) (ws : List Int) (g : Int) : Int := if (prevO bs (g - 1)).isSome then atI (prevO bs (g - 1)) + (hdH ws (atI (prevO bs (g - 1)))).sz else 0
def nextStartV (bs : List Bool) (ws : List Int) (g : Int) : Int := if (nextO bs (g + 1) true).isSome then atI (nextO bs (g + 1) true) else gran ws
section
variable {w : World} {s : Ids} {l : List Ty} {ws : List Int} {bs : List Bool}
set_option maxRecDepth 100000 in
set_option maxHeartbeats 1000000 in
theorem prevEnd_ok (hG : Glob w s) (h : Spc w s l ws bs) (g : Int) (g0 : -1000000000000 ≤ g) (g1 : g ≤ 1000000000000) :
    Calls Tryz.prog 87 #[.pointer (some ⟨s.sp, 0, none⟩), .int .i64 g] w fun e w' => e = .returned (.int .i64 (prevEndV bs ws g)) ∧ Kept [] w w' := by
  obtain ⟨m, ha⟩ := h.ar
  obtain ⟨c0, c1, c2⟩ := h.cells
  have hb := prevO_bound bs (g - 1)
  have hfew := h.few
  have HP := Lib.hid (prev_ok bs _ _ w h.bv (g - 1) (by omega) (by omega))
  have HH := Lib.hid (fun y (k : Kept [] w y) (a : Int) (a0 : 0 ≤ a) (a1 : a ≤ 65536) => head_any (hG.f.keep0 k) (ha.keep0 k) h.wds a (by omega) (by omega))
  have HSp := Lib.hid (fun y (k : Kept [] w y) => (h.keep0 k).cells)
  have HSz := Lib.hid (hdH_sz ws)
  unfold prevEndV
  generalize prevO bs (g - 1) = o at *
  clear h ha hG
  cases hs : o.isSome with
  | false =>
    rw [hs] at HP
    generalize atI o = a at *
    rw [if_neg (by decide)]
    go_enter Tryz.func87, Tryz.ntmps87
    go_wp2_with fail
    refine HP.out.mono ?_
    rintro e w1 ⟨rfl, hk⟩
    have HK := Lib.hid hk
    clear hk HP
    go_wp2_with fail
    go_ret
    exact ⟨rfl, HK.out⟩
  | true =>
    rw [hs] at HP
    rw [if_pos rfl]
    generalize atI o = a at *
    have HHa := Lib.hid (fun y (k : Kept [] w y) => HH.out y k a hb.1 (by omega))
    have hz := HSz.out a
    clear HH HSz
    unfold Hd.val at HHa
    generalize hdE ws a = er at *
    generalize hdH ws a = x at *
    have HN : Hid (∀ y : World, Has (y.alloc (.cells #[.int .u8 x.tg, .int .i64 x.ty, .int .i64 x.ln, .int .i64 x.sz] 76)) y.heap.size 76 [.int .u8 x.tg, .int .i64 x.ty, .int .i64 x.ln, .int .i64 x.sz]) := Lib.hid fun y => Hd.Hd.new y _
    generalize x.tg = xg at *
    generalize x.ty = xt at *
    generalize x.ln = xn at *
    generalize x.sz = xs at *
    go_enter Tryz.func87, Tryz.ntmps87
    go_wp2_with fail
    refine HP.out.mono ?_
    rintro e w1 ⟨rfl, hk⟩
    have HK := Lib.hid hk
    clear c0 c1 c2
    obtain ⟨c0, c1, c2⟩ := HSp.out _ hk
    clear hk HP
    go_wp2_with fail
    refine (HHa.out _ HK.out).mono ?_
    rintro e w2 ⟨rfl, hk2⟩
    have HK2 := Lib.hid ((HK.out.trans hk2).alloc (.cells #[.int .u8 xg, .int .i64 xt, .int .i64 xn, .int .i64 xs] 76))
    obtain ⟨d0, d1, d2, d3⟩ := cells4 (HN.out w2)
    clear hk2 HHa HK c0 c1 c2 HN
    go_wp2_with fail
    go_ret
    exact ⟨rfl, HK2.out⟩
set_option maxRecDepth 100000 in
set_option maxHeartbeats 1000000 in
theorem nextStart_ok (hG : Glob w s) (h : Spc w s l ws bs) (g : Int) (g0 : -1000000000000 ≤ g) (g1 : g ≤ 1000000000000) :
    Calls Tryz.prog 88 #[.pointer (some ⟨s.sp, 0, none⟩), .int .i64 g] w fun e w' => e = .returned (.int .i64 (nextStartV bs ws g)) ∧ Kept [] w w' := by
  obtain ⟨c0, c1, c2⟩ := h.cells
  have HP := Lib.hid (next_ok bs _ _ w h.bv hG.t (g + 1) (by omega) (by omega))
  have HGr := Lib.hid (fun y (k : Kept [] w y) => granules_ok (h.keep0 k))
  unfold nextStartV
  generalize nextO bs (g + 1) true = o at *
  clear h hG
  cases hs : o.isSome with
  | true =>
    rw [hs] at HP
    generalize atI o = a at *
    rw [if_pos rfl]
    go_enter Tryz.func88, Tryz.ntmps88
    go_wp2_with fail
    refine HP.out.mono ?_
    rintro e w1 ⟨rfl, hk⟩
    have HK := Lib.hid hk
    clear hk HP
    go_wp2_with fail
    go_ret
    exact ⟨rfl, HK.out⟩
  | false =>
    rw [hs] at HP
    rw [if_neg (by decide)]
    generalize atI o = a at *
    generalize gran ws = G at *
    go_enter Tryz.func88, Tryz.ntmps88
    go_wp2_with fail
    refine HP.out.mono ?_
    rintro e w1 ⟨rfl, hk⟩
    have HK := Lib.hid hk
    clear hk HP
    go_wp2_with fail
    refine (HGr.out _ HK.out).mono ?_
    rintro e w2 ⟨rfl, rfl⟩
    go_wp2_with fail
    go_ret
    exact ⟨rfl, HK.out⟩
end
theorem arena_pre {w : World} {sp : Nat} {a : Option Addr} (c0 : w.cell? ⟨sp, 0, none⟩ = some (.pointer a)) : Calls Tryz.prog 23 #[.pointer (some ⟨sp, 0, none⟩)] w fun e w' => e = .returned (.pointer a) ∧ w = w' := by
  go_enter Tryz.func23, Tryz.ntmps23
  go_wp2_with fail
  go_ret
  exact ⟨rfl, rfl⟩
set_option maxRecDepth 100000 in
theorem granules_pre {w : World} {sp ap aq : Nat} {ws : List Int} {m : Int} (c0 : w.cell? ⟨sp, 0, none⟩ = some (.pointer (some ⟨ap, 0, none⟩))) (a : Arena w ap aq ws m) : Calls Tryz.prog 26 #[.pointer (some ⟨sp, 0, none⟩)] w fun e w' => e = .returned (.int .i64 (gran ws)) ∧ w = w' := by
  have hs := a.short
  have H1 := Lib.hid (arena_pre c0)
  have H2 := Lib.hid (len_any a)
  have ed : (ws.length : Int).tdiv 2 = gran ws := Int.tdiv_eq_ediv_of_nonneg (by omega)
  have ED := Lib.hid ed
  clear a ed c0
  generalize ws.length = L at *
  generalize gran ws = G at *
  go_enter Tryz.func26, Tryz.ntmps26
  go_wp2_with fail
  refine H1.out.mono ?_
  rintro e w1 ⟨rfl, rfl⟩
  go_wp2_with fail
  refine H2.out.mono ?_
  rintro e w1 ⟨rfl, rfl⟩
  go_wp2_with fail
  go_ret
  exact ⟨ret_int (by have := ED.out; rw [Int.tdiv_eq_ediv_of_nonneg (by omega)] at this; omega), rfl⟩
set_option maxRecDepth 100000 in
set_option maxHeartbeats 1000000 in
theorem bare_ok {w : World} {ap aq tp : Nat} {A : Option Addr} {c : Nat} {l : List Ty} {ws : List Int} {m : Int} (ha : Arena w ap aq ws m) (hT : Tab w tp A c l) (hW : Wm ws) :
    Calls Tryz.prog 83 #[.pointer (some ⟨ap, 0, none⟩), .pointer (some ⟨tp, 0, none⟩)] w fun e w' => ∃ sp bp bq, e = .returned (.pointer (some ⟨sp, 0, none⟩)) ∧ Spc w' ⟨sp, ap, aq, tp, A, c, bp, bq⟩ l ws (List.replicate (gran ws).toNat false) ∧ Kept [] w w' ∧ w.heap.size ≤ bq := by
  have hs := ha.short
  have hgr : 0 ≤ gran ws ∧ gran ws ≤ 32768 := by unfold gran; omega
  have k0 : Kept [] w (w.alloc (.cells #[.pointer (some ⟨ap, 0, none⟩), .pointer (some ⟨tp, 0, none⟩), .pointer none] 124)) := (Kept.refl [] w).alloc _
  have hb := Has.new w 124 [.pointer (some ⟨ap, 0, none⟩), .pointer (some ⟨tp, 0, none⟩), .pointer none]
  have HGr := Lib.hid (granules_pre (hb.cell 0) (ha.keep0 k0))
  have HN := Lib.hid (fun y => newBv_ok (gran ws).toNat (by omega) y)
  rw [Int.toNat_of_nonneg hgr.1] at HN
  have HB := Lib.hid hb
  have K0 := Lib.hid k0
  have HA := Lib.hid ha
  have HT := Lib.hid hT
  have HW := Lib.hid hW
  clear ha hT hW hb k0
  obtain ⟨n, hn⟩ : ∃ n, n = (gran ws).toNat := ⟨_, rfl⟩
  rw [← hn] at HN ⊢
  clear hn
  generalize gran ws = G at *
  go_enter Tryz.func83, Tryz.ntmps83
  go_wp2_with fail
  refine HGr.out.mono ?_
  rintro e w1 ⟨rfl, rfl⟩
  go_wp2_with fail
  refine (HN.out _).mono ?_
  rintro e w1 ⟨rfl, hv, hk⟩
  have hb1 := HB.out.keep0 hk
  have f2 := hb1.free 2
  obtain ⟨c0, c1, c2⟩ := cells3 hb1
  have HV := Lib.hid hv
  have HK := Lib.hid hk
  have HB1 := Lib.hid hb1
  clear hv hk hb1
  go_wp2_with fail
  go_ret
  have hsz : (w.alloc (.cells #[.pointer (some ⟨ap, 0, none⟩), .pointer (some ⟨tp, 0, none⟩), .pointer none] 124)).heap.size = w.heap.size + 1 := by simp
  have hkk : Kept [w.heap.size] w1 (w1.setCell ⟨w.heap.size, 2, none⟩ (.pointer (some ⟨w.heap.size + 1 + 1, 0, none⟩))) := (Kept.refl _ w1).setCell _ _ (.inl (by simp))
  have hk0 := K0.out.trans HK.out
  have hV := HV.out
  rw [hsz] at hV
  refine ⟨w.heap.size, w.heap.size + 1 + 1, w.heap.size + 1, rfl, ⟨HB1.out.put 2 _, ⟨m, (HA.out.keep0 hk0).kept hkk ?_ ?_⟩, (HT.out.keep0 hk0).kept hkk ?_ ?_, hV.kept hkk (by simp; omega) (by simp), HW.out⟩, hk0.forget hkk (by simp), by simp⟩
  · have := HA.out.head.lt; simp; omega
  · have := HA.out.row.lt; simp; omega
  · have := HT.out.head.lt; simp; omega
  · intro g hg
    rw [List.mem_singleton.1 hg]
    exact Tb.Own.block_type (HT.out.keep0 hk0).own HB1.out (by decide)
end Go.Proofs.YtagmmbkgjomdlaaGreatDoor.Sp

/-
  The contracts of walk's granules, behind, cells and cell.
-/
namespace Go.Proofs.YtagmmbkgjomdlaaGreatDoor.Wk
open Go.RowKit Go.Proofs.YtagmmbkgjomdlaaGreatDoor.Ar Go.Proofs.YtagmmbkgjomdlaaGreatDoor.Sh Go.Sort Go.Proofs.YtagmmbkgjomdlaaGreatDoor.Sp
open Go.Proofs.YtagmmbkgjomdlaaGreatDoor.Hd (Hd Fields cells4 free4 fitL fits_tab)
open Go.Proofs.YtagmmbkgjomdlaaGreatDoor.Tb (Ty Tab blk cells3)
open Go.Proofs.YtagmmbkgjomdlaaGreatDoor.Kd (ret_row)
set_option linter.unusedVariables false
theorem wgran_nil (w : World) : Calls Tryz.prog 57 #[.pointer none] w fun e w' => e = .returned (.int .i64 0) ∧ w = w' := by
  go_enter Tryz.func57, Tryz.ntmps57
  go_wp2_with fail
  refine (Ar.len_nil w).mono ?_
  rintro e w1 ⟨rfl, rfl⟩
  go_wp2_with fail
  go_ret
  exact ⟨rfl, rfl⟩
set_option maxRecDepth 100000 in
theorem wgran_ok {w : World} {ap aq : Nat} {ws : List Int} {m : Int} (a : Arena w ap aq ws m) : Calls Tryz.prog 57 #[.pointer (some ⟨ap, 0, none⟩)] w fun e w' => e = .returned (.int .i64 (gran ws)) ∧ w = w' := by
  have hs := a.short
  have H2 := Lib.hid (len_any a)
  have ed : (ws.length : Int).tdiv 2 = gran ws := Int.tdiv_eq_ediv_of_nonneg (by omega)
  have ED := Lib.hid ed
  clear a ed
  generalize ws.length = L at *
  generalize gran ws = G at *
  go_enter Tryz.func57, Tryz.ntmps57
  go_wp2_with fail
  refine H2.out.mono ?_
  rintro e w1 ⟨rfl, rfl⟩
  go_wp2_with fail
  go_ret
  exact ⟨ret_int (by have := ED.out; rw [Int.tdiv_eq_ediv_of_nonneg (by omega)] at this; omega), rfl⟩
theorem wbehind_ok (c : Cel) (h0 : -1000000000000 ≤ c.a) (h1 : c.a ≤ 1000000000000) (h2 : -1000000000000 ≤ c.h.sz) (h3 : c.h.sz ≤ 1000000000000) (w : World) :
    Calls Tryz.prog 56 #[c.val] w fun e w' => e = .returned (.int .i64 (c.a + c.h.sz)) ∧ Kept [] w w' := by
  unfold Cel.val
  have hb := Has.new w 78 [.int .i64 c.a, .int .u8 c.h.tg, .int .i64 c.h.ty, .int .i64 c.h.ln, .int .i64 c.h.sz]
  obtain ⟨c0, c1, c2, c3, c4⟩ := cells5 hb
  have hk : Kept [] w (w.alloc (.cells #[.int .i64 c.a, .int .u8 c.h.tg, .int .i64 c.h.ty, .int .i64 c.h.ln, .int .i64 c.h.sz] 78)) := (Kept.refl [] w).alloc _
  have HK := Lib.hid hk
  clear hb hk
  generalize c.a = a at *
  generalize c.h.sz = z at *
  go_enter Tryz.func56, Tryz.ntmps56
  go_wp2_with fail
  go_ret
  exact ⟨rfl, HK.out⟩
theorem wcells_ok (p q : Option Addr) (w : World) :
    Calls Tryz.prog 48 #[.pointer p, .pointer q] w fun e w' => e = .returned (.func (.func 96) #[] #[.pointer (some ⟨w.heap.size, 0, none⟩), .pointer (some ⟨w.heap.size + 1, 0, none⟩)]) ∧ w' = (w.alloc (.cells #[.pointer p] 62)).alloc (.cells #[.pointer q] 64) := by
  go_enter Tryz.func48, Tryz.ntmps48
  go_wp2_with fail
  go_ret
  exact ⟨by simp, rfl⟩
section
variable {w : World} {ap aq tp : Nat} {A : Option Addr} {c : Nat} {l : List Ty} {ws : List Int} {m : Int}
set_option maxRecDepth 100000 in
set_option maxHeartbeats 4000000 in
theorem wcell_ok (hF : Fields w) (ha : Arena w ap aq ws m) (hT : Tab w tp A c l) (hw : Wm ws) (g : Int) (g0 : 0 ≤ g) (g1 : g ≤ 4611686018427387903) :
    Calls Tryz.prog 97 #[.pointer (some ⟨ap, 0, none⟩), .pointer (some ⟨tp, 0, none⟩), .int .i64 g] w fun e w' => e = .returned (.tuple #[(cellC ws l g).val, .bool (cellB ws l g)]) ∧ Kept [] w w' := by
  have hsh := ha.short
  have hwds := wds_of hw
  have hG : 0 ≤ gran ws ∧ gran ws ≤ 32768 := by unfold gran; omega
  have hb := Has.new w 78 [.int .i64 0, .int .u8 0, .int .i64 0, .int .i64 0, .int .i64 0]
  have k0 : Kept [] w (w.alloc (.cells #[.int .i64 0, .int .u8 0, .int .i64 0, .int .i64 0, .int .i64 0] 78)) := (Kept.refl [] w).alloc _
  have HH := Lib.hid (fun y (k : Kept [] w y) => head_any (hF.keep0 k) (ha.keep0 k) hwds g (by omega) (by omega))
  have hok := hdH_ok (g := g) hwds
  have HFt := Lib.hid (fun y (k : Kept [] w y) => fits_tab (hF.keep0 k) (hT.keep0 k) (hdH ws g) hok)
  have HGr := Lib.hid (fun y (k : Kept [] w y) => wgran_ok (ha.keep0 k))
  have HN : Hid (∀ y : World, Has (y.alloc (.cells #[.int .u8 (hdH ws g).tg, .int .i64 (hdH ws g).ty, .int .i64 (hdH ws g).ln, .int .i64 (hdH ws g).sz] 76)) y.heap.size 76 [.int .u8 (hdH ws g).tg, .int .i64 (hdH ws g).ty, .int .i64 (hdH ws g).ln, .int .i64 (hdH ws g).sz]) := Lib.hid fun y => Hd.Hd.new y _
  have hz0 := hok.s0
  have hz1 := hok.s1
  have hcb : cellB ws l g = decide (hdE ws g = 0 ∧ fitL l (hdH ws g) = 0 ∧ (hdH ws g).sz ≤ gran ws - g) := rfl
  unfold cellC
  rw [hcb]
  clear hcb hok hF ha hT hw hwds
  generalize gran ws = G at *
  generalize hdE ws g = er at *
  generalize fitL l (hdH ws g) = fe at *
  generalize hdH ws g = x at *
  have HB := Lib.hid hb
  have K0 := Lib.hid k0
  clear hb k0
  unfold Hd.val Cel.val at *
  by_cases h1 : er = 0
  · by_cases h2 : fe = 0
    · by_cases h3 : x.sz ≤ G - g
      · rw [decide_eq_true ⟨h1, h2, h3⟩, if_pos rfl]
        simp only
        have hb1 : (er != 0) = false := by rw [h1]; rfl
        have hb2 : (fe != 0) = false := by rw [h2]; rfl
        clear h1 h2
        generalize x.tg = xg at *
        generalize x.ty = xt at *
        generalize x.ln = xn at *
        generalize x.sz = xs at *
        have hwr : IntKind.i64.wrap (G - g) = G - g := by rw [IntKind.wrap_i64]; omega
        have hgt : decide (G - g < xs) = false := decide_eq_false (by omega)
        clear h3
        go_enter Tryz.func97, Tryz.ntmps97
        go_wp2_with fail
        refine (HH.out _ K0.out).mono ?_
        rintro e x1 ⟨rfl, k1⟩
        have K1 := Lib.hid ((K0.out.trans k1).alloc (.cells #[.int .u8 xg, .int .i64 xt, .int .i64 xn, .int .i64 xs] 76))
        have b1 := HN.out x1
        have r1 := (HB.out.keep0 k1).alloc (.cells #[.int .u8 xg, .int .i64 xt, .int .i64 xn, .int .i64 xs] 76)
        have R1 := Lib.hid r1
        have B1 := Lib.hid b1
        clear k1 b1 HH HN HB r1
        go_wp2_with fail
        generalize x1.alloc (.cells #[.int .u8 xg, .int .i64 xt, .int .i64 xn, .int .i64 xs] 76) = y1 at *
        generalize x1.heap.size = hb at *
        obtain ⟨p0, p1, p2, p3⟩ := cells4 B1.out
        have c0 := cell_regrown p0
        have c1 := cell_regrown p1
        have c2 := cell_regrown p2
        have c3 := cell_regrown p3
        have C1 : Hid (∀ d os, Calls Tryz.prog 76 #[.pointer (some ⟨tp, 0, none⟩), .agg #[.int .u8 xg, .int .i64 xt, .int .i64 xn, .int .i64 xs]] (grow (redrawn y1 d) os) fun e z => e = .returned (.int .i64 fe) ∧ ∃ p : Regrown, z = grow (redrawn y1 p.d) p.os) :=
          Lib.hid fun d os => Calls.regrown_of ((HFt.out _ (K1.out.trans (Kept.ofBelow (below_regrown y1 d os) []))).mono fun _ _ ⟨he, hk⟩ => ⟨he, hk.below (Nat.le_refl _) (by simp)⟩)
        have C2 : Hid (∀ d os, Calls Tryz.prog 57 #[.pointer (some ⟨ap, 0, none⟩)] (grow (redrawn y1 d) os) fun e z => e = .returned (.int .i64 G) ∧ ∃ p : Regrown, z = grow (redrawn y1 p.d) p.os) :=
          Lib.hid fun d os => Calls.regrown_of ((HGr.out _ (K1.out.trans (Kept.ofBelow (below_regrown y1 d os) []))).mono fun _ _ ⟨he, hk⟩ => ⟨he, by rw [← hk]; exact (Kept.refl [] _).below (Nat.le_refl _) (by simp)⟩)
        clear p0 p1 p2 p3 HFt HGr
        refine wp_region_quiet_below (by kernel_rfl) (by kernel_rfl) ?_
        repeat (first | go_big_quiet_step (first | exact C1.out _ _ | exact C2.out _ _) | quiet_step (first | exact C1.out _ _ | exact C2.out _ _))
        refine wpQuiet_nil ?_
        rintro _ ⟨⟨dq, osq⟩, rfl⟩
        have hk3 := Kept.ofBelow (below_regrown y1 dq osq) []
        clear c0 c1 c2 c3 C1 C2 hwr hgt hb1 hb2
        generalize grow (redrawn y1 dq) osq = y3 at hk3 ⊢
        have K3 := Lib.hid (K1.out.trans hk3)
        have b3 := B1.out.keep0 hk3
        have r3 := R1.out.keep0 hk3
        obtain ⟨c0, c1, c2, c3⟩ := cells4 b3
        obtain ⟨f0, f1, f2, f3, f4⟩ := free5 r3
        obtain ⟨d0, d1, d2, d3, d4⟩ := cells5 r3
        have R3 := Lib.hid r3
        clear hk3 b3 r3 B1 R1 K1
        go_wp2_with fail
        exact ret_cel rfl rfl R3.out K3.out (Nat.le_refl _) rfl rfl fun X hX => ⟨rfl, hX⟩
      · rw [decide_eq_false (by rintro ⟨a, b, c⟩; exact h3 c), if_neg (by decide)]
        unfold Cel.zero Hd.zero
        have hb1 : (er != 0) = false := by rw [h1]; rfl
        have hb2 : (fe != 0) = false := by rw [h2]; rfl
        clear h1 h2
        generalize x.tg = xg at *
        generalize x.ty = xt at *
        generalize x.ln = xn at *
        generalize x.sz = xs at *
        have hwr : IntKind.i64.wrap (G - g) = G - g := by rw [IntKind.wrap_i64]; omega
        have hgt : decide (G - g < xs) = true := decide_eq_true (by omega)
        clear h3
        go_enter Tryz.func97, Tryz.ntmps97
        go_wp2_with fail
        refine (HH.out _ K0.out).mono ?_
        rintro e x1 ⟨rfl, k1⟩
        have K1 := Lib.hid ((K0.out.trans k1).alloc (.cells #[.int .u8 xg, .int .i64 xt, .int .i64 xn, .int .i64 xs] 76))
        have b1 := HN.out x1
        have r1 := (HB.out.keep0 k1).alloc (.cells #[.int .u8 xg, .int .i64 xt, .int .i64 xn, .int .i64 xs] 76)
        have R1 := Lib.hid r1
        have B1 := Lib.hid b1
        clear k1 b1 HH HN HB r1
        go_wp2_with fail
        generalize x1.alloc (.cells #[.int .u8 xg, .int .i64 xt, .int .i64 xn, .int .i64 xs] 76) = y1 at *
        generalize x1.heap.size = hb at *
        obtain ⟨p0, p1, p2, p3⟩ := cells4 B1.out
        have c0 := cell_regrown p0
        have c1 := cell_regrown p1
        have c2 := cell_regrown p2
        have c3 := cell_regrown p3
        have C1 : Hid (∀ d os, Calls Tryz.prog 76 #[.pointer (some ⟨tp, 0, none⟩), .agg #[.int .u8 xg, .int .i64 xt, .int .i64 xn, .int .i64 xs]] (grow (redrawn y1 d) os) fun e z => e = .returned (.int .i64 fe) ∧ ∃ p : Regrown, z = grow (redrawn y1 p.d) p.os) :=
          Lib.hid fun d os => Calls.regrown_of ((HFt.out _ (K1.out.trans (Kept.ofBelow (below_regrown y1 d os) []))).mono fun _ _ ⟨he, hk⟩ => ⟨he, hk.below (Nat.le_refl _) (by simp)⟩)
        have C2 : Hid (∀ d os, Calls Tryz.prog 57 #[.pointer (some ⟨ap, 0, none⟩)] (grow (redrawn y1 d) os) fun e z => e = .returned (.int .i64 G) ∧ ∃ p : Regrown, z = grow (redrawn y1 p.d) p.os) :=
          Lib.hid fun d os => Calls.regrown_of ((HGr.out _ (K1.out.trans (Kept.ofBelow (below_regrown y1 d os) []))).mono fun _ _ ⟨he, hk⟩ => ⟨he, by rw [← hk]; exact (Kept.refl [] _).below (Nat.le_refl _) (by simp)⟩)
        clear p0 p1 p2 p3 HFt HGr
        refine wp_region_quiet_below (by kernel_rfl) (by kernel_rfl) ?_
        repeat (first | go_big_quiet_step (first | exact C1.out _ _ | exact C2.out _ _) | quiet_step (first | exact C1.out _ _ | exact C2.out _ _))
        refine wpQuiet_nil ?_
        rintro _ ⟨⟨dq, osq⟩, rfl⟩
        have hk3 := Kept.ofBelow (below_regrown y1 dq osq) []
        clear c0 c1 c2 c3 C1 C2 hwr hgt hb1 hb2
        generalize grow (redrawn y1 dq) osq = y3 at hk3 ⊢
        have K3 := Lib.hid (K1.out.trans hk3)
        have b3 := B1.out.keep0 hk3
        have r3 := R1.out.keep0 hk3
        obtain ⟨c0, c1, c2, c3⟩ := cells4 b3
        obtain ⟨f0, f1, f2, f3, f4⟩ := free5 r3
        obtain ⟨d0, d1, d2, d3, d4⟩ := cells5 r3
        have R3 := Lib.hid r3
        clear hk3 b3 r3 B1 R1 K1
        go_wp2_with fail
        exact ret_cel rfl rfl R3.out K3.out (Nat.le_refl _) rfl rfl fun X hX => ⟨rfl, hX⟩
    · rw [decide_eq_false (by rintro ⟨a, b, c⟩; exact h2 b), if_neg (by decide)]
      unfold Cel.zero Hd.zero
      have hb1 : (er != 0) = false := by rw [h1]; rfl
      have hb2 : (fe != 0) = true := by rw [bne_iff_ne]; exact h2
      clear h1 h2
      generalize x.tg = xg at *
      generalize x.ty = xt at *
      generalize x.ln = xn at *
      generalize x.sz = xs at *
      go_enter Tryz.func97, Tryz.ntmps97
      go_wp2_with fail
      refine (HH.out _ K0.out).mono ?_
      rintro e x1 ⟨rfl, k1⟩
      have K1 := Lib.hid ((K0.out.trans k1).alloc (.cells #[.int .u8 xg, .int .i64 xt, .int .i64 xn, .int .i64 xs] 76))
      have b1 := HN.out x1
      have r1 := (HB.out.keep0 k1).alloc (.cells #[.int .u8 xg, .int .i64 xt, .int .i64 xn, .int .i64 xs] 76)
      have R1 := Lib.hid r1
      have B1 := Lib.hid b1
      clear k1 b1 HH HN HB r1
      go_wp2_with fail
      generalize x1.alloc (.cells #[.int .u8 xg, .int .i64 xt, .int .i64 xn, .int .i64 xs] 76) = y1 at *
      generalize x1.heap.size = hb at *
      obtain ⟨p0, p1, p2, p3⟩ := cells4 B1.out
      have c0 := cell_regrown p0
      have c1 := cell_regrown p1
      have c2 := cell_regrown p2
      have c3 := cell_regrown p3
      have C1 : Hid (∀ d os, Calls Tryz.prog 76 #[.pointer (some ⟨tp, 0, none⟩), .agg #[.int .u8 xg, .int .i64 xt, .int .i64 xn, .int .i64 xs]] (grow (redrawn y1 d) os) fun e z => e = .returned (.int .i64 fe) ∧ ∃ p : Regrown, z = grow (redrawn y1 p.d) p.os) :=
        Lib.hid fun d os => Calls.regrown_of ((HFt.out _ (K1.out.trans (Kept.ofBelow (below_regrown y1 d os) []))).mono fun _ _ ⟨he, hk⟩ => ⟨he, hk.below (Nat.le_refl _) (by simp)⟩)
      have C2 : Hid (∀ d os, Calls Tryz.prog 57 #[.pointer (some ⟨ap, 0, none⟩)] (grow (redrawn y1 d) os) fun e z => e = .returned (.int .i64 G) ∧ ∃ p : Regrown, z = grow (redrawn y1 p.d) p.os) :=
        Lib.hid fun d os => Calls.regrown_of ((HGr.out _ (K1.out.trans (Kept.ofBelow (below_regrown y1 d os) []))).mono fun _ _ ⟨he, hk⟩ => ⟨he, by rw [← hk]; exact (Kept.refl [] _).below (Nat.le_refl _) (by simp)⟩)
      clear p0 p1 p2 p3 HFt HGr
      refine wp_region_quiet_below (by kernel_rfl) (by kernel_rfl) ?_
      repeat (first | go_big_quiet_step (first | exact C1.out _ _ | exact C2.out _ _) | quiet_step (first | exact C1.out _ _ | exact C2.out _ _))
      refine wpQuiet_nil ?_
      rintro _ ⟨⟨dq, osq⟩, rfl⟩
      have hk3 := Kept.ofBelow (below_regrown y1 dq osq) []
      clear c0 c1 c2 c3 C1 C2 hb1 hb2
      generalize grow (redrawn y1 dq) osq = y3 at hk3 ⊢
      have K3 := Lib.hid (K1.out.trans hk3)
      have b3 := B1.out.keep0 hk3
      have r3 := R1.out.keep0 hk3
      obtain ⟨c0, c1, c2, c3⟩ := cells4 b3
      obtain ⟨f0, f1, f2, f3, f4⟩ := free5 r3
      obtain ⟨d0, d1, d2, d3, d4⟩ := cells5 r3
      have R3 := Lib.hid r3
      clear hk3 b3 r3 B1 R1 K1
      go_wp2_with fail
      exact ret_cel rfl rfl R3.out K3.out (Nat.le_refl _) rfl rfl fun X hX => ⟨rfl, hX⟩
  · rw [decide_eq_false (by rintro ⟨a, b, c⟩; exact h1 a), if_neg (by decide)]
    unfold Cel.zero Hd.zero
    have hb1 : (er != 0) = true := by rw [bne_iff_ne]; exact h1
    clear h1
    generalize x.tg = xg at *
    generalize x.ty = xt at *
    generalize x.ln = xn at *
    generalize x.sz = xs at *
    go_enter Tryz.func97, Tryz.ntmps97
    go_wp2_with fail
    refine (HH.out _ K0.out).mono ?_
    rintro e x1 ⟨rfl, k1⟩
    have K1 := Lib.hid ((K0.out.trans k1).alloc (.cells #[.int .u8 xg, .int .i64 xt, .int .i64 xn, .int .i64 xs] 76))
    have b1 := HN.out x1
    have r1 := (HB.out.keep0 k1).alloc (.cells #[.int .u8 xg, .int .i64 xt, .int .i64 xn, .int .i64 xs] 76)
    have R1 := Lib.hid r1
    have B1 := Lib.hid b1
    clear k1 b1 HH HN HB r1
    go_wp2_with fail
    generalize x1.alloc (.cells #[.int .u8 xg, .int .i64 xt, .int .i64 xn, .int .i64 xs] 76) = y1 at *
    generalize x1.heap.size = hb at *
    obtain ⟨p0, p1, p2, p3⟩ := cells4 B1.out
    have c0 := cell_regrown p0
    have c1 := cell_regrown p1
    have c2 := cell_regrown p2
    have c3 := cell_regrown p3
    have C1 : Hid (∀ d os, Calls Tryz.prog 76 #[.pointer (some ⟨tp, 0, none⟩), .agg #[.int .u8 xg, .int .i64 xt, .int .i64 xn, .int .i64 xs]] (grow (redrawn y1 d) os) fun e z => e = .returned (.int .i64 fe) ∧ ∃ p : Regrown, z = grow (redrawn y1 p.d) p.os) :=
      Lib.hid fun d os => Calls.regrown_of ((HFt.out _ (K1.out.trans (Kept.ofBelow (below_regrown y1 d os) []))).mono fun _ _ ⟨he, hk⟩ => ⟨he, hk.below (Nat.le_refl _) (by simp)⟩)
    have C2 : Hid (∀ d os, Calls Tryz.prog 57 #[.pointer (some ⟨ap, 0, none⟩)] (grow (redrawn y1 d) os) fun e z => e = .returned (.int .i64 G) ∧ ∃ p : Regrown, z = grow (redrawn y1 p.d) p.os) :=
      Lib.hid fun d os => Calls.regrown_of ((HGr.out _ (K1.out.trans (Kept.ofBelow (below_regrown y1 d os) []))).mono fun _ _ ⟨he, hk⟩ => ⟨he, by rw [← hk]; exact (Kept.refl [] _).below (Nat.le_refl _) (by simp)⟩)
    clear p0 p1 p2 p3 HFt HGr
    refine wp_region_quiet_below (by kernel_rfl) (by kernel_rfl) ?_
    repeat (first | go_big_quiet_step (first | exact C1.out _ _ | exact C2.out _ _) | quiet_step (first | exact C1.out _ _ | exact C2.out _ _))
    refine wpQuiet_nil ?_
    rintro _ ⟨⟨dq, osq⟩, rfl⟩
    have hk3 := Kept.ofBelow (below_regrown y1 dq osq) []
    clear c0 c1 c2 c3 C1 C2 hb1
    generalize grow (redrawn y1 dq) osq = y3 at hk3 ⊢
    have K3 := Lib.hid (K1.out.trans hk3)
    have b3 := B1.out.keep0 hk3
    have r3 := R1.out.keep0 hk3
    obtain ⟨c0, c1, c2, c3⟩ := cells4 b3
    obtain ⟨f0, f1, f2, f3, f4⟩ := free5 r3
    obtain ⟨d0, d1, d2, d3, d4⟩ := cells5 r3
    have R3 := Lib.hid r3
    clear hk3 b3 r3 B1 R1 K1
    go_wp2_with fail
    exact ret_cel rfl rfl R3.out K3.out (Nat.le_refl _) rfl rfl fun X hX => ⟨rfl, hX⟩
end
end Go.Proofs.YtagmmbkgjomdlaaGreatDoor.Wk

/-
  The loop over the cells of an arena with a table: the contract of the function that walk's cells hands back. Its body may turn some boxes, and the slices that lie in them.
-/
namespace Go.Proofs.YtagmmbkgjomdlaaGreatDoor.Wk
open Go.RowKit Go.Proofs.YtagmmbkgjomdlaaGreatDoor.Ar Go.Proofs.YtagmmbkgjomdlaaGreatDoor.Sh Go.Shelf Go.Sort Go.Proofs.YtagmmbkgjomdlaaGreatDoor.Sp
open Go.Proofs.YtagmmbkgjomdlaaGreatDoor.Hd (Hd Fields)
open Go.Proofs.YtagmmbkgjomdlaaGreatDoor.Tb (Ty Tab)
set_option linter.unusedVariables false
attribute [local go_sem] Oper.semAt_some

/-- What a round that goes on keeps: all cells but the boxes S and the slices in them. -/
structure Kpn (S : List Nat) (A B : World) : Prop where
  size : A.heap.size ≤ B.heap.size
  same : ∀ i o, i ∉ S → (∀ b ∈ S, ownAt A b ≠ some i) → A.heap[i]? = some o → o.isCells = true → B.heap[i]? = some o
  own : ∀ b ∈ S, ownAt B b = ownAt A b ∨ ∃ g, ownAt B b = some g ∧ A.heap.size ≤ g ∧ g < B.heap.size
namespace Kpn
theorem refl (S : List Nat) (W : World) : Kpn S W W := ⟨Nat.le_refl _, fun _ _ _ _ h _ => h, fun _ _ => .inl rfl⟩
theorem trans {S : List Nat} {A B C : World} (h : Kpn S A B) (k : Kpn S B C) : Kpn S A C := by
  refine ⟨Nat.le_trans h.size k.size, fun i o hi ha ho hc => ?_, fun b hb => ?_⟩
  · refine k.same i o hi (fun b hb e => ?_) (h.same i o hi ha ho hc) hc
    rcases h.own b hb with h1 | ⟨g, h1, h2, _⟩
    · rw [h1] at e; exact ha b hb e
    · rw [h1] at e
      injection e with e
      have := (Array.getElem?_eq_some_iff.1 ho).1
      omega
  · rcases k.own b hb with k1 | ⟨g, k1, k2, k3⟩
    · rw [k1]
      rcases h.own b hb with h1 | ⟨g, h1, h2, h3⟩
      · exact .inl h1
      · exact .inr ⟨g, h1, h2, Nat.lt_of_lt_of_le h3 k.size⟩
    · exact .inr ⟨g, k1, Nat.le_trans h.size k2, k3⟩
theorem put {S : List Nat} {n : Nat} (hb : ∀ b ∈ S, b < n) (W : World) (l : Nat) (o o' : Obj) (hl : n ≤ l) (h : W.heap[l]? = some o) (hc : o.isCells = false) : Kpn S W (W.putObj l o') := by
  have hlt := (Array.getElem?_eq_some_iff.1 h).1
  refine ⟨(grownBy_putObj' W l o').size, fun i x hi _ hx hxc => ?_, fun b hbS => .inl ?_⟩
  · have hne : i ≠ l := by rintro rfl; rw [h] at hx; injection hx with hx; rw [hx, hxc] at hc; cases hc
    exact ((grownBy_putObj' W l o').block i (Array.getElem?_eq_some_iff.1 hx).1 (fun e => hne (by injection e))).trans hx
  · have := hb b hbS
    exact ownAt_of ((grownBy_putObj' W l o').block b (by omega) (fun e => by injection e with e; omega))
theorem ofKept {S : List Nat} {A B : World} (k : Kept [] A B) (hb : ∀ b ∈ S, b < A.heap.size) : Kpn S A B :=
  ⟨k.more, fun i o _ _ ho _ => (k.old i (Array.getElem?_eq_some_iff.1 ho).1 (by simp)).trans ho, fun b h => .inl (ownAt_of (k.old b (hb b h) (by simp)))⟩
theorem has {S : List Nat} {A B : World} (h : Kpn S A B) {i : Nat} {t : TypeId} {cs : List Value} (hi : i ∉ S ∧ ∀ b ∈ S, ownAt A b ≠ some i) (hh : Has A i t cs) : Has B i t cs := h.same i _ hi.1 hi.2 hh rfl
/-- One box and the slice in it have turned. -/
theorem box {S : List Nat} {A B : World} {b : Nat} (hbS : b ∈ S) {t : TypeId} {v v' : Value} (hb : Has A b t [v]) (k : Kept (b :: v.ownBlock.toList) A B) (hb' : Has B b t [v']) (ho : v'.ownBlock = v.ownBlock ∨ ∃ g, v'.ownBlock = some g ∧ A.heap.size ≤ g ∧ g < B.heap.size)
    (hS : ∀ c ∈ S, c ≠ b → c < A.heap.size ∧ c ∉ v.ownBlock.toList) : Kpn S A B := by
  refine ⟨k.more, fun i o hi hn hx hc => ?_, fun c hc => ?_⟩
  · have hn := hn b hbS
    rw [ownAt_has hb] at hn
    refine (k.old i (Array.getElem?_eq_some_iff.1 hx).1 ?_).trans hx
    intro hm
    rcases List.mem_cons.1 hm with rfl | hm
    · exact hi hbS
    · exact hn (by simpa using hm)
  · by_cases e : c = b
    · subst e
      rw [ownAt_has hb, ownAt_has hb']
      exact ho
    · obtain ⟨h1, h2⟩ := hS c hc e
      exact .inl (ownAt_of (k.old c h1 (by simp only [List.mem_cons, not_or]; exact ⟨e, h2⟩)))
end Kpn
/-- Boxes that a round may turn: none is of the kinds of which arenas and tables are; they hold no slice yet. -/
structure Boxes (W : World) (S : List Nat) : Prop where
  kind : ∀ b ∈ S, ∃ t cs, Has W b t cs ∧ t ∉ [185, 32, 156, 84, 62, 64, 183, 217, 78]
  none : ∀ b ∈ S, ownAt W b = Option.none
  far : ∀ b ∈ S, b ≠ 0
theorem Boxes.lt {W : World} {S : List Nat} (h : Boxes W S) : ∀ b ∈ S, b < W.heap.size := fun b hb => let ⟨_, _, hh, _⟩ := h.kind b hb; hh.lt
theorem Boxes.keep0 {W X : World} {S : List Nat} (h : Boxes W S) (k : Kept [] W X) : Boxes X S :=
  ⟨fun b hb => let ⟨t, cs, hh, ht⟩ := h.kind b hb; ⟨t, cs, hh.keep0 k, ht⟩, fun b hb => (ownAt_of (k.old b (h.lt b hb) (by simp))).trans (h.none b hb), h.far⟩
/-- A block that came later is none of the boxes, nor in one. -/
theorem Boxes.newer {W x y : World} {S : List Nat} (h : Boxes W S) (k : Kpn S W x) (k2 : Kept [] x y) {i : Nat} (hi : x.heap.size ≤ i) : i ∉ S ∧ ∀ b ∈ S, ownAt y b ≠ some i := by
  have hlb : ∀ b ∈ S, b < x.heap.size := fun b hb => Nat.lt_of_lt_of_le (h.lt b hb) k.size
  refine ⟨fun hm => by have := hlb _ hm; omega, fun b hb => ?_⟩
  rw [ownAt_of (k2.old b (hlb b hb) (by simp))]
  rcases k.own b hb with h1 | ⟨g', h1, _, h3⟩
  · rw [h1, h.none b hb]; simp
  · rw [h1]
    intro e
    injection e with e
    omega
theorem Boxes.other {W : World} {S : List Nat} (h : Boxes W S) {i : Nat} {t : TypeId} {cs : List Value} (hh : Has W i t cs) (ht : t ∈ [185, 32, 156, 84, 62, 64, 183, 217, 78]) : i ∉ S ∧ ∀ b ∈ S, ownAt W b ≠ some i := by
  refine ⟨fun hi => ?_, fun b hb => by rw [h.none b hb]; simp⟩
  obtain ⟨t', cs', h', ht'⟩ := h.kind i hi
  exact Has.block_type hh h' (fun e => ht' (e ▸ ht)) rfl
/-- An arena and a table, or no arena. -/
def Good (X : World) (pa pt : Option Addr) (l : List Ty) (ws : List Int) : Prop :=
  Fields X ∧ ((pa = none ∧ ws = []) ∨ ∃ ap aq m tp A c, pa = some ⟨ap, 0, none⟩ ∧ pt = some ⟨tp, 0, none⟩ ∧ Arena X ap aq ws m ∧ Tab X tp A c l ∧ Wm ws)
namespace Good
variable {X Y : World} {pa pt : Option Addr} {l : List Ty} {ws : List Int}
theorem bound (h : Good X pa pt l ws) : 0 ≤ gran ws ∧ gran ws ≤ 32768 := by
  rcases h.2 with ⟨_, rfl⟩ | ⟨ap, aq, m, tp, A, c, _, _, ha, _⟩
  · unfold gran; simp
  · have := ha.short; unfold gran; omega
theorem keep0 (h : Good X pa pt l ws) (k : Kept [] X Y) : Good Y pa pt l ws := by
  refine ⟨h.1.keep0 k, h.2.imp id ?_⟩
  rintro ⟨ap, aq, m, tp, A, c, h1, h2, ha, ht, hw⟩
  exact ⟨ap, aq, m, tp, A, c, h1, h2, ha.keep0 k, ht.keep0 k, hw⟩
theorem kpn {S : List Nat} (h : Good X pa pt l ws) (hS : Boxes X S) (k : Kpn S X Y) : Good Y pa pt l ws := by
  refine ⟨?_, h.2.imp id ?_⟩
  · obtain ⟨t, fr, hh⟩ := h.1
    exact ⟨t, fr, k.same _ _ (fun hm => hS.far _ hm rfl) (fun b hb => by rw [hS.none b hb]; simp) hh rfl⟩
  · rintro ⟨ap, aq, m, tp, A, c, h1, h2, a, ht, hw⟩
    have mv : ∀ i t cs, t ∈ [185, 32, 156, 84, 62, 64, 183, 217, 78] → Has X i t cs → Has Y i t cs := fun i t cs htt hh => k.has (hS.other hh htt) hh
    refine ⟨ap, aq, m, tp, A, c, h1, h2, ⟨mv _ _ _ (by decide) a.head, mv _ _ _ (by decide) a.row, a.short⟩, ⟨mv _ _ _ (by decide) ht.head, ⟨ht.own.1, ?_⟩, ht.nil, ht.len, ht.all⟩, hw⟩
    rcases ht.own.2 with hn | ⟨g, cap, cur, e, hb, hg, rest⟩
    · exact .inl hn
    · refine .inr ⟨g, cap, cur, e, hb, ?_, rest⟩
      have hh : Has X g 84 cur.toList := by unfold Has; simpa using hg
      have := mv _ _ _ (by decide) hh
      unfold Has at this
      simpa using this
theorem gran (h : Good X pa pt l ws) : Calls Tryz.prog 57 #[.pointer pa] X fun e y => e = .returned (.int .i64 (Sp.gran ws)) ∧ X = y := by
  rcases h.2 with ⟨rfl, rfl⟩ | ⟨ap, aq, m, tp, A, c, rfl, _, ha, _⟩
  · exact wgran_nil X
  · exact wgran_ok ha
theorem cell (h : Good X pa pt l ws) (a : Int) (a0 : 0 ≤ a) (a1 : a ≤ 4611686018427387903) (hlt : a < Sp.gran ws) :
    Calls Tryz.prog 97 #[.pointer pa, .pointer pt, .int .i64 a] X fun e w' => e = .returned (.tuple #[(cellC ws l a).val, .bool (cellB ws l a)]) ∧ Kept [] X w' := by
  rcases h.2 with ⟨_, rfl⟩ | ⟨ap, aq, m, tp, A, c, rfl, rfl, ha, ht, hw⟩
  · unfold Sp.gran at hlt
    simp at hlt
    omega
  · exact wcell_ok h.1 ha ht hw a a0 a1
end Good
set_option maxRecDepth 100000 in
set_option maxHeartbeats 4000000 in
theorem wcells1_in (n : Nat) (hn : 1 ≤ n) (S : List Nat) (ba bb : Nat) (pa pt : Option Addr) (l : List Ty) (ws : List Int) (cs : List Cel) (y : Nat) (J Jx : List (El cs) → World → Prop) (W : World) (hJ : AbidesFrom W.heap.size J)
    (hY : ∀ pre x W1, J pre W1 → pre.length < cs.length → YieldAt Fence.wide (n - 1) Tryz.prog y (encs x) W1 fun e W' =>
      (e = .returned (.bool true) ∧ J (pre ++ [x]) W' ∧ Kpn S W1 W') ∨ (e = .returned (.bool false) ∧ Jx (pre ++ [x]) W'))
    (hA : Has W ba 62 [.pointer pa]) (hB : Has W bb 64 [.pointer pt]) (hg : Good W pa pt l ws) (hC : Scans ws l 0 cs) (hS : Boxes W S) (h0 : J [] W) :
    CallsIn Fence.wide n Tryz.prog 96 #[.func (.yield y) #[] #[], .pointer (some ⟨ba, 0, none⟩), .pointer (some ⟨bb, 0, none⟩)] W fun e' W' => (∃ v, e' = .returned v) ∧
      ((∃ xs, vals xs = cs ∧ J xs W') ∨ (∃ pre, (∃ rest, cs = vals pre ++ rest) ∧ Jx pre W')) := by
  have hgr := hg.bound
  have HGd : Hid (∀ X, Kpn S W X → Good X pa pt l ws) := Lib.hid fun X k => hg.kpn hS k
  have HBa : Hid (∀ X, Kpn S W X → Has X ba 62 [.pointer pa]) := Lib.hid fun X k => k.has (hS.other hA (by decide)) hA
  have HBb : Hid (∀ X, Kpn S W X → Has X bb 64 [.pointer pt]) := Lib.hid fun X k => k.has (hS.other hB (by decide)) hB
  have HSb := Lib.hid hS
  have H0 := Lib.hid h0
  have HY := Lib.hid hY
  have HJ := Lib.hid hJ
  have HC := Lib.hid hC
  clear h0 hY hJ hS hA hg hB hC
  refine callsIn_of_wp Tryz.func96 rfl trivial ?_ rfl
  simp only [Tryz.ntmps96, List.size_toArray, List.length_cons, List.length_nil, Nat.reduceAdd, Nat.reduceSub, Array.replicate_succ, Array.replicate_zero, List.push_toArray, List.append_toArray, List.nil_append, List.cons_append]
  gi_wp2_with (fail)
  gi_loopw [4] (fun t wr => ∃ a : Int, t = .int .i64 a ∧ 0 ≤ a ∧ a ≤ 1000000 ∧ Hid (∃ (pre : List (El cs)) (rest : List Cel), vals pre ++ rest = cs ∧ Scans ws l a rest ∧ J pre wr ∧ Kpn S W wr)) (fun t _ => (gran ws - intOf t).toNat)
  case atStart => exact ⟨0, rfl, Int.le_refl _, by omega, Lib.hid ⟨[], cs, rfl, HC.out, H0.out, Kpn.refl _ _⟩⟩
  case round =>
    obtain ⟨a, rfl, a0, a1, hr⟩ := hrel
    obtain ⟨pre, rest, hpr, hsc, hJp, hkp⟩ := hr.out
    have HS1 := Lib.hid (HGd.out _ hkp)
    have ca := (HBa.out _ hkp).cell 0
    have cb := (HBb.out _ hkp).cell 0
    simp at ca cb
    have HGr := Lib.hid HS1.out.gran
    have HCl := Lib.hid (fun (hlt : a < gran ws) => HS1.out.cell a a0 (by omega) hlt)
    have Hsc := Lib.hid hsc
    have Hpr := Lib.hid hpr
    have HJp := Lib.hid hJp
    have Hkp := Lib.hid hkp
    clear hr hpr hsc hJp hkp
    obtain ⟨G, hG⟩ : ∃ G, gran ws = G := ⟨_, rfl⟩
    rw [hG] at HGr hgr ⊢
    have HGe := Lib.hid hG
    clear hG
    by_cases hlt : a < G
    · gi_wp2_with (fail)
      refine ⟨trivial, (callsIn_wide.2 HGr.out).mono ?_⟩
      rintro e1 w1 ⟨rfl, rfl⟩
      clear HGr
      have HCl := Lib.hid (HCl.out (by rw [HGe.out]; exact hlt))
      gi_wp2_with (fail)
      cases rest with
      | nil =>
        have hcb : cellB ws l a = false := Hsc.out
        unfold cellC at HCl
        rw [hcb, if_neg (by decide)] at HCl
        unfold Cel.val Cel.zero Hd.zero at HCl
        simp only at HCl
        refine ⟨trivial, (callsIn_wide.2 HCl.out).mono ?_⟩
        rintro e1 w1 ⟨rfl, hk1⟩
        have Hk1 := Lib.hid hk1
        clear hk1 HCl hcb Hsc
        gi_wp2_with (fail)
        refine ⟨(fun f h => by cases h), ?_⟩
        gi_wp2_with (fail)
        refine bodyPost_ret (results_none rfl _ _ _) rfl ?_
        refine ⟨⟨_, rfl⟩, .inl ⟨pre, by have := Hpr.out; rwa [List.append_nil] at this, HJ.out pre wr _ none HJp.out (grownBy_of (Hk1.out.alloc _)) (fun r e => by cases e)⟩⟩
      | cons c rest =>
        obtain ⟨hcb, hce, hsr⟩ := Hsc.out
        have hfa := cellB_facts hcb
        unfold cellC at HCl
        rw [hcb, if_pos rfl, ← hce] at HCl
        have hca : c.a = a := by rw [hce]
        have hsz : c.h.sz = (hdH ws a).sz := by rw [hce]
        have hmem : c ∈ cs := by rw [← Hpr.out]; simp
        have hlen : pre.length < cs.length := by
          have := congrArg List.length Hpr.out
          unfold vals at this
          simp at this
          omega
        have Hnext : Hid (vals (pre ++ [⟨c, hmem⟩]) ++ rest = cs) := Lib.hid (by rw [vals_snoc]; simpa using Hpr.out)
        have Hsr : Hid (Scans ws l (c.a + c.h.sz) rest) := Lib.hid (by rw [hca]; exact hsr)
        have hz1 : 1 ≤ c.h.sz := by omega
        have hz2 : c.a + c.h.sz ≤ G := by have := HGe.out; unfold gran at this; omega
        have HBh := Lib.hid (fun X => wbehind_ok c (by omega) (by omega) (by omega) (by omega) X)
        have Hyy := Lib.hid (fun X (hJX : J pre X) => HY.out pre ⟨c, hmem⟩ X hJX hlen)
        clear hcb hce hsr hfa hsz Hsc
        obtain ⟨ca, ⟨ct, cy, cl, cz⟩⟩ := c
        simp only at hca hz1 hz2 HBh HCl Hsr
        subst hca
        unfold Cel.val at HCl HBh
        simp only at HCl HBh
        refine ⟨trivial, (callsIn_wide.2 HCl.out).mono ?_⟩
        rintro e1 w1 ⟨rfl, hk1⟩
        have hb2 : Has (w1.alloc (.cells #[.int .i64 ca, .int .u8 ct, .int .i64 cy, .int .i64 cl, .int .i64 cz] 78)) w1.heap.size 78 [.int .i64 ca, .int .u8 ct, .int .i64 cy, .int .i64 cl, .int .i64 cz] := Has.new w1 _ _
        have hk2 : Kept [] wr (w1.alloc (.cells #[.int .i64 ca, .int .u8 ct, .int .i64 cy, .int .i64 cl, .int .i64 cz] 78)) := hk1.alloc _
        have hbw : wr.heap.size ≤ w1.heap.size := hk1.more
        clear hk1 HCl
        obtain ⟨d0, d1, d2, d3, d4⟩ := cells5 hb2
        have Hb2 := Lib.hid hb2
        have Hk2 := Lib.hid hk2
        clear hb2 hk2
        gi_wp2_with (fail)
        generalize w1.alloc (.cells #[.int .i64 ca, .int .u8 ct, .int .i64 cy, .int .i64 cl, .int .i64 cz] 78) = w2 at *
        generalize w1.heap.size = xb at *
        obtain ⟨fn, tmps, assign, body, hy, hR⟩ := Hyy.out w2 (HJ.out pre wr w2 none HJp.out (grownBy_of Hk2.out) (fun r e => by cases e))
        dsimp only [encs] at hy
        clear Hyy
        gi_wp2_with (fail)
        rw [hy, Oper.uponIn_round]
        refine ⟨fun _ => hn, hR.mono ?_⟩
        rintro e3 W3 (⟨rfl, hJ3, hkp3⟩ | ⟨rfl, hJx⟩)
        · have hlb : ∀ b ∈ S, b < wr.heap.size := fun b hb => Nat.lt_of_lt_of_le (HSb.out.lt b hb) Hkp.out.size
          have ho2 : xb ∉ S ∧ ∀ b ∈ S, ownAt w2 b ≠ some xb := by
            refine ⟨fun hm => by have := hlb _ hm; omega, fun b hb => ?_⟩
            rw [ownAt_of (Hk2.out.old b (hlb b hb) (by simp))]
            rcases Hkp.out.own b hb with h1 | ⟨g', h1, _, h3⟩
            · rw [h1, HSb.out.none b hb]; simp
            · rw [h1]
              intro e
              injection e with e
              omega
          have hb3 := hkp3.has ho2 Hb2.out
          clear d0 d1 d2 d3 d4
          obtain ⟨d0, d1, d2, d3, d4⟩ := cells5 hb3
          have HN : Hid (∀ X, Kept [] W3 X → ∃ (pre : List (El cs)) (rest : List Cel), vals pre ++ rest = cs ∧ Scans ws l (ca + cz) rest ∧ J pre X ∧ Kpn S W X) :=
            Lib.hid fun X k => ⟨_, rest, Hnext.out, Hsr.out, HJ.out _ W3 X none hJ3 (grownBy_of k) (fun r e => by cases e), ((Hkp.out.trans (Kpn.ofKept Hk2.out hlb)).trans hkp3).trans (Kpn.ofKept k (fun b hb => Nat.lt_of_lt_of_le (hlb b hb) (Nat.le_trans Hk2.out.more hkp3.size)))⟩
          clear hJ3 hkp3 hy hR hlb ho2 hb3 HJp Hkp Hnext Hsr
          gi_wp2_with (fail)
          refine ⟨trivial, (callsIn_wide.2 (HBh.out _)).mono ?_⟩
          rintro e4 W4 ⟨rfl, hk4⟩
          have HN4 := Lib.hid (HN.out _ hk4)
          clear HN hk4 HBh
          gi_wp2_with (fail)
          go_roundw
          case rel => exact ⟨ca + cz, rfl, by omega, by omega, HN4⟩
          case measure => simp [intOf]; omega
        · have HE : Hid (cs = vals (pre ++ [⟨_, hmem⟩]) ++ rest) := Lib.hid Hnext.out.symm
          clear hy hR
          gi_wp2_with (fail)
          refine bodyPost_ret (results_none rfl _ _ _) rfl ?_
          exact ⟨⟨_, rfl⟩, .inr ⟨_, ⟨_, HE.out⟩, hJx⟩⟩
    · have hcb : cellB ws l a = false := cellB_out (by have := HGe.out; unfold gran at this; omega)
      have hnil : rest = [] := by
        cases rest with
        | nil => rfl
        | cons c rest => have := Hsc.out.1; rw [hcb] at this; cases this
      subst hnil
      clear hcb HCl
      gi_wp2_with (fail)
      refine ⟨trivial, (callsIn_wide.2 HGr.out).mono ?_⟩
      rintro e1 w1 ⟨rfl, rfl⟩
      clear HGr
      gi_wp2_with (fail)
      go_end0
      exact ⟨⟨_, rfl⟩, .inl ⟨pre, by have := Hpr.out; rwa [List.append_nil] at this, HJp.out⟩⟩

theorem own_kpn {W X : World} {S : List Nat} {v : Value} {os : List Cel} (hS : Boxes W S) (k : Kpn S W X) (h : Sp.Own W v os) : Sp.Own X v os := by
  refine ⟨h.1, ?_⟩
  rcases h.2 with hn | ⟨g, cap, cur, rfl, hb, hg, rest⟩
  · exact .inl hn
  · refine .inr ⟨g, cap, cur, rfl, hb, ?_, rest⟩
    have hh : Has W g 78 cur.toList := by unfold Has; simpa using hg
    have := k.has (hS.other hh (by decide)) hh
    unfold Has at this
    simpa using this
theorem wcells_stops (n : Nat) (hn : 1 ≤ n) (S : List Nat) (ba bb : Nat) (pa pt : Option Addr) (l : List Ty) (ws : List Int) (cs : List Cel) (w : World)
    (hA : Has w ba 62 [.pointer pa]) (hB : Has w bb 64 [.pointer pt]) (hg : Good w pa pt l ws) (hC : Scans ws l 0 cs) (hS : Boxes w S) :
    SeqStopsK Fence.wide n Tryz.prog 96 #[.pointer (some ⟨ba, 0, none⟩), .pointer (some ⟨bb, 0, none⟩)] (encs (cs := cs)) (Kpn S) (fun xs => vals xs = cs) (fun pre => ∃ rest, cs = vals pre ++ rest) cs.length w :=
  fun y J Jx W hW hJ _ hY h0 => wcells1_in n hn S ba bb pa pt l ws cs y J Jx W hJ hY (hA.keep0 (Kept.ofBelow hW [])) (hB.keep0 (Kept.ofBelow hW [])) (hg.keep0 (Kept.ofBelow hW [])) hC (hS.keep0 (Kept.ofBelow hW [])) h0
end Go.Proofs.YtagmmbkgjomdlaaGreatDoor.Wk
