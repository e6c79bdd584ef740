/-
  The contracts of prevEnd, nextStart, and bare.
-/
import Derived.Test.YtfdombfdgpclcaaGreatDoorSpBecome
import Derived.Test.YtfdombfdgpclcaaGreatDoorGBb
import Derived.Test.YtfdombfdgpclcaaGreatDoorGA
namespace Go.Proofs.YtfdombfdgpclcaaGreatDoor.Sp
open Go.RowKit Go.Proofs.YtfdombfdgpclcaaGreatDoor.Ar Go.Proofs.YtfdombfdgpclcaaGreatDoor.Sh
open Go.Proofs.YtfdombfdgpclcaaGreatDoor.Hd (Hd Fields cells4 free4 isHead isHead_iff decH)
open Go.Proofs.YtfdombfdgpclcaaGreatDoor.Tb (Ty Tab blk cells3)
open Go.Proofs.YtfdombfdgpclcaaGreatDoor.Bt (Bv atI prevO nextO prev_ok next_ok newBv_ok)
open Go.Proofs.YtfdombfdgpclcaaGreatDoor.Wd (Table)
set_option linter.unusedVariables false

theorem hdH_sz (ws : List Int) (g : Int) : 0 ≤ (hdH ws g).sz ∧ (hdH ws g).sz ≤ 16777215 := by
  unfold hdH
  split
  · unfold decH
    split
    · rename_i h
      have := can_sz (isHead_iff.1 h).1
      omega
    · decide
  · decide
def prevEndV (bs : List Bool) (ws : List Int) (g : Int) : Int := if (prevO bs (g - 1)).isSome then atI (prevO bs (g - 1)) + (hdH ws (atI (prevO bs (g - 1)))).sz else 0
def nextStartV (bs : List Bool) (ws : List Int) (g : Int) : Int := if (nextO bs (g + 1) true).isSome then atI (nextO bs (g + 1) true) else gran ws
section
variable {w : World} {s : Ids} {l : List Ty} {ws : List Int} {bs : List Bool}
set_option maxRecDepth 100000 in
set_option maxHeartbeats 1000000 in
theorem prevEnd_ok (hG : Glob w s) (h : Spc w s l ws bs) (g : Int) (g0 : -1000000000000 ≤ g) (g1 : g ≤ 1000000000000) :
    Calls Tryz.prog 31 #[.pointer (some ⟨s.sp, 0, none⟩), .int .i64 g] w fun e w' => e = .returned (.int .i64 (prevEndV bs ws g)) ∧ Kept [] w w' := by
  obtain ⟨m, ha⟩ := h.ar
  obtain ⟨c0, c1, c2⟩ := h.cells
  have hb := prevO_bound bs (g - 1)
  have hfew := h.few
  have HP := Lib.hid (prev_ok bs _ _ w h.bv (g - 1) (by omega) (by omega))
  have HH := Lib.hid (fun y (k : Kept [] w y) (a : Int) (a0 : 0 ≤ a) (a1 : a ≤ 65536) => head_any (hG.f.keep0 k) (ha.keep0 k) h.wds a (by omega) (by omega))
  have HSp := Lib.hid (fun y (k : Kept [] w y) => (h.keep0 k).cells)
  have HSz := Lib.hid (hdH_sz ws)
  unfold prevEndV
  generalize prevO bs (g - 1) = o at *
  clear h ha hG
  cases hs : o.isSome with
  | false =>
    rw [hs] at HP
    generalize atI o = a at *
    rw [if_neg (by decide)]
    go_enter Tryz.func31, Tryz.ntmps31
    go_wp2_with fail
    refine HP.out.mono ?_
    rintro e w1 ⟨rfl, hk⟩
    have HK := Lib.hid hk
    clear hk HP
    go_wp2_with fail
    go_ret
    exact ⟨rfl, HK.out⟩
  | true =>
    rw [hs] at HP
    rw [if_pos rfl]
    generalize atI o = a at *
    have HHa := Lib.hid (fun y (k : Kept [] w y) => HH.out y k a hb.1 (by omega))
    have hz := HSz.out a
    clear HH HSz
    unfold Hd.val at HHa
    generalize hdE ws a = er at *
    generalize hdH ws a = x at *
    have HN : Hid (∀ y : World, Has (y.alloc (.cells #[.int .u8 x.tg, .int .i64 x.ty, .int .i64 x.ln, .int .i64 x.sz] 43)) y.heap.size 43 [.int .u8 x.tg, .int .i64 x.ty, .int .i64 x.ln, .int .i64 x.sz]) := Lib.hid fun y => Hd.Hd.new y _
    generalize x.tg = xg at *
    generalize x.ty = xt at *
    generalize x.ln = xn at *
    generalize x.sz = xs at *
    go_enter Tryz.func31, Tryz.ntmps31
    go_wp2_with fail
    refine HP.out.mono ?_
    rintro e w1 ⟨rfl, hk⟩
    have HK := Lib.hid hk
    clear c0 c1 c2
    obtain ⟨c0, c1, c2⟩ := HSp.out _ hk
    clear hk HP
    go_wp2_with fail
    refine (HHa.out _ HK.out).mono ?_
    rintro e w2 ⟨rfl, hk2⟩
    have HK2 := Lib.hid ((HK.out.trans hk2).alloc (.cells #[.int .u8 xg, .int .i64 xt, .int .i64 xn, .int .i64 xs] 43))
    obtain ⟨d0, d1, d2, d3⟩ := cells4 (HN.out w2)
    clear hk2 HHa HK c0 c1 c2 HN
    go_wp2_with fail
    go_ret
    exact ⟨rfl, HK2.out⟩
set_option maxRecDepth 100000 in
set_option maxHeartbeats 1000000 in
theorem nextStart_ok (hG : Glob w s) (h : Spc w s l ws bs) (g : Int) (g0 : -1000000000000 ≤ g) (g1 : g ≤ 1000000000000) :
    Calls Tryz.prog 32 #[.pointer (some ⟨s.sp, 0, none⟩), .int .i64 g] w fun e w' => e = .returned (.int .i64 (nextStartV bs ws g)) ∧ Kept [] w w' := by
  obtain ⟨c0, c1, c2⟩ := h.cells
  have HP := Lib.hid (next_ok bs _ _ w h.bv hG.t (g + 1) (by omega) (by omega))
  have HGr := Lib.hid (fun y (k : Kept [] w y) => granules_ok (h.keep0 k))
  unfold nextStartV
  generalize nextO bs (g + 1) true = o at *
  clear h hG
  cases hs : o.isSome with
  | true =>
    rw [hs] at HP
    generalize atI o = a at *
    rw [if_pos rfl]
    go_enter Tryz.func32, Tryz.ntmps32
    go_wp2_with fail
    refine HP.out.mono ?_
    rintro e w1 ⟨rfl, hk⟩
    have HK := Lib.hid hk
    clear hk HP
    go_wp2_with fail
    go_ret
    exact ⟨rfl, HK.out⟩
  | false =>
    rw [hs] at HP
    rw [if_neg (by decide)]
    generalize atI o = a at *
    generalize gran ws = G at *
    go_enter Tryz.func32, Tryz.ntmps32
    go_wp2_with fail
    refine HP.out.mono ?_
    rintro e w1 ⟨rfl, hk⟩
    have HK := Lib.hid hk
    clear hk HP
    go_wp2_with fail
    refine (HGr.out _ HK.out).mono ?_
    rintro e w2 ⟨rfl, rfl⟩
    go_wp2_with fail
    go_ret
    exact ⟨rfl, HK.out⟩
end
theorem arena_pre {w : World} {sp : Nat} {a : Option Addr} (c0 : w.cell? ⟨sp, 0, none⟩ = some (.pointer a)) : Calls Tryz.prog 47 #[.pointer (some ⟨sp, 0, none⟩)] w fun e w' => e = .returned (.pointer a) ∧ w = w' := by
  go_enter Tryz.func47, Tryz.ntmps47
  go_wp2_with fail
  go_ret
  exact ⟨rfl, rfl⟩
set_option maxRecDepth 100000 in
theorem granules_pre {w : World} {sp ap aq : Nat} {ws : List Int} {m : Int} (c0 : w.cell? ⟨sp, 0, none⟩ = some (.pointer (some ⟨ap, 0, none⟩))) (a : Arena w ap aq ws m) : Calls Tryz.prog 22 #[.pointer (some ⟨sp, 0, none⟩)] w fun e w' => e = .returned (.int .i64 (gran ws)) ∧ w = w' := by
  have hs := a.short
  have H1 := Lib.hid (arena_pre c0)
  have H2 := Lib.hid (len_any a)
  have ed : (ws.length : Int).tdiv 2 = gran ws := Int.tdiv_eq_ediv_of_nonneg (by omega)
  have ED := Lib.hid ed
  clear a ed c0
  generalize ws.length = L at *
  generalize gran ws = G at *
  go_enter Tryz.func22, Tryz.ntmps22
  go_wp2_with fail
  refine H1.out.mono ?_
  rintro e w1 ⟨rfl, rfl⟩
  go_wp2_with fail
  refine H2.out.mono ?_
  rintro e w1 ⟨rfl, rfl⟩
  go_wp2_with fail
  go_ret
  exact ⟨ret_int (by have := ED.out; rw [Int.tdiv_eq_ediv_of_nonneg (by omega)] at this; omega), rfl⟩
set_option maxRecDepth 100000 in
set_option maxHeartbeats 1000000 in
theorem bare_ok {w : World} {ap aq tp : Nat} {A : Option Addr} {c : Nat} {l : List Ty} {ws : List Int} {m : Int} (ha : Arena w ap aq ws m) (hT : Tab w tp A c l) (hW : Wm ws) :
    Calls Tryz.prog 20 #[.pointer (some ⟨ap, 0, none⟩), .pointer (some ⟨tp, 0, none⟩)] w fun e w' => ∃ sp bp bq, e = .returned (.pointer (some ⟨sp, 0, none⟩)) ∧ Spc w' ⟨sp, ap, aq, tp, A, c, bp, bq⟩ l ws (List.replicate (gran ws).toNat false) ∧ Kept [] w w' ∧ w.heap.size ≤ bq := by
  have hs := ha.short
  have hgr : 0 ≤ gran ws ∧ gran ws ≤ 32768 := by unfold gran; omega
  have k0 : Kept [] w (w.alloc (.cells #[.pointer (some ⟨ap, 0, none⟩), .pointer (some ⟨tp, 0, none⟩), .pointer none] 73)) := (Kept.refl [] w).alloc _
  have hb := Has.new w 73 [.pointer (some ⟨ap, 0, none⟩), .pointer (some ⟨tp, 0, none⟩), .pointer none]
  have HGr := Lib.hid (granules_pre (hb.cell 0) (ha.keep0 k0))
  have HN := Lib.hid (fun y => newBv_ok (gran ws).toNat (by omega) y)
  rw [Int.toNat_of_nonneg hgr.1] at HN
  have HB := Lib.hid hb
  have K0 := Lib.hid k0
  have HA := Lib.hid ha
  have HT := Lib.hid hT
  have HW := Lib.hid hW
  clear ha hT hW hb k0
  obtain ⟨n, hn⟩ : ∃ n, n = (gran ws).toNat := ⟨_, rfl⟩
  rw [← hn] at HN ⊢
  clear hn
  generalize gran ws = G at *
  go_enter Tryz.func20, Tryz.ntmps20
  go_wp2_with fail
  refine HGr.out.mono ?_
  rintro e w1 ⟨rfl, rfl⟩
  go_wp2_with fail
  refine (HN.out _).mono ?_
  rintro e w1 ⟨rfl, hv, hk⟩
  have hb1 := HB.out.keep0 hk
  have f2 := hb1.free 2
  obtain ⟨c0, c1, c2⟩ := cells3 hb1
  have HV := Lib.hid hv
  have HK := Lib.hid hk
  have HB1 := Lib.hid hb1
  clear hv hk hb1
  go_wp2_with fail
  go_ret
  have hsz : (w.alloc (.cells #[.pointer (some ⟨ap, 0, none⟩), .pointer (some ⟨tp, 0, none⟩), .pointer none] 73)).heap.size = w.heap.size + 1 := by simp
  have hkk : Kept [w.heap.size] w1 (w1.setCell ⟨w.heap.size, 2, none⟩ (.pointer (some ⟨w.heap.size + 1 + 1, 0, none⟩))) := (Kept.refl _ w1).setCell _ _ (.inl (by simp))
  have hk0 := K0.out.trans HK.out
  have hV := HV.out
  rw [hsz] at hV
  refine ⟨w.heap.size, w.heap.size + 1 + 1, w.heap.size + 1, rfl, ⟨HB1.out.put 2 _, ⟨m, (HA.out.keep0 hk0).kept hkk ?_ ?_⟩, (HT.out.keep0 hk0).kept hkk ?_ ?_, hV.kept hkk (by simp; omega) (by simp), HW.out⟩, hk0.forget hkk (by simp), by simp⟩
  · have := HA.out.head.lt; simp; omega
  · have := HA.out.row.lt; simp; omega
  · have := HT.out.head.lt; simp; omega
  · intro g hg
    rw [List.mem_singleton.1 hg]
    exact Tb.Own.block_type (HT.out.keep0 hk0).own HB1.out (by decide)
end Go.Proofs.YtfdombfdgpclcaaGreatDoor.Sp
