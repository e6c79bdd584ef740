/-
  The contract of Put.
-/
import Derived.Test.YtfdombfdgpclcaaGreatDoorSpOps
import Derived.Test.YtfdombfdgpclcaaGreatDoorSpKeep
import Derived.Lib.QuietBelow
import Derived.Deep.RegionWith
namespace Go.Proofs.YtfdombfdgpclcaaGreatDoor.Sp
open Go.RowKit Go.Proofs.YtfdombfdgpclcaaGreatDoor.Ar Go.Proofs.YtfdombfdgpclcaaGreatDoor.Sh Go.Sort
open Go.Proofs.YtfdombfdgpclcaaGreatDoor.Hd (Hd Fields cells4 free4 ofL of_tab of_facts)
open Go.Proofs.YtfdombfdgpclcaaGreatDoor.Tb (Ty Tab blk sizeE)
open Go.Proofs.YtfdombfdgpclcaaGreatDoor.Bt (Bv atI prevO nextO)
open Go.Proofs.YtfdombfdgpclcaaGreatDoor.Wd (Table)
set_option linter.unusedVariables false
section
variable {w : World} {s : Ids} {l : List Ty} {ws : List Int} {bs : List Bool}
set_option maxRecDepth 100000 in
theorem put_err (hG : Glob w s) (h : Spc w s l ws bs) (g i n : Int) (i0 : -9223372036854775808 ≤ i) (i1 : i ≤ 9223372036854775807) (he : sizeE l i n ≠ 0) :
    Calls Tryz.prog 9 #[.pointer (some ⟨s.sp, 0, none⟩), .int .i64 g, .int .i64 i, .int .i64 n] w fun e w' => e = .returned (.int .i64 (sizeE l i n)) ∧ Kept [] w w' := by
  obtain ⟨c0, c1, c2⟩ := h.cells
  have HO := Lib.hid (of_tab h.tab i n i0 i1)
  have hb : (sizeE l i n != 0) = true := by rw [bne_iff_ne]; exact he
  unfold Hd.val at HO
  clear h hG he
  generalize sizeE l i n = er at *
  generalize ofL l i n = x at *
  generalize x.tg = xg at *
  generalize x.ty = xt at *
  generalize x.ln = xn at *
  generalize x.sz = xs at *
  go_enter Tryz.func9, Tryz.ntmps9
  go_wp2_with fail
  refine HO.out.mono ?_
  rintro e w1 ⟨rfl, hk⟩
  have HK := Lib.hid (hk.alloc (.cells #[.int .u8 xg, .int .i64 xt, .int .i64 xn, .int .i64 xs] 43))
  clear hk HO
  go_wp2_with fail
  go_ret
  exact ⟨rfl, HK.out⟩
set_option maxRecDepth 100000 in
set_option maxHeartbeats 1000000 in
theorem put_out (hG : Glob w s) (h : Spc w s l ws bs) (g i n : Int) (g0 : -9223372036854775808 ≤ g) (g1 : g ≤ 9223372036854775807) (i0 : -9223372036854775808 ≤ i) (i1 : i ≤ 9223372036854775807) (he : sizeE l i n = 0) (ho : g < 0 ∨ gran ws ≤ g) :
    Calls Tryz.prog 9 #[.pointer (some ⟨s.sp, 0, none⟩), .int .i64 g, .int .i64 i, .int .i64 n] w fun e w' => e = .returned (.int .i64 2) ∧ Kept [] w w' := by
  obtain ⟨c0, c1, c2⟩ := h.cells
  have hsh := h.short
  have hgr : 0 ≤ gran ws ∧ gran ws ≤ 32768 := by unfold gran; omega
  have HO := Lib.hid (of_tab h.tab i n i0 i1)
  rw [he] at HO
  have HGr := Lib.hid (fun y (k : Kept [] w y) => granules_ok (h.keep0 k))
  unfold Hd.val at HO
  clear h hG he
  generalize gran ws = G at *
  generalize ofL l i n = x at *
  generalize x.tg = xg at *
  generalize x.ty = xt at *
  generalize x.ln = xn at *
  generalize x.sz = xs at *
  by_cases hg : g < 0
  · clear ho
    go_enter Tryz.func9, Tryz.ntmps9
    go_wp2_with fail
    refine HO.out.mono ?_
    rintro e w1 ⟨rfl, hk⟩
    have HK := Lib.hid (hk.alloc (.cells #[.int .u8 xg, .int .i64 xt, .int .i64 xn, .int .i64 xs] 43))
    clear hk HO
    go_wp2_with fail
    go_ret
    exact ⟨rfl, HK.out⟩
  · have hge : G ≤ g := by omega
    clear ho
    go_enter Tryz.func9, Tryz.ntmps9
    go_wp2_with fail
    refine HO.out.mono ?_
    rintro e w1 ⟨rfl, hk⟩
    have HK := Lib.hid (hk.alloc (.cells #[.int .u8 xg, .int .i64 xt, .int .i64 xn, .int .i64 xs] 43))
    clear hk HO
    go_wp2_with fail
    refine (HGr.out _ HK.out).mono ?_
    rintro e w2 ⟨rfl, rfl⟩
    go_wp2_with fail
    go_ret
    exact ⟨rfl, HK.out⟩
end
end Go.Proofs.YtfdombfdgpclcaaGreatDoor.Sp
