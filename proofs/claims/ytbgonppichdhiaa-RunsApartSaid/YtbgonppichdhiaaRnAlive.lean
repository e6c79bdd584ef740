/-
  The chapter's example, which each law of the layer asks besides.
-/
import Derived.Test.YtbgonppichdhiaaRnSet
namespace Go.Proofs.Ytbgonppichdhiaa.Rn
open Go.RowKit Go.Proofs.Ytbgonppichdhiaa.Ar Go.Proofs.Ytbgonppichdhiaa.Bt Go.Proofs.Ytbgonppichdhiaa.Lk Go.Sort
set_option linter.unusedVariables false

set_option maxRecDepth 100000 in
set_option maxHeartbeats 8000000 in
theorem alive_ok (w : World) : Calls Try.prog 7 #[] w fun e w' => e = .returned (.bool true) ∧ Kept [] w w' := by
  have HN := Lib.hid (Sx.new w)
  go_enter Try.func7, Try.ntmps7
  go_wp2_with fail
  refine HN.out.mono ?_
  rintro e w1 ⟨rfl, h1⟩
  generalize w.heap.size = p at *
  have H1 := Lib.hid (Sx.add h1 4 2 (by omega) (by omega) (by omega) (by omega))
  rw [show addE [] 4 2 = 0 from by decide +kernel, show addW [] 4 2 = [(4, 2)] from by decide +kernel] at H1
  unfold runV at H1
  clear h1 HN
  go_wp2_with fail
  refine H1.out.mono ?_
  rintro e w2 ⟨rfl, h2, _⟩
  have H2 := Lib.hid (Sx.add h2 8 2 (by omega) (by omega) (by omega) (by omega))
  rw [show addE [(4, 2)] 8 2 = 0 from by decide +kernel, show addW [(4, 2)] 8 2 = [(4, 2), (8, 2)] from by decide +kernel] at H2
  unfold runV at H2
  clear h2 H1
  go_wp2_with fail
  refine H2.out.mono ?_
  rintro e w3 ⟨rfl, h3, _⟩
  have H3 := Lib.hid (Sx.add h3 6 2 (by omega) (by omega) (by omega) (by omega))
  rw [show addE [(4, 2), (8, 2)] 6 2 = 0 from by decide +kernel, show addW [(4, 2), (8, 2)] 6 2 = [(4, 6)] from by decide +kernel] at H3
  unfold runV at H3
  clear h3 H2
  go_wp2_with fail
  refine H3.out.mono ?_
  rintro e w4 ⟨rfl, h4, _⟩
  have H4 := Lib.hid h4
  have HL := Lib.hid (Sx.list h4)
  clear h4 H3
  go_wp2_with fail
  refine HL.out.mono ?_
  rintro e w5 ⟨v5, rfl, hO5, hF5, hk5⟩
  have h5 := H4.out.stay hk5
  have HO5 := Lib.hid hO5
  have H5 := Lib.hid (Sx.cut h5 5 3 (by omega) (by omega) (by omega) (by omega))
  rw [show cutE [(4, 6)] 5 3 = 0 from by decide +kernel, show cutW [(4, 6)] 5 3 = [(4, 1), (8, 2)] from by decide +kernel] at H5
  unfold runV at H5
  clear h5 hO5 hF5 hk5 HL H4
  go_wp2_with fail
  refine H5.out.mono ?_
  rintro e w6 ⟨rfl, h6, ho6⟩
  have HO6 := Lib.hid (ho6.ownR HO5.out)
  have H6 := Lib.hid h6
  have HF := Lib.hid (Sx.first h6 2 0 (by omega) (by omega) (by omega) (by omega))
  rw [show firstO [(4, 1), (8, 2)] 2 0 = some 8 from by decide +kernel] at HF
  have HF' : Hid (Calls Try.prog 16 #[.pointer (some ⟨p, 0, none⟩), .int .i64 2, .int .i64 0] w6 fun e w' => e = .returned (.tuple #[.agg #[.int .i64 8, .int .i64 2], .bool true]) ∧ Kept [] w6 w') := HF
  clear h6 ho6 HO5 H5 HF
  go_wp2_with fail
  refine HF'.out.mono ?_
  rintro e w7 ⟨rfl, hk7⟩
  have HO7 := Lib.hid (HO6.out.keep0 hk7)
  have H7 := Lib.hid (H6.out.stay hk7)
  clear hk7 HF' HO6 H6
  go_wp2_with fail
  have hk8 : Kept [] w7 (w7.alloc (.cells #[.int .i64 8, .int .i64 2] 29)) := (Kept.refl [] w7).alloc _
  have hx8 : Has (w7.alloc (.cells #[.int .i64 8, .int .i64 2] 29)) w7.heap.size 29 [.int .i64 8, .int .i64 2] := Has.new w7 _ [.int .i64 8, .int .i64 2]
  generalize w7.alloc (.cells #[.int .i64 8, .int .i64 2] 29) = w8 at *
  generalize w7.heap.size = bx at *
  have HX8 := Lib.hid hx8
  have HO8 := Lib.hid (HO7.out.keep0 hk8)
  have H8 := Lib.hid (H7.out.stay hk8)
  have HG := Lib.hid (Sx.first H8.out 1 5 (by omega) (by omega) (by omega) (by omega))
  rw [show firstO [(4, 1), (8, 2)] 1 5 = some 8 from by decide +kernel] at HG
  have HG' : Hid (Calls Try.prog 16 #[.pointer (some ⟨p, 0, none⟩), .int .i64 1, .int .i64 5] w8 fun e w' => e = .returned (.tuple #[.agg #[.int .i64 8, .int .i64 1], .bool true]) ∧ Kept [] w8 w') := HG
  clear hk8 hx8 HO7 H7 HG
  refine HG'.out.mono ?_
  rintro e w9 ⟨rfl, hk9⟩
  have HX9 := Lib.hid (HX8.out.keep0 hk9)
  have HO9 := Lib.hid (HO8.out.keep0 hk9)
  have H9 := Lib.hid (H8.out.stay hk9)
  clear hk9 HG' HO8 H8 HX8
  go_wp2_with fail
  obtain ⟨wa, hwa⟩ : ∃ wa, (w9.alloc (.cells #[.int .i64 8, .int .i64 1] 29)).alloc (.cells #[.int .i64 4, .int .i64 6] 29) = wa := ⟨_, rfl⟩
  have hka : Kept [] w9 wa := by rw [← hwa]; exact ((Kept.refl [] w9).alloc _).alloc _
  have hya : Has wa w9.heap.size 29 [.int .i64 8, .int .i64 1] := by rw [← hwa]; exact (Has.new w9 _ [.int .i64 8, .int .i64 1]).alloc _
  have hOa : OwnR wa (.slice (some ⟨w9.heap.size + 1, 0, none⟩) 1 1) [(4, 6)] := by
    rw [← hwa]
    have h := Has.new (w9.alloc (.cells #[.int .i64 8, .int .i64 1] 29)) 29 (runCells [(4, 6)])
    rw [World.size_alloc] at h
    exact ownR_of_has h (by decide)
  rw [hwa]
  clear hwa
  generalize w9.heap.size + 1 = bz at *
  generalize w9.heap.size = yb at *
  have hS := sameRuns_ok wa _ _ _ _ (HO9.out.keep0 hka) hOa (by decide) (by decide)
  rw [decide_eq_true (show ([(4, 6)] : List (Nat × Nat)) = [(4, 6)] from rfl)] at hS
  have HS := Lib.hid hS
  have HXa := Lib.hid (HX9.out.keep0 hka)
  have HYa := Lib.hid hya
  have Ha := Lib.hid (H9.out.stay hka)
  clear hka hya hOa hS HX9 H9 HO9
  refine HS.out.mono ?_
  rintro e wb ⟨rfl, kb, rfl⟩
  have hkb : Kept [] wa (wa.drewN kb) := (Kept.refl [] wa).drewN kb
  generalize wa.drewN kb = wb at *
  have HXb := Lib.hid (HXa.out.keep0 hkb)
  have HYb := Lib.hid (HYa.out.keep0 hkb)
  have Hb := Lib.hid (Ha.out.stay hkb)
  have HL := Lib.hid (Sx.list Hb.out)
  clear hkb HS HXa HYa Ha
  go_wp2_with fail
  refine HL.out.mono ?_
  rintro e wc ⟨vc, rfl, hOc, hFc, hkc⟩
  have HXc := Lib.hid (HXb.out.keep0 hkc)
  have HYc := Lib.hid (HYb.out.keep0 hkc)
  have Hc := Lib.hid (Hb.out.stay hkc)
  have HOc := Lib.hid hOc
  clear hkc hOc hFc HL HXb HYb Hb
  go_wp2_with fail
  obtain ⟨wd, hwd⟩ : ∃ wd, wc.alloc (.cells #[.int .i64 4, .int .i64 1, .int .i64 8, .int .i64 2] 29) = wd := ⟨_, rfl⟩
  have hkd : Kept [] wc wd := by rw [← hwd]; exact (Kept.refl [] wc).alloc _
  have hOd : OwnR wd (.slice (some ⟨wc.heap.size, 0, none⟩) 2 2) [(4, 1), (8, 2)] := by
    rw [← hwd]
    exact ownR_of_has (Has.new wc 29 (runCells [(4, 1), (8, 2)])) (by decide)
  rw [hwd]
  clear hwd
  generalize wc.heap.size = bc at *
  have hS := sameRuns_ok wd _ _ _ _ (HOc.out.keep0 hkd) hOd (by decide) (by decide)
  rw [decide_eq_true (show ([(4, 1), (8, 2)] : List (Nat × Nat)) = [(4, 1), (8, 2)] from rfl)] at hS
  have HS := Lib.hid hS
  have HXd := Lib.hid (HXc.out.keep0 hkd)
  have HYd := Lib.hid (HYc.out.keep0 hkd)
  have Hd := Lib.hid (Hc.out.stay hkd)
  clear hkd hOd hS HXc HYc Hc HOc
  refine HS.out.mono ?_
  rintro e we ⟨rfl, ke, rfl⟩
  have hke : Kept [] wd (wd.drewN ke) := (Kept.refl [] wd).drewN ke
  generalize wd.drewN ke = we at *
  have x0 := (HXd.out.keep0 hke).cell 0
  have x1 := (HXd.out.keep0 hke).cell 1
  have y0 := (HYd.out.keep0 hke).cell 0
  have y1 := (HYd.out.keep0 hke).cell 1
  simp at x0 x1 y0 y1
  have He := Lib.hid (Hd.out.stay hke)
  have HA := Lib.hid (Sx.add He.out 0 5 (by omega) (by omega) (by omega) (by omega))
  rw [show addE [(4, 1), (8, 2)] 0 5 = 9 from by decide +kernel, show addW [(4, 1), (8, 2)] 0 5 = [(4, 1), (8, 2)] from by decide +kernel] at HA
  unfold runV at HA
  clear hke HS HXd HYd Hd
  go_wp2_with fail
  refine HA.out.mono ?_
  rintro e wf ⟨rfl, hf, _⟩
  have HC := Lib.hid (Sx.cut hf 4 2 (by omega) (by omega) (by omega) (by omega))
  rw [show cutE [(4, 1), (8, 2)] 4 2 = 3 from by decide +kernel, show cutW [(4, 1), (8, 2)] 4 2 = [(4, 1), (8, 2)] from by decide +kernel] at HC
  unfold runV at HC
  clear hf HA x0 x1 y0 y1
  go_wp2_with fail
  refine HC.out.mono ?_
  rintro e wg ⟨rfl, hg, _⟩
  have HT : Hid (Calls Try.prog 21 #[.pointer (some ⟨p, 0, none⟩)] wg fun e w' => e = .returned (.int .i64 3) ∧ Kept [] wg w') := Lib.hid (Sx.total hg)
  have Hg := Lib.hid hg
  clear hg HC
  go_wp2_with fail
  refine HT.out.mono ?_
  rintro e wh ⟨rfl, hkh⟩
  have Hh := Lib.hid (Hg.out.world.trans hkh)
  clear hkh HT Hg
  go_wp2_with fail
  go_ret
  exact ⟨rfl, Hh.out⟩
end Go.Proofs.Ytbgonppichdhiaa.Rn
