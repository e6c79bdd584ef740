/-
  The law's alive returns true.
-/
import Derived.Test.YtfdombfdgpclcaaGreatDoorSpExample
namespace Go.Proofs.YtfdombfdgpclcaaGreatDoor.Sp
open Go.RowKit Go.Proofs.YtfdombfdgpclcaaGreatDoor.Ar Go.Proofs.YtfdombfdgpclcaaGreatDoor.Sh
open Go.Proofs.YtfdombfdgpclcaaGreatDoor.Hd (Hd Fields ofL)
open Go.Proofs.YtfdombfdgpclcaaGreatDoor.Tb (Ty Tab Made NewPost newF sizeE sizeT)
open Go.Proofs.YtfdombfdgpclcaaGreatDoor.Wd (Table)
set_option linter.unusedVariables false

theorem table_keep0 {w w' : World} (h : Table w) (k : Kept [] w w') : Table w' := fun i hi => by
  have hc := h i hi
  have hlt : 1 < w.heap.size := by
    rcases Nat.lt_or_ge (1) w.heap.size with k | k
    · exact k
    · exfalso
      have hn : w.heap[1]? = none := Array.getElem?_eq_none k
      simp [World.cell?, hn] at hc
  rw [World.cell?_of_block (w := w) (k.old _ hlt (by simp))]
  exact hc
theorem own_slice {w : World} {v : Value} {L : List Cel} (h : Own w v L) (hL : L ≠ []) : ∃ g cap, v = .slice (some ⟨g, 0, none⟩) L.length cap := by
  rcases h.form with ⟨_, h0⟩ | ⟨g, cap, e, _⟩
  · exact absurd h0 hL
  · exact ⟨g, cap, e⟩
section
variable {w : World}
set_option maxRecDepth 100000 in
set_option maxHeartbeats 8000000 in
theorem alive_ok (hF : Fields w) (hTb : Table w) : Calls Tryz.prog 5 #[] w fun e w' => e = .returned (.bool true) ∧ Kept [] w w' := by
  have HFd := Lib.hid hF
  have HTb := Lib.hid hTb
  have HT : Hid (∀ y : World, Calls Tryz.prog 6 #[.slice (some ⟨y.heap.size, 0, none⟩) 1 1] (y.alloc (.cells #[.int .u8 2, .int .i64 0, .int .u64 0] 54)) fun e x => ∃ p A c, e = .returned (.tuple #[.pointer (some ⟨p, 0, none⟩), .int .i64 0]) ∧ Made (y.alloc (.cells #[.int .u8 2, .int .i64 0, .int .u64 0] 54)) x p A c exT) := Lib.hid fun y => by
    have hs : Tb.Seen (y.alloc (.cells #[.int .u8 2, .int .i64 0, .int .u64 0] 54)) (some ⟨y.heap.size, 0, none⟩) exT := Tb.seen_one (x := ⟨2, 0, 0⟩) (Has.new y 54 [.int .u8 2, .int .i64 0, .int .u64 0])
    refine (Tb.new_ok (l := exT) 1 hs (fun x hx => by rw [List.mem_singleton.1 hx]; exact ⟨by decide, by decide⟩) (by decide)).mono ?_
    rintro e x (⟨_, p, A, c, h1, h2⟩ | ⟨h0, _⟩)
    · rw [ex_new] at h2
      exact ⟨p, A, c, h1, h2⟩
    · rw [ex_new] at h0
      exact absurd rfl h0
  clear hF hTb
  go_enter Tryz.func5, Tryz.ntmps5
  go_wp2_with fail
  refine (HT.out _).mono ?_
  rintro e x1 ⟨tp, A, c, rfl, hm⟩
  have k1 : Kept [] w x1 := ((Kept.refl [] w).alloc _).trans hm.2.2.2
  have HNw := Lib.hid (one_new (w := w) 16 (by decide) (HFd.out.keep0 k1) (table_keep0 HTb.out k1) hm.1 k1)
  clear hm k1 HT
  go_wp2_with fail
  refine HNw.out.mono ?_
  rintro e x2 ⟨s, rfl, _, h2, _⟩
  rw [ex_a] at h2
  have H2 := Lib.hid h2
  clear h2 HNw
  go_wp2_with fail
  refine (one_cells H2.out).mono ?_
  rintro e x3 ⟨va, rfl, hoa, _, k3⟩
  have H3 := Lib.hid (H2.out.keep0 k3)
  have A3 := Lib.hid hoa
  clear hoa k3 H2
  go_wp2_with fail
  refine (ex_put H3.out).mono ?_
  rintro e x4 ⟨rfl, h4, k4⟩
  have A4 := Lib.hid (A3.out.kept k4 (own_turn H3.out A3.out))
  have H4 := Lib.hid h4
  clear h4 k4 A3 H3
  go_wp2_with fail
  refine (one_cells H4.out).mono ?_
  rintro e x5 ⟨vb, rfl, hob, _, k5⟩
  have H5 := Lib.hid (H4.out.keep0 k5)
  have A5 := Lib.hid (A4.out.keep0 k5)
  have B5 := Lib.hid hob
  clear hob k5 H4 A4
  go_wp2_with fail
  refine (ex_drop H5.out).mono ?_
  rintro e x6 ⟨rfl, h6, k6⟩
  have A6 := Lib.hid (A5.out.kept k6 (own_turn H5.out A5.out))
  have B6 := Lib.hid (B5.out.kept k6 (own_turn H5.out B5.out))
  have H6 := Lib.hid h6
  clear h6 k6 H5 A5 B5
  go_wp2_with fail
  refine (one_cells H6.out).mono ?_
  rintro e x7 ⟨vc, rfl, hoc, _, k7⟩
  have H7 := Lib.hid (H6.out.keep0 k7)
  obtain ⟨ga, ca, ea⟩ := own_slice A6.out (by simp [exA])
  obtain ⟨gb, cb, eb⟩ := own_slice B6.out (by simp [exB])
  obtain ⟨gc, cc, ec⟩ := own_slice hoc (by simp [exA])
  subst ea eb ec
  have A7 := A6.out.keep0 k7
  have B7 := B6.out.keep0 k7
  have HSm := Lib.hid (same_ok (cap := ca) (cap2 := cc) exA A7.seen hoc.seen (by decide))
  have a0 := A7.cell 0 _ rfl
  have a1 := A7.cell 1 _ rfl
  have a2 := A7.cell 2 _ rfl
  have a3 := A7.cell 3 _ rfl
  have a4 := A7.cell 4 _ rfl
  have b1 := B7.cell 1 _ rfl
  have b6 := B7.cell 6 _ rfl
  have b9 := B7.cell 9 _ rfl
  have c0 := B7.cell 10 _ rfl
  have c1 := B7.cell 11 _ rfl
  have c2 := B7.cell 12 _ rfl
  have c3 := B7.cell 13 _ rfl
  have c4 := B7.cell 14 _ rfl
  have hse := fun y => run_same y 0 3 0 0 8 0 3 0 0 8
  have hse2 := fun y => run_same y 3 3 0 0 5 3 3 0 0 5
  have hng := no_guard
  have hq := eqC_refl 0 3 0 0 8
  have hq2 := eqC_refl 3 3 0 0 5
  rw [show exA.length = 1 from rfl] at HSm ⊢
  rw [show exB.length = 3 from rfl]
  clear A7 B7 hoc k7 H6 A6 B6
  go_wp2_with fail
  refine HSm.out.mono ?_
  rintro e x8 ⟨rfl, k8⟩
  have H8 := Lib.hid (H7.out.keep0 k8)
  clear k8 H7 HSm a0 a1 a2 a3 a4 b1 b6 b9 c0 c1 c2 c3 c4 hse hse2 hng hq hq2
  go_wp2_with fail
  refine (ex_drop2 H8.out).mono ?_
  rintro e x9 ⟨rfl, h9⟩
  have H9 := Lib.hid h9
  clear h9 H8
  go_wp2_with fail
  refine (ex_put2 H9.out).mono ?_
  rintro e x10 ⟨rfl, k10⟩
  have K10 := Lib.hid k10
  clear k10 H9
  go_wp2_with fail
  go_ret
  exact ⟨rfl, K10.out⟩
end
end Go.Proofs.YtfdombfdgpclcaaGreatDoor.Sp
