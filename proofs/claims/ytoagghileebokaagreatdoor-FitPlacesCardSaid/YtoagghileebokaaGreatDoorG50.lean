/-
  Several texts in one: FtGreatest, FtFns.
-/
import Derived.Test.YtoagghileebokaaGreatDoorG48
import Derived.Test.YtoagghileebokaaGreatDoorG13
import Derived.BigQuiet
import Derived.Test.YtoagghileebokaaGreatDoorG49
import Derived.Test.YtoagghileebokaaGreatDoorG28
import Derived.Test.YtoagghileebokaaGreatDoorG07
/-
  Stage 13, fit: the contract of greatest over a space's stretches.
-/
namespace Go.Proofs.YtoagghileebokaaGreatDoor.Ft
open Go.RowKit Go.Proofs.YtoagghileebokaaGreatDoor.Ar Go.Proofs.YtoagghileebokaaGreatDoor.Lk Go.Shelf Go.Sort
open Go.Proofs.YtoagghileebokaaGreatDoor.Sp (Cel tot Tiled Has0 Ids)
set_option linter.unusedVariables false
attribute [local go_sem] Oper.semAt_some

set_option maxRecDepth 100000 in
set_option maxHeartbeats 4000000 in
theorem greatest_ok {w0 w : World} {bb bs : Nat} {vp : Value} {p : Option Addr} {cs : List Cel} {bl : Nat → Bool} (hsrc : Src w0 vp p cs bl) (hk : Kept [] w0 w) (hBb : Has w bb 31 [vp]) (hBs : Has w bs 29 [.pointer p]) :
    Calls Tryz.prog 36 #[.func (.func 57) #[] #[.pointer (some ⟨bb, 0, none⟩), .pointer (some ⟨bs, 0, none⟩)], .func (.func 37) #[] #[]] w fun e y => e = .returned (.int .i64 (maxL (strF bl cs) : Nat)) ∧ Kept [] w y := by
  have HSr := Lib.hid hsrc
  have Hk := Lib.hid hk
  have HBb := Lib.hid hBb
  have HBs := Lib.hid hBs
  clear hsrc hk hBb hBs
  refine (callsIn_wide (n := 7)).1 ?_
  refine callsIn_of_wp_marks Tryz.func36 rfl trivial ?_ rfl
  simp only [Tryz.ntmps36, List.size_toArray, List.length_cons, List.length_nil, Nat.reduceAdd, Nat.reduceSub, Array.replicate_succ, Array.replicate_zero, List.push_toArray, List.append_toArray, List.nil_append, List.cons_append]
  gi_wp2_with (fail)
  have h3 := (Has.new w 93 [.func (.func 37) #[] #[]]).alloc (.cells #[.int .i64 0] 3)
  have h4 := Has.new (w.alloc (.cells #[.func (.func 37) #[] #[]] 93)) 3 [.int .i64 0]
  have k5 : Kept [] w ((w.alloc (.cells #[.func (.func 37) #[] #[]] 93)).alloc (.cells #[.int .i64 0] 3)) := ((Kept.refl [] w).alloc _).alloc _
  simp only [World.size_alloc] at h4
  obtain ⟨w5, hw5⟩ : ∃ w5, (w.alloc (.cells #[.func (.func 37) #[] #[]] 93)).alloc (.cells #[.int .i64 0] 3) = w5 := ⟨_, rfl⟩
  have h3 : Has w5 w.heap.size 93 [.func (.func 37) #[] #[]] := hw5 ▸ h3
  have h4 : Has w5 (w.heap.size + 1) 3 [.int .i64 0] := hw5 ▸ h4
  simp only [hw5] at k5 ⊢
  have H3 := Lib.hid h3
  have H4 := Lib.hid h4
  have K5 := Lib.hid k5
  have hsz := k5.more
  clear h3 h4 k5 hw5
  refine Rk.wpIn_range rfl (by decide) (gf := 57) (lb := #[.pointer (some ⟨bb, 0, none⟩), .pointer (some ⟨bs, 0, none⟩)]) rfl trivial (enters_of Tryz.func57 (by kernel_rfl) rfl)
    (stretches_seq 6 (by decide) [w.heap.size + 1] bb bs vp p cs bl HSr.out (Hk.out.trans K5.out) (HBb.out.keep0 K5.out) (HBs.out.keep0 K5.out) (fun b hb => by rw [List.mem_singleton.1 hb]; exact H4.out.lt))
    (fun h k => h.trans k) (fun X r r' h => Kc.put X _ _ _ h rfl) (Below.refl _ _) (fun _ => rfl)
    (fun pre X => Has X (w.heap.size + 1) 3 [.int .i64 (maxL (valsS pre) : Nat)] ∧ Has X w.heap.size 93 [.func (.func 37) #[] #[]] ∧ Kept [] w X)
    (fun _ _ _ => False)
    (OwnFrom.and (own_has (f := fun pre => [.int .i64 (maxL (valsS pre) : Nat)])) (OwnFrom.and (own_has (f := fun _ => [.func (.func 37) #[] #[]])) (own_kept hsz)))
    (fun _ _ _ _ _ hs _ _ => hs)
    ⟨H4.out, H3.out, K5.out⟩
    (fun x a' X => ∃ Bx, Has X Bx 86 [.int .i64 (x.1.1 : Int), .int .i64 (x.1.2 : Int)] ∧ a' = { tmps := #[.func (.func 57) #[] #[.pointer (some ⟨bb, 0, none⟩), .pointer (some ⟨bs, 0, none⟩)], .func (.func 37) #[] #[], undef, .pointer (some ⟨w.heap.size, 0, none⟩), .int .i64 0, .pointer (some ⟨w.heap.size + 1, 0, none⟩), .pointer (some ⟨Bx, 0, none⟩), .func (.func 57) #[] #[.pointer (some ⟨bb, 0, none⟩), .pointer (some ⟨bs, 0, none⟩)], .agg #[.int .i64 (x.1.1 : Int), .int .i64 (x.1.2 : Int)], undef, undef, undef, undef, undef, undef], defers := [] })
    (fun x a' _ X Y row hs hg hr => by
      obtain ⟨Bx, h2, h3⟩ := hs
      exact ⟨Bx, own_has (β := Unit) (f := fun _ => [.int .i64 (x.1.1 : Int), .int .i64 (x.1.2 : Int)]) () X Y row h2 hg hr, h3⟩)
    ?assign ?body ?done ?stop
  case assign =>
    rintro l pre x X T ⟨h4, h3, h5⟩ hT
    unfold encS
    have HT' := Lib.hid hT
    have H3' := Lib.hid h3
    have H4' := Lib.hid h4
    have H5' := Lib.hid h5
    clear h3 h4 h5 hT
    gi_wp2
    have hkn : Kept [] X (X.alloc (.cells #[.int .i64 (x.1.1 : Int), .int .i64 (x.1.2 : Int)] 86)) := (Kept.refl [] X).alloc _
    exact HT'.out _ _ (keepsFrom_of hkn (by simp)) (Kc.keep0 hkn) ⟨H4'.out.keep0 hkn, H3'.out.keep0 hkn, H5'.out.trans hkn⟩ ⟨X.heap.size, Has.new X _ _, rfl⟩
  case body =>
    rintro l pre x a' X ⟨h4, h3, hk⟩ ⟨Bx, hX, rfl⟩ _
    have hsn : maxL (valsS (pre ++ [x])) = max (maxL (valsS pre)) x.1.2 := by rw [valsS_snoc, maxL_snoc]
    obtain ⟨⟨xa, xk⟩, hxm⟩ := x
    simp only at hX hsn
    obtain ⟨m, hm⟩ : ∃ m, maxL (valsS pre) = m := ⟨_, rfl⟩
    rw [hm] at h4 hsn
    have c3 := cell_regrown (show X.cell? ⟨w.heap.size, 0, none⟩ = some (.func (.func 37) #[] #[]) from h3.cell 0)
    have c4 := cell_regrown (show X.cell? ⟨w.heap.size + 1, 0, none⟩ = some (.int .i64 (m : Int)) from h4.cell 0)
    have x0 := cell_regrown (show X.cell? ⟨Bx, 0, none⟩ = some (.int .i64 (xa : Int)) from hX.cell 0)
    have x1 := cell_regrown (show X.cell? ⟨Bx, 1, none⟩ = some (.int .i64 (xk : Int)) from hX.cell 1)
    have cC : ∀ d os, Calls Tryz.prog 37 #[.agg #[.int .i64 (xa : Int), .int .i64 (xk : Int)]] (grow (redrawn X d) os) fun e w'' => e = .returned (.int .i64 (xk : Int)) ∧ ∃ p : Regrown, w'' = grow (redrawn X p.d) p.os :=
      fun d os => Calls.regrown_of ((length_ok xa xk _).mono fun _ _ ⟨he, hk⟩ => ⟨he, hk.below (Nat.le_refl _) (by simp)⟩)
    have CC := Lib.hid cC
    have Hsn := Lib.hid hsn
    have H3' := Lib.hid h3
    have H4' := Lib.hid h4
    have Hk := Lib.hid hk
    clear h4 h3 hk hX hsn hm cC
    dsimp only
    gi_wp2_with (fail)
    refine Rk.wpIn_head (r := some l) (C := fun w' => ∃ p : Regrown, w' = grow (redrawn X p.d) p.os) 4 (by kernel_rfl) (by kernel_rfl) ⟨⟨X.drawn + 1, #[]⟩, by rw [grow_empty]; rfl⟩ ?_
    simp only [List.take_succ_cons, List.take_zero, List.drop_succ_cons, List.drop_zero]
    repeat (quiet_step (exact CC.out _ _))
    refine wpQuiet_nil ?_
    rintro _ ⟨⟨dq, osq⟩, rfl⟩
    rw [← Rk.fence_round]
    have hk3 := Kept.ofBelow (below_regrown X dq osq) []
    clear c3 c4 x0 x1 CC
    generalize grow (redrawn X dq) osq = Y at hk3 ⊢
    have h43 := H4'.out.keep0 hk3
    have c4 := h43.cell 0
    have f4 := h43.free 0
    simp at c4
    have Hk3 := Lib.hid hk3
    have H43 := Lib.hid h43
    clear hk3 h43
    gi_wp2_with (fail)
    have hKS : Kept [w.heap.size + 1] Y (Y.setCell ⟨w.heap.size + 1, 0, none⟩ (.int .i64 (max (m : Int) (xk : Int)))) := (Kept.refl _ Y).setCell _ _ (.inl (by simp))
    refine ⟨(keepsFrom_of Hk3.out (by simp)).trans (keepsFrom_of hKS (fun b hb => ?_)), (Kc.keep0 Hk3.out).trans (Kc.of hKS (fun b hb => hb)), ?_, ((H3'.out.keep0 Hk3.out).kept hKS (by simp)), (Hk.out.trans Hk3.out).forget hKS (by simp)⟩
    · rw [List.mem_singleton.1 hb]
      exact ⟨_, _, H43.out⟩
    · rw [Hsn.out]
      have h := H43.out.put 0 (.int .i64 (max (m : Int) (xk : Int)))
      rw [show ((max m xk : Nat) : Int) = max (m : Int) (xk : Int) by omega]
      exact h
  case done =>
    rintro D xs X hD hx ⟨h4, h3, hk⟩ hK
    rw [hx] at h4
    have c4 := h4.cell 0
    simp at c4
    have HKd := Lib.hid hK
    have Hk := Lib.hid hk
    clear hK hk h4 h3 hx
    gi_wp2
    refine ⟨by simp, .inl ⟨_, _, rfl, run_takeDeferred HKd.out, ?_⟩⟩
    exact ⟨_, results_tmp rfl _ _ _, rfl, kept_put Hk.out D _ (Nat.le_trans hsz hD)⟩
  case stop =>
    rintro D c pre X _ _ h _
    exact h.elim
end Go.Proofs.YtoagghileebokaaGreatDoor.Ft

/-
  Stage 13, fit: the contracts of check, First, Most, Free and Place.
-/
namespace Go.Proofs.YtoagghileebokaaGreatDoor.Ft
open Go.RowKit Go.Proofs.YtoagghileebokaaGreatDoor.Ar Go.Proofs.YtoagghileebokaaGreatDoor.Lk Go.Shelf Go.Sort
open Go.Proofs.YtoagghileebokaaGreatDoor.Sp (Cel tot Tiled Has0 Ids gran tot_of)
open Go.Proofs.YtoagghileebokaaGreatDoor.Hd (ofL)
open Go.Proofs.YtoagghileebokaaGreatDoor.Tb (Ty sizeT sizeE)
open Go.Proofs.YtoagghileebokaaGreatDoor.Bk (Pb hasL listL I64)
set_option linter.unusedVariables false
attribute [local go_sem] Oper.semAt_some

section
variable {w x : World} {s : Ids} {l : List Ty} {cs : List Cel}
theorem gran_of (h : Has0 w x s l cs) : ∃ g : Int, tot cs = g ∧ g ≤ 32768 ∧ 0 ≤ g ∧ ∀ y, Kept [] x y → Calls Tryz.prog 42 #[.pointer (some ⟨s.sp, 0, none⟩)] y fun e z => e = .returned (.int .i64 g) ∧ y = z := by
  obtain ⟨ws, bs, m⟩ := h
  have h1 := m.spc.short
  have h2 : gran ws = (ws.length : Int) / 2 := rfl
  exact ⟨gran ws, tot_of m.snd, by omega, by omega, fun y k => Sp.granules_ok (m.spc.keep0 k)⟩
theorem check_none (h : Has0 w x s l cs) : Calls Tryz.prog 31 #[.pointer (some ⟨s.sp, 0, none⟩), .pointer none] x fun e y => e = .returned (.int .i64 0) ∧ Kept [] x y := by
  go_enter Tryz.func31, Tryz.ntmps31
  go_wp2_with fail
  go_ret
  exact ⟨rfl, Kept.refl _ _⟩
theorem check_some (h : Has0 w x s l cs) {p : Nat} {T : List Nat} {ls : List Int} (hp : Pb w x p T ls) : Calls Tryz.prog 31 #[.pointer (some ⟨s.sp, 0, none⟩), .pointer (some ⟨p, 0, none⟩)] x fun e y => e = .returned (.int .i64 (if (ls.length : Int) = tot cs then 0 else 2)) ∧ Kept [] x y := by
  obtain ⟨g, hg, g1, g2, hG⟩ := gran_of h
  have HG := Lib.hid (hG x (Kept.refl _ _))
  have HL := Lib.hid (Bk.pb_len hp)
  have hfew := (Bk.Pb.aged hp).2
  rw [hg]
  obtain ⟨m, hm⟩ : ∃ m, ls.length = m := ⟨_, rfl⟩
  rw [hm] at HL hfew ⊢
  clear hG hp h hg hm
  by_cases he : (m : Int) = g
  · rw [if_pos he]
    subst he
    go_enter Tryz.func31, Tryz.ntmps31
    go_wp2_with fail
    refine HL.out.mono ?_
    rintro e y ⟨rfl, rfl⟩
    go_wp2_with fail
    refine HG.out.mono ?_
    rintro e y ⟨rfl, rfl⟩
    go_wp2_with fail
    go_ret
    exact ⟨rfl, Kept.refl _ _⟩
  · rw [if_neg he]
    have hb : ((m : Int) == g) = false := by simpa using he
    have HB := Lib.hid he
    clear he
    go_enter Tryz.func31, Tryz.ntmps31
    go_wp2_with fail
    refine HL.out.mono ?_
    rintro e y ⟨rfl, rfl⟩
    go_wp2_with fail
    refine HG.out.mono ?_
    rintro e y ⟨rfl, rfl⟩
    go_wp2_with fail
    go_ret
    exact ⟨rfl, Kept.refl _ _⟩
theorem check_ok {vb : Value} {bl : Nat → Bool} {T : List Nat} (h : Both Wd.Table w x s l cs vb bl T) : Calls Tryz.prog 31 #[.pointer (some ⟨s.sp, 0, none⟩), vb] x fun e y => e = .returned (.int .i64 0) ∧ Kept [] x y := by
  rcases h.lst with ⟨rfl, _, _⟩ | ⟨p, ls, rfl, hp, hN, _⟩
  · exact check_none h.spc
  · have := check_some h.spc hp
    rw [if_pos hN] at this
    exact this
theorem check_nil {w x : World} {vb : Value} {N : Int} {bl : Nat → Bool} {T : List Nat} (h : LB w x vb N bl T) : Calls Tryz.prog 31 #[.pointer none, vb] x fun e y => e = .returned (.int .i64 1) ∧ Kept [] x y := by
  rcases h with ⟨rfl, _, _⟩ | ⟨p, ls, rfl, hp, _, _⟩
  · go_enter Tryz.func31, Tryz.ntmps31
    go_wp2_with fail
    go_ret
    exact ⟨rfl, Kept.refl _ _⟩
  · clear hp
    go_enter Tryz.func31, Tryz.ntmps31
    go_wp2_with fail
    go_ret
    exact ⟨rfl, Kept.refl _ _⟩
theorem lb_one {w x : World} {vb : Value} {N : Int} {bl : Nat → Bool} {T : List Nat} (h : LB w x vb N bl T) : ∃ A, vb = .pointer A := by
  rcases h with ⟨rfl, _, _⟩ | ⟨p, ls, rfl, _, _, _⟩
  · exact ⟨_, rfl⟩
  · exact ⟨_, rfl⟩
/-- The boxes of stretches, and all that is behind them. -/
theorem boxes_of (p A : Option Addr) (y : World) : Has ((y.alloc (.cells #[.pointer p] 29)).alloc (.cells #[.pointer A] 31)) y.heap.size 29 [.pointer p] ∧ Has ((y.alloc (.cells #[.pointer p] 29)).alloc (.cells #[.pointer A] 31)) (y.heap.size + 1) 31 [.pointer A] ∧
    Kept [] y ((y.alloc (.cells #[.pointer p] 29)).alloc (.cells #[.pointer A] 31)) := by
  refine ⟨(Has.new y 29 [.pointer p]).alloc _, ?_, ((Kept.refl [] y).alloc _).alloc _⟩
  have := Has.new (y.alloc (.cells #[.pointer p] 29)) 31 [.pointer A]
  rwa [World.size_alloc] at this
theorem first_ok {vb : Value} {bl : Nat → Bool} {T : List Nat} (n : Nat) (h : Both Wd.Table w x s l cs vb bl T) (h1 : 1 ≤ n) (h2 : n ≤ 9223372036854775807) :
    Calls Tryz.prog 15 #[.pointer (some ⟨s.sp, 0, none⟩), vb, .int .i64 (n : Int)] x fun e y => e = .returned (firstV bl cs n) ∧ Kept [] x y := by
  have hsrc := src_of h
  obtain ⟨ws, l', hT, hN⟩ := hsrc.till
  have HC := Lib.hid (check_ok h)
  obtain ⟨A, rfl⟩ := lb_one h.lst
  have HSt := Lib.hid (fun y => stretches_ok (some ⟨s.sp, 0, none⟩) (.pointer A) rfl y)
  have HLw : Hid (∀ y, Kept [] x y → _) := Lib.hid fun y (k : Kept [] x y) => lowest_ok hsrc (k.trans (boxes_of (some ⟨s.sp, 0, none⟩) A y).2.2) (boxes_of (some ⟨s.sp, 0, none⟩) A y).2.1 (boxes_of (some ⟨s.sp, 0, none⟩) A y).1 n h2
  have HV : Hid ((∀ B q C, strF bl cs = B ++ q :: C → (∀ r ∈ B, r.2 < n) → n ≤ q.2 → firstV bl cs n = .tuple #[.int .i64 (q.1 : Int), .int .i64 0]) ∧ ((∀ r ∈ strF bl cs, r.2 < n) → firstV bl cs n = .tuple #[.int .i64 0, .int .i64 4])) := Lib.hid
    ⟨fun B q C e hB hq => by unfold firstV; rw [first_some_of hT h1 e hB hq]; rfl, fun hr => by unfold firstV; rw [first_none_of hT h1 hr]; rfl⟩
  clear hsrc hT hN h
  go_enter Tryz.func15, Tryz.ntmps15
  go_wp2_with fail
  refine HC.out.mono ?_
  rintro e y ⟨rfl, hy⟩
  have HL := Lib.hid (HLw.out y hy)
  have HS := Lib.hid (HSt.out y)
  have HY := Lib.hid hy
  have HK2 := Lib.hid (hy.trans (boxes_of (some ⟨s.sp, 0, none⟩) A y).2.2)
  clear HLw HSt hy HC
  go_wp2_with fail
  refine HS.out.mono ?_
  rintro e z ⟨rfl, rfl⟩
  clear HS
  go_wp2_with fail
  refine HL.out.mono ?_
  rintro e z ⟨(⟨B, q, C, h3, h4, h5, rfl⟩ | ⟨h3, rfl⟩), hz⟩
  · have HE := Lib.hid (HV.out.1 B q C h3 h4 h5)
    have HZ := Lib.hid (HK2.out.trans hz)
    clear HL HV h3 h4 h5 hz HK2 HY
    go_wp2_with fail
    go_ret2
    exact ⟨by rw [HE.out]; rfl, HZ.out⟩
  · have HE := Lib.hid (HV.out.2 h3)
    have HZ := Lib.hid (HK2.out.trans hz)
    clear HL HV h3 hz HK2 HY
    go_wp2_with fail
    go_ret2
    exact ⟨by rw [HE.out]; rfl, HZ.out⟩
theorem first_bad {vb : Value} {bl : Nat → Bool} {T : List Nat} (n : Int) (h : Both Wd.Table w x s l cs vb bl T) (hI : I64 n) (hn : n < 1) :
    Calls Tryz.prog 15 #[.pointer (some ⟨s.sp, 0, none⟩), vb, .int .i64 n] x fun e y => e = .returned (.tuple #[.int .i64 0, .int .i64 2]) ∧ Kept [] x y := by
  have HC := Lib.hid (check_ok h)
  clear h
  go_enter Tryz.func15, Tryz.ntmps15
  go_wp2_with fail
  refine HC.out.mono ?_
  rintro e y ⟨rfl, hy⟩
  have HY := Lib.hid hy
  clear hy HC
  go_wp2_with fail
  go_ret2
  exact ⟨rfl, HY.out⟩
/-- Where check tells an error. -/
theorem first_err {x : World} {a b : Value} {er : Int} (n : Int) (he : er = 1 ∨ er = 2) (h : Calls Tryz.prog 31 #[a, b] x fun e y => e = .returned (.int .i64 er) ∧ Kept [] x y) :
    Calls Tryz.prog 15 #[a, b, .int .i64 n] x fun e y => e = .returned (.tuple #[.int .i64 0, .int .i64 er]) ∧ Kept [] x y := by
  have HC := Lib.hid h
  clear h
  rcases he with rfl | rfl
  all_goals
    go_enter Tryz.func15, Tryz.ntmps15
    go_wp2_with fail
    refine HC.out.mono ?_
    rintro e y ⟨rfl, hy⟩
    have HY := Lib.hid hy
    clear hy HC
    go_wp2_with fail
    go_ret2
    exact ⟨rfl, HY.out⟩
theorem most_err {x : World} {a b : Value} {er : Int} (he : er = 1 ∨ er = 2) (h : Calls Tryz.prog 31 #[a, b] x fun e y => e = .returned (.int .i64 er) ∧ Kept [] x y) :
    Calls Tryz.prog 18 #[a, b] x fun e y => e = .returned (.tuple #[.int .i64 0, .int .i64 er]) ∧ Kept [] x y := by
  have HC := Lib.hid h
  clear h
  rcases he with rfl | rfl
  all_goals
    go_enter Tryz.func18, Tryz.ntmps18
    go_wp2_with fail
    refine HC.out.mono ?_
    rintro e y ⟨rfl, hy⟩
    have HY := Lib.hid hy
    clear hy HC
    go_wp2_with fail
    go_ret2
    exact ⟨rfl, HY.out⟩
theorem most_ok {vb : Value} {bl : Nat → Bool} {T : List Nat} (h : Both Wd.Table w x s l cs vb bl T) :
    Calls Tryz.prog 18 #[.pointer (some ⟨s.sp, 0, none⟩), vb] x fun e y => e = .returned (.tuple #[.int .i64 (mostF bl cs : Nat), .int .i64 0]) ∧ Kept [] x y := by
  have hsrc := src_of h
  obtain ⟨ws, l', hT, hN⟩ := hsrc.till
  have HC := Lib.hid (check_ok h)
  obtain ⟨A, rfl⟩ := lb_one h.lst
  have HSt := Lib.hid (fun y => stretches_ok (some ⟨s.sp, 0, none⟩) (.pointer A) rfl y)
  have HLw : Hid (∀ y, Kept [] x y → _) := Lib.hid fun y (k : Kept [] x y) => greatest_ok hsrc (k.trans (boxes_of (some ⟨s.sp, 0, none⟩) A y).2.2) (boxes_of (some ⟨s.sp, 0, none⟩) A y).2.1 (boxes_of (some ⟨s.sp, 0, none⟩) A y).1
  rw [most_of hT]
  clear hsrc hT hN h
  go_enter Tryz.func18, Tryz.ntmps18
  go_wp2_with fail
  refine HC.out.mono ?_
  rintro e y ⟨rfl, hy⟩
  have HL := Lib.hid (HLw.out y hy)
  have HS := Lib.hid (HSt.out y)
  have HK2 := Lib.hid (hy.trans (boxes_of (some ⟨s.sp, 0, none⟩) A y).2.2)
  clear HLw HSt hy HC
  go_wp2_with fail
  refine HS.out.mono ?_
  rintro e z ⟨rfl, rfl⟩
  clear HS
  go_wp2_with fail
  refine HL.out.mono ?_
  rintro e z ⟨rfl, hz⟩
  have HZ := Lib.hid (HK2.out.trans hz)
  clear HL hz HK2
  go_wp2_with fail
  go_ret2
  exact ⟨rfl, HZ.out⟩
end
end Go.Proofs.YtoagghileebokaaGreatDoor.Ft
