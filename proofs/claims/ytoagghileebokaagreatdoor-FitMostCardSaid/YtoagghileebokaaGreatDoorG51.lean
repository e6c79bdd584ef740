/-
  Several texts in one: FtPlace, FtOwnCtr.
-/
import Derived.Test.YtoagghileebokaaGreatDoorG50
/-
  Stage 13, fit: the contracts of Free and Place.
-/
namespace Go.Proofs.YtoagghileebokaaGreatDoor.Ft
open Go.RowKit Go.Proofs.YtoagghileebokaaGreatDoor.Ar Go.Proofs.YtoagghileebokaaGreatDoor.Lk Go.Shelf Go.Sort
open Go.Proofs.YtoagghileebokaaGreatDoor.Sp (Cel tot Tiled Has0 Ids gran tot_of)
open Go.Proofs.YtoagghileebokaaGreatDoor.Hd (ofL of_facts)
open Go.Proofs.YtoagghileebokaaGreatDoor.Tb (Ty sizeT sizeE)
open Go.Proofs.YtoagghileebokaaGreatDoor.Bk (Pb hasL listL I64)
set_option linter.unusedVariables false
attribute [local go_sem] Oper.semAt_some

theorem free_err {x : World} {a b : Value} {er : Int} (he : er = 1 ∨ er = 2) (h : Calls Tryz.prog 31 #[a, b] x fun e y => e = .returned (.int .i64 er) ∧ Kept [] x y) :
    Calls Tryz.prog 14 #[a, b] x fun e y => e = .returned (.tuple #[.int .i64 0, .int .i64 er]) ∧ Kept [] x y := by
  have HC := Lib.hid h
  clear h
  rcases he with rfl | rfl
  all_goals
    go_enter Tryz.func14, Tryz.ntmps14
    go_wp2_with fail
    refine HC.out.mono ?_
    rintro e y ⟨rfl, hy⟩
    have HY := Lib.hid hy
    clear hy HC
    go_wp2_with fail
    go_ret2
    exact ⟨rfl, HY.out⟩
section
variable {w x : World} {s : Ids} {l : List Ty} {cs : List Cel}
set_option maxRecDepth 100000 in
set_option maxHeartbeats 4000000 in
theorem free_ok {vb : Value} {bl : Nat → Bool} {T : List Nat} (h : Both Wd.Table w x s l cs vb bl T) :
    Calls Tryz.prog 14 #[.pointer (some ⟨s.sp, 0, none⟩), vb] x fun e y => e = .returned (.tuple #[.int .i64 (freeF bl cs : Nat), .int .i64 0]) ∧ Kept [] x y := by
  have hsrc := src_of h
  obtain ⟨ws, l', hT, hN⟩ := hsrc.till
  have HC := Lib.hid (check_ok h)
  obtain ⟨A, rfl⟩ := lb_one h.lst
  have HSt := Lib.hid (fun y => stretches_ok (some ⟨s.sp, 0, none⟩) (.pointer A) rfl y)
  have hfew : sumL (strF bl cs) ≤ 32768 := by have := strF_few (bl := bl) hT; omega
  rw [free_of hT]
  have HSr := Lib.hid hsrc
  clear hsrc hT hN h
  refine (callsIn_wide (n := 7)).1 ?_
  refine callsIn_of_wp_marks Tryz.func14 rfl trivial ?_ rfl
  simp only [Tryz.ntmps14, List.size_toArray, List.length_cons, List.length_nil, Nat.reduceAdd, Nat.reduceSub, Array.replicate_succ, Array.replicate_zero, List.push_toArray, List.append_toArray, List.nil_append, List.cons_append]
  gi_wp2_with (fail)
  refine ⟨trivial, (callsIn_wide.2 HC.out).mono ?_⟩
  rintro e y ⟨rfl, hy⟩
  have hna := Has.new y 3 [.int .i64 0]
  have kna : Kept [] y (y.alloc (.cells #[.int .i64 0] 3)) := (Kept.refl [] y).alloc _
  have HY := Lib.hid (hy.trans kna)
  have Hna := Lib.hid hna
  have Hysz := Lib.hid hy.more
  clear hy HC hna kna
  gi_wp2_with (fail)
  obtain ⟨w1, hw1⟩ : ∃ w1, y.alloc (.cells #[.int .i64 0] 3) = w1 := ⟨_, rfl⟩
  have hw1' : y.alloc (.cells [.int .i64 0].toArray 3) = w1 := hw1
  rw [hw1'] at Hna
  rw [hw1] at HY ⊢
  clear hw1 hw1'
  refine ⟨trivial, (callsIn_wide.2 (HSt.out w1)).mono ?_⟩
  rintro e z ⟨rfl, rfl⟩
  obtain ⟨hb1, hb2, kb⟩ := boxes_of (some ⟨s.sp, 0, none⟩) A w1
  have HB1 := Lib.hid hb1
  have HB2 := Lib.hid hb2
  have Hn := Lib.hid (Hna.out.keep0 kb)
  have K5 := Lib.hid (HY.out.trans kb)
  clear hb1 hb2 kb HSt HY Hna
  obtain ⟨w5, hw5⟩ : ∃ w5, (w1.alloc (.cells #[.pointer (some ⟨s.sp, 0, none⟩)] 29)).alloc (.cells #[.pointer A] 31) = w5 := ⟨_, rfl⟩
  rw [hw5] at HB1 HB2 Hn K5 ⊢
  clear hw5
  obtain ⟨bs, hbs⟩ : ∃ bs, w1.heap.size = bs := ⟨_, rfl⟩
  obtain ⟨bb, hbb⟩ : ∃ bb, bs + 1 = bb := ⟨_, rfl⟩
  obtain ⟨nb, hnb⟩ : ∃ nb, y.heap.size = nb := ⟨_, rfl⟩
  rw [hbs] at HB1 HB2 ⊢
  rw [hbb] at HB2 ⊢
  rw [hnb] at Hn Hysz ⊢
  have hxn := Hysz.out
  clear hbs hbb hnb
  gi_wp2_with (fail)
  refine Rk.wpIn_range rfl (by decide) (gf := 57) (lb := #[.pointer (some ⟨bb, 0, none⟩), .pointer (some ⟨bs, 0, none⟩)]) rfl trivial (enters_of Tryz.func57 (by kernel_rfl) rfl)
    (stretches_seq 6 (by decide) [nb] bb bs (.pointer A) (some ⟨s.sp, 0, none⟩) cs bl HSr.out K5.out HB2.out HB1.out (fun b hb => by rw [List.mem_singleton.1 hb]; exact Hn.out.lt))
    (fun h k => h.trans k) (fun X r r' h => Kc.put X _ _ _ h rfl) (Below.refl _ _) (fun _ => rfl)
    (fun pre X => Has X nb 3 [.int .i64 (sumL (valsS pre) : Nat)] ∧ Kept [] x X)
    (fun _ _ _ => False)
    (OwnFrom.and (own_has (f := fun pre => [.int .i64 (sumL (valsS pre) : Nat)])) (own_kept K5.out.more))
    (fun _ _ _ _ _ hs _ _ => hs)
    ⟨Hn.out, K5.out⟩
    (fun x a' X => ∃ Bx, Has X Bx 86 [.int .i64 (x.1.1 : Int), .int .i64 (x.1.2 : Int)] ∧ a' = { tmps := #[.pointer (some ⟨s.sp, 0, none⟩), .pointer A, undef, undef, .int .i64 0, .int .i64 0, .int .i64 0, .pointer (some ⟨nb, 0, none⟩), .pointer (some ⟨Bx, 0, none⟩), .pointer (some ⟨s.sp, 0, none⟩), .pointer A, .int .i64 0, .int .i64 0, .bool false, undef, .pointer (some ⟨s.sp, 0, none⟩), .pointer A, .func (.func 57) #[] #[.pointer (some ⟨bb, 0, none⟩), .pointer (some ⟨bs, 0, none⟩)], .agg #[.int .i64 (x.1.1 : Int), .int .i64 (x.1.2 : Int)], undef, undef, undef, undef, undef], defers := [] })
    (fun x a' _ X Y row hs hg hr => by
      obtain ⟨Bx, h2, h3⟩ := hs
      exact ⟨Bx, own_has (β := Unit) (f := fun _ => [.int .i64 (x.1.1 : Int), .int .i64 (x.1.2 : Int)]) () X Y row h2 hg hr, h3⟩)
    ?assign ?body ?done ?stop
  case assign =>
    rintro l pre x X T ⟨h4, h5⟩ hT
    unfold encS
    have HT' := Lib.hid hT
    have H4' := Lib.hid h4
    have H5' := Lib.hid h5
    clear h4 h5 hT
    gi_wp2
    have hkn : Kept [] X (X.alloc (.cells #[.int .i64 (x.1.1 : Int), .int .i64 (x.1.2 : Int)] 86)) := (Kept.refl [] X).alloc _
    exact HT'.out _ _ (keepsFrom_of hkn (by simp)) (Kc.keep0 hkn) ⟨H4'.out.keep0 hkn, H5'.out.trans hkn⟩ ⟨X.heap.size, Has.new X _ _, rfl⟩
  case body =>
    rintro l pre p a' X ⟨h4, hk⟩ ⟨Bx, hX, rfl⟩ ⟨rest, hrest⟩
    have hsn : sumL (valsS (pre ++ [p])) = sumL (valsS pre) + p.1.2 := by rw [valsS_snoc, sumL_snoc]
    have hle : sumL (valsS pre) + p.1.2 ≤ sumL (strF bl cs) := by
      have h1 := congrArg sumL hrest
      rw [sumL_append] at h1
      have h2 : sumL (p.1 :: rest) = p.1.2 + sumL rest := rfl
      omega
    obtain ⟨⟨xa, xk⟩, hxm⟩ := p
    simp only at hX hsn hle
    obtain ⟨m, hm⟩ : ∃ m, sumL (valsS pre) = m := ⟨_, rfl⟩
    rw [hm] at h4 hsn hle
    have c4 := h4.cell 0
    have f4 := h4.free 0
    have x1 := hX.cell 1
    simp at c4 x1
    have Hsn := Lib.hid hsn
    have H4' := Lib.hid h4
    have Hk := Lib.hid hk
    have hmk : m + xk ≤ 32768 := by omega
    clear h4 hk hX hsn hm hrest hle
    dsimp only
    gi_wp2_with (fail)
    have hKS : Kept [nb] X (X.setCell ⟨nb, 0, none⟩ (.int .i64 ((m : Int) + (xk : Int)))) := (Kept.refl _ X).setCell _ _ (.inl (by simp))
    refine ⟨keepsFrom_of hKS (fun b hb => ?_), Kc.of hKS (fun b hb => hb), ?_, Hk.out.forget hKS (fun b hb => by rw [List.mem_singleton.1 hb]; exact hxn)⟩
    · rw [List.mem_singleton.1 hb]
      exact ⟨_, _, H4'.out⟩
    · rw [Hsn.out]
      have h := H4'.out.put 0 (.int .i64 ((m : Int) + (xk : Int)))
      rw [Int.natCast_add]
      exact h
  case done =>
    rintro D xs X hD hx ⟨h4, hk⟩ hK
    rw [hx] at h4
    have c4 := h4.cell 0
    simp at c4
    have HKd := Lib.hid hK
    have Hk := Lib.hid hk
    clear hK hk h4 hx
    gi_wp2
    refine ⟨by simp, .inl ⟨_, _, rfl, run_takeDeferred HKd.out, ?_⟩⟩
    exact ⟨_, results_tmp2 rfl _ _ _, rfl, kept_put Hk.out D _ (Nat.le_trans K5.out.more hD)⟩
  case stop =>
    rintro D c pre X _ _ h _
    exact h.elim
/-! ### Place -/
theorem place_nil {x : World} (i n : Int) (b : Value) : Calls Tryz.prog 11 #[.pointer none, b, .int .i64 i, .int .i64 n] x fun e y => e = .returned (.tuple #[.int .i64 0, .int .i64 1]) ∧ Kept [] x y := by
  go_enter Tryz.func11, Tryz.ntmps11
  go_wp2_with fail
  go_ret2
  exact ⟨rfl, Kept.refl _ _⟩
theorem size_of (h : Has0 w x s l cs) (i n : Int) (hi : I64 i) : Calls Tryz.prog 9 #[.pointer (some ⟨s.sp, 0, none⟩)] x (fun e y => e = .returned (.pointer (some ⟨s.tp, 0, none⟩)) ∧ x = y) ∧
    Calls Tryz.prog 10 #[.pointer (some ⟨s.tp, 0, none⟩), .int .i64 i, .int .i64 n] x (fun e y => e = .returned (.tuple #[.int .i64 (sizeT l i n), .int .i64 (sizeE l i n)]) ∧ Kept [] x y) ∧ l.length ≤ 64 := by
  obtain ⟨ws, bs, m⟩ := h
  unfold Bk.I64 at hi
  exact ⟨Sp.table_ok m.spc, Tb.size_ok m.spc.tab i n hi.1 hi.2, m.spc.tab.len⟩
theorem size_nat {i n : Int} (he : sizeE l i n = 0) (hl : l.length ≤ 64) : ∃ z : Nat, sizeT l i n = (z : Int) ∧ 1 ≤ z ∧ z ≤ 40000 := by
  obtain ⟨sz, ho, s1, s2, _⟩ := of_facts he hl
  have hoT : ofL l i n = ⟨1, i, n, sizeT l i n⟩ := by unfold ofL Hd.ofH; rw [if_pos he]
  have hsz : sizeT l i n = sz := by
    have := hoT.symm.trans ho
    exact congrArg (fun h : Hd.Hd => h.sz) this
  exact ⟨sz.toNat, by omega, by omega, by omega⟩
/-- Place where the size, or First, tells an error; and where there is space. -/
theorem place_size (vb : Value) (i n er : Int) (h : Has0 w x s l cs) (hi : I64 i) (he : sizeE l i n = er) (h0 : er ≠ 0) :
    Calls Tryz.prog 11 #[.pointer (some ⟨s.sp, 0, none⟩), vb, .int .i64 i, .int .i64 n] x fun e y => e = .returned (.tuple #[.int .i64 0, .int .i64 er]) ∧ Kept [] x y := by
  obtain ⟨h1, h2, _⟩ := size_of h i n hi
  rw [he] at h2
  have H1 := Lib.hid h1
  have H2 := Lib.hid h2
  have hb : (er == 0) = false := by simpa using h0
  clear h1 h2 h he h0
  generalize sizeT l i n = z at *
  go_enter Tryz.func11, Tryz.ntmps11
  go_wp2_with fail
  refine H1.out.mono ?_
  rintro e y ⟨rfl, rfl⟩
  go_wp2_with fail
  refine H2.out.mono ?_
  rintro e y ⟨rfl, hy⟩
  have HY := Lib.hid hy
  clear hy H1 H2
  go_wp2_with fail
  go_ret2
  exact ⟨rfl, HY.out⟩
theorem place_first (vb : Value) (i n er : Int) (h : Has0 w x s l cs) (hi : I64 i) (he : sizeE l i n = 0) (h0 : er = 2 ∨ er = 4)
    (hF : ∀ y, Kept [] x y → Calls Tryz.prog 15 #[.pointer (some ⟨s.sp, 0, none⟩), vb, .int .i64 (sizeT l i n)] y fun e z => e = .returned (.tuple #[.int .i64 0, .int .i64 er]) ∧ Kept [] y z) :
    Calls Tryz.prog 11 #[.pointer (some ⟨s.sp, 0, none⟩), vb, .int .i64 i, .int .i64 n] x fun e y => e = .returned (.tuple #[.int .i64 0, .int .i64 er]) ∧ Kept [] x y := by
  obtain ⟨h1, h2, _⟩ := size_of h i n hi
  rw [he] at h2
  have H1 := Lib.hid h1
  have H2 := Lib.hid h2
  have HF := Lib.hid hF
  clear h1 h2 h he hF
  generalize sizeT l i n = z at *
  rcases h0 with rfl | rfl
  all_goals
    go_enter Tryz.func11, Tryz.ntmps11
    go_wp2_with fail
    refine H1.out.mono ?_
    rintro e y ⟨rfl, rfl⟩
    go_wp2_with fail
    refine H2.out.mono ?_
    rintro e y ⟨rfl, hy⟩
    have HFy := Lib.hid (HF.out y hy)
    have HY := Lib.hid hy
    clear hy H1 H2 HF
    go_wp2_with fail
    refine HFy.out.mono ?_
    rintro e q ⟨rfl, hq⟩
    have HQ := Lib.hid (HY.out.trans hq)
    clear hq HY HFy
    go_wp2_with fail
    go_ret2
    exact ⟨rfl, HQ.out⟩
theorem place_there {vb : Value} {bl : Nat → Bool} {T : List Nat} (i n : Int) (g : Nat) (h : Both Wd.Table w x s l cs vb bl T) (hi : I64 i) (he : sizeE l i n = 0) (hg : firstF bl cs (sizeT l i n).toNat = some g) :
    Calls Tryz.prog 11 #[.pointer (some ⟨s.sp, 0, none⟩), vb, .int .i64 i, .int .i64 n] x fun e y => e = .returned (.tuple #[.int .i64 (g : Int), .int .i64 0]) ∧ Has0 w y s l (putF cs g (ofL l i n)) ∧ Kept s.turn x y ∧ tot (putF cs g (ofL l i n)) = tot cs := by
  obtain ⟨h1, h2, hl⟩ := size_of h.spc i n hi
  obtain ⟨z, hz, z1, z2⟩ := size_nat he hl
  rw [he] at h2
  have HF : Hid (∀ y, Kept [] x y → Calls Tryz.prog 15 #[.pointer (some ⟨s.sp, 0, none⟩), vb, .int .i64 (z : Int)] y fun e q => e = .returned (.tuple #[.int .i64 (g : Int), .int .i64 0]) ∧ Kept [] y q) := Lib.hid fun y k => by
    have h3 := first_ok z (h.keep0 k) z1 (by omega)
    unfold firstV at h3
    rw [hz, Int.toNat_natCast] at hg
    rw [hg] at h3
    exact h3
  have HP : Hid (∀ y, Kept [] x y → Calls Tryz.prog 28 #[.pointer (some ⟨s.sp, 0, none⟩), .int .i64 g, .int .i64 i, .int .i64 n] y fun e q => e = .returned (.int .i64 0) ∧ Has0 w q s l (putF cs g (ofL l i n)) ∧ Kept s.turn y q ∧ tot (putF cs g (ofL l i n)) = tot cs) := Lib.hid fun y k => by
    unfold Bk.I64 at hi
    exact put_here (h.spc.keep0 k) hi.1 hi.2 he (first_some hg).2.1
  rw [hz] at h2
  have H1 := Lib.hid h1
  have H2 := Lib.hid h2
  clear h1 h2 h he hg hl hz
  generalize putF cs g (ofL l i n) = cs' at *
  go_enter Tryz.func11, Tryz.ntmps11
  go_wp2_with fail
  refine H1.out.mono ?_
  rintro e y ⟨rfl, rfl⟩
  go_wp2_with fail
  refine H2.out.mono ?_
  rintro e y ⟨rfl, hy⟩
  have HFy := Lib.hid (HF.out y hy)
  have HY := Lib.hid hy
  clear hy H1 H2 HF
  go_wp2_with fail
  refine HFy.out.mono ?_
  rintro e q ⟨rfl, hq⟩
  have HPq := Lib.hid (HP.out q (HY.out.trans hq))
  have HQ := Lib.hid (HY.out.trans hq)
  clear hq HY HFy HP
  go_wp2_with fail
  refine HPq.out.mono ?_
  rintro e r ⟨rfl, r1, r2, r3⟩
  have HR := Lib.hid r1
  have HR2 := Lib.hid ((HQ.out.none _).trans r2)
  have HR3 := Lib.hid r3
  clear r1 r2 r3 HPq HQ
  go_wp2_with fail
  go_ret2
  exact ⟨rfl, HR.out, HR2.out, HR3.out⟩
end
end Go.Proofs.YtoagghileebokaaGreatDoor.Ft

/-
  Stage 13, fit: the bundle of contracts that the laws ask, out of the program's functions; the table of the lowest bits stands from the start.
-/
namespace Go.Proofs.YtoagghileebokaaGreatDoor.Ft
open Go.RowKit Go.Proofs.YtoagghileebokaaGreatDoor.Ar
open Go.Proofs.YtoagghileebokaaGreatDoor.Sp (Cel tot Has0 Ids)
open Go.Proofs.YtoagghileebokaaGreatDoor.Hd (ofL)
open Go.Proofs.YtoagghileebokaaGreatDoor.Tb (Ty sizeT sizeE)
open Go.Proofs.YtoagghileebokaaGreatDoor.Bk (Pb I64)
set_option linter.unusedVariables false

theorem check_other {w x : World} {s : Ids} {l : List Ty} {cs : List Cel} {p : Nat} {T : List Nat} {ls : List Int} (h : Has0 w x s l cs) (hp : Pb w x p T ls) (hne : (ls.length : Int) ≠ tot cs) :
    Calls Tryz.prog 31 #[.pointer (some ⟨s.sp, 0, none⟩), .pointer (some ⟨p, 0, none⟩)] x fun e y => e = .returned (.int .i64 2) ∧ Kept [] x y := by
  have := check_some h hp
  rw [if_neg hne] at this
  exact this
theorem ownF : FCtr Wd.Table where
  keep := fun h k => Bt.tableKeep h k
  first := fun n h h1 h2 => first_ok n h h1 h2
  bad := fun n h hI hn => first_bad n h hI hn
  most := fun h => most_ok h
  free := fun h => free_ok h
  place_err := fun i n h hi hn he => place_size _ i n _ h.spc hi rfl he
  place_full := fun {w x s l cs vb bl T} i n h hi hn he hf => by
    obtain ⟨_, _, hl⟩ := size_of h.spc i n hi
    obtain ⟨z, hz, z1, z2⟩ := size_nat he hl
    refine place_first vb i n 4 h.spc hi he (.inr rfl) fun y k => ?_
    have h3 := first_ok z (h.keep0 k) z1 (by omega)
    unfold firstV at h3
    rw [hz, Int.toNat_natCast] at hf
    rw [hf] at h3
    rw [hz]
    exact h3
  place_yes := fun i n g h hi hn he hf => place_there i n g h hi he hf
theorem ownFN : FNil Wd.Table where
  first := fun n _ h hI => first_err n (.inl rfl) (check_nil h)
  place := fun i n _ _ _ => place_nil i n _
  most := fun {x} _ => most_err (.inl rfl) (check_nil (w := x) (N := 0) LB.none)
  free := fun {x} _ => free_err (.inl rfl) (check_nil (w := x) (N := 0) LB.none)
  first_other := fun n _ h hp hne hI => first_err n (.inr rfl) (check_other h hp hne)
  most_other := fun _ h hp hne => most_err (.inr rfl) (check_other h hp hne)
  free_other := fun _ h hp hne => free_err (.inr rfl) (check_other h hp hne)
  place_other := fun i n _ h hp hne hi hn he => place_first _ i n 2 h hi he (.inl rfl) fun y k => first_err _ (.inr rfl) (check_other (h.keep0 k) (hp.keep0 k) hne)
end Go.Proofs.YtoagghileebokaaGreatDoor.Ft
