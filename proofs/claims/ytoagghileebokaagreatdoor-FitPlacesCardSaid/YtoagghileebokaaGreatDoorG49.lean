/-
  Several texts in one: FtOpen, FtLowest.
-/
import Derived.Test.YtoagghileebokaaGreatDoorG52
import Derived.Test.YtoagghileebokaaGreatDoorG32
import Derived.Test.YtoagghileebokaaGreatDoorG02
import Derived.ChangeArms
import Derived.Test.YtoagghileebokaaGreatDoorG48
import Derived.Test.YtoagghileebokaaGreatDoorG13
import Derived.BigQuiet
/-
  Stage 13, fit: how a law's case reads.
-/
namespace Go.Proofs.YtoagghileebokaaGreatDoor.Ft
open Go.Proofs.YtoagghileebokaaGreatDoor.Ar Go.RowKit Go.ChangeShapes Go.WideShapes
open Go.Proofs.YtoagghileebokaaGreatDoor.Bk (I64)
set_option linter.unusedVariables false
section
variable {H : Type} {enc : TypeId × Value → H} {w : World} {base : Nat} {spare : Nat → Bool} {held : Bool} {fuel : Nat}
theorem slice_types {c : Value} {x : DataW H × List MemPlace} (h : DataW.trod enc Tryz.prog w base spare held fuel 22 [c] = some x) : ∃ A len cap, c = .slice A len cap := by
  rcases Go.Deep.open_slice Tryz.underlying22 h with ⟨hcs, _⟩ | ⟨a, l, c', m, n, D, Pl, hcs, _⟩
  · simp at hcs
    exact ⟨_, _, _, hcs⟩
  · simp at hcs
    exact ⟨_, _, _, hcs⟩
theorem slice_steps {c : Value} {x : DataW H × List MemPlace} (h : DataW.trod enc Tryz.prog w base spare held fuel 23 [c] = some x) : ∃ A len cap, c = .slice A len cap := by
  rcases Go.Deep.open_slice Tryz.underlying23 h with ⟨hcs, _⟩ | ⟨a, l, c', m, n, D, Pl, hcs, _⟩
  · simp at hcs
    exact ⟨_, _, _, hcs⟩
  · simp at hcs
    exact ⟨_, _, _, hcs⟩
theorem slice_ints {c : Value} {x : DataW H × List MemPlace} (h : DataW.trod enc Tryz.prog w base spare held fuel 24 [c] = some x) : ∃ A len cap, c = .slice A len cap ∧ len ≤ maxLen := by
  rcases Go.Deep.open_slice Tryz.underlying24 h with ⟨hcs, _⟩ | ⟨a, l, c', m, n, D, Pl, hcs, _, hl, hm, hmm, _, hx⟩
  · simp at hcs
    exact ⟨_, _, _, hcs, by unfold maxLen; omega⟩
  · simp at hcs
    exact ⟨_, _, _, hcs, by omega⟩
set_option maxRecDepth 100000 in
theorem case_read {cs : List Value} {x : DataW H × List MemPlace} (h : DataW.trod enc Tryz.prog w base spare held fuel 26 cs = some x) (hw : ∀ n ∈ x.1.weights Tryz.prog 26, n ≤ reachBytes) : ∃ c : Cs, cs = c.cells ∧ c.In w := by
  obtain ⟨xs, m, _, hx, hlen, hxl, hf⟩ := DataW.trod_struct Tryz.underlying26 h
  have hC : Tryz.prog.cellsOf 26 = 5 := by kernel_rfl
  have hI : Tryz.prog.cellsOf 3 = 1 := by kernel_rfl
  have hT : Tryz.prog.cellsOf 22 = 1 := by kernel_rfl
  have hS : Tryz.prog.cellsOf 23 = 1 := by kernel_rfl
  have hL : Tryz.prog.cellsOf 24 = 1 := by kernel_rfl
  have hB : Tryz.prog.cellsOf 4 = 1 := by kernel_rfl
  rw [hC] at hlen
  match cs, hlen, xs, hxl with
  | [c0, c1, c2, c3, c4], _, [y0, y1, y2, y3, y4], _ =>
    have g0 := hf 0 _ rfl
    have g1 := hf 1 _ rfl
    have g2 := hf 2 _ rfl
    have g3 := hf 3 _ rfl
    have g4 := hf 4 _ rfl
    simp [hI, hT, hS, hL, hB] at g0 g1 g2 g3 g4
    obtain ⟨a, e0, _, w0⟩ := DataW.trod_int Tryz.underlying3 g0
    obtain ⟨b, e4, _⟩ := DataW.trod_bool Tryz.underlying4 g4
    obtain ⟨A1, len1, cap1, e1⟩ := slice_types g1
    obtain ⟨A2, len2, cap2, e2⟩ := slice_steps g2
    obtain ⟨A3, len3, cap3, e3, h3⟩ := slice_ints g3
    simp at e0 e4
    subst e0 e1 e2 e3 e4
    obtain ⟨l, rfl, lc1, cm1, s1, n1, o1⟩ := Tb.types_of g1
    obtain ⟨L, rfl, lc2, cm2, s2, o2, r2⟩ := Wk.steps_read g2 (fun q hq => hw q (by
      rw [hx]
      simp only [DataW.weights, Tryz.underlying26]
      simp only [List.map_cons, List.map_nil, DataW.weightsEach, List.mem_append]
      exact .inr (.inr (.inl hq))))
    obtain ⟨⟨gs, rfl, s3, o3⟩, _, _⟩ := Wk.ints_of g3
    refine ⟨⟨a, A1, l, cap1, A2, L, cap2, A3, gs, cap3, b⟩, rfl, Ar.i64_of_wf w0, Nat.le_trans lc1 cm1, s1, o1, Nat.le_trans lc2 cm2, s2, o2, r2, h3, s3, fun g hg => o3 g hg⟩
end
end Go.Proofs.YtoagghileebokaaGreatDoor.Ft

/-
  Stage 13, fit: the contracts of lowest and greatest, over a space's stretches.
-/
namespace Go.Proofs.YtoagghileebokaaGreatDoor.Ft
open Go.RowKit Go.Proofs.YtoagghileebokaaGreatDoor.Ar Go.Proofs.YtoagghileebokaaGreatDoor.Lk Go.Shelf Go.Sort
open Go.Proofs.YtoagghileebokaaGreatDoor.Sp (Cel tot Tiled Has0 Ids)
set_option linter.unusedVariables false
attribute [local go_sem] Oper.semAt_some

set_option maxRecDepth 100000 in
set_option maxHeartbeats 4000000 in
theorem lowest_ok {w0 w : World} {bb bs : Nat} {vp : Value} {p : Option Addr} {cs : List Cel} {bl : Nat → Bool} (hsrc : Src w0 vp p cs bl) (hk : Kept [] w0 w) (hBb : Has w bb 31 [vp]) (hBs : Has w bs 29 [.pointer p]) (n : Nat) (hn : n ≤ 9223372036854775807) :
    Calls Tryz.prog 33 #[.func (.func 57) #[] #[.pointer (some ⟨bb, 0, none⟩), .pointer (some ⟨bs, 0, none⟩)], .func (.func 34) #[.int .i64 (n : Int)] #[]] w fun e y =>
      ((∃ A q B, strF bl cs = A ++ q :: B ∧ (∀ r ∈ A, r.2 < n) ∧ n ≤ q.2 ∧ e = .returned (.tuple #[.int .i64 (q.1 : Int), .bool true])) ∨ ((∀ r ∈ strF bl cs, r.2 < n) ∧ e = .returned (.tuple #[.int .i64 0, .bool false]))) ∧ Kept [] w y := by
  have hpl : ∀ r ∈ strF bl cs, r.2 ≤ 32768 := by
    obtain ⟨_, _, ws, l, hT, hN⟩ := hsrc
    intro r hr
    have h1 := sum_mem hr
    have h2 := strF_few (bl := bl) hT
    omega
  have HPl := Lib.hid hpl
  have HSr := Lib.hid hsrc
  have Hk := Lib.hid hk
  have HBb := Lib.hid hBb
  have HBs := Lib.hid hBs
  clear hpl hsrc hk hBb hBs
  refine (callsIn_wide (n := 7)).1 ?_
  refine callsIn_of_wp_marks Tryz.func33 rfl trivial ?_ rfl
  simp only [Tryz.ntmps33, List.size_toArray, List.length_cons, List.length_nil, Nat.reduceAdd, Nat.reduceSub, Array.replicate_succ, Array.replicate_zero, List.push_toArray, List.append_toArray, List.nil_append, List.cons_append]
  gi_wp2_with (fail)
  have h3 := ((Has.new w 89 [.func (.func 34) #[.int .i64 (n : Int)] #[]]).alloc (.cells #[.int .i64 0] 3)).alloc (.cells #[.bool false] 4)
  have h4 := (Has.new (w.alloc (.cells #[.func (.func 34) #[.int .i64 (n : Int)] #[]] 89)) 3 [.int .i64 0]).alloc (.cells #[.bool false] 4)
  have h5 := Has.new ((w.alloc (.cells #[.func (.func 34) #[.int .i64 (n : Int)] #[]] 89)).alloc (.cells #[.int .i64 0] 3)) 4 [.bool false]
  have k5 : Kept [] w (((w.alloc (.cells #[.func (.func 34) #[.int .i64 (n : Int)] #[]] 89)).alloc (.cells #[.int .i64 0] 3)).alloc (.cells #[.bool false] 4)) := (((Kept.refl [] w).alloc _).alloc _).alloc _
  simp only [World.size_alloc] at h4 h5
  obtain ⟨w5, hw5⟩ : ∃ w5, ((w.alloc (.cells #[.func (.func 34) #[.int .i64 (n : Int)] #[]] 89)).alloc (.cells #[.int .i64 0] 3)).alloc (.cells #[.bool false] 4) = w5 := ⟨_, rfl⟩
  have h3 : Has w5 w.heap.size 89 [.func (.func 34) #[.int .i64 (n : Int)] #[]] := hw5 ▸ h3
  have h4 : Has w5 (w.heap.size + 1) 3 [.int .i64 0] := hw5 ▸ h4
  have h5 : Has w5 (w.heap.size + 1 + 1) 4 [.bool false] := hw5 ▸ h5
  simp only [hw5] at k5 ⊢
  have H3 := Lib.hid h3
  have H4 := Lib.hid h4
  have H5 := Lib.hid h5
  have K5 := Lib.hid k5
  have hsz := k5.more
  clear h3 h4 h5 k5 hw5
  refine Rk.wpIn_range rfl (by decide) (gf := 57) (lb := #[.pointer (some ⟨bb, 0, none⟩), .pointer (some ⟨bs, 0, none⟩)]) rfl trivial (enters_of Tryz.func57 (by kernel_rfl) rfl)
    (stretches_seq 6 (by decide) [] bb bs vp p cs bl HSr.out (Hk.out.trans K5.out) (HBb.out.keep0 K5.out) (HBs.out.keep0 K5.out) (by simp))
    (fun h k => h.trans k) (fun X r r' h => Kc.put X _ _ _ h rfl) (Below.refl _ _) (fun _ => rfl)
    (fun pre X => (∀ r ∈ valsS pre, r.2 < n) ∧ Has X (w.heap.size + 1) 3 [.int .i64 0] ∧ Has X (w.heap.size + 1 + 1) 4 [.bool false] ∧ Has X w.heap.size 89 [.func (.func 34) #[.int .i64 (n : Int)] #[]] ∧ Kept [] w X)
    (fun c pre X => (c = .ret ∧ ∃ ys x, pre = ys ++ [x] ∧ (∀ r ∈ valsS ys, r.2 < n) ∧ n ≤ x.1.2 ∧ Has X (w.heap.size + 1) 3 [.int .i64 (x.1.1 : Int)] ∧ Has X (w.heap.size + 1 + 1) 4 [.bool true]) ∧ Kept [] w X)
    (OwnFrom.and (ownFrom_pure _ _) (OwnFrom.and (own_has (f := fun _ => [.int .i64 0])) (OwnFrom.and (own_has (f := fun _ => [.bool false])) (OwnFrom.and (own_has (f := fun _ => [.func (.func 34) #[.int .i64 (n : Int)] #[]])) (own_kept hsz)))))
    (fun c => OwnFrom.and (fun s X Y row ⟨h0, ys, x, h1, h2, h3, h4, h5⟩ hg hr => ⟨h0, ys, x, h1, h2, h3, own_has (β := Unit) (f := fun _ => [.int .i64 (x.1.1 : Int)]) () X Y row h4 hg hr, own_has (β := Unit) (f := fun _ => [.bool true]) () X Y row h5 hg hr⟩) (own_kept hsz))
    ⟨fun r hr => (by cases hr), H4.out, H5.out, H3.out, K5.out⟩
    (fun x a' X => ∃ Bx, Has X Bx 86 [.int .i64 (x.1.1 : Int), .int .i64 (x.1.2 : Int)] ∧ a' = { tmps := #[.func (.func 57) #[] #[.pointer (some ⟨bb, 0, none⟩), .pointer (some ⟨bs, 0, none⟩)], .func (.func 34) #[.int .i64 (n : Int)] #[], undef, .pointer (some ⟨w.heap.size, 0, none⟩), .pointer (some ⟨w.heap.size + 1, 0, none⟩), .pointer (some ⟨w.heap.size + 1 + 1, 0, none⟩), .pointer (some ⟨Bx, 0, none⟩), .func (.func 57) #[] #[.pointer (some ⟨bb, 0, none⟩), .pointer (some ⟨bs, 0, none⟩)], .agg #[.int .i64 (x.1.1 : Int), .int .i64 (x.1.2 : Int)], undef, undef, undef, undef, undef], defers := [] })
    (fun x a' _ X Y row hs hg hr => by
      obtain ⟨Bx, h2, h3⟩ := hs
      exact ⟨Bx, own_has (β := Unit) (f := fun _ => [.int .i64 (x.1.1 : Int), .int .i64 (x.1.2 : Int)]) () X Y row h2 hg hr, h3⟩)
    ?assign ?body ?done ?stop
  case assign =>
    rintro l pre x X T ⟨h1, h2, h3, h4, h5⟩ hT
    unfold encS
    have HT' := Lib.hid hT
    have HI := Lib.hid (⟨h1, h2, h3, h4, h5⟩ : (∀ r ∈ valsS pre, r.2 < n) ∧ Has X (w.heap.size + 1) 3 [.int .i64 0] ∧ Has X (w.heap.size + 1 + 1) 4 [.bool false] ∧ Has X w.heap.size 89 [.func (.func 34) #[.int .i64 (n : Int)] #[]] ∧ Kept [] w X)
    clear h1 h2 h3 h4 h5 hT
    gi_wp2
    have hkn : Kept [] X (X.alloc (.cells #[.int .i64 (x.1.1 : Int), .int .i64 (x.1.2 : Int)] 86)) := (Kept.refl [] X).alloc _
    exact HT'.out _ _ (keepsFrom_of hkn (by simp)) (Kc.keep0 hkn) ⟨HI.out.1, HI.out.2.1.keep0 hkn, HI.out.2.2.1.keep0 hkn, HI.out.2.2.2.1.keep0 hkn, HI.out.2.2.2.2.trans hkn⟩ ⟨X.heap.size, Has.new X _ _, rfl⟩
  case body =>
    rintro l pre x a' X ⟨hl, h4, h5, h3, hk⟩ ⟨Bx, hX, rfl⟩ ⟨rest, hrest⟩
    have hx2 := HPl.out _ x.2
    have hsn := valsS_snoc pre x
    obtain ⟨⟨xa, xk⟩, hxm⟩ := x
    simp only at hX hx2 hsn
    have c3 := h3.cell 0
    have x0 := hX.cell 0
    have x1 := hX.cell 1
    simp at c3 x0 x1
    have HF := Lib.hid (fits_ok n xa xk hn (by omega) X)
    have Hsn := Lib.hid hsn
    have HL := Lib.hid hl
    have H3' := Lib.hid h3
    have H4' := Lib.hid h4
    have H5' := Lib.hid h5
    have HX := Lib.hid hX
    have Hk := Lib.hid hk
    clear hl h4 h5 h3 hk hX hrest hsn
    dsimp only
    gi_wp2_with (fail)
    refine ⟨trivial, (CallsIn.inRound l (callsIn_wide.2 HF.out)).mono ?_⟩
    rintro e Y ⟨rfl, hy⟩
    have y0 := (HX.out.keep0 hy).cell 0
    have f4 := (H4'.out.keep0 hy).free 0
    have f5 := (H5'.out.keep0 hy).free 0
    have c4 := (H4'.out.keep0 hy).cell 0
    have c5 := (H5'.out.keep0 hy).cell 0
    simp at y0 c4 c5
    have HY := Lib.hid hy
    clear hy c3 x0 x1 HF
    by_cases hle : n ≤ xk
    · rw [decide_eq_true hle]
      have Hle := Lib.hid hle
      clear hle
      gi_wp2_with (fail)
      have hKS : Kept [w.heap.size + 1, w.heap.size + 1 + 1] Y ((Y.setCell ⟨w.heap.size + 1, 0, none⟩ (.int .i64 (xa : Int))).setCell ⟨w.heap.size + 1 + 1, 0, none⟩ (.bool true)) := ((Kept.refl _ Y).setCell _ _ (.inl (by simp))).setCell _ _ (.inl (by simp))
      refine ⟨(keepsFrom_of HY.out (by simp)).trans (keepsFrom_of hKS (fun b hb => ?_)), ⟨rfl, pre, _, rfl, HL.out, Hle.out, ?_, ?_⟩, (Hk.out.trans HY.out).forget hKS (by simp; omega)⟩
      · rcases List.mem_cons.1 hb with rfl | hb
        · exact ⟨_, _, H4'.out.keep0 HY.out⟩
        · rw [List.mem_singleton.1 hb]
          exact ⟨_, _, H5'.out.keep0 HY.out⟩
      · exact ((H4'.out.keep0 HY.out).put 0 _).beside _ (by simp) _
      · exact ((H5'.out.keep0 HY.out).beside _ (by simp) _).put 0 _
    · rw [decide_eq_false hle]
      have HN : Hid (∀ r ∈ valsS (pre ++ [⟨(xa, xk), hxm⟩]), r.2 < n) := Lib.hid fun r hr => by
        rw [Hsn.out] at hr
        rcases List.mem_append.1 hr with h | h
        · exact HL.out r h
        · rw [List.mem_singleton.1 h]
          show xk < n
          omega
      clear hle
      gi_wp2_with (fail)
      exact ⟨keepsFrom_of HY.out (by simp), Kc.keep0 HY.out, HN.out, H4'.out.keep0 HY.out, H5'.out.keep0 HY.out, H3'.out.keep0 HY.out, Hk.out.trans HY.out⟩
  case done =>
    rintro D xs X hD hx ⟨hl, h6, h7, h3, hk⟩ hK
    rw [hx] at hl
    have c6 := h6.cell 0
    have f6 := h6.free 0
    have c7 := h7.cell 0
    have f7 := h7.free 0
    simp at c6 c7
    have HKd := Lib.hid hK
    have Hk := Lib.hid hk
    have H6 := Lib.hid h6
    have H7 := Lib.hid h7
    have HL := Lib.hid hl
    clear hK hk h6 h7 hl hx h3
    gi_wp2
    have hD1 : w.heap.size + 1 ≠ D := by have := H5.out.lt; omega
    have hD2 : w.heap.size + 1 + 1 ≠ D := by have := H5.out.lt; omega
    have hK2 : ((X.setCell ⟨w.heap.size + 1, 0, none⟩ (.int .i64 0)).setCell ⟨w.heap.size + 1 + 1, 0, none⟩ (.bool false)).heap[D]? = some (.deferred (some [])) := by
      rw [put_other hD2, put_other hD1]
      exact HKd.out
    have h6 := has_put ((H6.out.put 0 (.int .i64 0)).beside ⟨w.heap.size + 1 + 1, 0, none⟩ (by simp) (.bool false)) D _ (.deferred none) hK2 rfl
    have h7 := has_put ((H7.out.beside ⟨w.heap.size + 1, 0, none⟩ (by simp) (.int .i64 0)).put 0 (.bool false)) D _ (.deferred none) hK2 rfl
    have d6 := h6.cell 0
    have d7 := h7.cell 0
    simp at d6 d7
    refine ⟨by simp, .inl ⟨_, _, rfl, run_takeDeferred hK2, ?_⟩⟩
    refine ⟨.tuple #[.int .i64 0, .bool false], ?_, .inr ⟨HL.out, rfl⟩, kept_put (((Hk.out).setCell _ _ (.inr (by first | (simp; done) | (simp; omega)))).setCell _ _ (.inr (by first | (simp; done) | (simp; omega)))) D _ (Nat.le_trans hsz hD)⟩
    simp [results, Tryz.results33, go_sem, d6, d7]
  case stop =>
    rintro D c pre X hD ⟨rest, hx⟩ ⟨⟨rfl, ys, x, rfl, hl, hle, h6, h7⟩, hk⟩ hK
    have c6 := h6.cell 0
    have c7 := h7.cell 0
    simp at c6 c7
    have HE : Hid (strF bl cs = valsS ys ++ x.1 :: rest) := Lib.hid (hx.trans (by rw [valsS_snoc, List.append_assoc]; rfl))
    have HKd := Lib.hid hK
    have Hk := Lib.hid hk
    have H6 := Lib.hid h6
    have H7 := Lib.hid h7
    have HL := Lib.hid hl
    have Hle := Lib.hid hle
    clear hK hk h6 h7 hl hle hx
    gi_wp2
    have d6 := (has_put H6.out D _ (.deferred none) HKd.out rfl).cell 0
    have d7 := (has_put H7.out D _ (.deferred none) HKd.out rfl).cell 0
    simp only [List.getElem?_cons_zero] at d6 d7
    refine ⟨by simp, .inl ⟨_, _, rfl, run_takeDeferred HKd.out, ?_⟩⟩
    refine ⟨.tuple #[.int .i64 (x.1.1 : Int), .bool true], ?_, .inl ⟨_, _, _, HE.out, HL.out, Hle.out, rfl⟩, kept_put Hk.out D _ (Nat.le_trans hsz hD)⟩
    simp [results, Tryz.results33, go_sem, d6, d7]
end Go.Proofs.YtoagghileebokaaGreatDoor.Ft
