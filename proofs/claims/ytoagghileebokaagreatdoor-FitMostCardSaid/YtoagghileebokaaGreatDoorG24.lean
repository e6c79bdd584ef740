/-
  Several texts in one: RoundAny, SpList, SpGap, SpOps.
-/
import Derived.Test.YtoagghileebokaaGreatDoorG13
import Derived.Test.YtoagghileebokaaGreatDoorG22
import Derived.Shelf.RegionOpen
import Derived.Lib.QuietBelowIn
import Derived.Sort.CutIn
import Derived.Test.YtoagghileebokaaGreatDoorG21
import Derived.Test.YtoagghileebokaaGreatDoorG23
/-
  A region that draws its order, whose first k operations only read and all come ahead of the rest: the head in the text's order, then the rest in whatever order is left. No program is named here.
-/
namespace Go.Proofs.YtoagghileebokaaGreatDoor.Rk

section
variable {P : Program} {C : World → Prop} {md : Region.Mode} {r : Option Nat} {m : Nat}

end
end Go.Proofs.YtoagghileebokaaGreatDoor.Rk

/-
  The contracts of cells, AppendSeq, Collect and Cells: all cells, in order.
-/
namespace Go.Proofs.YtoagghileebokaaGreatDoor.Sp
open Go.RowKit Go.Proofs.YtoagghileebokaaGreatDoor.Ar Go.Proofs.YtoagghileebokaaGreatDoor.Sh Go.Proofs.YtoagghileebokaaGreatDoor.Lk Go.Shelf Go.Sort
open Go.Proofs.YtoagghileebokaaGreatDoor.Hd (Hd Fields)
open Go.Proofs.YtoagghileebokaaGreatDoor.Tb (Ty Tab)
set_option linter.unusedVariables false
attribute [local go_sem] Oper.semAt_some

def FreshV (w : World) (v : Value) : Prop := v.ownBlock = none ∨ ∃ b, v.ownBlock = some b ∧ w.heap.size ≤ b
/-- The box b and the slice in it alone have turned. -/
theorem kpw_of {A B : World} {b : Nat} {t : TypeId} {v v' : Value} (hb : Has A b t [v]) (k : Kept (b :: v.ownBlock.toList) A B) (hb' : Has B b t [v']) (ho : v'.ownBlock = v.ownBlock ∨ ∃ g, v'.ownBlock = some g ∧ A.heap.size ≤ g ∧ g < B.heap.size) : Kpw b A B := by
  refine ⟨k.more, fun i o hi hn hx hc => ?_, ?_⟩
  · rw [ownAt_has hb] at hn
    refine (k.old i (Array.getElem?_eq_some_iff.1 hx).1 ?_).trans hx
    intro hm
    rcases List.mem_cons.1 hm with rfl | hm
    · exact hi rfl
    · exact hn (by simpa using hm)
  · rw [ownAt_has hb, ownAt_has hb']
    exact ho
theorem cells_ok (p : Option Addr) (g : Int) (w : World) :
    Calls Tryz.prog 30 #[.pointer p, .int .i64 g] w fun e w' => e = .returned (.func (.func 55) #[] #[.pointer (some ⟨w.heap.size + 1, 0, none⟩), .pointer (some ⟨w.heap.size, 0, none⟩)]) ∧ w' = (w.alloc (.cells #[.pointer p] 29)).alloc (.cells #[.int .i64 g] 3) := by
  go_enter Tryz.func30, Tryz.ntmps30
  go_wp2_with fail
  go_ret
  exact ⟨by simp, rfl⟩
set_option maxRecDepth 100000 in
set_option maxHeartbeats 4000000 in
theorem appendSeq_ok (bg bb : Nat) (s : Ids) (l : List Ty) (ws : List Int) (bs : List Bool) (g : Int) (cs : List Cel) (w : World)
    (hG : Has w bg 3 [.int .i64 g]) (g0 : 0 ≤ g) (g1 : g ≤ 1000000) (hB : Has w bb 29 [.pointer (some ⟨s.sp, 0, none⟩)]) (hF : Fields w) (hS : Spc w s l ws bs) (hC : Scans ws l g cs) :
    Calls Tryz.prog 54 #[.slice none 0 0, .func (.func 55) #[] #[.pointer (some ⟨bg, 0, none⟩), .pointer (some ⟨bb, 0, none⟩)]] w fun e w' => ∃ v, e = .returned v ∧ Own w' v cs ∧ FreshV w v ∧ Kept [] w w' := by
  have hcl : cs.length ≤ 32768 := by
    have hsh := hS.short
    rcases hC.length g0 with h | h
    · omega
    · subst h; simp
  have HG := Lib.hid hG
  have HB := Lib.hid hB
  have HF := Lib.hid hF
  have HS := Lib.hid hS
  have HC := Lib.hid hC
  clear hG hB hF hS hC
  refine (callsIn_wide (n := 5)).1 ?_
  refine callsIn_of_wp_marks Tryz.func54 rfl trivial ?_ rfl
  simp only [Tryz.ntmps54, List.size_toArray, List.length_cons, List.length_nil, Nat.reduceAdd, Nat.reduceSub, Array.replicate_succ, Array.replicate_zero, List.push_toArray, List.append_toArray, List.nil_append, List.cons_append]
  gi_wp2_with (fail)
  have hk2 : Kept [] w (w.alloc (.cells #[.slice none 0 0] 41)) := (Kept.refl [] w).alloc _
  have h3 := Has.new w 41 [.slice none 0 0]
  obtain ⟨w2, hw2⟩ : ∃ w2, w.alloc (.cells #[.slice none 0 0] 41) = w2 := ⟨_, rfl⟩
  have hw2' : w.alloc (.cells [.slice none 0 0].toArray 41) = w2 := hw2
  rw [hw2] at hk2 ⊢
  rw [hw2'] at h3
  clear hw2 hw2'
  have H30 := Lib.hid h3
  have Hkw := Lib.hid hk2
  have Hlt0 := Lib.hid h3.lt
  clear h3 hk2
  refine wpIn_rangeFunc_ownH rfl (by decide) (gf := 55) (lb := #[.pointer (some ⟨bg, 0, none⟩), .pointer (some ⟨bb, 0, none⟩)]) rfl trivial (enters_of Tryz.func55 (by kernel_rfl) rfl)
    (cells_stops 4 (by decide) w.heap.size bg bb s l ws bs g cs w2 (HG.out.keep0 Hkw.out) g0 g1 (HB.out.keep0 Hkw.out) (HF.out.keep0 Hkw.out) (HS.out.keep0 Hkw.out) HC.out H30.out (by decide) (by decide) rfl)
    (fun h k => h.trans k) (fun W l o o' hl h hc _ => Kpw.put Hlt0.out W l o o' hl h hc) (Below.refl _ _) (fun _ => rfl)
    (fun pre W => (∃ v, Has W w.heap.size 41 [v] ∧ Own W v (vals pre) ∧ FreshV w v) ∧ Kept [] w W)
    (fun _ _ _ => False)
    (OwnFrom.and (fun pre X Y row hs hg hr => by
      obtain ⟨v, h1, h2, h3⟩ := hs
      exact ⟨v, own_has (β := Unit) (f := fun _ => [v]) () X Y row h1 hg hr, own_from () X Y row h2 hg hr, h3⟩) (own_kept Hkw.out.more))
    (fun _ _ _ _ _ hs _ _ => hs)
    ⟨⟨_, H30.out, Own.nil _, .inl rfl⟩, Hkw.out⟩
    (fun x a' W => ∃ Bx, Has W Bx 51 [.int .i64 x.1.a, .int .u8 x.1.h.tg, .int .i64 x.1.h.ty, .int .i64 x.1.h.ln, .int .i64 x.1.h.sz] ∧ a' = { tmps := #[.slice none 0 0, .func (.func 55) #[] #[.pointer (some ⟨bg, 0, none⟩), .pointer (some ⟨bb, 0, none⟩)], .pointer (some ⟨w.heap.size, 0, none⟩), undef, .slice none 0 0, .pointer (some ⟨Bx, 0, none⟩), .func (.func 55) #[] #[.pointer (some ⟨bg, 0, none⟩), .pointer (some ⟨bb, 0, none⟩)], .agg #[.int .i64 x.1.a, .int .u8 x.1.h.tg, .int .i64 x.1.h.ty, .int .i64 x.1.h.ln, .int .i64 x.1.h.sz], undef, undef, undef, undef, undef], defers := [] })
    (fun x a' _ X Y row hs hg hr => by
      obtain ⟨Bx, h2, h3⟩ := hs
      exact ⟨Bx, own_has (β := Unit) (f := fun _ => [.int .i64 x.1.a, .int .u8 x.1.h.tg, .int .i64 x.1.h.ty, .int .i64 x.1.h.ln, .int .i64 x.1.h.sz]) () X Y row h2 hg hr, h3⟩)
    ?assign ?body ?done ?stop
  case assign =>
    rintro l pre x W K ⟨⟨v, hi3, hO, hV⟩, hk⟩ hK
    unfold encs
    have HK := Lib.hid hK
    have HI := Lib.hid hi3
    have HO := Lib.hid hO
    have HV := Lib.hid hV
    have Hk := Lib.hid hk
    clear hi3 hO hV hk hK
    gi_wp2
    have hkn : Kept [] W (W.alloc (.cells #[.int .i64 x.1.a, .int .u8 x.1.h.tg, .int .i64 x.1.h.ty, .int .i64 x.1.h.ln, .int .i64 x.1.h.sz] 51)) := (Kept.refl [] W).alloc _
    exact HK.out _ _ (keepsFrom_of hkn (by simp)) (Kpw.ofKept hkn HI.out.lt) ⟨⟨v, HI.out.keep0 hkn, HO.out.keep0 hkn, HV.out⟩, Hk.out.trans hkn⟩ ⟨W.heap.size, Has.new W _ _, rfl⟩
  case body =>
    rintro l pre y a' W _ _ ⟨⟨v, hi3, hO, hV⟩, hk⟩ ⟨Bx, hX, rfl⟩ hlen
    have hsn := vals_snoc pre y
    obtain ⟨rs, hs⟩ : ∃ rs, rs = vals pre := ⟨_, rfl⟩
    have hlr : rs.length ≤ 32768 := by rw [hs]; unfold vals; rw [List.length_map]; omega
    rw [← hs] at hsn hO
    have Hsn := Lib.hid hsn
    clear hsn hs
    obtain ⟨⟨ca, ⟨ct, cy, cl, cz⟩⟩, hy⟩ := y
    simp only at Hsn hX
    obtain ⟨x0, x1, x2, x3, x4⟩ := cells5 hX
    have c3 := hi3.cell 0
    have f3 := hi3.free 0
    simp at c3
    have Hk := Lib.hid hk
    have H3' := Lib.hid hi3
    have HO := Lib.hid hO
    have HV := Lib.hid hV
    clear hk hlen hO hV hX
    dsimp only
    clear hi3
    have hka : Kept [] W (W.alloc (.cells #[.int .i64 ca, .int .u8 ct, .int .i64 cy, .int .i64 cl, .int .i64 cz] 51)) := (Kept.refl [] W).alloc _
    have hB : Has (W.alloc (.cells #[.int .i64 ca, .int .u8 ct, .int .i64 cy, .int .i64 cl, .int .i64 cz] 51)) W.heap.size 51 (Cel.l ⟨ca, ⟨ct, cy, cl, cz⟩⟩) := Has.new W 51 [.int .i64 ca, .int .u8 ct, .int .i64 cy, .int .i64 cl, .int .i64 cz]
    have hOa := HO.out.keep0 hka
    have H0 := Lib.hid hB
    have HOa := Lib.hid hOa
    have Hka := Lib.hid hka
    clear hOa hka hB
    gi_wp2_with (gi_at_builtin; refine append_cels_in rfl (.tmp 8) (.tmp 10) rfl v rs rfl HOa.out W.heap.size 1 ⟨ca, ⟨ct, cy, cl, cz⟩⟩ rfl H0.out (by omega) ?_)
    all_goals
      intro v' w3 hO hG hV
      have hk3 : Kept [] w w3 := own_grown (Hk.out.trans Hka.out) HV.out hG
      have hF3 := own_fresh (v' := v') (Hk.out.trans Hka.out) HV.out (by rw [World.size_alloc]; exact hV)
      have hS := kept_grown hG
      have hne : w.heap.size ∉ v.ownBlock.toList := fun hm => by
        obtain ⟨cs, hcs⟩ := own_cells HO.out _ hm
        exact Has.block_type H3'.out hcs (by decide) rfl
      have h3 := (H3'.out.keep0 Hka.out).kept hS hne
      have c3 := h3.cell 0
      have f3 := h3.free 0
      simp at c3
      obtain ⟨g', cap', rfl, hg', _⟩ : ∃ g cap, v' = .slice (some ⟨g, 0, none⟩) (rs ++ [(⟨ca, ⟨ct, cy, cl, cz⟩⟩ : Cel)]).length cap ∧ g < w3.heap.size ∧ (rs ++ [(⟨ca, ⟨ct, cy, cl, cz⟩⟩ : Cel)]).length ≤ cap := by
        rcases hO.form with ⟨_, h⟩ | h
        · simp at h
        · obtain ⟨g, cap, h1, h2, h3, _⟩ := h
          exact ⟨g, cap, h1, h2, h3⟩
      have hown : ∀ X : World, w3.heap.size ≤ X.heap.size → (Value.slice (some ⟨g', 0, none⟩) (rs ++ [(⟨ca, ⟨ct, cy, cl, cz⟩⟩ : Cel)]).length cap').ownBlock = v.ownBlock ∨ ∃ g, (Value.slice (some ⟨g', 0, none⟩) (rs ++ [(⟨ca, ⟨ct, cy, cl, cz⟩⟩ : Cel)]).length cap').ownBlock = some g ∧ W.heap.size ≤ g ∧ g < X.heap.size := fun X hX => by
        rcases hV with h | h
        · exact .inl h
        · refine .inr ⟨g', rfl, ?_, by omega⟩
          have h : some g' = some _ := h
          injection h with h
          try rw [World.size_alloc] at h
          omega
      have HO3 := Lib.hid hO
      have Hk3 := Lib.hid hk3
      have HF3 := Lib.hid hF3
      have HS := Lib.hid ((Hka.out.none _).trans hS)
      have H33 := Lib.hid h3
      have Hne := Lib.hid hne
      have Hown := Lib.hid hown
      clear hO hk3 hF3 hS h3 hne hG hV H0 HOa hown
      obtain ⟨len, hlen⟩ : ∃ len, len = (rs ++ [(⟨ca, ⟨ct, cy, cl, cz⟩⟩ : Cel)]).length := ⟨_, rfl⟩
      rw [← hlen] at HO3 HF3 Hown ⊢
      clear hlen
      gi_wp2_with (fail)
      have hKS : Kept [w.heap.size] w3 (w3.setCell ⟨w.heap.size, 0, none⟩ (.slice (some ⟨g', 0, none⟩) len cap')) := (Kept.refl _ w3).setCell _ _ (.inl (by simp))
      have hKA : Kept (w.heap.size :: v.ownBlock.toList) W (w3.setCell ⟨w.heap.size, 0, none⟩ (.slice (some ⟨g', 0, none⟩) len cap')) := (HS.out.mono fun b hb => List.mem_cons_of_mem _ hb).trans (hKS.mono (by simp))
      have hbx : Has (w3.setCell ⟨w.heap.size, 0, none⟩ (.slice (some ⟨g', 0, none⟩) len cap')) w.heap.size 41 [.slice (some ⟨g', 0, none⟩) len cap'] := H33.out.put 0 _
      refine ⟨keepsFrom_of hKA ?_, kpw_of H3'.out hKA hbx (Hown.out _ hKS.more), ⟨_, hbx, ?_, HF3.out⟩, Hk3.out.forget hKS (by simp)⟩
      · intro b hb
        rcases List.mem_cons.1 hb with rfl | hb
        · exact ⟨_, _, H3'.out⟩
        · exact ⟨_, own_cells HO.out b hb⟩
      · rw [Hsn.out]
        exact HO3.out.kept hKS fun g hg e => by
          obtain rfl := List.mem_singleton.1 hg
          obtain ⟨cs, hcs⟩ := own_cells HO3.out w.heap.size (by rw [e]; simp)
          exact Has.block_type H33.out hcs (by decide) rfl
  case done =>
    rintro D xs W hD hx ⟨⟨v, hi3, hO, hV⟩, hk⟩ hK
    have c3 := hi3.cell 0
    simp at c3
    have HKd := Lib.hid hK
    have Hk := Lib.hid hk
    have HE : Hid (vals xs = cs) := Lib.hid hx
    have HO := Lib.hid hO
    have HV := Lib.hid hV
    clear hK hk hi3 hx hO hV
    generalize vals xs = P at *
    gi_wp2_with (fail)
    refine ⟨by simp, .inl ⟨_, _, rfl, run_takeDeferred HKd.out, ?_⟩⟩
    exact ⟨_, results_tmp rfl _ _ _, ⟨v, rfl, by rw [← HE.out]; exact own_put HO.out D _ _ HKd.out rfl, HV.out, kept_put Hk.out D _ (Nat.le_trans Hkw.out.more hD)⟩⟩
  case stop =>
    rintro D c pre W _ _ h _
    exact h.elim
theorem collect_ok (bg bb : Nat) (s : Ids) (l : List Ty) (ws : List Int) (bs : List Bool) (g : Int) (cs : List Cel) (w : World)
    (hG : Has w bg 3 [.int .i64 g]) (g0 : 0 ≤ g) (g1 : g ≤ 1000000) (hB : Has w bb 29 [.pointer (some ⟨s.sp, 0, none⟩)]) (hF : Fields w) (hS : Spc w s l ws bs) (hC : Scans ws l g cs) :
    Calls Tryz.prog 29 #[.func (.func 55) #[] #[.pointer (some ⟨bg, 0, none⟩), .pointer (some ⟨bb, 0, none⟩)]] w fun e w' => ∃ v, e = .returned v ∧ Own w' v cs ∧ FreshV w v ∧ Kept [] w w' := by
  have H := Lib.hid (appendSeq_ok bg bb s l ws bs g cs w hG g0 g1 hB hF hS hC)
  clear hG hB hF hS hC
  go_enter Tryz.func29, Tryz.ntmps29
  go_wp2_with fail
  refine H.out.mono ?_
  rintro e w1 ⟨v, rfl, hO, hV, hk⟩
  have HO := Lib.hid hO
  have HV := Lib.hid hV
  have HK := Lib.hid hk
  clear hO hV hk
  go_wp2_with fail
  go_ret
  exact ⟨v, rfl, HO.out, HV.out, HK.out⟩
/-- All cells of a space. -/
theorem allCells_ok {w : World} {s : Ids} {l : List Ty} {ws : List Int} {bs : List Bool} (hF : Fields w) (hS : Spc w s l ws bs) (cs : List Cel) (hC : Scans ws l 0 cs) :
    Calls Tryz.prog 12 #[.pointer (some ⟨s.sp, 0, none⟩)] w fun e w' => ∃ v, e = .returned v ∧ Own w' v cs ∧ FreshV w v ∧ Kept [] w w' := by
  have HF := Lib.hid hF
  have HS := Lib.hid hS
  have HC := Lib.hid hC
  have H1 := Lib.hid (cells_ok (some ⟨s.sp, 0, none⟩) 0 w)
  clear hF hS hC
  go_enter Tryz.func12, Tryz.ntmps12
  go_wp2_with fail
  refine H1.out.mono ?_
  rintro e w1 ⟨rfl, hw1⟩
  have hk1 : Kept [] w w1 := by rw [hw1]; exact ((Kept.refl [] w).alloc _).alloc _
  have hb : Has w1 w.heap.size 29 [.pointer (some ⟨s.sp, 0, none⟩)] := by rw [hw1]; exact (Has.new w _ _).alloc _
  have hg : Has w1 (w.heap.size + 1) 3 [.int .i64 0] := by
    rw [hw1]
    have := Has.new (w.alloc (.cells #[.pointer (some ⟨s.sp, 0, none⟩)] 29)) 3 [.int .i64 0]
    rwa [World.size_alloc] at this
  have HK1 := Lib.hid hk1
  have H2 := Lib.hid (collect_ok (w.heap.size + 1) w.heap.size s l ws bs 0 cs w1 hg (by omega) (by omega) hb (HF.out.keep0 hk1) (HS.out.keep0 hk1) HC.out)
  clear hk1 hb hg hw1 H1
  go_wp2_with fail
  refine H2.out.mono ?_
  rintro e w2 ⟨v, rfl, hO, hV, hk⟩
  have HO := Lib.hid hO
  have HV : Hid (FreshV w v) := Lib.hid (hV.imp_right fun ⟨b, h1, h2⟩ => ⟨b, h1, Nat.le_trans HK1.out.more h2⟩)
  have HK := Lib.hid (HK1.out.trans hk)
  clear hO hV hk
  go_wp2_with fail
  go_ret
  exact ⟨v, rfl, HO.out, HV.out, HK.out⟩
end Go.Proofs.YtoagghileebokaaGreatDoor.Sp

/-
  The contract of gap: the gap that has a granule, and whether there is one.
-/
namespace Go.Proofs.YtoagghileebokaaGreatDoor.Sp
open Go.RowKit Go.Proofs.YtoagghileebokaaGreatDoor.Ar Go.Proofs.YtoagghileebokaaGreatDoor.Sh Go.Proofs.YtoagghileebokaaGreatDoor.Lk Go.Shelf Go.Sort
open Go.Proofs.YtoagghileebokaaGreatDoor.Hd (Hd Fields)
open Go.Proofs.YtoagghileebokaaGreatDoor.Tb (Ty Tab)
open Go.Proofs.YtoagghileebokaaGreatDoor.Bt (Bv prevO prev_ok atI)
set_option linter.unusedVariables false
attribute [local go_sem] Oper.semAt_some

/-- What is found: the first cell that ends behind a granule. -/
def gapO (cs : List Cel) (g : Int) : Option Cel := cs.find? (fun c => decide (g < c.a + c.h.sz))
def gapC (o : Option Cel) : Cel := o.getD Cel.zero
def gapB (o : Option Cel) : Bool := match o with | some c => c.h.tg != 1 | none => false
theorem gapO_none {cs : List Cel} {g : Int} (h : ∀ c ∈ cs, ¬ g < c.a + c.h.sz) : gapO cs g = none := by
  unfold gapO
  rw [List.find?_eq_none]
  intro c hc
  simpa using h c hc
theorem gapO_some {ys rest : List Cel} {x : Cel} {g : Int} (h : ∀ c ∈ ys, ¬ g < c.a + c.h.sz) (hx : g < x.a + x.h.sz) : gapO (ys ++ [x] ++ rest) g = some x := by
  unfold gapO
  rw [List.append_assoc, List.find?_append, List.find?_eq_none.2 (fun c hc => by simpa using h c hc)]
  simp [hx]
/-- What the result's two boxes hold behind the stores. -/
theorem stored {W W6 : World} {b : Nat} {xa xt xy xl xz : Int} {ib : Bool} (h1 : Has W6 (b + 1) 51 [.int .i64 0, .int .u8 0, .int .i64 0, .int .i64 0, .int .i64 0]) (h2 : Has W6 (b + 1 + 1) 4 [.bool false]) (k : Kept [] W W6) :
    Has ((((((W6.setCell ⟨b + 1, 0, none⟩ (.int .i64 xa)).setCell ⟨b + 1, 1, none⟩ (.int .u8 xt)).setCell ⟨b + 1, 2, none⟩ (.int .i64 xy)).setCell ⟨b + 1, 3, none⟩ (.int .i64 xl)).setCell ⟨b + 1, 4, none⟩ (.int .i64 xz)).setCell ⟨b + 1 + 1, 0, none⟩ (.bool ib)).drew (b + 1) 51 [.int .i64 xa, .int .u8 xt, .int .i64 xy, .int .i64 xl, .int .i64 xz] ∧
    Has ((((((W6.setCell ⟨b + 1, 0, none⟩ (.int .i64 xa)).setCell ⟨b + 1, 1, none⟩ (.int .u8 xt)).setCell ⟨b + 1, 2, none⟩ (.int .i64 xy)).setCell ⟨b + 1, 3, none⟩ (.int .i64 xl)).setCell ⟨b + 1, 4, none⟩ (.int .i64 xz)).setCell ⟨b + 1 + 1, 0, none⟩ (.bool ib)).drew (b + 1 + 1) 4 [.bool ib] ∧
    Kept [b + 1, b + 1 + 1] W ((((((W6.setCell ⟨b + 1, 0, none⟩ (.int .i64 xa)).setCell ⟨b + 1, 1, none⟩ (.int .u8 xt)).setCell ⟨b + 1, 2, none⟩ (.int .i64 xy)).setCell ⟨b + 1, 3, none⟩ (.int .i64 xl)).setCell ⟨b + 1, 4, none⟩ (.int .i64 xz)).setCell ⟨b + 1 + 1, 0, none⟩ (.bool ib)).drew := by
  refine ⟨Has.drew ((put5_has h1 _ _ _ _ _).beside _ (by simp) _), Has.drew ?_, Kept.drew ((put5_kept (k.none _) (.inl (by simp)) _ _ _ _ _).setCell _ _ (.inl (by simp)))⟩
  exact Has.put (((((h2.beside _ (by simp) _).beside _ (by simp) _).beside _ (by simp) _).beside _ (by simp) _).beside _ (by simp) _) 0 _
set_option maxRecDepth 100000 in
set_option maxHeartbeats 4000000 in
theorem gap_ok {w : World} {s : Ids} {l : List Ty} {ws : List Int} {bs : List Bool} (hF : Fields w) (hS : Spc w s l ws bs) (g : Int) (g0 : -9223372036854775808 ≤ g) (g1 : g ≤ 9223372036854775807) (cs : List Cel) (hC : Scans ws l (atI (prevO bs g)) cs) :
    Calls Tryz.prog 51 #[.pointer (some ⟨s.sp, 0, none⟩), .int .i64 g] w fun e w' => e = .returned (.tuple #[(gapC (gapO cs g)).val, .bool (gapB (gapO cs g))]) ∧ Kept [] w w' := by
  have hpb := prevO_bound bs g
  have hfew := hS.few
  have hsh := hS.short
  have HF := Lib.hid hF
  have HS := Lib.hid hS
  have HC := Lib.hid hC
  have HP := Lib.hid (fun y (k : Kept [] w y) => prev_ok bs _ _ y (hS.keep0 k).bv g g0 g1)
  clear hF hS hC
  obtain ⟨a, ha⟩ : ∃ a, atI (prevO bs g) = a := ⟨_, rfl⟩
  rw [ha] at HC HP hpb
  clear ha
  generalize (prevO bs g).isSome = ib at *
  obtain ⟨o, ho⟩ : ∃ o, gapO cs g = o := ⟨_, rfl⟩
  rw [ho]
  have HO := Lib.hid ho
  clear ho
  refine (callsIn_wide (n := 5)).1 ?_
  refine callsIn_of_wp_marks Tryz.func51 rfl trivial ?_ rfl
  simp only [Tryz.ntmps51, List.size_toArray, List.length_cons, List.length_nil, Nat.reduceAdd, Nat.reduceSub, Array.replicate_succ, Array.replicate_zero, List.push_toArray, List.append_toArray, List.nil_append, List.cons_append]
  gi_wp2_with (fail)
  have hk3 : Kept [] w (((w.alloc (.cells #[.int .i64 g] 3)).alloc (.cells #[.int .i64 0, .int .u8 0, .int .i64 0, .int .i64 0, .int .i64 0] 51)).alloc (.cells #[.bool false] 4)) := (((Kept.refl [] w).alloc _).alloc _).alloc _
  have hc3 := ((Has.new w 3 [.int .i64 g]).alloc (.cells #[.int .i64 0, .int .u8 0, .int .i64 0, .int .i64 0, .int .i64 0] 51)).alloc (.cells #[.bool false] 4)
  have hc4 := (Has.new (w.alloc (.cells #[.int .i64 g] 3)) 51 [.int .i64 0, .int .u8 0, .int .i64 0, .int .i64 0, .int .i64 0]).alloc (.cells #[.bool false] 4)
  have hc5 := Has.new ((w.alloc (.cells #[.int .i64 g] 3)).alloc (.cells #[.int .i64 0, .int .u8 0, .int .i64 0, .int .i64 0, .int .i64 0] 51)) 4 [.bool false]
  simp only [World.size_alloc] at hc4 hc5
  have hz3 : (((w.alloc (.cells #[.int .i64 g] 3)).alloc (.cells #[.int .i64 0, .int .u8 0, .int .i64 0, .int .i64 0, .int .i64 0] 51)).alloc (.cells #[.bool false] 4)).heap.size = w.heap.size + 1 + 1 + 1 := by simp
  obtain ⟨w3, hw3⟩ : ∃ w3, (((w.alloc (.cells #[.int .i64 g] 3)).alloc (.cells #[.int .i64 0, .int .u8 0, .int .i64 0, .int .i64 0, .int .i64 0] 51)).alloc (.cells #[.bool false] 4)) = w3 := ⟨_, rfl⟩
  rw [hw3] at hk3 hz3 ⊢
  have hc3' : Has w3 w.heap.size 3 [.int .i64 g] := by rw [← hw3]; exact hc3
  have hc4' : Has w3 (w.heap.size + 1) 51 [.int .i64 0, .int .u8 0, .int .i64 0, .int .i64 0, .int .i64 0] := by rw [← hw3]; exact hc4
  have hc5' : Has w3 (w.heap.size + 1 + 1) 4 [.bool false] := by rw [← hw3]; exact hc5
  clear hc3 hc4 hc5 hw3
  have Hz3 := Lib.hid hz3
  have Hk3 := Lib.hid hk3
  have Hc3 := Lib.hid hc3'
  have Hc4 := Lib.hid hc4'
  have Hc5 := Lib.hid hc5'
  have q0 := cell_regrown (show w3.cell? ⟨w.heap.size, 0, none⟩ = some (.int .i64 g) from hc3'.cell 0)
  have q1 := cell_regrown (HS.out.keep0 hk3).cells.2.2
  have CP : Hid (∀ d os, CallsIn Fence.wide 4 Tryz.prog 62 #[.pointer (some ⟨s.bp, 0, none⟩), .int .i64 g] (grow (redrawn w3 d) os) fun e z => e = .returned (.tuple #[.int .i64 a, .bool ib]) ∧ ∃ p : Regrown, z = grow (redrawn w3 p.d) p.os) :=
    Lib.hid fun d os => CallsIn.regrown_of ((callsIn_wide.2 (HP.out _ (Hk3.out.trans (Kept.ofBelow (below_regrown w3 d os) [])))).mono fun _ _ ⟨he, hk⟩ => ⟨he, hk.below (Nat.le_refl _) (by simp)⟩)
  clear hz3 hk3 hc3' hc4' hc5' HP
  refine wpIn_region_quiet_below rfl (by kernel_rfl) (by kernel_rfl) ?_
  repeat (refine wpQuietIn_step (by first | (intros; trivial) | (go_simp; done) | (go_simp; trivial)) (fun K hK => ?_); go_simp; (first | (refine hK _ ?_; clear hK K) | (apply Exists.intro; refine ⟨fun _ => ?_, hK _ ?_⟩; exact CP.out _ _; clear hK K)))
  refine wpQuietIn_nil ?_
  rintro _ ⟨⟨dq, osq⟩, rfl⟩
  have hk4 := Kept.ofBelow (below_regrown w3 dq osq) []
  clear q0 q1 CP
  generalize grow (redrawn w3 dq) osq = w4 at hk4 ⊢
  have HLs := Lib.hid (fun y => cells_ok (some ⟨s.sp, 0, none⟩) a y)
  have Hk4 := Lib.hid (Hk3.out.trans hk4)
  have Hz4 := Lib.hid hk4.more
  have Hc34 := Lib.hid (Hc3.out.keep0 hk4)
  have Hc44 := Lib.hid (Hc4.out.keep0 hk4)
  have Hc54 := Lib.hid (Hc5.out.keep0 hk4)
  clear hk4 Hc3 Hc4 Hc5 Hk3
  gi_wp2_with (fail)
  refine ⟨trivial, (callsIn_wide.2 (HLs.out _)).mono ?_⟩
  rintro e5 w5 ⟨rfl, hw5⟩
  have hk5 : Kept [] w4 w5 := by rw [hw5]; exact ((Kept.refl [] w4).alloc _).alloc _
  have hb5 : Has w5 w4.heap.size 29 [.pointer (some ⟨s.sp, 0, none⟩)] := by rw [hw5]; exact (Has.new w4 _ _).alloc _
  have hg5 : Has w5 (w4.heap.size + 1) 3 [.int .i64 a] := by
    rw [hw5]
    have := Has.new (w4.alloc (.cells #[.pointer (some ⟨s.sp, 0, none⟩)] 29)) 3 [.int .i64 a]
    rwa [World.size_alloc] at this
  have Hk5 := Lib.hid (Hk4.out.trans hk5)
  have Hb5 := Lib.hid hb5
  have Hg5 := Lib.hid hg5
  have Hc35 := Lib.hid (Hc34.out.keep0 hk5)
  have Hc45 := Lib.hid (Hc44.out.keep0 hk5)
  have Hc55 := Lib.hid (Hc54.out.keep0 hk5)
  clear hk5 hb5 hg5 hw5 HLs Hc34 Hc44 Hc54
  generalize w4.heap.size = bb at *
  gi_wp2_with (fail)
  refine wpIn_rangeFunc_ownH rfl (by decide) (gf := 55) (lb := #[.pointer (some ⟨bb + 1, 0, none⟩), .pointer (some ⟨bb, 0, none⟩)]) rfl trivial (enters_of Tryz.func55 (by kernel_rfl) rfl)
    (cells_stops 4 (by decide) (w.heap.size + 1 + 1) (bb + 1) bb s l ws bs a cs w5 Hg5.out (by omega) (by omega) Hb5.out (HF.out.keep0 Hk5.out) (HS.out.keep0 Hk5.out) HC.out Hc55.out (by decide) (by decide) rfl)
    (fun h k => h.trans k) (fun W l o o' hl h hc _ => Kpw.put Hc55.out.lt W l o o' hl h hc) (Below.refl _ _) (fun _ => rfl)
    (fun pre W => (∀ c ∈ vals pre, ¬ g < c.a + c.h.sz) ∧ Has W w.heap.size 3 [.int .i64 g] ∧ Has W (w.heap.size + 1) 51 [.int .i64 0, .int .u8 0, .int .i64 0, .int .i64 0, .int .i64 0] ∧ Has W (w.heap.size + 1 + 1) 4 [.bool false] ∧ Kept [] w W)
    (fun c pre W => (c = .ret ∧ ∃ ys x, pre = ys ++ [x] ∧ (∀ c ∈ vals ys, ¬ g < c.a + c.h.sz) ∧ g < x.1.a + x.1.h.sz ∧ Has W (w.heap.size + 1) 51 [.int .i64 x.1.a, .int .u8 x.1.h.tg, .int .i64 x.1.h.ty, .int .i64 x.1.h.ln, .int .i64 x.1.h.sz] ∧ Has W (w.heap.size + 1 + 1) 4 [.bool (x.1.h.tg != 1)]) ∧ Kept [] w W)
    (OwnFrom.and (ownFrom_pure _ _) (OwnFrom.and own_has (OwnFrom.and own_has (OwnFrom.and own_has (own_kept Hk5.out.more)))))
    (fun c => OwnFrom.and (fun pre X Y row hs hg hr => by
      obtain ⟨hc, ys, x, h1, h2, h3, h4, h5⟩ := hs
      exact ⟨hc, ys, x, h1, h2, h3, own_has (β := Unit) (f := fun _ => [.int .i64 x.1.a, .int .u8 x.1.h.tg, .int .i64 x.1.h.ty, .int .i64 x.1.h.ln, .int .i64 x.1.h.sz]) () X Y row h4 hg hr, own_has (β := Unit) (f := fun _ => [.bool (x.1.h.tg != 1)]) () X Y row h5 hg hr⟩) (own_kept Hk5.out.more))
    ⟨(by simp [vals]), Hc35.out, Hc45.out, Hc55.out, Hk5.out⟩
    (fun x a' W => ∃ Bx, Has W Bx 51 [.int .i64 x.1.a, .int .u8 x.1.h.tg, .int .i64 x.1.h.ty, .int .i64 x.1.h.ln, .int .i64 x.1.h.sz] ∧ Bx ≠ w.heap.size + 1 ∧ a' = { tmps := #[.pointer (some ⟨s.sp, 0, none⟩), .int .i64 g, undef, .pointer (some ⟨w.heap.size, 0, none⟩), .pointer (some ⟨w.heap.size + 1, 0, none⟩), .pointer (some ⟨w.heap.size + 1 + 1, 0, none⟩), .int .i64 a, .bool ib, .pointer (some ⟨Bx, 0, none⟩), .tuple #[.int .i64 a, .bool ib], .pointer (some ⟨s.sp, 0, none⟩), .pointer (some ⟨s.sp, 0, none⟩), .pointer (some ⟨s.sp, 2, none⟩), .pointer (some ⟨s.bp, 0, none⟩), .int .i64 g, .tuple #[.int .i64 a, .bool ib], .int .i64 a, .bool ib, .pointer (some ⟨s.sp, 0, none⟩), .int .i64 a, .func (.func 55) #[] #[.pointer (some ⟨bb + 1, 0, none⟩), .pointer (some ⟨bb, 0, none⟩)], .agg #[.int .i64 x.1.a, .int .u8 x.1.h.tg, .int .i64 x.1.h.ty, .int .i64 x.1.h.ln, .int .i64 x.1.h.sz], undef, undef, undef, undef, undef, undef, undef, undef, undef, undef], defers := [] })
    (fun x a' _ X Y row hs hg hr => by
      obtain ⟨Bx, h2, h3, h4⟩ := hs
      exact ⟨Bx, own_has (β := Unit) (f := fun _ => [.int .i64 x.1.a, .int .u8 x.1.h.tg, .int .i64 x.1.h.ty, .int .i64 x.1.h.ln, .int .i64 x.1.h.sz]) () X Y row h2 hg hr, h3, h4⟩)
    ?assign ?body ?done ?stop
  case assign =>
    rintro l pre x W K ⟨h1, h2, h3, h4, h5⟩ hK
    unfold encs
    have HK := Lib.hid hK
    have H1 := Lib.hid h1
    have H2 := Lib.hid h2
    have H3 := Lib.hid h3
    have H4 := Lib.hid h4
    have H5 := Lib.hid h5
    clear h1 h2 h3 h4 h5 hK
    gi_wp2
    have hkn : Kept [] W (W.alloc (.cells #[.int .i64 x.1.a, .int .u8 x.1.h.tg, .int .i64 x.1.h.ty, .int .i64 x.1.h.ln, .int .i64 x.1.h.sz] 51)) := (Kept.refl [] W).alloc _
    exact HK.out _ _ (keepsFrom_of hkn (by simp)) (Kpw.ofKept hkn H4.out.lt) ⟨H1.out, H2.out.keep0 hkn, H3.out.keep0 hkn, H4.out.keep0 hkn, H5.out.trans hkn⟩ ⟨W.heap.size, Has.new W _ _, (by have := H3.out.lt; omega), rfl⟩
  case body =>
    rintro l0 pre x a' W _ _ ⟨h1, h2, h3, h4, h5⟩ ⟨Bx, hX, hBx, rfl⟩ hlen
    obtain ⟨hx1, hx2⟩ := HC.out.mem x.1 x.2
    have hfa := cellB_facts hx1
    rw [← hx2] at hfa
    have HBh := Lib.hid (fun X => behind_ok x.1 (by omega) (by omega) (by omega) (by omega) X)
    have hx : x.1.a + x.1.h.sz ≤ 32768 ∧ 0 ≤ x.1.a ∧ 1 ≤ x.1.h.sz := by omega
    clear hx1 hx2 hfa hlen
    obtain ⟨⟨xa, ⟨xt, xy, xl, xz⟩⟩, hmem⟩ := x
    simp only at *
    unfold Cel.val at HBh
    simp only at HBh
    have b0 := cell_regrown (show W.cell? ⟨w.heap.size, 0, none⟩ = some (.int .i64 g) from h2.cell 0)
    obtain ⟨p0, p1, p2, p3, p4⟩ := cells5 hX
    have d0 := cell_regrown p0
    have d1 := cell_regrown p1
    have d2 := cell_regrown p2
    have d3 := cell_regrown p3
    have d4 := cell_regrown p4
    have CB : Hid (∀ d os, Calls Tryz.prog 52 #[.agg #[.int .i64 xa, .int .u8 xt, .int .i64 xy, .int .i64 xl, .int .i64 xz]] (grow (redrawn W d) os) fun e z => e = .returned (.int .i64 (xa + xz)) ∧ ∃ p : Regrown, z = grow (redrawn W p.d) p.os) :=
      Lib.hid fun d os => Calls.regrown_of ((HBh.out _).mono fun _ _ ⟨he, hk⟩ => ⟨he, hk.below (Nat.le_refl _) (by simp)⟩)
    have H1 := Lib.hid h1
    have H2 := Lib.hid h2
    have H3 := Lib.hid h3
    have H4 := Lib.hid h4
    have H5 := Lib.hid h5
    have HX := Lib.hid hX
    have HBx := Lib.hid hBx
    clear p0 p1 p2 p3 p4 HBh h1 h2 h3 h4 h5 hX hBx
    have hmix : Tryz.prog.follows .mixedOrders = true := by kernel_rfl
    by_cases hlt : g < xa + xz
    · gi_wp2_with (fail)
      refine Rk.wpIn_head (r := some l0) (C := fun w' => ∃ p : Regrown, w' = grow (redrawn W p.d) p.os) 3 (by kernel_rfl) (by kernel_rfl) ⟨⟨W.drawn + 1, #[]⟩, by rw [grow_empty]; rfl⟩ ?_
      simp only [List.take_succ_cons, List.take_zero, List.drop_succ_cons, List.drop_zero]
      repeat (quiet_step (exact CB.out _ _))
      refine wpQuiet_nil ?_
      rintro _ ⟨⟨dq, osq⟩, rfl⟩
      rw [← Rk.fence_round]
      have hk6 := Kept.ofBelow (below_regrown W dq osq) []
      show wpListIn _ _ _ _ _ _ _ (grow (redrawn W dq) osq)
      clear b0 d0 d1 d2 d3 d4 CB
      generalize grow (redrawn W dq) osq = W6 at hk6 ⊢
      have X6 := Lib.hid (HX.out.keep0 hk6)
      have H36 := Lib.hid (H3.out.keep0 hk6)
      have H46 := Lib.hid (H4.out.keep0 hk6)
      have K6 := Lib.hid hk6
      obtain ⟨x0, x1, x2, x3, x4⟩ := cells5 X6.out
      obtain ⟨f0, f1, f2, f3, f4⟩ := free5 H36.out
      obtain ⟨d0, d1, d2, d3, d4⟩ := cells5 H36.out
      have e0 := H46.out.cell 0
      simp at e0
      have e1 := H46.out.free 0
      have hBx := HBx.out
      have hlx : Bx < W6.heap.size := X6.out.lt
      have P4 : Hid (∃ cs, Has W (w.heap.size + 1) 51 cs) := Lib.hid ⟨_, H3.out⟩
      have P5 : Hid (∃ cs, Has W (w.heap.size + 1 + 1) 4 cs) := Lib.hid ⟨_, H4.out⟩
      clear hk6 HX H3 H4
      gi_wp2_with (fail)
      gi_cut [] from 26 (fun wr => Hid (Has wr (w.heap.size + 1) 51 [.int .i64 xa, .int .u8 xt, .int .i64 xy, .int .i64 xl, .int .i64 xz] ∧ Has wr (w.heap.size + 1 + 1) 4 [.bool (xt != 1)] ∧ Kept [w.heap.size + 1, w.heap.size + 1 + 1] W wr))
      case first =>
        gi_region_with_o (fail)
        all_goals gi_wp2_with (fail)
        all_goals gi_meet
        all_goals exact Lib.hid (stored (b := w.heap.size) H36.out H46.out K6.out)
      case rest =>
        clear x0 x1 x2 x3 x4 f0 f1 f2 f3 f4 d0 d1 d2 d3 d4 e0 e1
        gi_wp2_with (fail)
        refine ⟨keepsFrom_of hcut.out.2.2 (fun b hb => ?_), ⟨rfl, pre, (⟨xa, ⟨xt, xy, xl, xz⟩⟩ : Cel), ⟨hmem, rfl⟩, H1.out, hlt, hcut.out.1, hcut.out.2.1⟩, H5.out.forget hcut.out.2.2 (by simp; omega)⟩
        rcases List.mem_cons.1 hb with rfl | hb
        · exact ⟨_, P4.out⟩
        · obtain rfl := List.mem_singleton.1 hb
          exact ⟨_, P5.out⟩
    · gi_wp2_with (fail)
      refine Rk.wpIn_head (r := some l0) (C := fun w' => ∃ p : Regrown, w' = grow (redrawn W p.d) p.os) 3 (by kernel_rfl) (by kernel_rfl) ⟨⟨W.drawn + 1, #[]⟩, by rw [grow_empty]; rfl⟩ ?_
      simp only [List.take_succ_cons, List.take_zero, List.drop_succ_cons, List.drop_zero]
      repeat (quiet_step (exact CB.out _ _))
      refine wpQuiet_nil ?_
      rintro _ ⟨⟨dq, osq⟩, rfl⟩
      rw [← Rk.fence_round]
      have hk6 := Kept.ofBelow (below_regrown W dq osq) []
      show wpListIn _ _ _ _ _ _ _ (grow (redrawn W dq) osq)
      clear b0 d0 d1 d2 d3 d4 CB
      generalize grow (redrawn W dq) osq = W6 at hk6 ⊢
      have K6 := Lib.hid hk6
      clear hk6
      gi_wp2_with (fail)
      refine ⟨keepsFrom_of K6.out (by simp), Kpw.ofKept K6.out H4.out.lt, ?_, H2.out.keep0 K6.out, H3.out.keep0 K6.out, H4.out.keep0 K6.out, H5.out.trans K6.out⟩
      intro c hc
      rw [vals_snoc] at hc
      rcases List.mem_append.1 hc with h | h
      · exact H1.out c h
      · rw [List.mem_singleton.1 h]; exact hlt
  case done =>
    rintro D xs W hD hx ⟨h1, h2, h3, h4, h5⟩ hK
    have hn : gapO cs g = none := (congrArg (fun z => gapO z g) hx.symm).trans (gapO_none h1)
    have hn : o = none := HO.out.symm.trans hn
    subst hn
    obtain ⟨f0, f1, f2, f3, f4⟩ := free5 h3
    obtain ⟨d0, d1, d2, d3, d4⟩ := cells5 h3
    have e0 := h4.cell 0
    simp at e0
    have e1 := h4.free 0
    have HKd := Lib.hid hK
    have H3 := Lib.hid h3
    have H4 := Lib.hid h4
    have H5 := Lib.hid h5
    clear hK h1 h2 h3 h4 h5 hx
    gi_wp2
    have hD1 : w.heap.size + 1 ≠ D := by have := Hc45.out.lt; omega
    have hD2 : w.heap.size + 1 + 1 ≠ D := by have := Hc55.out.lt; omega
    have h4 := (put5_has H3.out (.int .i64 0) (.int .u8 0) (.int .i64 0) (.int .i64 0) (.int .i64 0)).beside ⟨w.heap.size + 1 + 1, 0, none⟩ (by simp) (.bool false)
    have h5 : Has ((put5 (w.heap.size + 1) (.int .i64 0) (.int .u8 0) (.int .i64 0) (.int .i64 0) (.int .i64 0) W).setCell ⟨w.heap.size + 1 + 1, 0, none⟩ (.bool false)) (w.heap.size + 1 + 1) 4 [.bool false] :=
      Has.put (((((H4.out.beside _ (by simp) _).beside _ (by simp) _).beside _ (by simp) _).beside _ (by simp) _).beside _ (by simp) _) 0 _
    have hk7 : Kept [] w ((put5 (w.heap.size + 1) (.int .i64 0) (.int .u8 0) (.int .i64 0) (.int .i64 0) (.int .i64 0) W).setCell ⟨w.heap.size + 1 + 1, 0, none⟩ (.bool false)) :=
      (put5_kept H5.out (.inr (by simp)) _ _ _ _ _).setCell _ _ (.inr (by simp; omega))
    have hK2 : ((put5 (w.heap.size + 1) (.int .i64 0) (.int .u8 0) (.int .i64 0) (.int .i64 0) (.int .i64 0) W).setCell ⟨w.heap.size + 1 + 1, 0, none⟩ (.bool false)).heap[D]? = some (.deferred (some [])) := by
      unfold put5
      rw [put_other hD2, put_other hD1, put_other hD1, put_other hD1, put_other hD1, put_other hD1]
      exact HKd.out
    unfold put5 at h4 h5 hk7 hK2
    generalize ((((((W.setCell ⟨w.heap.size + 1, 0, none⟩ (.int .i64 0)).setCell ⟨w.heap.size + 1, 1, none⟩ (.int .u8 0)).setCell ⟨w.heap.size + 1, 2, none⟩ (.int .i64 0)).setCell ⟨w.heap.size + 1, 3, none⟩ (.int .i64 0)).setCell ⟨w.heap.size + 1, 4, none⟩ (.int .i64 0)).setCell ⟨w.heap.size + 1 + 1, 0, none⟩ (.bool false)) = W7 at *
    have h4' := has_put h4 D _ (.deferred none) hK2 rfl
    have h5' := (has_put h5 D _ (.deferred none) hK2 rfl).cell 0
    simp at h5'
    obtain ⟨z0, z1, z2, z3, z4⟩ := cells5 h4'
    refine ⟨by simp, .inl ⟨_, _, rfl, run_takeDeferred hK2, ?_⟩⟩
    refine ⟨.tuple #[.agg #[.int .i64 0, .int .u8 0, .int .i64 0, .int .i64 0, .int .i64 0], .bool false], ?_, rfl, kept_put hk7 D _ (Nat.le_trans Hk5.out.more hD)⟩
    simp [results, Tryz.results51, go_sem, z0, z1, z2, z3, z4, h5']
  case stop =>
    rintro D c pre W hD ⟨rest, hg⟩ ⟨⟨rfl, ys, x, rfl, h1, hx, h4, h5⟩, hk⟩ hK
    have hn : gapO cs g = some x.1 := by
      refine (congrArg (fun z => gapO z g) hg).trans ?_
      rw [vals_snoc]
      exact gapO_some h1 hx
    have hn : o = some x.1 := HO.out.symm.trans hn
    subst hn
    have HKd := Lib.hid hK
    have Hk := Lib.hid hk
    have H4 := Lib.hid h4
    have H5 := Lib.hid h5
    clear hK hk h1 h4 h5 hg hx
    gi_wp2
    have h4' := has_put H4.out D _ (.deferred none) HKd.out rfl
    have h5' := (has_put H5.out D _ (.deferred none) HKd.out rfl).cell 0
    simp only [List.getElem?_cons_zero] at h5'
    obtain ⟨z0, z1, z2, z3, z4⟩ := cells5 h4'
    refine ⟨by simp, .inl ⟨_, _, rfl, run_takeDeferred HKd.out, ?_⟩⟩
    refine ⟨.tuple #[x.1.val, .bool (x.1.h.tg != 1)], ?_, rfl, kept_put Hk.out D _ (Nat.le_trans Hk5.out.more hD)⟩
    unfold Cel.val
    simp [results, Tryz.results51, go_sem, z0, z1, z2, z3, z4, h5']
end Go.Proofs.YtoagghileebokaaGreatDoor.Sp

/-
  The contracts of New, Put and Drop.
-/
namespace Go.Proofs.YtoagghileebokaaGreatDoor.Sp
open Go.RowKit Go.Proofs.YtoagghileebokaaGreatDoor.Ar Go.Proofs.YtoagghileebokaaGreatDoor.Sh Go.Sort
open Go.Proofs.YtoagghileebokaaGreatDoor.Hd (Hd Fields cells4 free4 ofL of_tab)
open Go.Proofs.YtoagghileebokaaGreatDoor.Tb (Ty Tab blk cells3 sizeE)
open Go.Proofs.YtoagghileebokaaGreatDoor.Bt (Bv atI prevO nextO prev_ok next_ok has_ok hasV)
open Go.Proofs.YtoagghileebokaaGreatDoor.Wd (Table)
set_option linter.unusedVariables false

theorem near_nil : Near [] := fun c hc => by cases hc
set_option maxRecDepth 100000 in
theorem new_no (n : Int) (hn : mayB n = false) (tp : Nat) (w : World) : Calls Tryz.prog 20 #[.int .i64 n, .pointer (some ⟨tp, 0, none⟩)] w fun e w' => e = .returned (.tuple #[.pointer none, .int .i64 2]) ∧ w = w' := by
  have H := Lib.hid (new_bad n hn w)
  clear hn
  go_enter Tryz.func20, Tryz.ntmps20
  go_wp2_with fail
  refine H.out.mono ?_
  rintro e w1 ⟨rfl, rfl⟩
  go_wp2_with fail
  go_ret2
  exact ⟨rfl, rfl⟩
/-- The words and bits of a new space. -/
def newW (n : Nat) : List Int := becomeW (List.replicate n 0) 0 [] (gran (List.replicate n 0))
def newB (n : Nat) : List Bool := becomeB (List.replicate (gran (List.replicate n 0)).toNat false) 0 [] (gran (List.replicate n 0))
set_option maxRecDepth 100000 in
set_option maxHeartbeats 1000000 in
theorem new_yes0 (n : Nat) (hn : mayB (n : Int) = true) {w : World} {tp : Nat} {A : Option Addr} {c : Nat} {l : List Ty} (hF : Fields w) (hT : Tab w tp A c l) :
    Calls Tryz.prog 20 #[.int .i64 (n : Int), .pointer (some ⟨tp, 0, none⟩)] w fun e w' => ∃ s : Ids, e = .returned (.tuple #[.pointer (some ⟨s.sp, 0, none⟩), .int .i64 0]) ∧ s.tp = tp ∧ Spc w' s l (newW n) (newB n) ∧ Kept [] w w' ∧ ∀ i ∈ s.turn, w.heap.size ≤ i := by
  have H := Lib.hid (new_ok n hn w)
  have HF := Lib.hid hF
  have HT := Lib.hid hT
  have HL : Hid ((List.replicate n (0 : Int)).length ≤ 65536) := Lib.hid (by have := ((mayB_iff _).1 hn).2.1; rw [List.length_replicate]; omega)
  clear hn hF hT
  go_enter Tryz.func20, Tryz.ntmps20
  go_wp2_with fail
  refine H.out.mono ?_
  rintro e w1 ⟨p, q, rfl, hp, hq, ha, hk⟩
  have HB := Lib.hid (bare_ok ha (HT.out.keep0 hk) (Wm.zeros n))
  have HK := Lib.hid hk
  clear hk ha H
  go_wp2_with fail
  refine HB.out.mono ?_
  rintro e w2 ⟨sp, bp, bq, rfl, hS, hk2, hbq⟩
  have hk02 := HK.out.trans hk2
  have hturn : ∀ i ∈ Ids.turn ⟨sp, p, q, tp, A, c, bp, bq, 0⟩, w.heap.size ≤ i := by
    intro i hi
    have := HK.out.more
    simp [Ids.turn] at hi
    omega
  have hG : Glob0 w2 ⟨sp, p, q, tp, A, c, bp, bq, 0⟩ := ⟨HF.out.keep0 hk02, fun hm => by
    have := hturn _ hm
    have := HF.out.lt
    omega⟩
  have hgr : 0 ≤ gran (List.replicate n 0) ∧ gran (List.replicate n 0) ≤ 32768 := by have := HL.out; unfold gran; omega
  have HGr := Lib.hid (granules_ok hS)
  have HBe := Lib.hid (become_ok hG hS 0 (gran (List.replicate n 0)) (by omega) (by omega) hgr.1 (by omega) none 0 [] (Seen.nil _ _) (fun g o e => by cases e) near_nil (by simp))
  have HK2 := Lib.hid hk02
  have HTu := Lib.hid hturn
  clear hS hk2 hk02 hturn hG HB
  go_wp2_with fail
  refine HGr.out.mono ?_
  rintro e w3 ⟨rfl, rfl⟩
  go_wp2_with fail
  refine HBe.out.mono ?_
  rintro e w4 ⟨⟨v4, rfl⟩, hS4, hk4⟩
  have HS4 := Lib.hid hS4
  have HK4 := Lib.hid (HK2.out.forget hk4 HTu.out)
  clear hS4 hk4 HBe
  go_wp2_with fail
  go_ret2
  exact ⟨⟨sp, p, q, tp, A, c, bp, bq, 0⟩, rfl, rfl, HS4.out, HK4.out, HTu.out⟩
section
variable {w : World} {s : Ids} {l : List Ty} {ws : List Int} {bs : List Bool}
theorem new_yes (n : Nat) (hn : mayB (n : Int) = true) {w : World} {tp : Nat} {A : Option Addr} {c : Nat} {l : List Ty} (hF : Fields w) (hTb : Table w) (hT : Tab w tp A c l) :
    Calls Tryz.prog 20 #[.int .i64 (n : Int), .pointer (some ⟨tp, 0, none⟩)] w fun e w' => ∃ s : Ids, e = .returned (.tuple #[.pointer (some ⟨s.sp, 0, none⟩), .int .i64 0]) ∧ s.tp = tp ∧ Spc w' s l (newW n) (newB n) ∧ Kept [] w w' ∧ ∀ i ∈ s.turn, w.heap.size ≤ i := new_yes0 n hn hF hT
/-- What Drop makes of words and bits. -/
def dropW (ws : List Int) (bs : List Bool) (g : Int) : List Int := becomeW ws (prevEndV bs ws g) [] (nextStartV bs ws g)
def dropB (ws : List Int) (bs : List Bool) (g : Int) : List Bool := becomeB bs (prevEndV bs ws g) [] (nextStartV bs ws g)
theorem prevEndV_bound (h : Spc w s l ws bs) (g : Int) : 0 ≤ prevEndV bs ws g ∧ prevEndV bs ws g ≤ 17000000 := by
  have hb := prevO_bound bs (g - 1)
  have hz := hdH_sz ws (atI (prevO bs (g - 1)))
  have := h.few
  unfold prevEndV
  split <;> omega
end
end Go.Proofs.YtoagghileebokaaGreatDoor.Sp
