/-
  The contracts of cells, AppendSeq, Collect and Cells: all cells, in order.
-/
import Derived.Test.YtfdombfdgpclcaaGreatDoorSpIter
import Derived.Test.YtfdombfdgpclcaaGreatDoorGB
import Derived.Shelf.RegionOpen
namespace Go.Proofs.YtfdombfdgpclcaaGreatDoor.Sp
open Go.RowKit Go.Proofs.YtfdombfdgpclcaaGreatDoor.Ar Go.Proofs.YtfdombfdgpclcaaGreatDoor.Sh Go.Proofs.YtfdombfdgpclcaaGreatDoor.Lk Go.Shelf Go.Sort
open Go.Proofs.YtfdombfdgpclcaaGreatDoor.Hd (Hd Fields)
open Go.Proofs.YtfdombfdgpclcaaGreatDoor.Tb (Ty Tab)
set_option linter.unusedVariables false
attribute [local go_sem] Oper.semAt_some

def FreshV (w : World) (v : Value) : Prop := v.ownBlock = none ∨ ∃ b, v.ownBlock = some b ∧ w.heap.size ≤ b
/-- The box b and the slice in it alone have turned. -/
theorem kpw_of {A B : World} {b : Nat} {t : TypeId} {v v' : Value} (hb : Has A b t [v]) (k : Kept (b :: v.ownBlock.toList) A B) (hb' : Has B b t [v']) (ho : v'.ownBlock = v.ownBlock ∨ ∃ g, v'.ownBlock = some g ∧ A.heap.size ≤ g ∧ g < B.heap.size) : Kpw b A B := by
  refine ⟨k.more, fun i o hi hn hx hc => ?_, ?_⟩
  · rw [ownAt_has hb] at hn
    refine (k.old i (Array.getElem?_eq_some_iff.1 hx).1 ?_).trans hx
    intro hm
    rcases List.mem_cons.1 hm with rfl | hm
    · exact hi rfl
    · exact hn (by simpa using hm)
  · rw [ownAt_has hb, ownAt_has hb']
    exact ho
theorem cells_ok (p : Option Addr) (g : Int) (w : World) :
    Calls Tryz.prog 24 #[.pointer p, .int .i64 g] w fun e w' => e = .returned (.func (.func 50) #[] #[.pointer (some ⟨w.heap.size + 1, 0, none⟩), .pointer (some ⟨w.heap.size, 0, none⟩)]) ∧ w' = (w.alloc (.cells #[.pointer p] 30)).alloc (.cells #[.int .i64 g] 3) := by
  go_enter Tryz.func24, Tryz.ntmps24
  go_wp2_with fail
  go_ret
  exact ⟨by simp, rfl⟩
set_option maxRecDepth 100000 in
set_option maxHeartbeats 4000000 in
theorem appendSeq_ok (bg bb : Nat) (s : Ids) (l : List Ty) (ws : List Int) (bs : List Bool) (g : Int) (cs : List Cel) (w : World)
    (hG : Has w bg 3 [.int .i64 g]) (g0 : 0 ≤ g) (g1 : g ≤ 1000000) (hB : Has w bb 30 [.pointer (some ⟨s.sp, 0, none⟩)]) (hF : Fields w) (hS : Spc w s l ws bs) (hC : Scans ws l g cs) :
    Calls Tryz.prog 49 #[.slice none 0 0, .func (.func 50) #[] #[.pointer (some ⟨bg, 0, none⟩), .pointer (some ⟨bb, 0, none⟩)]] w fun e w' => ∃ v, e = .returned v ∧ Own w' v cs ∧ FreshV w v ∧ Kept [] w w' := by
  have hcl : cs.length ≤ 32768 := by
    have hsh := hS.short
    rcases hC.length g0 with h | h
    · omega
    · subst h; simp
  have HG := Lib.hid hG
  have HB := Lib.hid hB
  have HF := Lib.hid hF
  have HS := Lib.hid hS
  have HC := Lib.hid hC
  clear hG hB hF hS hC
  refine (callsIn_wide (n := 5)).1 ?_
  refine callsIn_of_wp_marks Tryz.func49 rfl trivial ?_ rfl
  simp only [Tryz.ntmps49, List.size_toArray, List.length_cons, List.length_nil, Nat.reduceAdd, Nat.reduceSub, Array.replicate_succ, Array.replicate_zero, List.push_toArray, List.append_toArray, List.nil_append, List.cons_append]
  gi_wp2_with (fail)
  have hk2 : Kept [] w (w.alloc (.cells #[.slice none 0 0] 33)) := (Kept.refl [] w).alloc _
  have h3 := Has.new w 33 [.slice none 0 0]
  obtain ⟨w2, hw2⟩ : ∃ w2, w.alloc (.cells #[.slice none 0 0] 33) = w2 := ⟨_, rfl⟩
  have hw2' : w.alloc (.cells [.slice none 0 0].toArray 33) = w2 := hw2
  rw [hw2] at hk2 ⊢
  rw [hw2'] at h3
  clear hw2 hw2'
  have H30 := Lib.hid h3
  have Hkw := Lib.hid hk2
  have Hlt0 := Lib.hid h3.lt
  clear h3 hk2
  refine wpIn_rangeFunc_ownH rfl (by decide) (gf := 50) (lb := #[.pointer (some ⟨bg, 0, none⟩), .pointer (some ⟨bb, 0, none⟩)]) rfl trivial (enters_of Tryz.func50 (by kernel_rfl) rfl)
    (cells_stops 4 (by decide) w.heap.size bg bb s l ws bs g cs w2 (HG.out.keep0 Hkw.out) g0 g1 (HB.out.keep0 Hkw.out) (HF.out.keep0 Hkw.out) (HS.out.keep0 Hkw.out) HC.out H30.out (by decide) (by decide) rfl)
    (fun h k => h.trans k) (fun W l o o' hl h hc _ => Kpw.put Hlt0.out W l o o' hl h hc) (Below.refl _ _) (fun _ => rfl)
    (fun pre W => (∃ v, Has W w.heap.size 33 [v] ∧ Own W v (vals pre) ∧ FreshV w v) ∧ Kept [] w W)
    (fun _ _ _ => False)
    (OwnFrom.and (fun pre X Y row hs hg hr => by
      obtain ⟨v, h1, h2, h3⟩ := hs
      exact ⟨v, own_has (β := Unit) (f := fun _ => [v]) () X Y row h1 hg hr, own_from () X Y row h2 hg hr, h3⟩) (own_kept Hkw.out.more))
    (fun _ _ _ _ _ hs _ _ => hs)
    ⟨⟨_, H30.out, Own.nil _, .inl rfl⟩, Hkw.out⟩
    (fun x a' W => ∃ Bx, Has W Bx 45 [.int .i64 x.1.a, .int .u8 x.1.h.tg, .int .i64 x.1.h.ty, .int .i64 x.1.h.ln, .int .i64 x.1.h.sz] ∧ a' = { tmps := #[.slice none 0 0, .func (.func 50) #[] #[.pointer (some ⟨bg, 0, none⟩), .pointer (some ⟨bb, 0, none⟩)], .pointer (some ⟨w.heap.size, 0, none⟩), undef, .slice none 0 0, .pointer (some ⟨Bx, 0, none⟩), .func (.func 50) #[] #[.pointer (some ⟨bg, 0, none⟩), .pointer (some ⟨bb, 0, none⟩)], .agg #[.int .i64 x.1.a, .int .u8 x.1.h.tg, .int .i64 x.1.h.ty, .int .i64 x.1.h.ln, .int .i64 x.1.h.sz], undef, undef, undef, undef, undef], defers := [] })
    (fun x a' _ X Y row hs hg hr => by
      obtain ⟨Bx, h2, h3⟩ := hs
      exact ⟨Bx, own_has (β := Unit) (f := fun _ => [.int .i64 x.1.a, .int .u8 x.1.h.tg, .int .i64 x.1.h.ty, .int .i64 x.1.h.ln, .int .i64 x.1.h.sz]) () X Y row h2 hg hr, h3⟩)
    ?assign ?body ?done ?stop
  case assign =>
    rintro l pre x W K ⟨⟨v, hi3, hO, hV⟩, hk⟩ hK
    unfold encs
    have HK := Lib.hid hK
    have HI := Lib.hid hi3
    have HO := Lib.hid hO
    have HV := Lib.hid hV
    have Hk := Lib.hid hk
    clear hi3 hO hV hk hK
    gi_wp2
    have hkn : Kept [] W (W.alloc (.cells #[.int .i64 x.1.a, .int .u8 x.1.h.tg, .int .i64 x.1.h.ty, .int .i64 x.1.h.ln, .int .i64 x.1.h.sz] 45)) := (Kept.refl [] W).alloc _
    exact HK.out _ _ (keepsFrom_of hkn (by simp)) (Kpw.ofKept hkn HI.out.lt) ⟨⟨v, HI.out.keep0 hkn, HO.out.keep0 hkn, HV.out⟩, Hk.out.trans hkn⟩ ⟨W.heap.size, Has.new W _ _, rfl⟩
  case body =>
    rintro l pre y a' W _ _ ⟨⟨v, hi3, hO, hV⟩, hk⟩ ⟨Bx, hX, rfl⟩ hlen
    have hsn := vals_snoc pre y
    obtain ⟨rs, hs⟩ : ∃ rs, rs = vals pre := ⟨_, rfl⟩
    have hlr : rs.length ≤ 32768 := by rw [hs]; unfold vals; rw [List.length_map]; omega
    rw [← hs] at hsn hO
    have Hsn := Lib.hid hsn
    clear hsn hs
    obtain ⟨⟨ca, ⟨ct, cy, cl, cz⟩⟩, hy⟩ := y
    simp only at Hsn hX
    obtain ⟨x0, x1, x2, x3, x4⟩ := cells5 hX
    have c3 := hi3.cell 0
    have f3 := hi3.free 0
    simp at c3
    have Hk := Lib.hid hk
    have H3' := Lib.hid hi3
    have HO := Lib.hid hO
    have HV := Lib.hid hV
    clear hk hlen hO hV hX
    dsimp only
    clear hi3
    have hka : Kept [] W (W.alloc (.cells #[.int .i64 ca, .int .u8 ct, .int .i64 cy, .int .i64 cl, .int .i64 cz] 45)) := (Kept.refl [] W).alloc _
    have hB : Has (W.alloc (.cells #[.int .i64 ca, .int .u8 ct, .int .i64 cy, .int .i64 cl, .int .i64 cz] 45)) W.heap.size 45 (Cel.l ⟨ca, ⟨ct, cy, cl, cz⟩⟩) := Has.new W 45 [.int .i64 ca, .int .u8 ct, .int .i64 cy, .int .i64 cl, .int .i64 cz]
    have hOa := HO.out.keep0 hka
    have H0 := Lib.hid hB
    have HOa := Lib.hid hOa
    have Hka := Lib.hid hka
    clear hOa hka hB
    gi_wp2_with (gi_at_builtin; refine append_cels_in rfl (.tmp 8) (.tmp 10) rfl v rs rfl HOa.out W.heap.size 1 ⟨ca, ⟨ct, cy, cl, cz⟩⟩ rfl H0.out (by omega) ?_)
    all_goals
      intro v' w3 hO hG hV
      have hk3 : Kept [] w w3 := own_grown (Hk.out.trans Hka.out) HV.out hG
      have hF3 := own_fresh (v' := v') (Hk.out.trans Hka.out) HV.out (by rw [World.size_alloc]; exact hV)
      have hS := kept_grown hG
      have hne : w.heap.size ∉ v.ownBlock.toList := fun hm => by
        obtain ⟨cs, hcs⟩ := own_cells HO.out _ hm
        exact Has.block_type H3'.out hcs (by decide) rfl
      have h3 := (H3'.out.keep0 Hka.out).kept hS hne
      have c3 := h3.cell 0
      have f3 := h3.free 0
      simp at c3
      obtain ⟨g', cap', rfl, hg', _⟩ : ∃ g cap, v' = .slice (some ⟨g, 0, none⟩) (rs ++ [(⟨ca, ⟨ct, cy, cl, cz⟩⟩ : Cel)]).length cap ∧ g < w3.heap.size ∧ (rs ++ [(⟨ca, ⟨ct, cy, cl, cz⟩⟩ : Cel)]).length ≤ cap := by
        rcases hO.form with ⟨_, h⟩ | h
        · simp at h
        · obtain ⟨g, cap, h1, h2, h3, _⟩ := h
          exact ⟨g, cap, h1, h2, h3⟩
      have hown : ∀ X : World, w3.heap.size ≤ X.heap.size → (Value.slice (some ⟨g', 0, none⟩) (rs ++ [(⟨ca, ⟨ct, cy, cl, cz⟩⟩ : Cel)]).length cap').ownBlock = v.ownBlock ∨ ∃ g, (Value.slice (some ⟨g', 0, none⟩) (rs ++ [(⟨ca, ⟨ct, cy, cl, cz⟩⟩ : Cel)]).length cap').ownBlock = some g ∧ W.heap.size ≤ g ∧ g < X.heap.size := fun X hX => by
        rcases hV with h | h
        · exact .inl h
        · refine .inr ⟨g', rfl, ?_, by omega⟩
          have h : some g' = some _ := h
          injection h with h
          try rw [World.size_alloc] at h
          omega
      have HO3 := Lib.hid hO
      have Hk3 := Lib.hid hk3
      have HF3 := Lib.hid hF3
      have HS := Lib.hid ((Hka.out.none _).trans hS)
      have H33 := Lib.hid h3
      have Hne := Lib.hid hne
      have Hown := Lib.hid hown
      clear hO hk3 hF3 hS h3 hne hG hV H0 HOa hown
      obtain ⟨len, hlen⟩ : ∃ len, len = (rs ++ [(⟨ca, ⟨ct, cy, cl, cz⟩⟩ : Cel)]).length := ⟨_, rfl⟩
      rw [← hlen] at HO3 HF3 Hown ⊢
      clear hlen
      gi_wp2_with (fail)
      have hKS : Kept [w.heap.size] w3 (w3.setCell ⟨w.heap.size, 0, none⟩ (.slice (some ⟨g', 0, none⟩) len cap')) := (Kept.refl _ w3).setCell _ _ (.inl (by simp))
      have hKA : Kept (w.heap.size :: v.ownBlock.toList) W (w3.setCell ⟨w.heap.size, 0, none⟩ (.slice (some ⟨g', 0, none⟩) len cap')) := (HS.out.mono fun b hb => List.mem_cons_of_mem _ hb).trans (hKS.mono (by simp))
      have hbx : Has (w3.setCell ⟨w.heap.size, 0, none⟩ (.slice (some ⟨g', 0, none⟩) len cap')) w.heap.size 33 [.slice (some ⟨g', 0, none⟩) len cap'] := H33.out.put 0 _
      refine ⟨keepsFrom_of hKA ?_, kpw_of H3'.out hKA hbx (Hown.out _ hKS.more), ⟨_, hbx, ?_, HF3.out⟩, Hk3.out.forget hKS (by simp)⟩
      · intro b hb
        rcases List.mem_cons.1 hb with rfl | hb
        · exact ⟨_, _, H3'.out⟩
        · exact ⟨_, own_cells HO.out b hb⟩
      · rw [Hsn.out]
        exact HO3.out.kept hKS fun g hg e => by
          obtain rfl := List.mem_singleton.1 hg
          obtain ⟨cs, hcs⟩ := own_cells HO3.out w.heap.size (by rw [e]; simp)
          exact Has.block_type H33.out hcs (by decide) rfl
  case done =>
    rintro D xs W hD hx ⟨⟨v, hi3, hO, hV⟩, hk⟩ hK
    have c3 := hi3.cell 0
    simp at c3
    have HKd := Lib.hid hK
    have Hk := Lib.hid hk
    have HE : Hid (vals xs = cs) := Lib.hid hx
    have HO := Lib.hid hO
    have HV := Lib.hid hV
    clear hK hk hi3 hx hO hV
    generalize vals xs = P at *
    gi_wp2_with (fail)
    refine ⟨by simp, .inl ⟨_, _, rfl, run_takeDeferred HKd.out, ?_⟩⟩
    exact ⟨_, results_tmp rfl _ _ _, ⟨v, rfl, by rw [← HE.out]; exact own_put HO.out D _ _ HKd.out rfl, HV.out, kept_put Hk.out D _ (Nat.le_trans Hkw.out.more hD)⟩⟩
  case stop =>
    rintro D c pre W _ _ h _
    exact h.elim
theorem collect_ok (bg bb : Nat) (s : Ids) (l : List Ty) (ws : List Int) (bs : List Bool) (g : Int) (cs : List Cel) (w : World)
    (hG : Has w bg 3 [.int .i64 g]) (g0 : 0 ≤ g) (g1 : g ≤ 1000000) (hB : Has w bb 30 [.pointer (some ⟨s.sp, 0, none⟩)]) (hF : Fields w) (hS : Spc w s l ws bs) (hC : Scans ws l g cs) :
    Calls Tryz.prog 23 #[.func (.func 50) #[] #[.pointer (some ⟨bg, 0, none⟩), .pointer (some ⟨bb, 0, none⟩)]] w fun e w' => ∃ v, e = .returned v ∧ Own w' v cs ∧ FreshV w v ∧ Kept [] w w' := by
  have H := Lib.hid (appendSeq_ok bg bb s l ws bs g cs w hG g0 g1 hB hF hS hC)
  clear hG hB hF hS hC
  go_enter Tryz.func23, Tryz.ntmps23
  go_wp2_with fail
  refine H.out.mono ?_
  rintro e w1 ⟨v, rfl, hO, hV, hk⟩
  have HO := Lib.hid hO
  have HV := Lib.hid hV
  have HK := Lib.hid hk
  clear hO hV hk
  go_wp2_with fail
  go_ret
  exact ⟨v, rfl, HO.out, HV.out, HK.out⟩
/-- All cells of a space. -/
theorem allCells_ok {w : World} {s : Ids} {l : List Ty} {ws : List Int} {bs : List Bool} (hF : Fields w) (hS : Spc w s l ws bs) (cs : List Cel) (hC : Scans ws l 0 cs) :
    Calls Tryz.prog 8 #[.pointer (some ⟨s.sp, 0, none⟩)] w fun e w' => ∃ v, e = .returned v ∧ Own w' v cs ∧ FreshV w v ∧ Kept [] w w' := by
  have HF := Lib.hid hF
  have HS := Lib.hid hS
  have HC := Lib.hid hC
  have H1 := Lib.hid (cells_ok (some ⟨s.sp, 0, none⟩) 0 w)
  clear hF hS hC
  go_enter Tryz.func8, Tryz.ntmps8
  go_wp2_with fail
  refine H1.out.mono ?_
  rintro e w1 ⟨rfl, hw1⟩
  have hk1 : Kept [] w w1 := by rw [hw1]; exact ((Kept.refl [] w).alloc _).alloc _
  have hb : Has w1 w.heap.size 30 [.pointer (some ⟨s.sp, 0, none⟩)] := by rw [hw1]; exact (Has.new w _ _).alloc _
  have hg : Has w1 (w.heap.size + 1) 3 [.int .i64 0] := by
    rw [hw1]
    have := Has.new (w.alloc (.cells #[.pointer (some ⟨s.sp, 0, none⟩)] 30)) 3 [.int .i64 0]
    rwa [World.size_alloc] at this
  have HK1 := Lib.hid hk1
  have H2 := Lib.hid (collect_ok (w.heap.size + 1) w.heap.size s l ws bs 0 cs w1 hg (by omega) (by omega) hb (HF.out.keep0 hk1) (HS.out.keep0 hk1) HC.out)
  clear hk1 hb hg hw1 H1
  go_wp2_with fail
  refine H2.out.mono ?_
  rintro e w2 ⟨v, rfl, hO, hV, hk⟩
  have HO := Lib.hid hO
  have HV : Hid (FreshV w v) := Lib.hid (hV.imp_right fun ⟨b, h1, h2⟩ => ⟨b, h1, Nat.le_trans HK1.out.more h2⟩)
  have HK := Lib.hid (HK1.out.trans hk)
  clear hO hV hk
  go_wp2_with fail
  go_ret
  exact ⟨v, rfl, HO.out, HV.out, HK.out⟩
end Go.Proofs.YtfdombfdgpclcaaGreatDoor.Sp
