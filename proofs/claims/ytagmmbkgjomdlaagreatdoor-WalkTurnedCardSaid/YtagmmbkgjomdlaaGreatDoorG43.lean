/-
  Several texts in one: WkGaps, WkExample.
-/
import Derived.Test.YtagmmbkgjomdlaaGreatDoorG41
import Derived.Test.YtagmmbkgjomdlaaGreatDoorG38
import Derived.Test.YtagmmbkgjomdlaaGreatDoorG42
import Derived.Test.YtagmmbkgjomdlaaGreatDoorG30
/-
  The contract of walk's Gaps.
-/
namespace Go.Proofs.YtagmmbkgjomdlaaGreatDoor.Wk
open Go.RowKit Go.Proofs.YtagmmbkgjomdlaaGreatDoor.Ar Go.Proofs.YtagmmbkgjomdlaaGreatDoor.Lk Go.Shelf Go.Sort
open Go.Proofs.YtagmmbkgjomdlaaGreatDoor.Sp hiding Own own_from own_put back_own Seen
open Go.Proofs.YtagmmbkgjomdlaaGreatDoor.Hd (Hd Fields)
open Go.Proofs.YtagmmbkgjomdlaaGreatDoor.Tb (Ty Tab)
set_option linter.unusedVariables false
attribute [local go_sem] Oper.semAt_some

/-- The gaps of these kinds. -/
def gapR (tags : List Int) (cs : List Cel) : List (Int × Int) := (cs.filter fun c => decide (c.h.tg ≠ 1) && tags.contains c.h.tg).map fun c => (c.a, c.h.sz)
theorem gapR_snoc (tags : List Int) (cs : List Cel) (c : Cel) : gapR tags (cs ++ [c]) = if (decide (c.h.tg ≠ 1) && tags.contains c.h.tg) = true then gapR tags cs ++ [(c.a, c.h.sz)] else gapR tags cs := by
  unfold gapR
  rw [List.filter_append, List.map_append]
  by_cases h : (decide (c.h.tg ≠ 1) && tags.contains c.h.tg) = true
  · have e : ([c].filter fun c => decide (c.h.tg ≠ 1) && tags.contains c.h.tg) = [c] := by rw [List.filter_cons_of_pos (by exact h)]; rfl
    rw [if_pos h, e]; rfl
  · have e : ([c].filter fun c => decide (c.h.tg ≠ 1) && tags.contains c.h.tg) = [] := by rw [List.filter_cons_of_neg (by exact h)]; rfl
    rw [if_neg h, e]; simp
theorem gapR_len (tags : List Int) (cs : List Cel) : (gapR tags cs).length ≤ cs.length := by
  unfold gapR
  rw [List.length_map]
  exact List.length_filter_le _ _
/-- A slice that begins at a block that was not there. -/
def Fresh (w : World) (v : Value) : Prop := v.ownBlock = none ∨ ∃ g, v.ownBlock = some g ∧ w.heap.size ≤ g

set_option maxRecDepth 100000 in
set_option maxHeartbeats 4000000 in
theorem gaps_ok {w : World} {p pa pt : Option Addr} {l : List Ty} {ws : List Int} {cs : List Cel} {A : Option Addr} {c : Nat} {tags : List Int} (hs : From w p pa pt) (hg : Good w pa pt l ws) (hC : Scans ws l 0 cs) (hT : By.Seen w A tags) (hlt : tags.length ≤ 1000000) :
    Calls Tryz.prog 15 #[.pointer p, .slice A tags.length c] w fun e w' => ∃ v, e = .returned v ∧ Own Rn w' v (gapR tags cs) ∧ Sp.FreshV w v ∧ Kept [] w w' := by
  have hcl := most_of hg hC
  have HFr := Lib.hid hs
  have HGd := Lib.hid hg
  have HC := Lib.hid hC
  have HT := Lib.hid hT
  clear hs hg hC hT
  refine (callsIn_wide (n := 5)).1 ?_
  refine callsIn_of_wp_marks Tryz.func15 rfl trivial ?_ rfl
  simp only [Tryz.ntmps15, List.size_toArray, List.length_cons, List.length_nil, Nat.reduceAdd, Nat.reduceSub, Array.replicate_succ, Array.replicate_zero, List.push_toArray, List.append_toArray, List.nil_append, List.cons_append]
  gi_wp2_with (fail)
  have hk2 : Kept [] w ((w.alloc (.cells #[.slice A tags.length c] 24)).alloc (.cells #[.slice none 0 0] 42)) := ((Kept.refl [] w).alloc _).alloc _
  have h2 : Has ((w.alloc (.cells #[.slice A tags.length c] 24)).alloc (.cells #[.slice none 0 0] 42)) w.heap.size 24 [.slice A tags.length c] := (Has.new w 24 [.slice A tags.length c]).alloc _
  have h3 : Has ((w.alloc (.cells #[.slice A tags.length c] 24)).alloc (.cells #[.slice none 0 0] 42)) (w.heap.size + 1) 42 [.slice none 0 0] := by
    have := Has.new (w.alloc (.cells #[.slice A tags.length c] 24)) 42 [.slice none 0 0]
    rwa [World.size_alloc] at this
  obtain ⟨w2, hw2⟩ : ∃ w2, (w.alloc (.cells #[.slice A tags.length c] 24)).alloc (.cells #[.slice none 0 0] 42) = w2 := ⟨_, rfl⟩
  rw [hw2] at hk2 h2 h3 ⊢
  clear hw2
  have H20 := Lib.hid h2
  have H30 := Lib.hid h3
  have Hkw := Lib.hid hk2
  clear h2 h3 hk2
  refine ⟨trivial, (callsIn_wide.2 (HFr.out.ar _ Hkw.out)).mono ?_⟩
  rintro e z ⟨rfl, rfl⟩
  gi_wp2_with (fail)
  refine ⟨trivial, (callsIn_wide.2 (HFr.out.tb _ Hkw.out)).mono ?_⟩
  rintro e z ⟨rfl, rfl⟩
  gi_wp2_with (fail)
  refine ⟨trivial, (callsIn_wide.2 (wcells_ok pa pt _)).mono ?_⟩
  rintro e w5 ⟨rfl, hw5⟩
  have hk5 : Kept [] w2 w5 := by rw [hw5]; exact ((Kept.refl [] w2).alloc _).alloc _
  have hb5 : Has w5 w2.heap.size 62 [.pointer pa] := by rw [hw5]; exact (Has.new w2 _ _).alloc _
  have hg5 : Has w5 (w2.heap.size + 1) 64 [.pointer pt] := by
    rw [hw5]
    have := Has.new (w2.alloc (.cells #[.pointer pa] 62)) 64 [.pointer pt]
    rwa [World.size_alloc] at this
  have hl5 := H30.out.keep0 hk5
  have Hk5 := Lib.hid (Hkw.out.trans hk5)
  have Hb5 := Lib.hid hb5
  have Hg5 := Lib.hid hg5
  have Hl5 := Lib.hid hl5
  have Hm5 := Lib.hid (H20.out.keep0 hk5)
  have HSb : Hid (Boxes w5 [w.heap.size + 1]) := Lib.hid ⟨fun b hb => by rw [List.mem_singleton.1 hb]; exact ⟨_, _, hl5, by decide⟩, fun b hb => by rw [List.mem_singleton.1 hb]; exact ownAt_has hl5, fun b hb => by rw [List.mem_singleton.1 hb]; have := HGd.out.1.lt; omega⟩
  have Hlt5 := Lib.hid hl5.lt
  clear hk5 hb5 hg5 hw5 hl5 Hkw H30 H20
  obtain ⟨ba, hba⟩ : ∃ ba, w2.heap.size = ba := ⟨_, rfl⟩
  obtain ⟨bb, hbb⟩ : ∃ bb, w2.heap.size + 1 = bb := ⟨_, rfl⟩
  rw [hbb] at Hg5 ⊢
  rw [hba] at Hb5 ⊢
  clear hba hbb
  gi_wp2_with (fail)
  refine wpIn_rangeFunc_ownH rfl (by decide) (gf := 96) (lb := #[.pointer (some ⟨ba, 0, none⟩), .pointer (some ⟨bb, 0, none⟩)]) rfl trivial (enters_of Tryz.func96 (by kernel_rfl) rfl)
    (wcells_stops 4 (by decide) [w.heap.size + 1] ba bb pa pt l ws cs w5 Hb5.out Hg5.out (HGd.out.keep0 Hk5.out) HC.out HSb.out)
    (fun h k => h.trans k) (fun W l o o' hl h hc _ => Kpn.put (fun b hb => by rw [List.mem_singleton.1 hb]; exact Hlt5.out) W l o o' hl h hc) (Below.refl _ _) (fun _ => rfl)
    (fun pre W => (Has W w.heap.size 24 [.slice A tags.length c] ∧ ∃ v, Has W (w.heap.size + 1) 42 [v] ∧ Own Rn W v (gapR tags (vals pre)) ∧ Sp.FreshV w v) ∧ Kept [] w W)
    (fun _ _ _ => False)
    (OwnFrom.and (OwnFrom.and (fun pre X Y row hs hg hr => own_has (β := Unit) (f := fun _ => [.slice A tags.length c]) () X Y row hs hg hr) (fun pre X Y row hs hg hr => by
      obtain ⟨v, h1, h2, h3⟩ := hs
      exact ⟨v, own_has (β := Unit) (f := fun _ => [v]) () X Y row h1 hg hr, own_from () X Y row h2 hg hr, h3⟩)) (own_kept Hk5.out.more))
    (fun _ _ _ _ _ hs _ _ => hs)
    ⟨⟨Hm5.out, _, Hl5.out, Own.nil _, .inl rfl⟩, Hk5.out⟩
    (fun x a' W => ∃ Bx, Has W Bx 78 [.int .i64 x.1.a, .int .u8 x.1.h.tg, .int .i64 x.1.h.ty, .int .i64 x.1.h.ln, .int .i64 x.1.h.sz] ∧ a' = { tmps := #[.pointer p, .slice A tags.length c, undef, .pointer (some ⟨w.heap.size, 0, none⟩), .slice none 0 0, .pointer (some ⟨w.heap.size + 1, 0, none⟩), .pointer (some ⟨Bx, 0, none⟩), .pointer p, .pointer pa, .pointer p, .pointer pt, .func (.func 96) #[] #[.pointer (some ⟨ba, 0, none⟩), .pointer (some ⟨bb, 0, none⟩)], .agg #[.int .i64 x.1.a, .int .u8 x.1.h.tg, .int .i64 x.1.h.ty, .int .i64 x.1.h.ln, .int .i64 x.1.h.sz], undef, undef, undef, undef, undef, undef, undef, undef, undef, undef, undef, undef, undef, undef, undef, undef, undef, undef, undef, undef, undef], defers := [] })
    (fun x a' _ X Y row hs hg hr => by
      obtain ⟨Bx, h2, h3⟩ := hs
      exact ⟨Bx, own_has (β := Unit) (f := fun _ => [.int .i64 x.1.a, .int .u8 x.1.h.tg, .int .i64 x.1.h.ty, .int .i64 x.1.h.ln, .int .i64 x.1.h.sz]) () X Y row h2 hg hr, h3⟩)
    ?assign ?body ?done ?stop
  case assign =>
    rintro l pre x W K ⟨⟨hi2, v, hi3, hO, hV⟩, hk⟩ hK
    unfold encs
    have HK := Lib.hid hK
    have HI := Lib.hid hi3
    have HI2 := Lib.hid hi2
    have HO := Lib.hid hO
    have HV := Lib.hid hV
    have Hk := Lib.hid hk
    clear hi3 hi2 hk hK hO hV
    gi_wp2
    have hkn : Kept [] W (W.alloc (.cells #[.int .i64 x.1.a, .int .u8 x.1.h.tg, .int .i64 x.1.h.ty, .int .i64 x.1.h.ln, .int .i64 x.1.h.sz] 78)) := (Kept.refl [] W).alloc _
    exact HK.out _ _ (keepsFrom_of hkn (by simp)) (Kpn.ofKept hkn (fun b hb => by rw [List.mem_singleton.1 hb]; exact HI.out.lt)) ⟨⟨HI2.out.keep0 hkn, v, HI.out.keep0 hkn, HO.out.keep0 hkn, HV.out⟩, Hk.out.trans hkn⟩ ⟨W.heap.size, Has.new W _ _, rfl⟩
  case body =>
    rintro l pre y a' W _ _ ⟨⟨hi2, v, hi3, hO, hV⟩, hk⟩ ⟨Bx, hX, rfl⟩ hlen
    have hsn := vals_snoc pre y
    have hos := gapR_snoc tags (vals pre) y.1
    rw [← hsn] at hos
    have hlr : (gapR tags (vals pre)).length ≤ 32768 := by
      have h1 := gapR_len tags (vals pre)
      have h2 : (vals pre).length = pre.length := List.length_map _
      omega
    clear hsn
    obtain ⟨⟨ca, ⟨ct, cy, cl, cz⟩⟩, hy⟩ := y
    simp only at hos hX
    obtain ⟨x0, x1, x2, x3, x4⟩ := cells5 hX
    have c3 := hi3.cell 0
    have f3 := hi3.free 0
    have d3 := hi2.cell 0
    simp at c3 d3
    have Hk := Lib.hid hk
    have H3' := Lib.hid hi3
    have H2' := Lib.hid hi2
    have HO := Lib.hid hO
    have HV := Lib.hid hV
    have HX := Lib.hid hX
    clear hk hlen hO hV hX hi3 hi2
    dsimp only
    by_cases ht : ct = 1
    · subst ht
      have Hos : Hid (gapR tags (vals (pre ++ [(⟨⟨ca, ⟨1, cy, cl, cz⟩⟩, hy⟩ : El cs)])) = gapR tags (vals pre)) := Lib.hid (by rw [hos, if_neg (by simp)])
      clear hos
      gi_wp2_with (fail)
      refine ⟨trivial, ?_⟩
      gi_wp2_with (fail)
      exact ⟨keepsFrom_of (Kept.refl [] W) (by simp), Kpn.refl _ _, ⟨H2'.out, v, H3'.out, by rw [Hos.out]; exact HO.out, HV.out⟩, Hk.out⟩
    · have hb : (ct != 1) = true := by simpa using ht
      have hb' : (ct == 1) = false := by simpa using ht
      have HCt := Lib.hid (contains_ok (c := c) tags (HT.out.keep0 Hk.out) hlt ct)
      have Hos := Lib.hid hos
      clear hos
      gi_wp2_with (fail)
      refine ⟨trivial, (CallsIn.inRound _ (callsIn_wide.2 HCt.out)).mono ?_⟩
      rintro e w1 ⟨rfl, hk1⟩
      have hX1 := HX.out.keep0 hk1
      have h31 := H3'.out.keep0 hk1
      have h21 := H2'.out.keep0 hk1
      clear x0 x1 x2 x3 x4 c3 f3 d3 hb hb'
      obtain ⟨x0, x1, x2, x3, x4⟩ := cells5 hX1
      have c3 := h31.cell 0
      have f3 := h31.free 0
      simp at c3
      have HO1 := Lib.hid (HO.out.keep0 hk1)
      have HK1 := Lib.hid hk1
      have H31 := Lib.hid h31
      have H21 := Lib.hid h21
      clear hX1 h31 h21 hk1 HCt
      cases hct : tags.contains ct with
      | false =>
        have Hos : Hid (gapR tags (vals (pre ++ [(⟨⟨ca, ⟨ct, cy, cl, cz⟩⟩, hy⟩ : El cs)])) = gapR tags (vals pre)) := Lib.hid (by rw [Hos.out, if_neg (by rw [hct]; simp)])
        clear ht
        gi_wp2_with (fail)
        exact ⟨keepsFrom_of HK1.out (by simp), Kpn.ofKept HK1.out (fun b hb => by rw [List.mem_singleton.1 hb]; exact H3'.out.lt), ⟨H21.out, v, H31.out, by rw [Hos.out]; exact HO1.out, HV.out⟩, Hk.out.trans HK1.out⟩
      | true =>
        have Hos : Hid (gapR tags (vals (pre ++ [(⟨⟨ca, ⟨ct, cy, cl, cz⟩⟩, hy⟩ : El cs)])) = gapR tags (vals pre) ++ [(ca, cz)]) := Lib.hid (by rw [Hos.out, if_pos (by rw [hct]; simpa using ht)])
        have hka : Kept [] w1 (w1.alloc (.cells #[.int .i64 ca, .int .i64 cz] 92)) := (Kept.refl [] w1).alloc _
        have hB : Has (w1.alloc (.cells #[.int .i64 ca, .int .i64 cz] 92)) w1.heap.size 92 (Duet.l (ca, cz)) := Has.new w1 92 [.int .i64 ca, .int .i64 cz]
        have H0 : Hid (Seen Rn (w1.alloc (.cells #[.int .i64 ca, .int .i64 cz] 92)) (some ⟨w1.heap.size, 0, none⟩) [(ca, cz)]) := Lib.hid (seen_one (K := Rn) hB)
        have HOa := Lib.hid (HO1.out.keep0 hka)
        have Hka := Lib.hid hka
        clear hka hB ht
        generalize gapR tags (vals pre) = rs at *
        have hb1 : rs.length + 1 ≤ 1073741824 := by omega
        gi_wp2_with (gi_at_builtin; refine append_in Rn rfl (.tmp 24) (.tmp 31) rfl v rs rfl HOa.out _ 1 1 [(ca, cz)] rfl rfl H0.out hb1 ?_)
        all_goals
          intro v' w3 hO hG hV
          have hbase : Kept [] W (w1.alloc (.cells #[.int .i64 ca, .int .i64 cz] 92)) := HK1.out.trans Hka.out
          have hk3 : Kept [] w w3 := own_grown (Hk.out.trans hbase) HV.out hG
          have hF3 := own_fresh (v' := v') (Hk.out.trans hbase) HV.out (by rw [World.size_alloc]; exact hV)
          have hS := Sp.kept_grown hG
          have hne : w.heap.size + 1 ∉ v.ownBlock.toList := fun hm => by
            obtain ⟨cs, hcs⟩ := own_cells (K := Rn) HO.out _ hm
            exact Has.block_type H3'.out hcs (by decide) rfl
          have h3 := (H3'.out.keep0 hbase).kept hS hne
          have h2 := (H2'.out.keep0 hbase).kept hS (fun hm => by
            obtain ⟨cs, hcs⟩ := own_cells (K := Rn) HO.out _ hm
            exact Has.block_type H2'.out hcs (by decide) rfl)
          have c3 := h3.cell 0
          have f3 := h3.free 0
          simp at c3
          obtain ⟨g', cap', rfl, hg', _⟩ : ∃ g cap, v' = .slice (some ⟨g, 0, none⟩) (rs ++ [(ca, cz)]).length cap ∧ g < w3.heap.size ∧ (rs ++ [(ca, cz)]).length ≤ cap := by
            rcases hO.form with ⟨_, h⟩ | h
            · exact absurd (List.append_eq_nil_iff.1 h).2 (List.cons_ne_nil _ _)
            · obtain ⟨g, cap, h1, h2, h3, _⟩ := h
              exact ⟨g, cap, h1, h2, h3⟩
          have hsz : W.heap.size ≤ w1.heap.size := HK1.out.more
          have hown : ∀ X : World, w3.heap.size ≤ X.heap.size → (Value.slice (some ⟨g', 0, none⟩) (rs ++ [(ca, cz)]).length cap').ownBlock = v.ownBlock ∨ ∃ g, (Value.slice (some ⟨g', 0, none⟩) (rs ++ [(ca, cz)]).length cap').ownBlock = some g ∧ W.heap.size ≤ g ∧ g < X.heap.size := fun X hX => by
            rcases hV with h | h
            · exact .inl h
            · refine .inr ⟨g', rfl, ?_, by omega⟩
              have h : some g' = some _ := h
              injection h with h
              try rw [World.size_alloc] at h
              omega
          have HO3 := Lib.hid hO
          have Hk3 := Lib.hid hk3
          have HF3 := Lib.hid hF3
          have HS := Lib.hid ((hbase.none _).trans hS)
          have H33 := Lib.hid h3
          have H23 := Lib.hid h2
          have Hown := Lib.hid hown
          clear hO hk3 hF3 hS h3 h2 hne hG hV H0 HOa hown hbase
          obtain ⟨len, hlen⟩ : ∃ len, len = (rs ++ [(ca, cz)]).length := ⟨_, rfl⟩
          rw [← hlen] at HO3 HF3 Hown ⊢
          clear hlen
          gi_wp2_with (fail)
          have hKS : Kept [w.heap.size + 1] w3 (w3.setCell ⟨w.heap.size + 1, 0, none⟩ (.slice (some ⟨g', 0, none⟩) len cap')) := (Kept.refl _ w3).setCell _ _ (.inl (by simp))
          have hKA : Kept ((w.heap.size + 1) :: v.ownBlock.toList) W (w3.setCell ⟨w.heap.size + 1, 0, none⟩ (.slice (some ⟨g', 0, none⟩) len cap')) := (HS.out.mono fun b hb => List.mem_cons_of_mem _ hb).trans (hKS.mono (by simp))
          have hbx : Has (w3.setCell ⟨w.heap.size + 1, 0, none⟩ (.slice (some ⟨g', 0, none⟩) len cap')) (w.heap.size + 1) 42 [.slice (some ⟨g', 0, none⟩) len cap'] := H33.out.put 0 _
          refine ⟨keepsFrom_of hKA ?_, Kpn.box (List.mem_singleton.2 rfl) H3'.out hKA hbx (Hown.out _ hKS.more) (fun c hc hn => absurd (List.mem_singleton.1 hc) hn), ⟨H23.out.kept hKS (by simp), _, hbx, ?_, HF3.out⟩, Hk3.out.forget hKS (by simp)⟩
          · intro b hb
            rcases List.mem_cons.1 hb with rfl | hb
            · exact ⟨_, _, H3'.out⟩
            · exact ⟨_, own_cells (K := Rn) HO.out b hb⟩
          · rw [Hos.out]
            exact HO3.out.kept hKS fun g hg e => by
              obtain rfl := List.mem_singleton.1 hg
              obtain ⟨cs, hcs⟩ := own_cells (K := Rn) HO3.out (w.heap.size + 1) (by rw [e]; simp)
              exact Has.block_type H33.out hcs (by decide) rfl
  case done =>
    rintro D xs W hD hx ⟨⟨hi2, v, hi3, hO, hV⟩, hk⟩ hK
    have c3 := hi3.cell 0
    simp at c3
    have HKd := Lib.hid hK
    have Hk := Lib.hid hk
    have HE : Hid (vals xs = cs) := Lib.hid hx
    have HO := Lib.hid hO
    have HV := Lib.hid hV
    clear hK hk hi3 hi2 hx hO hV
    generalize vals xs = P at *
    gi_wp2_with (fail)
    refine ⟨by simp, .inl ⟨_, _, rfl, run_takeDeferred HKd.out, ?_⟩⟩
    exact ⟨_, results_tmp rfl _ _ _, ⟨v, rfl, by rw [← HE.out]; exact own_put HO.out D _ _ HKd.out rfl, HV.out, kept_put Hk.out D _ (Nat.le_trans Hk5.out.more hD)⟩⟩
  case stop =>
    rintro D c pre W _ _ h _
    exact h.elim
end Go.Proofs.YtagmmbkgjomdlaaGreatDoor.Wk

/-
  The chapter's example in numbers.
-/
namespace Go.Proofs.YtagmmbkgjomdlaaGreatDoor.Wk
open Go.RowKit Go.Proofs.YtagmmbkgjomdlaaGreatDoor.Ar
open Go.Proofs.YtagmmbkgjomdlaaGreatDoor.Sp hiding Own own_from own_put back_own Seen own_cells seen_one
open Go.Proofs.YtagmmbkgjomdlaaGreatDoor.Sh (hdH ofE ofT ofS)
open Go.Proofs.YtagmmbkgjomdlaaGreatDoor.Tb (Ty newF)
set_option linter.unusedVariables false

def exW1 : List Int := putX (newW 16) exT (newC 16) 1 1 3
def exW2 : List Int := exW1.set (slotI 1 0) 1048578
def exW3 : List Int := exW2.set (slotI 1 1) 1048580
theorem ex_putE : putE (newW 16) exT (newC 16) 1 1 3 = 0 := by decide +kernel
theorem ex_mayB : mayB 16 = true := by decide +kernel
theorem ex_err : (newF [] exT).2 = 0 := by decide +kernel
theorem ex_of1 : ofE exW1 exT 1 = 0 ∧ ofS exW1 exT 1 = 3 ∧ ofS exW2 exT 1 = 3 := by decide +kernel
theorem ex_h1 : hdH exW1 1 = hdH exW2 1 := by rfl
theorem ex_t1 : ofT exW1 exT 1 = ofT exW2 exT 1 := by rfl
theorem ex_s1 : Scans exW1 exT 0 exB := ⟨by decide +kernel, by rfl, by decide +kernel, by rfl, by decide +kernel, by rfl, (show cellB exW1 exT 8 = false by decide +kernel)⟩
theorem ex_s3 : Scans exW3 exT 0 exB := ⟨by decide +kernel, by rfl, by decide +kernel, by rfl, by decide +kernel, by rfl, (show cellB exW3 exT 8 = false by decide +kernel)⟩
theorem ex_ref : refF (objs exB) (rfs exW3 exT (objs exB)) = [⟨1, 1, 8⟩] := by rfl
theorem ex_edg : edgF (objs exB) (rfs exW3 exT (objs exB)) = [⟨1, 0, 1⟩] := by rfl
theorem ex_tal : tally exB = ⟨1, 1, 1, 2, 5, 1⟩ := by decide +kernel
theorem ex_gap : gapR [3] exB = [(3, 5)] := by rfl
end Go.Proofs.YtagmmbkgjomdlaaGreatDoor.Wk
