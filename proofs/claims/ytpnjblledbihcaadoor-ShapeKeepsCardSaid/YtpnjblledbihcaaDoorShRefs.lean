/-
  The contracts of Refs and Targets.
-/
import Derived.Test.YtpnjblledbihcaaDoorShIter
import Derived.Test.YtpnjblledbihcaaDoorOwnIn
namespace Go.Proofs.YtpnjblledbihcaaDoor.Sh
open Go.RowKit Go.Proofs.YtpnjblledbihcaaDoor.Ar Go.Proofs.YtpnjblledbihcaaDoor.Lk Go.Shelf Go.Sort
set_option linter.unusedVariables false
attribute [local go_sem] Oper.semAt_some

def FreshV (w : World) (v : Value) : Prop := v.ownBlock = none ∨ ∃ b, v.ownBlock = some b ∧ w.heap.size ≤ b
theorem kpt_of {W X : World} {b : Nat} {t : TypeId} {v v' : Value} (hb : Has W b t [v]) (hK : Kept (b :: v.ownBlock.toList) W X) (hb' : Has X b t [v']) (hv : v'.ownBlock = v.ownBlock ∨ ∃ g, v'.ownBlock = some g ∧ W.heap.size ≤ g) : Kpt b W X := by
  refine ⟨hK.more, fun i o hi ho h _ => ?_, ?_⟩
  · rw [hK.old i (Array.getElem?_eq_some_iff.1 h).1 fun hm => ?_]
    · exact h
    · rcases List.mem_cons.1 hm with e | e
      · exact hi e
      · refine ho ?_
        rw [ownAt_has hb]
        simpa using e
  · rw [ownAt_has hb, ownAt_has hb']
    exact hv
theorem references_ok (x : Option Addr) (w : World) :
    Calls Tryd.prog 47 #[.pointer x] w fun e w' => e = .returned (.func (.func 65) #[] #[.pointer (some ⟨w.heap.size, 0, none⟩)]) ∧ w' = w.alloc (.cells #[.pointer x] 30) := by
  go_enter Tryd.func47, Tryd.ntmps47
  go_wp2_with fail
  go_ret
  exact ⟨rfl, rfl⟩
/-- The slots alone; the words that are not 0. -/
def slotsOf (prs : List (Int × Int)) : List Int := prs.map (·.1)
def wordsOf (prs : List (Int × Int)) : List Int := (prs.map (·.2)).filter (fun u => u != 0)
theorem slotsOf_length (prs : List (Int × Int)) : (slotsOf prs).length ≤ prs.length := by unfold slotsOf; rw [List.length_map]; exact Nat.le_refl _
theorem wordsOf_length (prs : List (Int × Int)) : (wordsOf prs).length ≤ prs.length := by
  unfold wordsOf
  have := List.length_filter_le (fun u : Int => u != 0) (prs.map (·.2))
  rwa [List.length_map] at this
theorem slotsOf_snoc (prs : List (Int × Int)) (x : Int × Int) : slotsOf (prs ++ [x]) = slotsOf prs ++ [x.1] := by simp [slotsOf]
theorem wordsOf_snoc (prs : List (Int × Int)) (x : Int × Int) : wordsOf (prs ++ [x]) = if x.2 = 0 then wordsOf prs else wordsOf prs ++ [x.2] := by
  unfold wordsOf
  rw [List.map_append, List.filter_append]
  by_cases h : x.2 = 0
  · rw [if_pos h]; simp [h]
  · rw [if_neg h]; simp [h]

set_option maxRecDepth 100000 in
set_option maxHeartbeats 4000000 in
/-- All slots that are references. -/
theorem vrefs_ok (w : World) (x : Option Addr) (prs : List (Int × Int)) (h : Src w x prs) (hlb : prs.length ≤ 65536) :
    Calls Tryd.prog 18 #[.pointer x] w fun e w' => ∃ v, e = .returned v ∧ Ir.Own w' v (slotsOf prs) ∧ FreshV w v ∧ Kept [] w w' := by
  have H := Lib.hid h
  clear h
  refine (callsIn_wide (n := 5)).1 ?_
  refine callsIn_of_wp_marks Tryd.func18 rfl trivial ?_ rfl
  simp only [Tryd.ntmps18, List.size_toArray, List.length_cons, List.length_nil, Nat.reduceAdd, Nat.reduceSub, Array.replicate_succ, Array.replicate_zero, List.push_toArray, List.append_toArray, List.nil_append, List.cons_append]
  gi_wp2_with (fail)
  have hk2 : Kept [] w (w.alloc (.cells #[.slice none 0 0] 44)) := (Kept.refl [] w).alloc _
  have h3 := Has.new w 44 [.slice none 0 0]
  have hz2 : (w.alloc (.cells #[.slice none 0 0] 44)).heap.size = w.heap.size + 1 := by simp
  have HL := Lib.hid (references_ok x (w.alloc (.cells #[.slice none 0 0] 44)))
  obtain ⟨w2, hw2⟩ : ∃ w2, w.alloc (.cells #[.slice none 0 0] 44) = w2 := ⟨_, rfl⟩
  have hw2' : w.alloc (.cells [.slice none 0 0].toArray 44) = w2 := hw2
  rw [hw2] at hk2 hz2 HL ⊢
  rw [hw2'] at h3
  clear hw2 hw2'
  have H3 := Lib.hid h3
  have Hk2 := Lib.hid hk2
  have Hz2 := Lib.hid hz2
  clear h3 hk2 hz2
  refine ⟨trivial, (callsIn_wide.2 HL.out).mono ?_⟩
  rintro e0 w0 ⟨rfl, hw0⟩
  have hk0 : Kept [] w2 w0 := by rw [hw0]; exact (Kept.refl [] w2).alloc _
  have hb0 : Has w0 w2.heap.size 30 [.pointer x] := by rw [hw0]; exact Has.new w2 _ _
  rw [Hz2.out] at hb0 ⊢
  have Hk0 := Lib.hid hk0
  have Hb0 := Lib.hid hb0
  clear hk0 hb0 hw0 HL
  gi_wp2_with (fail)
  have Hkw := Lib.hid (Hk2.out.trans Hk0.out)
  have H30 := Lib.hid (H3.out.keep0 Hk0.out)
  have Hlt0 := Lib.hid H30.out.lt
  refine wpIn_rangeFunc_ownG rfl (by decide) (gf := 65) (lb := #[.pointer (some ⟨w.heap.size + 1, 0, none⟩)]) rfl trivial (enters_of Tryd.func65 (by kernel_rfl) rfl)
    (refs_stops 4 (by decide) w.heap.size (w.heap.size + 1) x prs w0 Hb0.out (H.out.keep0 Hkw.out) H30.out (by decide) (by decide) rfl)
    (fun h k => h.trans k) (fun W l o o' hl h hc _ => Kpt.put Hlt0.out W l o o' hl h hc) (Below.refl _ _) (fun _ => rfl)
    (fun pre W => (∃ v, Has W w.heap.size 44 [v] ∧ Ir.Own W v (slotsOf (vals pre)) ∧ FreshV w v) ∧ Kept [] w W)
    (fun _ _ _ => False)
    (OwnFrom.and (fun pre X Y row hs hg hr => by
      obtain ⟨v, h1, h2, h3⟩ := hs
      exact ⟨v, own_has (β := Unit) (f := fun _ => [v]) () X Y row h1 hg hr, Ir.own_from () X Y row h2 hg hr, h3⟩) (own_kept Hkw.out.more))
    (fun _ _ _ _ _ hs _ _ => hs)
    ⟨⟨_, H30.out, Ir.Own.nil _, .inl rfl⟩, Hkw.out⟩
    ?A ?assign ?body ?done ?stop
  case assign =>
    intro l y W K hK
    unfold encs
    gi_wp2_with (fail)
    exact hK
  case body =>
    rintro l pre y W ⟨⟨v, hi3, hO, hV⟩, hk⟩ hlen
    have hlr : (slotsOf (vals pre)).length ≤ 65536 := Nat.le_trans (slotsOf_length _) (by unfold vals; rw [List.length_map]; omega)
    have hsn := slotsOf_snoc (vals pre) y.1
    rw [← vals_snoc] at hsn
    obtain ⟨rs, hs⟩ : ∃ rs, rs = slotsOf (vals pre) := ⟨_, rfl⟩
    rw [← hs] at hsn hO hlr
    have Hsn := Lib.hid hsn
    clear hsn hs
    obtain ⟨⟨ra, ru⟩, hy⟩ := y
    simp only at Hsn
    have c3 := hi3.cell 0
    have f3 := hi3.free 0
    simp at c3
    have c3a : (W.alloc (.cells #[.int .i64 ra] 3)).cell? ⟨w.heap.size, 0, none⟩ = some v := (hi3.alloc _).cell 0
    have Hk := Lib.hid hk
    have H3' := Lib.hid hi3
    have HO := Lib.hid hO
    have HV := Lib.hid hV
    clear hk hlen hO hV
    dsimp only
    clear hi3
    have hka : Kept [] W (W.alloc (.cells #[.int .i64 ra] 3)) := (Kept.refl [] W).alloc _
    have hB : Has (W.alloc (.cells #[.int .i64 ra] 3)) W.heap.size 3 [.int .i64 ra] := Has.new W 3 [.int .i64 ra]
    have h0 : (W.alloc (.cells #[.int .i64 ra] 3)).cell? ⟨W.heap.size, 0, none⟩ = some (.int .i64 ra) := hB.cell 0
    have hOa := HO.out.keep0 hka
    have H0 := Lib.hid h0
    have HOa := Lib.hid hOa
    have Hka := Lib.hid hka
    clear h0 hOa hka hB c3a
    gi_wp2_with (gi_at_builtin; refine Ir.append_one_in rfl (.tmp 9) (.tmp 11) rfl v rs rfl HOa.out W.heap.size 1 ra rfl H0.out (by omega) ?_)
    all_goals
      intro v' w3 hO hG hV
      have hk3 : Kept [] w w3 := own_grown (Hk.out.trans Hka.out) HV.out hG
      have hF3 := own_fresh (v' := v') (Hk.out.trans Hka.out) HV.out (by rw [World.size_alloc]; exact hV)
      have hS := Ar.kept_grown hG
      have hne : w.heap.size ∉ v.ownBlock.toList := fun hm => by
        obtain ⟨cs, hcs⟩ := Ir.own_cells HO.out _ hm
        exact Has.block_type H3'.out hcs (by decide) rfl
      have h3 := (H3'.out.keep0 Hka.out).kept hS hne
      have c3 := h3.cell 0
      have f3 := h3.free 0
      simp at c3
      have hown : v'.ownBlock = v.ownBlock ∨ ∃ g, v'.ownBlock = some g ∧ W.heap.size ≤ g := by
        rcases hV with h | h
        · exact .inl h
        · exact .inr ⟨_, h, by omega⟩
      obtain ⟨g', cap', rfl, hg', _⟩ : ∃ g cap, v' = .slice (some ⟨g, 0, none⟩) (rs ++ [ra]).length cap ∧ g < w3.heap.size ∧ (rs ++ [ra]).length ≤ cap := by
        rcases hO.form with ⟨_, h⟩ | h
        · simp at h
        · obtain ⟨g, cap, h1, h2, h3, _⟩ := h
          exact ⟨g, cap, h1, h2, h3⟩
      have HO3 := Lib.hid hO
      have Hk3 := Lib.hid hk3
      have HF3 := Lib.hid hF3
      have HS := Lib.hid ((Hka.out.none _).trans hS)
      have H33 := Lib.hid h3
      have Hne := Lib.hid hne
      have Hown := Lib.hid hown
      clear hO hk3 hF3 hS h3 hne hG hV H0 HOa hown
      obtain ⟨len, hlen⟩ : ∃ len, len = (rs ++ [ra]).length := ⟨_, rfl⟩
      rw [← hlen] at HO3 HF3 Hown ⊢
      clear hlen
      gi_wp2_with (fail)
      have hKS : Kept [w.heap.size] w3 (w3.setCell ⟨w.heap.size, 0, none⟩ (.slice (some ⟨g', 0, none⟩) len cap')) := (Kept.refl _ w3).setCell _ _ (.inl (by simp))
      have hKA : Kept (w.heap.size :: v.ownBlock.toList) W (w3.setCell ⟨w.heap.size, 0, none⟩ (.slice (some ⟨g', 0, none⟩) len cap')) := (HS.out.mono fun b hb => List.mem_cons_of_mem _ hb).trans (hKS.mono (by simp))
      have hbx : Has (w3.setCell ⟨w.heap.size, 0, none⟩ (.slice (some ⟨g', 0, none⟩) len cap')) w.heap.size 44 [.slice (some ⟨g', 0, none⟩) len cap'] := H33.out.put 0 _
      refine ⟨keepsFrom_of hKA ?_, kpt_of H3'.out hKA hbx Hown.out, ⟨_, hbx, ?_, HF3.out⟩, Hk3.out.forget hKS (by simp)⟩
      · intro b hb
        rcases List.mem_cons.1 hb with rfl | hb
        · exact ⟨_, _, H3'.out⟩
        · exact ⟨_, Ir.own_cells HO.out b hb⟩
      · rw [Hsn.out]
        exact HO3.out.kept hKS fun g hg e => by
          obtain rfl := List.mem_singleton.1 hg
          obtain ⟨cs, hcs⟩ := Ir.own_cells HO3.out w.heap.size (by rw [e]; simp)
          exact Has.block_type H33.out hcs (by decide) rfl
  case done =>
    rintro D xs W hD hx ⟨⟨v, hi3, hO, hV⟩, hk⟩ hK
    have c3 := hi3.cell 0
    simp at c3
    have HKd := Lib.hid hK
    have Hk := Lib.hid hk
    have HE : Hid (vals xs = prs) := Lib.hid hx
    have HO := Lib.hid hO
    have HV := Lib.hid hV
    clear hK hk hi3 hx hO hV
    generalize vals xs = P at *
    gi_wp2_with (fail)
    refine ⟨by simp, .inl ⟨_, _, rfl, run_takeDeferred HKd.out, ?_⟩⟩
    exact ⟨_, results_tmp rfl _ _ _, ⟨v, rfl, by rw [← HE.out]; exact Ir.own_put HO.out D _ _ HKd.out rfl, HV.out, kept_put Hk.out D _ (Nat.le_trans Hkw.out.more hD)⟩⟩
  case stop =>
    rintro D c pre W _ _ h _
    exact h.elim

set_option maxRecDepth 100000 in
set_option maxHeartbeats 4000000 in
/-- The words of all slots that are references, but those that are 0. -/
theorem vtargets_ok (w : World) (x : Option Addr) (prs : List (Int × Int)) (h : Src w x prs) (hlb : prs.length ≤ 65536) :
    Calls Tryd.prog 19 #[.pointer x] w fun e w' => ∃ v, e = .returned v ∧ Ar.Own w' v (wordsOf prs) ∧ FreshV w v ∧ Kept [] w w' := by
  have H := Lib.hid h
  clear h
  refine (callsIn_wide (n := 5)).1 ?_
  refine callsIn_of_wp_marks Tryd.func19 rfl trivial ?_ rfl
  simp only [Tryd.ntmps19, List.size_toArray, List.length_cons, List.length_nil, Nat.reduceAdd, Nat.reduceSub, Array.replicate_succ, Array.replicate_zero, List.push_toArray, List.append_toArray, List.nil_append, List.cons_append]
  gi_wp2_with (fail)
  have hk2 : Kept [] w (w.alloc (.cells #[.slice none 0 0] 28)) := (Kept.refl [] w).alloc _
  have h3 := Has.new w 28 [.slice none 0 0]
  have hz2 : (w.alloc (.cells #[.slice none 0 0] 28)).heap.size = w.heap.size + 1 := by simp
  have HL := Lib.hid (references_ok x (w.alloc (.cells #[.slice none 0 0] 28)))
  obtain ⟨w2, hw2⟩ : ∃ w2, w.alloc (.cells #[.slice none 0 0] 28) = w2 := ⟨_, rfl⟩
  have hw2' : w.alloc (.cells [.slice none 0 0].toArray 28) = w2 := hw2
  rw [hw2] at hk2 hz2 HL ⊢
  rw [hw2'] at h3
  clear hw2 hw2'
  have H3 := Lib.hid h3
  have Hk2 := Lib.hid hk2
  have Hz2 := Lib.hid hz2
  clear h3 hk2 hz2
  refine ⟨trivial, (callsIn_wide.2 HL.out).mono ?_⟩
  rintro e0 w0 ⟨rfl, hw0⟩
  have hk0 : Kept [] w2 w0 := by rw [hw0]; exact (Kept.refl [] w2).alloc _
  have hb0 : Has w0 w2.heap.size 30 [.pointer x] := by rw [hw0]; exact Has.new w2 _ _
  rw [Hz2.out] at hb0 ⊢
  have Hk0 := Lib.hid hk0
  have Hb0 := Lib.hid hb0
  clear hk0 hb0 hw0 HL
  gi_wp2_with (fail)
  have Hkw := Lib.hid (Hk2.out.trans Hk0.out)
  have H30 := Lib.hid (H3.out.keep0 Hk0.out)
  have Hlt0 := Lib.hid H30.out.lt
  refine wpIn_rangeFunc_ownG rfl (by decide) (gf := 65) (lb := #[.pointer (some ⟨w.heap.size + 1, 0, none⟩)]) rfl trivial (enters_of Tryd.func65 (by kernel_rfl) rfl)
    (refs_stops 4 (by decide) w.heap.size (w.heap.size + 1) x prs w0 Hb0.out (H.out.keep0 Hkw.out) H30.out (by decide) (by decide) rfl)
    (fun h k => h.trans k) (fun W l o o' hl h hc _ => Kpt.put Hlt0.out W l o o' hl h hc) (Below.refl _ _) (fun _ => rfl)
    (fun pre W => (∃ v, Has W w.heap.size 28 [v] ∧ Ar.Own W v (wordsOf (vals pre)) ∧ FreshV w v) ∧ Kept [] w W)
    (fun _ _ _ => False)
    (OwnFrom.and (fun pre X Y row hs hg hr => by
      obtain ⟨v, h1, h2, h3⟩ := hs
      exact ⟨v, own_has (β := Unit) (f := fun _ => [v]) () X Y row h1 hg hr, Ar.own_from () X Y row h2 hg hr, h3⟩) (own_kept Hkw.out.more))
    (fun _ _ _ _ _ hs _ _ => hs)
    ⟨⟨_, H30.out, Ar.Own.nil _, .inl rfl⟩, Hkw.out⟩
    ?A ?assign ?body ?done ?stop
  case assign =>
    intro l y W K hK
    unfold encs
    gi_wp2_with (fail)
    exact hK
  case body =>
    rintro l pre y W ⟨⟨v, hi3, hO, hV⟩, hk⟩ hlen
    have hlr : (wordsOf (vals pre)).length ≤ 65536 := Nat.le_trans (wordsOf_length _) (by unfold vals; rw [List.length_map]; omega)
    have hsn := wordsOf_snoc (vals pre) y.1
    rw [← vals_snoc] at hsn
    obtain ⟨rs, hs⟩ : ∃ rs, rs = wordsOf (vals pre) := ⟨_, rfl⟩
    rw [← hs] at hsn hO hlr
    have Hsn := Lib.hid hsn
    clear hsn hs
    obtain ⟨⟨ra, ru⟩, hy⟩ := y
    simp only at Hsn
    have c3 := hi3.cell 0
    have f3 := hi3.free 0
    simp at c3
    have c3a : (W.alloc (.cells #[.int .u64 ru] 22)).cell? ⟨w.heap.size, 0, none⟩ = some v := (hi3.alloc _).cell 0
    have Hk := Lib.hid hk
    have H3' := Lib.hid hi3
    have HO := Lib.hid hO
    have HV := Lib.hid hV
    clear hk hlen hO hV
    by_cases hz : ru = 0
    · subst hz
      rw [if_pos rfl] at Hsn
      dsimp only
      clear c3 f3 c3a
      gi_wp2_with (fail)
      refine ⟨KeepsFrom.refl _ _, Kpt.refl _ _, ⟨v, H3'.out, by rw [Hsn.out]; exact HO.out, HV.out⟩, Hk.out⟩
    · rw [if_neg hz] at Hsn
      have hzb : (ru != 0) = true := by rw [bne_iff_ne]; exact hz
      dsimp only
      clear hi3
      have hka : Kept [] W (W.alloc (.cells #[.int .u64 ru] 22)) := (Kept.refl [] W).alloc _
      have hB : Has (W.alloc (.cells #[.int .u64 ru] 22)) W.heap.size 22 [.int .u64 ru] := Has.new W 22 [.int .u64 ru]
      have h0 : (W.alloc (.cells #[.int .u64 ru] 22)).cell? ⟨W.heap.size, 0, none⟩ = some (.int .u64 ru) := hB.cell 0
      have hOa := HO.out.keep0 hka
      have H0 := Lib.hid h0
      have HOa := Lib.hid hOa
      have Hka := Lib.hid hka
      clear h0 hOa hka hB c3a
      gi_wp2_with (gi_at_builtin; refine Ar.append_one_in rfl (.tmp 12) (.tmp 14) rfl v rs rfl HOa.out W.heap.size 1 ru rfl H0.out (by omega) ?_)
      all_goals
        intro v' w3 hO hG hV
        have hk3 : Kept [] w w3 := own_grown (Hk.out.trans Hka.out) HV.out hG
        have hF3 := own_fresh (v' := v') (Hk.out.trans Hka.out) HV.out (by rw [World.size_alloc]; exact hV)
        have hS := Ar.kept_grown hG
        have hne : w.heap.size ∉ v.ownBlock.toList := fun hm => by
          obtain ⟨cs, hcs⟩ := Ar.own_cells HO.out _ hm
          exact Has.block_type H3'.out hcs (by decide) rfl
        have h3 := (H3'.out.keep0 Hka.out).kept hS hne
        have c3 := h3.cell 0
        have f3 := h3.free 0
        simp at c3
        have hown : v'.ownBlock = v.ownBlock ∨ ∃ g, v'.ownBlock = some g ∧ W.heap.size ≤ g := by
          rcases hV with h | h
          · exact .inl h
          · exact .inr ⟨_, h, by omega⟩
        obtain ⟨g', cap', rfl, hg', _⟩ : ∃ g cap, v' = .slice (some ⟨g, 0, none⟩) (rs ++ [ru]).length cap ∧ g < w3.heap.size ∧ (rs ++ [ru]).length ≤ cap := by
          rcases hO.form with ⟨_, h⟩ | h
          · simp at h
          · obtain ⟨g, cap, h1, h2, h3, _⟩ := h
            exact ⟨g, cap, h1, h2, h3⟩
        have HO3 := Lib.hid hO
        have Hk3 := Lib.hid hk3
        have HF3 := Lib.hid hF3
        have HS := Lib.hid ((Hka.out.none _).trans hS)
        have H33 := Lib.hid h3
        have Hne := Lib.hid hne
        have Hown := Lib.hid hown
        clear hO hk3 hF3 hS h3 hne hG hV H0 HOa hown
        obtain ⟨len, hlen⟩ : ∃ len, len = (rs ++ [ru]).length := ⟨_, rfl⟩
        rw [← hlen] at HO3 HF3 Hown ⊢
        clear hlen
        gi_wp2_with (fail)
        have hKS : Kept [w.heap.size] w3 (w3.setCell ⟨w.heap.size, 0, none⟩ (.slice (some ⟨g', 0, none⟩) len cap')) := (Kept.refl _ w3).setCell _ _ (.inl (by simp))
        have hKA : Kept (w.heap.size :: v.ownBlock.toList) W (w3.setCell ⟨w.heap.size, 0, none⟩ (.slice (some ⟨g', 0, none⟩) len cap')) := (HS.out.mono fun b hb => List.mem_cons_of_mem _ hb).trans (hKS.mono (by simp))
        have hbx : Has (w3.setCell ⟨w.heap.size, 0, none⟩ (.slice (some ⟨g', 0, none⟩) len cap')) w.heap.size 28 [.slice (some ⟨g', 0, none⟩) len cap'] := H33.out.put 0 _
        refine ⟨keepsFrom_of hKA ?_, kpt_of H3'.out hKA hbx Hown.out, ⟨_, hbx, ?_, HF3.out⟩, Hk3.out.forget hKS (by simp)⟩
        · intro b hb
          rcases List.mem_cons.1 hb with rfl | hb
          · exact ⟨_, _, H3'.out⟩
          · exact ⟨_, Ar.own_cells HO.out b hb⟩
        · rw [Hsn.out]
          exact HO3.out.kept hKS fun g hg e => by
            obtain rfl := List.mem_singleton.1 hg
            obtain ⟨cs, hcs⟩ := Ar.own_cells HO3.out w.heap.size (by rw [e]; simp)
            exact Has.block_type H33.out hcs (by decide) rfl
  case done =>
    rintro D xs W hD hx ⟨⟨v, hi3, hO, hV⟩, hk⟩ hK
    have c3 := hi3.cell 0
    simp at c3
    have HKd := Lib.hid hK
    have Hk := Lib.hid hk
    have HE : Hid (vals xs = prs) := Lib.hid hx
    have HO := Lib.hid hO
    have HV := Lib.hid hV
    clear hK hk hi3 hx hO hV
    generalize vals xs = P at *
    gi_wp2_with (fail)
    refine ⟨by simp, .inl ⟨_, _, rfl, run_takeDeferred HKd.out, ?_⟩⟩
    exact ⟨_, results_tmp rfl _ _ _, ⟨v, rfl, by rw [← HE.out]; exact Ar.own_put HO.out D _ _ HKd.out rfl, HV.out, kept_put Hk.out D _ (Nat.le_trans Hkw.out.more hD)⟩⟩
  case stop =>
    rintro D c pre W _ _ h _
    exact h.elim
end Go.Proofs.YtpnjblledbihcaaDoor.Sh
