/-
  The contracts of Total and List.
-/
import Derived.Test.YtbgonppichdhiaaRnBelow
import Derived.Test.YtbgonppichdhiaaRoundTail
namespace Go.Proofs.Ytbgonppichdhiaa.Rn
open Go.RowKit Go.Proofs.Ytbgonppichdhiaa.Ar Go.Proofs.Ytbgonppichdhiaa.Bt Go.Proofs.Ytbgonppichdhiaa.Lk Go.Shelf Go.Sort
set_option linter.unusedVariables false
attribute [local go_sem] Oper.semAt_some

theorem runsIn_append (a b : List Nd) : runsIn (a ++ b) = runsIn a ++ runsIn b := List.map_append
theorem fine_mem {ns : List Nd} (hf : Fine 0 (runsIn ns)) : ∀ n ∈ ns, n.a + n.l ≤ 65536 ∧ 1 ≤ n.l := fun n hn => by
  have := hf.mem n.r (List.mem_map_of_mem hn)
  exact ⟨this.2.2, this.2.1⟩
theorem fine_len {ns : List Nd} (hf : Fine 0 (runsIn ns)) : ns.length ≤ 65537 := by
  have := hf.len0
  unfold runsIn at this
  rw [List.length_map] at this
  exact this
theorem set_lt {w : World} {x : Option Addr} {ns : List Nd} (h : Set? w x ns) : ∀ m ∈ ns, m.b < w.heap.size := fun m hm => by
  obtain ⟨v, hv⟩ := h.mem m hm
  exact hv.lt
theorem total_bound {ns : List Nd} (hf : Fine 0 (runsIn ns)) (xs : List (Ln ns)) : total (runsIn (vals xs)) ≤ 65536 * xs.length := by
  induction xs with
  | nil => exact Nat.zero_le _
  | cons x xs ih =>
    have hx := (fine_mem hf x.1 x.2).1
    show total (x.1.r :: runsIn (vals xs)) ≤ _
    rw [total_cons, List.length_cons]
    show x.1.l + _ ≤ _
    omega

set_option maxRecDepth 100000 in
set_option maxHeartbeats 4000000 in
theorem total_ok (w : World) (x : Option Addr) (ns : List Nd) (h : Set? w x ns) (hf : Fine 0 (runsIn ns)) :
    Calls Try.prog 21 #[.pointer x] w fun e w' => e = .returned (.int .i64 ((total (runsIn ns) : Nat) : Int)) ∧ Kept [] w w' := by
  have H := Lib.hid h
  have HF := Lib.hid hf
  have hlt := set_lt h
  have Hlt := Lib.hid hlt
  clear h hf hlt
  refine (callsIn_wide (n := 5)).1 ?_
  refine callsIn_of_wp_marks Try.func21 rfl trivial ?_ rfl
  simp only [Try.ntmps21, List.size_toArray, List.length_cons, List.length_nil, Nat.reduceAdd, Nat.reduceSub, Array.replicate_succ, Array.replicate_zero, List.push_toArray, List.append_toArray, List.nil_append, List.cons_append]
  gi_wp2_with (fail)
  have hk2 : Kept [] w (w.alloc (.cells #[.int .i64 0] 3)) := (Kept.refl [] w).alloc _
  have h3 := Has.new w 3 [.int .i64 0]
  have hz2 : (w.alloc (.cells #[.int .i64 0] 3)).heap.size = w.heap.size + 1 := by simp
  have HL := Lib.hid (links_ok x (w.alloc (.cells #[.int .i64 0] 3)))
  obtain ⟨w2, hw2⟩ : ∃ w2, w.alloc (.cells #[.int .i64 0] 3) = w2 := ⟨_, rfl⟩
  have hw2' : w.alloc (.cells [.int .i64 0].toArray 3) = w2 := hw2
  rw [hw2] at hk2 hz2 HL ⊢
  rw [hw2'] at h3
  clear hw2 hw2'
  have H3 := Lib.hid h3
  have Hk2 := Lib.hid hk2
  have Hz2 := Lib.hid hz2
  clear h3 hk2 hz2
  refine ⟨trivial, (callsIn_wide.2 HL.out).mono ?_⟩
  rintro e0 w0 ⟨rfl, hw0⟩
  have hk0 : Kept [] w2 w0 := by rw [hw0]; exact (Kept.refl [] w2).alloc _
  have hb0 : Has w0 w2.heap.size 24 [.pointer x] := by rw [hw0]; exact Has.new w2 _ _
  rw [Hz2.out] at hb0 ⊢
  have Hk0 := Lib.hid hk0
  have Hb0 := Lib.hid hb0
  clear hk0 hb0 hw0 HL
  gi_wp2_with (fail)
  have Hkw := Lib.hid (Hk2.out.trans Hk0.out)
  refine wpIn_rangeFunc_ownG rfl (by decide) (gf := 36) (lb := #[.pointer (some ⟨w.heap.size + 1, 0, none⟩)]) rfl trivial (enters_of Try.func36 (by kernel_rfl) rfl)
    (links_stops 4 (by decide) w.heap.size (w.heap.size + 1) x ns Hlt.out w0 Hb0.out (H.out.keep0 Hkw.out))
    belowK_t (belowK_b (Hkw.out.more)) (Below.refl _ _) (fun _ => rfl)
    (fun pre W => Has W w.heap.size 3 [.int .i64 ((total (runsIn (vals pre)) : Nat) : Int)] ∧ Kept [] w W)
    (fun _ _ _ => False)
    (OwnFrom.and own_has (own_kept Hkw.out.more))
    (fun _ _ _ _ _ hs _ _ => hs)
    ⟨H3.out.keep0 Hk0.out, Hkw.out⟩
    ?A ?assign ?body ?done ?stop
  case assign =>
    intro l y W K hK
    unfold encs
    gi_wp2_with (fail)
    exact hK
  case body =>
    rintro l pre y W ⟨hi3, hk⟩ hlen
    obtain ⟨v, hv⟩ := (H.out.keep0 hk).mem y.1 y.2
    have hyb := fine_mem HF.out y.1 y.2
    have htb := total_bound HF.out pre
    have hnl := fine_len HF.out
    have hsn : total (runsIn (vals (pre ++ [y]))) = total (runsIn (vals pre)) + y.1.l := by
      rw [vals_snoc, runsIn_append, total_append]
      rfl
    obtain ⟨s, hs⟩ : ∃ s, s = total (runsIn (vals pre)) := ⟨_, rfl⟩
    rw [← hs] at htb hsn hi3
    have hsb : s ≤ 65536 * 65537 := by omega
    have Hsn := Lib.hid hsn
    clear hsn hs htb hnl
    obtain ⟨⟨b, ra, rl⟩, hy⟩ := y
    simp only at hv hyb Hsn
    have b1 := hv.cell 1
    have c3 := hi3.cell 0
    have f3 := hi3.free 0
    simp [linkV] at b1 c3
    have Hk := Lib.hid hk
    have H3' := Lib.hid hi3
    clear hi3 hk hlen hv
    dsimp only
    gi_wp2_with (fail)
    refine Rk.wpIn_head (r := some l) (C := fun w' => ∃ n, w' = W.drewN n) 7 (by kernel_rfl) (by kernel_rfl) ⟨1, rfl⟩ ?_
    simp only [List.take_succ_cons, List.take_zero, List.drop_succ_cons, List.drop_zero]
    repeat (quiet_step (fail))
    refine wpQuiet_nil ?_
    rintro _ ⟨nq, rfl⟩
    rw [← Rk.fence_round]
    gi_wp2_with (fail)
    have hKS : Kept [w.heap.size] W ((W.drewN nq).setCell ⟨w.heap.size, 0, none⟩ (.int .i64 ((s : Int) + (rl : Int)))) := ((Kept.refl _ W).drewN nq).setCell _ _ (.inl (by simp))
    refine ⟨keepsFrom_of hKS (fun b hb => by obtain rfl := List.mem_singleton.1 hb; exact ⟨_, _, H3'.out⟩), hKS.below Hk.out.more (by simp), ?_, Hk.out.forget hKS (by simp)⟩
    have h := (H3'.out.drewN nq).put 0 (.int .i64 ((s : Int) + (rl : Int)))
    rw [Hsn.out, Int.natCast_add]
    exact h
  case done =>
    rintro D xs W hD hx ⟨hi3, hk⟩ hK
    have c3 := hi3.cell 0
    simp at c3
    have HKd := Lib.hid hK
    have Hk := Lib.hid hk
    have HE : Hid (vals xs = ns) := Lib.hid hx
    clear hK hk hi3 hx
    generalize vals xs = P at *
    gi_wp2_with (fail)
    refine ⟨by simp, .inl ⟨_, _, rfl, run_takeDeferred HKd.out, ?_⟩⟩
    exact ⟨_, results_tmp rfl _ _ _, (by rw [← HE.out]; rfl), kept_put Hk.out D _ (Nat.le_trans Hkw.out.more hD)⟩
  case stop =>
    rintro D c pre W _ _ h _
    exact h.elim

set_option maxRecDepth 100000 in
set_option maxHeartbeats 4000000 in
theorem list_ok (w : World) (x : Option Addr) (ns : List Nd) (h : Set? w x ns) (hf : Fine 0 (runsIn ns)) :
    Calls Try.prog 19 #[.pointer x] w fun e w' => ∃ v, e = .returned v ∧ OwnR w' v (runsIn ns) ∧ FreshV w v ∧ Kept [] w w' := by
  have H := Lib.hid h
  have HF := Lib.hid hf
  have hlt := set_lt h
  have Hlt := Lib.hid hlt
  clear h hf hlt
  refine (callsIn_wide (n := 5)).1 ?_
  refine callsIn_of_wp_marks Try.func19 rfl trivial ?_ rfl
  simp only [Try.ntmps19, List.size_toArray, List.length_cons, List.length_nil, Nat.reduceAdd, Nat.reduceSub, Array.replicate_succ, Array.replicate_zero, List.push_toArray, List.append_toArray, List.nil_append, List.cons_append]
  gi_wp2_with (fail)
  have hk2 : Kept [] w (w.alloc (.cells #[.slice none 0 0] 39)) := (Kept.refl [] w).alloc _
  have h3 := Has.new w 39 [.slice none 0 0]
  have hz2 : (w.alloc (.cells #[.slice none 0 0] 39)).heap.size = w.heap.size + 1 := by simp
  have HL := Lib.hid (links_ok x (w.alloc (.cells #[.slice none 0 0] 39)))
  obtain ⟨w2, hw2⟩ : ∃ w2, w.alloc (.cells #[.slice none 0 0] 39) = w2 := ⟨_, rfl⟩
  have hw2' : w.alloc (.cells [.slice none 0 0].toArray 39) = w2 := hw2
  rw [hw2] at hk2 hz2 HL ⊢
  rw [hw2'] at h3
  clear hw2 hw2'
  have H3 := Lib.hid h3
  have Hk2 := Lib.hid hk2
  have Hz2 := Lib.hid hz2
  clear h3 hk2 hz2
  refine ⟨trivial, (callsIn_wide.2 HL.out).mono ?_⟩
  rintro e0 w0 ⟨rfl, hw0⟩
  have hk0 : Kept [] w2 w0 := by rw [hw0]; exact (Kept.refl [] w2).alloc _
  have hb0 : Has w0 w2.heap.size 24 [.pointer x] := by rw [hw0]; exact Has.new w2 _ _
  rw [Hz2.out] at hb0 ⊢
  have Hk0 := Lib.hid hk0
  have Hb0 := Lib.hid hb0
  clear hk0 hb0 hw0 HL
  gi_wp2_with (fail)
  have Hkw := Lib.hid (Hk2.out.trans Hk0.out)
  refine wpIn_rangeFunc_ownG rfl (by decide) (gf := 36) (lb := #[.pointer (some ⟨w.heap.size + 1, 0, none⟩)]) rfl trivial (enters_of Try.func36 (by kernel_rfl) rfl)
    (links_stops 4 (by decide) w.heap.size (w.heap.size + 1) x ns Hlt.out w0 Hb0.out (H.out.keep0 Hkw.out))
    belowK_t (belowK_b (Hkw.out.more)) (Below.refl _ _) (fun _ => rfl)
    (fun pre W => (∃ v, Has W w.heap.size 39 [v] ∧ OwnR W v (runsIn (vals pre)) ∧ FreshV w v) ∧ Kept [] w W)
    (fun _ _ _ => False)
    (OwnFrom.and (fun pre X Y row hs hg hr => by
      obtain ⟨v, h1, h2, h3⟩ := hs
      exact ⟨v, own_has (β := Unit) (f := fun _ => [v]) () X Y row h1 hg hr, ownR_from () X Y row h2 hg hr, h3⟩) (own_kept Hkw.out.more))
    (fun _ _ _ _ _ hs _ _ => hs)
    ⟨⟨_, H3.out.keep0 Hk0.out, OwnR.nil _, .inl rfl⟩, Hkw.out⟩
    ?A ?assign ?body ?done ?stop
  case assign =>
    intro l y W K hK
    unfold encs
    gi_wp2_with (fail)
    exact hK
  case body =>
    rintro l pre y W ⟨⟨v, hi3, hO, hV⟩, hk⟩ hlen
    obtain ⟨v0, hv⟩ := (H.out.keep0 hk).mem y.1 y.2
    have hnl := fine_len HF.out
    have hlr : (runsIn (vals pre)).length ≤ 65537 := by
      unfold runsIn vals
      rw [List.length_map, List.length_map]
      omega
    have hsn : runsIn (vals (pre ++ [y])) = runsIn (vals pre) ++ [(y.1.a, y.1.l)] := by
      rw [vals_snoc, runsIn_append]
      rfl
    obtain ⟨rs, hs⟩ : ∃ rs, rs = runsIn (vals pre) := ⟨_, rfl⟩
    rw [← hs] at hsn hO hlr
    have Hsn := Lib.hid hsn
    clear hsn hs hnl
    obtain ⟨⟨b, ra, rl⟩, hy⟩ := y
    simp only at hv Hsn
    have b0 := hv.cell 0
    have b1 := hv.cell 1
    have c3 := hi3.cell 0
    have f3 := hi3.free 0
    simp [linkV] at b0 b1 c3
    have c3a : (W.alloc (.cells #[.int .i64 (ra : Int), .int .i64 (rl : Int)] 29)).cell? ⟨w.heap.size, 0, none⟩ = some v := (hi3.alloc _).cell 0
    have Hk := Lib.hid hk
    have H3' := Lib.hid hi3
    have HO := Lib.hid hO
    have HV := Lib.hid hV
    clear hi3 hk hlen hv hO hV
    dsimp only
    gi_wp2_with (fail)
    refine wpIn_region_any (by kernel_rfl) ?_
    change wpAnyIn _ _ _ _ _ _ _ _ _ (World.drew _)
    repeat (any_goals (first
      | (refine wpAnyIn_ready (rs := [0, 1]) (by decide +kernel) (by simp) ?_; refine AllReadyIn.cons rfl (fun K hK => ?_) (AllReadyIn.cons rfl (fun K hK => ?_) AllReadyIn.nil) <;> (go_simp; refine hK _ _ ?_; clear hK K))
      | (refine wpAnyIn_ready (rs := [0, 2]) (by decide +kernel) (by simp) ?_; refine AllReadyIn.cons rfl (fun K hK => ?_) (AllReadyIn.cons rfl (fun K hK => ?_) AllReadyIn.nil) <;> (go_simp; refine hK _ _ ?_; clear hK K))
      | (refine wpAnyIn_ready (rs := [0, 3]) (by decide +kernel) (by simp) ?_; refine AllReadyIn.cons rfl (fun K hK => ?_) (AllReadyIn.cons rfl (fun K hK => ?_) AllReadyIn.nil) <;> (go_simp; refine hK _ _ ?_; clear hK K))
      | (refine wpAnyIn_ready (rs := [0, 4]) (by decide +kernel) (by simp) ?_; refine AllReadyIn.cons rfl (fun K hK => ?_) (AllReadyIn.cons rfl (fun K hK => ?_) AllReadyIn.nil) <;> (go_simp; refine hK _ _ ?_; clear hK K))
      | (refine wpAnyIn_ready (rs := [0, 5]) (by decide +kernel) (by simp) ?_; refine AllReadyIn.cons rfl (fun K hK => ?_) (AllReadyIn.cons rfl (fun K hK => ?_) AllReadyIn.nil) <;> (go_simp; refine hK _ _ ?_; clear hK K))
      | (refine wpAnyIn_ready (rs := [0]) (by decide +kernel) (by simp) ?_; refine AllReadyIn.cons rfl (fun K hK => ?_) AllReadyIn.nil <;> (go_simp; refine hK _ _ ?_; clear hK K))
      | (refine wpAnyIn_ready (rs := [1]) (by decide +kernel) (by simp) ?_; refine AllReadyIn.cons rfl (fun K hK => ?_) AllReadyIn.nil <;> (go_simp; refine hK _ _ ?_; clear hK K))
      | (refine wpAnyIn_ready (rs := [2]) (by decide +kernel) (by simp) ?_; refine AllReadyIn.cons rfl (fun K hK => ?_) AllReadyIn.nil <;> (go_simp; refine hK _ _ ?_; clear hK K))
      | (refine wpAnyIn_ready (rs := [3]) (by decide +kernel) (by simp) ?_; refine AllReadyIn.cons rfl (fun K hK => ?_) AllReadyIn.nil <;> (go_simp; refine hK _ _ ?_; clear hK K))
      | (refine wpAnyIn_ready (rs := [4]) (by decide +kernel) (by simp) ?_; refine AllReadyIn.cons rfl (fun K hK => ?_) AllReadyIn.nil <;> (go_simp; refine hK _ _ ?_; clear hK K))
      | (refine wpAnyIn_ready (rs := [5]) (by decide +kernel) (by simp) ?_; refine AllReadyIn.cons rfl (fun K hK => ?_) AllReadyIn.nil <;> (go_simp; refine hK _ _ ?_; clear hK K))))
    all_goals
      have hka : Kept [] W (World.drew (W.alloc (.cells #[.int .i64 (ra : Int), .int .i64 (rl : Int)] 29))) := ((Kept.refl [] W).alloc _).drew
      have hB : Has (World.drew (W.alloc (.cells #[.int .i64 (ra : Int), .int .i64 (rl : Int)] 29))) W.heap.size 29 [.int .i64 (ra : Int), .int .i64 (rl : Int)] := (Has.new W 29 [.int .i64 (ra : Int), .int .i64 (rl : Int)]).drew
      generalize World.drew (W.alloc (.cells #[.int .i64 (ra : Int), .int .i64 (rl : Int)] 29)) = W2 at *
      have h0 : W2.cell? ⟨W.heap.size, 0, none⟩ = some (.int .i64 ((ra : Nat) : Int)) := hB.cell 0
      have h1 : W2.cell? ⟨W.heap.size, 1, none⟩ = some (.int .i64 ((rl : Nat) : Int)) := hB.cell 1
      have hOa := HO.out.keep0 hka
      have H0 := Lib.hid h0
      have H1 := Lib.hid h1
      have HOa := Lib.hid hOa
      have Hka := Lib.hid hka
      clear h0 h1 hOa hka hB b0 b1 c3 c3a f3
      rw [Rk.fence_round]
      refine Rk.any_tail (r := some l) 6 (by decide) (by decide +kernel) ?_
      rw [← Rk.fence_round]
      simp only [List.drop_succ_cons, List.drop_zero]
      gi_wp2_with (gi_at_builtin; refine append_run_in rfl (.tmp 8) (.tmp 13) rfl v rs rfl HOa.out W.heap.size 1 (ra, rl) rfl H0.out H1.out (by omega) ?_)
      intro v' w3 hO hG hV
      have hk3 : Kept [] w w3 := own_grown (Hk.out.trans Hka.out) HV.out hG
      have hF3 := own_fresh (Hk.out.trans Hka.out) HV.out hV
      have hS := kept_grown hG
      have hne : w.heap.size ∉ v.ownBlock.toList := fun hm => by
        obtain ⟨cs, hcs⟩ := ownR_cells HO.out _ hm
        exact Has.block_type H3'.out hcs (by decide) rfl
      have h3 := (H3'.out.keep0 Hka.out).kept hS hne
      have c3 := h3.cell 0
      have f3 := h3.free 0
      simp at c3
      obtain ⟨g', cap', rfl, hg', _⟩ : ∃ g cap, v' = .slice (some ⟨g, 0, none⟩) (rs ++ [(ra, rl)]).length cap ∧ g < w3.heap.size ∧ (rs ++ [(ra, rl)]).length ≤ cap := by
        rcases hO.form with ⟨_, h⟩ | h
        · simp at h
        · exact h
      have HO3 := Lib.hid hO
      have Hk3 := Lib.hid hk3
      have HF3 := Lib.hid hF3
      have HS := Lib.hid ((Hka.out.none _).trans hS)
      have H33 := Lib.hid h3
      have Hne := Lib.hid hne
      clear hO hk3 hF3 hS h3 hne hG hV H0 H1 HOa
      obtain ⟨len, hlen⟩ : ∃ len, len = (rs ++ [(ra, rl)]).length := ⟨_, rfl⟩
      rw [← hlen] at HO3 HF3 ⊢
      clear hlen
      gi_wp2_with (fail)
      have hKS : Kept [w.heap.size] w3 (w3.setCell ⟨w.heap.size, 0, none⟩ (.slice (some ⟨g', 0, none⟩) len cap')) := (Kept.refl _ w3).setCell _ _ (.inl (by simp))
      have hKA : Kept (w.heap.size :: v.ownBlock.toList) W (w3.setCell ⟨w.heap.size, 0, none⟩ (.slice (some ⟨g', 0, none⟩) len cap')) := (HS.out.mono fun b hb => List.mem_cons_of_mem _ hb).trans (hKS.mono (by simp))
      refine ⟨keepsFrom_of hKA ?_, hKA.below Hk.out.more ?_, ⟨_, H33.out.put 0 _, ?_, HF3.out⟩, Hk3.out.forget hKS (by simp)⟩
      · intro b hb
        rcases List.mem_cons.1 hb with rfl | hb
        · exact ⟨_, _, H3'.out⟩
        · exact ⟨_, ownR_cells HO.out b hb⟩
      · intro b hb
        rcases List.mem_cons.1 hb with rfl | hb
        · exact Nat.le_refl _
        · rcases HV.out with h | ⟨b', h, hle⟩
          · rw [h] at hb; cases hb
          · rw [h] at hb
            obtain rfl : b = b' := by simpa using hb
            exact hle
      · rw [Hsn.out]
        exact HO3.out.kept hKS fun g hg e => by
          obtain rfl := List.mem_singleton.1 hg
          obtain ⟨cs, hcs⟩ := ownR_cells HO3.out w.heap.size (by rw [e]; simp)
          exact Has.block_type H33.out hcs (by decide) rfl
  case done =>
    rintro D xs W hD hx ⟨⟨v, hi3, hO, hV⟩, hk⟩ hK
    have c3 := hi3.cell 0
    simp at c3
    have HKd := Lib.hid hK
    have Hk := Lib.hid hk
    have HE : Hid (vals xs = ns) := Lib.hid hx
    have HO := Lib.hid hO
    have HV := Lib.hid hV
    clear hK hk hi3 hx hO hV
    generalize vals xs = P at *
    gi_wp2_with (fail)
    refine ⟨by simp, .inl ⟨_, _, rfl, run_takeDeferred HKd.out, ?_⟩⟩
    exact ⟨_, results_tmp rfl _ _ _, ⟨v, rfl, by rw [← HE.out]; exact ownR_put HO.out D _ _ HKd.out rfl, HV.out, kept_put Hk.out D _ (Nat.le_trans Hkw.out.more hD)⟩⟩
  case stop =>
    rintro D c pre W _ _ h _
    exact h.elim
end Go.Proofs.Ytbgonppichdhiaa.Rn
