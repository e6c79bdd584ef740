/-
  The contract of below.
-/
import Derived.Test.YtbgonppichdhiaaRnLinks
import Derived.Test.YtbgonppichdhiaaLoopKit
namespace Go.Proofs.Ytbgonppichdhiaa.Rn
open Go.RowKit Go.Proofs.Ytbgonppichdhiaa.Ar Go.Proofs.Ytbgonppichdhiaa.Bt Go.Proofs.Ytbgonppichdhiaa.Lk Go.Shelf Go.Sort
set_option linter.unusedVariables false
attribute [local go_sem] Oper.semAt_some

/-- The links whose runs have only numbers below i; those from there on. -/
def lowN (i : Int) (n : Nd) : Bool := lowB i n.r
def preN (ns : List Nd) (i : Int) : List Nd := ns.takeWhile (lowN i)
def postN (ns : List Nd) (i : Int) : List Nd := ns.dropWhile (lowN i)
theorem preN_postN (ns : List Nd) (i : Int) : preN ns i ++ postN ns i = ns := List.takeWhile_append_dropWhile
theorem preN_runs (ns : List Nd) (i : Int) : runsIn (preN ns i) = pre (runsIn ns) i := by
  unfold preN pre runsIn
  rw [List.takeWhile_map]
  rfl
theorem postN_runs (ns : List Nd) (i : Int) : runsIn (postN ns i) = post (runsIn ns) i := by
  unfold postN post runsIn
  rw [List.dropWhile_map]
  rfl
/-- The block of the last one, or the head's. -/
def lastB (p : Nat) (P : List Nd) : Nat := match P.getLast? with | none => p | some n => n.b
theorem lastB_nil (p : Nat) : lastB p [] = p := rfl
theorem lastB_snoc (p : Nat) (P : List Nd) (n : Nd) : lastB p (P ++ [n]) = n.b := by unfold lastB; rw [List.getLast?_concat]
theorem lastB_mem (p : Nat) (P : List Nd) : lastB p P = p ∨ ∃ n ∈ P, lastB p P = n.b := by
  rcases List.eq_nil_or_concat P with rfl | ⟨P0, n, rfl⟩
  · exact .inl rfl
  · rw [List.concat_eq_append]
    exact .inr ⟨n, by simp, lastB_snoc _ _ _⟩
theorem preN_all {ns P : List Nd} {i : Int} (h : ns = P) (hl : ∀ n ∈ P, lowN i n = true) : preN ns i = P := by
  subst h
  unfold preN
  have := List.takeWhile_append_of_pos (p := lowN i) (l₁ := ns) (l₂ := []) hl
  simpa using this
theorem preN_some {ns P Q : List Nd} {m : Nd} {i : Int} (h : ns = P ++ m :: Q) (hl : ∀ n ∈ P, lowN i n = true) (hm : lowN i m = false) : preN ns i = P := by
  subst h
  unfold preN
  rw [List.takeWhile_append_of_pos hl, List.takeWhile_cons_of_neg (by rw [hm]; decide), List.append_nil]

set_option maxRecDepth 100000 in
set_option maxHeartbeats 4000000 in
theorem below_ok (w : World) (p : Nat) (ns : List Nd) (h : Rs w p ns) (hb : ∀ n ∈ ns, n.a + n.l ≤ 65536) (i : Int) :
    Calls Try.prog 28 #[.pointer (some ⟨p, 0, none⟩), .int .i64 i] w fun e w' => e = .returned (.pointer (some ⟨lastB p (preN ns i), 0, none⟩)) ∧ Kept [] w w' := by
  have H := Lib.hid h
  have HB := Lib.hid hb
  clear h hb
  refine (callsIn_wide (n := 5)).1 ?_
  refine callsIn_of_wp_marks Try.func28 rfl trivial ?_ rfl
  simp only [Try.ntmps28, List.size_toArray, List.length_cons, List.length_nil, Nat.reduceAdd, Nat.reduceSub, Array.replicate_succ, Array.replicate_zero, List.push_toArray, List.append_toArray, List.nil_append, List.cons_append]
  gi_wp2_with (fail)
  have hk2 : Kept [] w ((w.alloc (.cells #[.int .i64 i] 3)).alloc (.cells #[.pointer (some ⟨p, 0, none⟩)] 50)) := ((Kept.refl [] w).alloc _).alloc _
  have h3 := (Has.new w 3 [.int .i64 i]).alloc (.cells #[.pointer (some ⟨p, 0, none⟩)] 50)
  have h5 := Has.new (w.alloc (.cells #[.int .i64 i] 3)) 50 [.pointer (some ⟨p, 0, none⟩)]
  have hz2 : ((w.alloc (.cells #[.int .i64 i] 3)).alloc (.cells #[.pointer (some ⟨p, 0, none⟩)] 50)).heap.size = w.heap.size + 1 + 1 := by simp
  rw [World.size_alloc] at h5
  have HL := Lib.hid (links_ok (some ⟨p, 0, none⟩) ((w.alloc (.cells #[.int .i64 i] 3)).alloc (.cells #[.pointer (some ⟨p, 0, none⟩)] 50)))
  obtain ⟨w2, hw2⟩ : ∃ w2, ((w.alloc (.cells #[.int .i64 i] 3)).alloc (.cells #[.pointer (some ⟨p, 0, none⟩)] 50)) = w2 := ⟨_, rfl⟩
  have hw2' : ((w.alloc (.cells [.int .i64 i].toArray 3)).alloc (.cells #[.pointer (some ⟨p, 0, none⟩)] 50)) = w2 := hw2
  have hw2'' : ((w.alloc (.cells #[.int .i64 i] 3)).alloc (.cells [.pointer (some ⟨p, 0, none⟩)].toArray 50)) = w2 := hw2
  rw [hw2] at hk2 hz2 HL ⊢
  rw [hw2'] at h3
  rw [hw2''] at h5
  clear hw2 hw2' hw2''
  have H3 := Lib.hid h3
  have H5 := Lib.hid h5
  have Hk2 := Lib.hid hk2
  have Hz2 := Lib.hid hz2
  clear h3 h5 hk2 hz2
  refine ⟨trivial, (callsIn_wide.2 HL.out).mono ?_⟩
  rintro e0 w0 ⟨rfl, hw0⟩
  have hk0 : Kept [] w2 w0 := by rw [hw0]; exact (Kept.refl [] w2).alloc _
  have hb0 : Has w0 w2.heap.size 24 [.pointer (some ⟨p, 0, none⟩)] := by rw [hw0]; exact Has.new w2 _ _
  rw [Hz2.out] at hb0 ⊢
  have Hk0 := Lib.hid hk0
  have Hb0 := Lib.hid hb0
  clear hk0 hb0 hw0 HL
  gi_wp2_with (fail)
  have Hkw := Lib.hid (Hk2.out.trans Hk0.out)
  have hmem := H.out.mem
  have Hmem := Lib.hid hmem
  clear hmem
  refine wpIn_rangeFunc_ownG rfl (by decide) (gf := 36) (lb := #[.pointer (some ⟨w.heap.size + 1 + 1, 0, none⟩)]) rfl trivial (enters_of Try.func36 (by kernel_rfl) rfl)
    (links_stops 4 (by decide) w.heap.size (w.heap.size + 1 + 1) (some ⟨p, 0, none⟩) ns (fun m hm => (Hmem.out m hm).1) w0 Hb0.out (.inr ⟨p, rfl, H.out.keep0 Hkw.out⟩))
    belowK_t (belowK_b (Hkw.out.more)) (Below.refl _ _) (fun _ => rfl)
    (fun pre W => (∀ n ∈ vals pre, lowN i n = true) ∧ Has W w.heap.size 3 [.int .i64 i] ∧ Has W (w.heap.size + 1) 50 [.pointer (some ⟨lastB p (vals pre), 0, none⟩)] ∧ Kept [] w W)
    (fun c pre W => (c = .exit 0 ∧ ∃ ys x, pre = ys ++ [x] ∧ (∀ n ∈ vals ys, lowN i n = true) ∧ lowN i x.1 = false ∧ Has W (w.heap.size + 1) 50 [.pointer (some ⟨lastB p (vals ys), 0, none⟩)]) ∧ Kept [] w W)
    (OwnFrom.and (ownFrom_pure _ _) (OwnFrom.and own_has (OwnFrom.and own_has (own_kept Hkw.out.more))))
    (fun c => OwnFrom.and (fun pre X Y row hs hg hr => by
      obtain ⟨hc, ys, x, h1, h2, h3, h4⟩ := hs
      exact ⟨hc, ys, x, h1, h2, h3, own_has (β := Unit) (f := fun _ => [.pointer (some ⟨lastB p (vals ys), 0, none⟩)]) () X Y row h4 hg hr⟩) (own_kept Hkw.out.more))
    ⟨(by intro n hn; cases hn), H3.out.keep0 Hk0.out, H5.out.keep0 Hk0.out, Hkw.out⟩
    ?A ?assign ?body ?done ?stop
  case assign =>
    intro l x W K hK
    unfold encs
    gi_wp2_with (fail)
    exact hK
  case body =>
    rintro l pre x W ⟨hl, hi3, hi5, hk⟩ hlen
    obtain ⟨v, hv⟩ := (H.out.keep0 hk).seg.mem x.1 x.2
    have hxb := HB.out x.1 x.2
    have hxlt := (Hmem.out x.1 x.2).1
    obtain ⟨⟨b, ra, rl⟩, hx⟩ := x
    simp only at hv hxb hxlt
    have b0 := cell_regrown (show W.cell? ⟨b, 0, none⟩ = some (.int .i64 (ra : Int)) from hv.cell 0)
    have b1 := cell_regrown (show W.cell? ⟨b, 1, none⟩ = some (.int .i64 (rl : Int)) from hv.cell 1)
    have bi := cell_regrown (show W.cell? ⟨w.heap.size, 0, none⟩ = some (.int .i64 i) from hi3.cell 0)
    have cC : ∀ d os, Calls Try.prog 29 #[runV (ra : Int) (rl : Int)] (grow (redrawn W d) os) fun e w'' => e = .returned (.int .i64 ((ra : Int) + (rl : Int))) ∧ ∃ p : Regrown, w'' = grow (redrawn W p.d) p.os :=
      fun d os => Calls.regrown_of ((end_ok (ra : Int) (rl : Int) _ (by omega) (by omega)).mono fun _ _ ⟨he, hk⟩ => ⟨he, hk.below (Nat.le_refl _) (by simp)⟩)
    unfold runV at cC
    have CC := Lib.hid cC
    have Hk := Lib.hid hk
    have H3' := Lib.hid hi3
    have H5' := Lib.hid hi5
    have HL' := Lib.hid hl
    clear cC hi3 hi5 hk hl hlen hv
    dsimp only
    gi_wp2_with (fail)
    refine Rk.wpIn_head (r := some l) (C := fun w' => ∃ p : Regrown, w' = grow (redrawn W p.d) p.os) 6 (by kernel_rfl) (by kernel_rfl) ⟨⟨W.drawn + 1, #[]⟩, by rw [grow_empty]; rfl⟩ ?_
    simp only [List.take_succ_cons, List.take_zero, List.drop_succ_cons, List.drop_zero]
    repeat (quiet_step (exact CC.out _ _))
    refine wpQuiet_nil ?_
    rintro _ ⟨⟨dq, osq⟩, rfl⟩
    rw [← Rk.fence_round]
    have hk3 := Kept.ofBelow (below_regrown W dq osq) []
    clear b0 b1 bi CC
    generalize grow (redrawn W dq) osq = W3 at hk3 ⊢
    have h53 := H5'.out.keep0 hk3
    have c5 := h53.cell 0
    have f5 := h53.free 0
    simp at c5
    have Hk3 := Lib.hid hk3
    have H53 := Lib.hid h53
    clear hk3 h53
    cases hlow : lowN i ⟨b, ra, rl⟩ with
    | true =>
      have hle : ((ra : Int) + (rl : Int)) ≤ i := by
        have := of_decide_eq_true hlow
        simp only [Nd.r] at this
        omega
      have HLow := Lib.hid hlow
      clear hlow
      gi_wp2_with (fail)
      have hKS : Kept [w.heap.size + 1] W3 (W3.setCell ⟨w.heap.size + 1, 0, none⟩ (.pointer (some ⟨b, 0, none⟩))) := (Kept.refl _ W3).setCell _ _ (.inl (by simp))
      have hKW := (Hk3.out.none [w.heap.size + 1]).trans hKS
      have hKw : Kept [] w (W3.setCell ⟨w.heap.size + 1, 0, none⟩ (.pointer (some ⟨b, 0, none⟩))) := (Hk.out.trans Hk3.out).forget hKS (by simp)
      refine ⟨keepsFrom_of hKW (fun b hb => by obtain rfl := List.mem_singleton.1 hb; exact ⟨_, _, H5'.out⟩), hKW.below ?_ (by simp), ?_, (H3'.out.keep0 Hk3.out).kept hKS (by simp), ?_, hKw⟩
      · exact Hk.out.more
      · rw [vals_snoc]
        intro n hn
        rcases List.mem_append.1 hn with hn | hn
        · exact HL'.out n hn
        · rw [List.mem_singleton.1 hn]
          exact HLow.out
      · rw [vals_snoc, lastB_snoc]
        exact H53.out.put 0 (.pointer (some ⟨b, 0, none⟩))
    | false =>
      have hle : i < ((ra : Int) + (rl : Int)) := by
        have := of_decide_eq_false hlow
        simp only [Nd.r] at this
        omega
      have HLow := Lib.hid hlow
      clear hlow
      gi_wp2_with (fail)
      exact ⟨keepsFrom_of Hk3.out (by simp), ⟨rfl, pre, _, rfl, HL'.out, HLow.out, H53.out⟩, Hk.out.trans Hk3.out⟩
  case done =>
    rintro D xs W hD hx ⟨hl, hi3, hi5, hk⟩ hK
    have c5 := hi5.cell 0
    simp at c5
    have HKd := Lib.hid hK
    have Hk := Lib.hid hk
    have HE : Hid (preN ns i = vals xs) := Lib.hid (preN_all hx.symm hl)
    clear hK hk hi3 hi5 hl hx
    generalize vals xs = P at *
    gi_wp2_with (fail)
    refine ⟨by simp, .inl ⟨_, _, rfl, run_takeDeferred HKd.out, ?_⟩⟩
    exact ⟨_, results_tmp rfl _ _ _, (by rw [HE.out]; rfl), kept_put Hk.out D _ (Nat.le_trans Hkw.out.more hD)⟩
  case stop =>
    rintro D c pre W hD ⟨rest, hx⟩ ⟨⟨rfl, ys, x, rfl, hl, hm, h5⟩, hk⟩ hK
    have c5 := h5.cell 0
    simp at c5
    have HKd := Lib.hid hK
    have Hk := Lib.hid hk
    have HE : Hid (preN ns i = vals ys) := Lib.hid (preN_some (m := x.1) (Q := rest) (hx.trans (by rw [vals_snoc]; simp)) hl hm)
    clear hK hk h5 hl hm hx
    generalize vals ys = P at *
    gi_wp2_with (fail)
    refine ⟨by simp, .inl ⟨_, _, rfl, run_takeDeferred HKd.out, ?_⟩⟩
    exact ⟨_, results_tmp rfl _ _ _, (by rw [HE.out]; rfl), kept_put Hk.out D _ (Nat.le_trans Hkw.out.more hD)⟩
end Go.Proofs.Ytbgonppichdhiaa.Rn
