/-
  The contract of Copy.
-/
import Derived.Test.YtbgonppichdhiaaRnList
import Derived.Test.YtbgonppichdhiaaRnJoins
namespace Go.Proofs.Ytbgonppichdhiaa.Rn
open Go.RowKit Go.Proofs.Ytbgonppichdhiaa.Ar Go.Proofs.Ytbgonppichdhiaa.Bt Go.Proofs.Ytbgonppichdhiaa.Lk Go.Shelf Go.Sort
set_option linter.unusedVariables false
attribute [local go_sem] Oper.semAt_some

theorem seg_from {B : Nat} {x : Option Addr} : ∀ {ns : List Nd}, OwnFrom B (fun (_ : Unit) W => Seg W x ns)
  | [] => fun _ _ _ _ _ _ _ => trivial
  | n :: ns => fun s X Y row hs hg hr => by
    have hs' : Seg X x (n :: ns) := hs
    rw [Seg.cons] at hs'
    show Seg Y x (n :: ns)
    rw [Seg.cons]
    exact ⟨own_has (β := Unit) (f := fun _ => linkV n.a n.l (front x ns)) () X Y row hs'.1 hg hr, seg_from () X Y row hs'.2 hg hr⟩
theorem rs_from {B : Nat} {p : Nat} {ns : List Nd} : OwnFrom B (fun (_ : Unit) W => Rs W p ns) := fun s X Y row hs hg hr =>
  ⟨own_has (β := Unit) (f := fun _ => linkV (-1) 0 (ptr ns)) () X Y row hs.head hg hr, seg_from () X Y row hs.seg hg hr, hs.apart⟩
theorem copy_nil (w : World) : Calls Try.prog 10 #[.pointer none] w fun e w' => e = .returned (.pointer none) ∧ Kept [] w w' := by
  go_enter Try.func10, Try.ntmps10
  go_wp2_with fail
  go_ret
  exact ⟨rfl, Kept.refl [] w⟩

set_option maxRecDepth 100000 in
set_option maxHeartbeats 8000000 in
theorem copy_ok (w : World) (p : Nat) (ns : List Nd) (h : Rs w p ns) :
    Calls Try.prog 10 #[.pointer (some ⟨p, 0, none⟩)] w fun e w' => ∃ ms, e = .returned (.pointer (some ⟨w.heap.size, 0, none⟩)) ∧ Rs w' w.heap.size ms ∧ runsIn ms = runsIn ns ∧ (∀ m ∈ ms, w.heap.size ≤ m.b) ∧ Kept [] w w' := by
  have H := Lib.hid h
  have hlt := h.mem
  have Hlt := Lib.hid hlt
  have HNew := Lib.hid (new_ok w)
  clear h hlt
  refine (callsIn_wide (n := 5)).1 ?_
  refine callsIn_of_wp_marks Try.func10 rfl trivial ?_ rfl
  simp only [Try.ntmps10, List.size_toArray, List.length_cons, List.length_nil, Nat.reduceAdd, Nat.reduceSub, Array.replicate_succ, Array.replicate_zero, List.push_toArray, List.append_toArray, List.nil_append, List.cons_append]
  gi_wp2_with (fail)
  refine ⟨trivial, (callsIn_wide.2 HNew.out).mono ?_⟩
  rintro e w1 ⟨rfl, hr1, hk1⟩
  obtain ⟨C, hC⟩ : ∃ C, C = w.heap.size := ⟨_, rfl⟩
  rw [← hC] at hr1 ⊢
  have HC := Lib.hid hC
  have Hr1 := Lib.hid hr1
  have Hk1 := Lib.hid hk1
  clear hC hr1 hk1
  gi_wp2_with (fail)
  have hk2 : Kept [] w1 (w1.alloc (.cells #[.pointer (some ⟨C, 0, none⟩)] 50)) := (Kept.refl [] w1).alloc _
  have h4 : Has (w1.alloc (.cells #[.pointer (some ⟨C, 0, none⟩)] 50)) w1.heap.size 50 [.pointer (some ⟨C, 0, none⟩)] := Has.new w1 _ [.pointer (some ⟨C, 0, none⟩)]
  have HL := Lib.hid (links_ok (some ⟨p, 0, none⟩) (w1.alloc (.cells #[.pointer (some ⟨C, 0, none⟩)] 50)))
  obtain ⟨L, hL⟩ : ∃ L, L = w1.heap.size := ⟨_, rfl⟩
  rw [← hL] at h4 ⊢
  have HLs := Lib.hid (show w.heap.size ≤ L by rw [hL]; exact Hk1.out.more)
  clear hL
  generalize w1.alloc (.cells #[.pointer (some ⟨C, 0, none⟩)] 50) = w2 at *
  have H4 := Lib.hid h4
  have Hk2 := Lib.hid (Hk1.out.trans hk2)
  have Hr2 := Lib.hid (Hr1.out.keep0 hk2)
  clear h4 hk2
  refine ⟨trivial, (callsIn_wide.2 HL.out).mono ?_⟩
  rintro e0 w0 ⟨rfl, hw0⟩
  have hk0 : Kept [] w2 w0 := by rw [hw0]; exact (Kept.refl [] w2).alloc _
  have hb0 : Has w0 w2.heap.size 24 [.pointer (some ⟨p, 0, none⟩)] := by rw [hw0]; exact Has.new w2 _ _
  generalize w2.heap.size = bb at *
  have Hk0 := Lib.hid hk0
  have Hb0 := Lib.hid hb0
  clear hk0 hb0 hw0 HL
  gi_wp2_with (fail)
  have Hkw := Lib.hid (Hk2.out.trans Hk0.out)
  refine wpIn_rangeFunc_ownG rfl (by decide) (gf := 36) (lb := #[.pointer (some ⟨bb, 0, none⟩)]) rfl trivial (enters_of Try.func36 (by kernel_rfl) rfl)
    (links_stops 4 (by decide) w.heap.size bb (some ⟨p, 0, none⟩) ns (fun m hm => (Hlt.out m hm).1) w0 Hb0.out (.inr ⟨p, rfl, H.out.keep0 Hkw.out⟩))
    belowK_t (belowK_b (Hkw.out.more)) (Below.refl _ _) (fun _ => rfl)
    (fun pre W => (∃ ms, Rs W C ms ∧ runsIn ms = runsIn (vals pre) ∧ (∀ m ∈ ms, w.heap.size ≤ m.b) ∧ Has W L 50 [.pointer (some ⟨lastB C ms, 0, none⟩)]) ∧ Kept [] w W)
    (fun _ _ _ => False)
    (OwnFrom.and (fun pre X Y row hs hg hr => by
      obtain ⟨ms, h1, h2, h3, h4⟩ := hs
      exact ⟨ms, rs_from () X Y row h1 hg hr, h2, h3, own_has (β := Unit) (f := fun _ => [.pointer (some ⟨lastB C ms, 0, none⟩)]) () X Y row h4 hg hr⟩) (own_kept Hkw.out.more))
    (fun _ _ _ _ _ hs _ _ => hs)
    ⟨⟨[], Hr2.out.keep0 Hk0.out, rfl, (by simp), H4.out.keep0 Hk0.out⟩, Hkw.out⟩
    ?A ?assign ?body ?done ?stop
  case assign =>
    intro l y W K hK
    unfold encs
    gi_wp2_with (fail)
    exact hK
  case body =>
    rintro l pre y W ⟨⟨ms, hr, hms, hfr, h4⟩, hk⟩ hlen
    obtain ⟨v0, hv⟩ := (H.out.keep0 hk).seg.mem y.1 y.2
    have hsn : runsIn (vals (pre ++ [y])) = runsIn (vals pre) ++ [(y.1.a, y.1.l)] := by
      rw [vals_snoc, runsIn_append]
      rfl
    rw [← hms] at hsn
    have Hsn := Lib.hid hsn
    clear hsn hms
    obtain ⟨⟨b, ra, rl⟩, hy⟩ := y
    simp only at hv Hsn
    have hah := (rs_iff (Q := []).1 (by rw [List.append_nil]; exact hr)).1
    obtain ⟨lb, hlb⟩ : ∃ lb, lb = lastB C ms := ⟨_, rfl⟩
    obtain ⟨t, la, ll, hlast, _⟩ := hah.last
    rw [← hlb] at hlast h4
    have Hlb := Lib.hid hlb
    have b0 := hv.cell 0
    have b1 := hv.cell 1
    have c4 := h4.cell 0
    have f4 := h4.free 0
    simp [linkV] at b0 b1 c4
    have c2 : W.cell? ⟨lb, 2, none⟩ = some (.pointer none) := hlast.cell 2
    have f2 := hlast.free 2
    have c4a : (W.alloc (.cells #[.int .i64 (ra : Int), .int .i64 (rl : Int), .pointer none] 52)).cell? ⟨L, 0, none⟩ = some (.pointer (some ⟨lb, 0, none⟩)) := (h4.alloc _).cell 0
    have c2a : (W.alloc (.cells #[.int .i64 (ra : Int), .int .i64 (rl : Int), .pointer none] 52)).cell? ⟨lb, 2, none⟩ = some (.pointer none) := (hlast.alloc _).cell 2
    have f2a : (W.alloc (.cells #[.int .i64 (ra : Int), .int .i64 (rl : Int), .pointer none] 52)).frozen? ⟨lb, 2, none⟩ = false := (hlast.alloc _).free 2
    have Hk := Lib.hid hk
    have H4' := Lib.hid h4
    have Hr := Lib.hid hr
    have Hfr := Lib.hid hfr
    have Hlast := Lib.hid hlast
    have Hbl := Lib.hid hv
    clear h4 hr hfr hlast hk hlen hv hah hlb
    dsimp only
    have hmx : Try.prog.follows .mixedOrders = true := by kernel_rfl
    gi_wp2_with (fail)
    gi_region_with_o (fail)
    all_goals
      clear c4 f4 c2 f2 c4a c2a f2a b0 b1
      have hka : Kept [] W (W.alloc (.cells #[.int .i64 (ra : Int), .int .i64 (rl : Int), .pointer none] 52)) := (Kept.refl [] W).alloc _
      have hm : Has (W.alloc (.cells #[.int .i64 (ra : Int), .int .i64 (rl : Int), .pointer none] 52)) W.heap.size 52 (linkV (ra : Nat) (rl : Nat) (ptr [])) := Has.new W _ (linkV (ra : Nat) (rl : Nat) none)
      generalize W.alloc (.cells #[.int .i64 (ra : Int), .int .i64 (rl : Int), .pointer none] 52) = W4 at *
      have hlaid := rs_laid (P := ms) (Q := []) (m := ⟨W.heap.size, ra, rl⟩) (by rw [List.append_nil]; exact Hr.out.keep0 hka) hm (fun k hk => by
        rw [List.append_nil] at hk
        have := (Hr.out.mem k hk).1
        show k.b ≠ W.heap.size
        omega)
      rw [← Hlb.out] at hlaid
      have hnn : lb ≠ L := by
        have hot := Hr.out.other H4'.out (by decide) (by decide)
        intro e
        apply hot
        rw [← e, Hlb.out]
        rcases lastB_mem C ms with e | ⟨k, h1, e⟩
        · rw [e]; exact List.mem_cons_self
        · rw [e]; exact List.mem_cons_of_mem _ (List.mem_map_of_mem h1)
      have hkS : Kept [lb] W (W4.setCell ⟨lb, 2, none⟩ (.pointer (some ⟨W.heap.size, 0, none⟩))).drew := ((hka.none [lb]).setCell _ _ (.inl (by simp))).drew
      have hr5 : Rs (W4.setCell ⟨lb, 2, none⟩ (.pointer (some ⟨W.heap.size, 0, none⟩))).drew C (ms ++ [⟨W.heap.size, ra, rl⟩]) := hlaid.keep0 ((Kept.refl [] _).drew)
      have h45 := H4'.out.kept hkS (by simp; exact hnn.symm)
      have hl5 := ((Hlast.out.keep0 hka).put 2 (.pointer (some ⟨W.heap.size, 0, none⟩))).drew
      generalize (W4.setCell ⟨lb, 2, none⟩ (.pointer (some ⟨W.heap.size, 0, none⟩))).drew = W5 at *
      have c4 := h45.cell 0
      have f4 := h45.free 0
      have c2 := hl5.cell 2
      simp [linkV] at c4 c2
      have hlbw : w.heap.size ≤ lb := by
        rw [Hlb.out]
        rcases lastB_mem C ms with e | ⟨k, h1, e⟩
        · rw [e, HC.out]; exact Nat.le_refl _
        · rw [e]; exact Hfr.out k h1
      have HlbW := Lib.hid hlbw
      have HkS := Lib.hid hkS
      have Hr5 := Lib.hid hr5
      have H45 := Lib.hid h45
      have Hwz := Lib.hid Hk.out.more
      clear hka hm hlaid hkS hr5 h45 hl5 hlbw hnn
      generalize W.heap.size = A at *
      gi_wp2_with (fail)
      have hKS : Kept [L] W5 (W5.setCell ⟨L, 0, none⟩ (.pointer (some ⟨A, 0, none⟩))) := (Kept.refl _ W5).setCell _ _ (.inl (by simp))
      have hKA : Kept [lb, L] W (W5.setCell ⟨L, 0, none⟩ (.pointer (some ⟨A, 0, none⟩))) := (HkS.out.mono (by simp)).trans (hKS.mono (by simp))
      refine ⟨keepsFrom_of hKA ?_, hKA.below Hk.out.more ?_, ⟨ms ++ [⟨A, ra, rl⟩], Hr5.out.kept hKS ?_, ?_, ?_, ?_⟩, Hk.out.forget hKA ?_⟩
      · intro c hc
        rcases List.mem_cons.1 hc with rfl | hc
        · exact ⟨_, _, Hlast.out⟩
        · obtain rfl := List.mem_singleton.1 hc
          exact ⟨_, _, H4'.out⟩
      · intro c hc
        rcases List.mem_cons.1 hc with rfl | hc
        · exact HlbW.out
        · obtain rfl := List.mem_singleton.1 hc
          exact HLs.out
      · intro c hc hL
        obtain rfl := List.mem_singleton.1 hL
        exact Hr5.out.other H45.out (by decide) (by decide) hc
      · rw [runsIn_append]
        exact Hsn.out.symm
      · intro m hm
        rcases List.mem_append.1 hm with hm | hm
        · exact Hfr.out m hm
        · rw [List.mem_singleton.1 hm]
          exact Hwz.out
      · rw [lastB_snoc]
        exact H45.out.put 0 _
      · intro c hc
        rcases List.mem_cons.1 hc with rfl | hc
        · exact HlbW.out
        · obtain rfl := List.mem_singleton.1 hc
          exact HLs.out
  case done =>
    rintro D xs W hD hx ⟨⟨ms, hr, hms, hfr, h4⟩, hk⟩ hK
    have HKd := Lib.hid hK
    have Hk := Lib.hid hk
    have Hr := Lib.hid hr
    have HE : Hid (runsIn ms = runsIn ns) := Lib.hid (by rw [hms, hx])
    have Hfr := Lib.hid hfr
    clear hK hk hx hr hms h4 hfr
    gi_wp2_with (fail)
    refine ⟨by simp, .inl ⟨_, _, rfl, run_takeDeferred HKd.out, ?_⟩⟩
    refine ⟨_, results_tmp rfl _ _ _, ⟨ms, (by rw [← HC.out]; rfl), ?_, HE.out, Hfr.out, kept_put Hk.out D _ (Nat.le_trans Hkw.out.more hD)⟩⟩
    rw [← HC.out]
    exact rs_from (B := 0) () W _ (some D) Hr.out (grownBy_putObj' W D _) fun r e => by injection e with e; subst e; exact ⟨Nat.zero_le _, _, HKd.out, rfl⟩
  case stop =>
    rintro D c pre W _ _ h _
    exact h.elim
end Go.Proofs.Ytbgonppichdhiaa.Rn
