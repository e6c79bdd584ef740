/-
  The contract of the document's Make.
-/
import Derived.Test.YtpnjblledbihcaaDoorShMake
import Derived.Test.YtpnjblledbihcaaDoorGHd
namespace Go.Proofs.YtpnjblledbihcaaDoor.Sh
open Go.RowKit Go.Proofs.YtpnjblledbihcaaDoor.Ar
open Go.Proofs.YtpnjblledbihcaaDoor.Hd (Hd Fields encW errH ofL dof_row dencode_ok cells4 free4 of_facts can_obj errH_yes)
open Go.Proofs.YtpnjblledbihcaaDoor.Tb (Ty sizeE sizeT)
set_option linter.unusedVariables false

/-- The block g begins with these words. -/
def Lay (w : World) (g : Nat) (l : List Int) : Prop := ∃ rest, Has w g 22 (ints l ++ rest)
theorem Lay.keep0 {w w' : World} {g : Nat} {l : List Int} (h : Lay w g l) (k : Kept [] w w') : Lay w' g l := by
  obtain ⟨r, h⟩ := h
  exact ⟨r, h.keep0 k⟩
theorem Lay.seen {w : World} {g : Nat} {l : List Int} (h : Lay w g l) : Seen w (some ⟨g, 0, none⟩) l := by
  obtain ⟨r, h⟩ := h
  refine fun _ => ⟨g, 0, rfl, h.lt, fun j v hv => ?_⟩
  rw [Nat.zero_add, h.cell]
  rw [List.getElem?_append_left]
  · exact hv
  · rw [List.getElem?_eq_some_iff] at hv
    exact hv.1
theorem Lay.cell {w : World} {g : Nat} {l : List Int} (h : Lay w g l) (j : Nat) (hj : j < l.length) : w.cell? ⟨g, j, none⟩ = some (.int .u64 (l.getD j 0)) := by
  obtain ⟨r, h⟩ := h
  rw [h.cell, List.getElem?_append_left (by rw [ints_length]; exact hj)]
  exact ints_get l j hj
theorem Lay.free {w : World} {g : Nat} {l : List Int} (h : Lay w g l) (j : Nat) : w.frozen? ⟨g, j, none⟩ = false := by
  obtain ⟨r, h⟩ := h
  exact h.free j
theorem Lay.put {w : World} {g : Nat} {l : List Int} (h : Lay w g l) (j : Nat) (u : Int) (hj : j < l.length) : Lay (w.setCell ⟨g, j, none⟩ (.int .u64 u)) g (l.set j u) := by
  obtain ⟨r, h⟩ := h
  have := h.put j (.int .u64 u)
  rw [List.set_append_left _ _ (by rw [ints_length]; exact hj), ints_set] at this
  exact ⟨r, this⟩
theorem Lay.lt {w : World} {g : Nat} {l : List Int} (h : Lay w g l) : g < w.heap.size := by
  obtain ⟨r, h⟩ := h
  exact h.lt
theorem lay_of_own {w : World} {v : Value} {l : List Int} (h : Own w v l) (hl : l ≠ []) : ∃ g cap, v = .slice (some ⟨g, 0, none⟩) l.length cap ∧ l.length ≤ cap ∧ Lay w g l := by
  rcases h.2 with ⟨_, h0⟩ | ⟨g, cap, cur, rfl, _, hg, hc, hm, _, ht⟩
  · exact absurd (List.eq_nil_of_length_eq_zero h0) hl
  · refine ⟨g, cap, rfl, hc, cur.toList.drop (l.length * 1), ?_⟩
    rw [← ht, List.take_append_drop]
    unfold Has
    simpa using hg
theorem lay_head (ws : List Int) (i k : Nat) (u : Int) (h : i + (k + 1) ≤ ws.length) : (putW ws i (List.replicate (k + 1) 0)).set i u = putW ws i (u :: List.replicate k 0) := by
  unfold putW
  rw [List.set_append_right _ _ (by rw [List.length_take]; omega), List.length_take, Nat.min_eq_left (by omega), Nat.sub_self, List.replicate_succ, List.cons_append, List.set_cons_zero]
  simp
theorem putW_none (ws : List Int) (i : Nat) : putW ws i [] = ws := by unfold putW; simp
def DMakePost (w : World) (ws : List Int) (l : List Ty) (g i n : Int) (e : Ending) (w' : World) : Prop :=
  ∃ A c, e = .returned (.tuple #[.slice A (makeW ws l g i n).length c, .int .i64 (makeE ws.length l g i n)]) ∧ Seen w' A (makeW ws l g i n) ∧ Kept [] w w'
theorem not_eight (x : Int) (h : x ≠ 0) : (x != 0) = true := by rw [bne_iff_ne]; exact h
section
variable {w : World}
set_option maxRecDepth 100000 in
set_option maxHeartbeats 4000000 in
theorem dmake_any {A B : Option Addr} {c d : Nat} {ws : List Int} {l : List Ty} (hn : A = none → c = 0) (hS : Seen w A ws) (hlc : ws.length ≤ c) (hl : ws.length ≤ 65536) (hL : Tb.Seen w B l) (hok : ∀ x ∈ l, x.ok ∧ x.fit) (hlen : l.length ≤ 64) (g i n : Int) (i0 : -9223372036854775808 ≤ i) (i1 : i ≤ 9223372036854775807) :
    Calls Tryd.prog 34 #[.slice A ws.length c, .slice B l.length d, .int .i64 g, .int .i64 i, .int .i64 n] w (DMakePost w ws l g i n) := by
  have HO := Lib.hid (fun y (k : Kept [] w y) => dof_row (c := d) (hL.keep0 k) hok (by omega) i n i0 i1)
  have ed : (ws.length : Int).tdiv 2 = (ws.length : Int) / 2 := Int.tdiv_eq_ediv_of_nonneg (by omega)
  unfold DMakePost
  by_cases he : sizeE l i n = 0
  · obtain ⟨sz, ho, s1, s2, i2, i3, n1, n2⟩ := of_facts he hlen
    have hcan : (Hd.Hd.mk 1 i n sz).can := can_obj (by omega) (by omega) (by omega) (by omega) (by omega) (by omega)
    have okH : (Hd.Hd.mk 1 i n sz).ok := by constructor <;> simp <;> omega
    have HN : Hid (∀ y : World, Has (y.alloc (.cells #[.int .u8 1, .int .i64 i, .int .i64 n, .int .i64 sz] 37)) y.heap.size 37 [.int .u8 1, .int .i64 i, .int .i64 n, .int .i64 sz]) := Lib.hid fun y => Has.new y _ _
    rw [he, ho] at HO
    have hE : makeE ws.length l g i n = if inG ws.length g sz then 0 else 2 := by unfold makeE; rw [if_neg (by simpa using he), ho]
    have hM : makeW ws l g i n = if (if inG ws.length g sz then (0 : Int) else 2) = 0 then layG ws g (encW ⟨1, i, n, sz⟩) sz else ws := by unfold makeW; rw [hE, ho]
    rw [hE, hM]
    clear hE hM
    unfold Hd.val at HO
    simp only at HO
    cases hc : inG ws.length g sz with
    | false =>
      have hno : ¬ (0 ≤ g ∧ sz ≤ (ws.length : Int) / 2 - g) := fun hh => by rw [(inG_iff _ _ _).2 hh] at hc; cases hc
      simp only [Bool.false_eq_true, if_false, show ¬ ((2 : Int) = 0) by decide]
      have HS := Lib.hid hS
      clear hS hL ho okH hcan he hc
      generalize hLL : ws.length = L at *
      by_cases hg : g < 0
      · clear hno
        go_enter Tryd.func34, Tryd.ntmps34
        go_wp2_with fail
        refine (HO.out _ (Kept.refl [] w)).mono ?_
        rintro e x1 ⟨rfl, k1⟩
        have K1 := Lib.hid (k1.alloc (.cells #[.int .u8 1, .int .i64 i, .int .i64 n, .int .i64 sz] 37))
        have b1 := HN.out x1
        obtain ⟨c0, c1, c2, c3⟩ := cells4 b1
        clear k1 b1 HO HN
        go_wp2_with fail
        go_ret2
        first | exact ⟨A, c, rfl, HS.out.keep0 K1.out, K1.out⟩ | exact ⟨A, ⟨c, rfl⟩, HS.out.keep0 K1.out, K1.out⟩
      · by_cases hg2 : (L : Int) / 2 < g
        · clear hno
          go_enter Tryd.func34, Tryd.ntmps34
          go_wp2_with fail
          refine (HO.out _ (Kept.refl [] w)).mono ?_
          rintro e x1 ⟨rfl, k1⟩
          have K1 := Lib.hid (k1.alloc (.cells #[.int .u8 1, .int .i64 i, .int .i64 n, .int .i64 sz] 37))
          have b1 := HN.out x1
          obtain ⟨c0, c1, c2, c3⟩ := cells4 b1
          clear k1 b1 HO HN
          go_wp2_with fail
          go_ret2
          first | exact ⟨A, c, rfl, HS.out.keep0 K1.out, K1.out⟩ | exact ⟨A, ⟨c, rfl⟩, HS.out.keep0 K1.out, K1.out⟩
        · have hg3 : (L : Int) / 2 - g < sz := by omega
          clear hno
          go_enter Tryd.func34, Tryd.ntmps34
          go_wp2_with fail
          refine (HO.out _ (Kept.refl [] w)).mono ?_
          rintro e x1 ⟨rfl, k1⟩
          have K1 := Lib.hid (k1.alloc (.cells #[.int .u8 1, .int .i64 i, .int .i64 n, .int .i64 sz] 37))
          have b1 := HN.out x1
          obtain ⟨c0, c1, c2, c3⟩ := cells4 b1
          clear k1 b1 HO HN
          go_wp2_with fail
          go_ret2
          first | exact ⟨A, c, rfl, HS.out.keep0 K1.out, K1.out⟩ | exact ⟨A, ⟨c, rfl⟩, HS.out.keep0 K1.out, K1.out⟩
    | true =>
      obtain ⟨j0, j1⟩ := (inG_iff _ _ _).1 hc
      have HEn := Lib.hid (fun (y : World) => dencode_ok (w := y) ⟨1, i, n, sz⟩ okH)
      rw [errH_yes hcan] at HEn
      obtain ⟨m, rfl⟩ := Int.eq_ofNat_of_zero_le j0
      obtain ⟨z, rfl⟩ := Int.eq_ofNat_of_zero_le (show 0 ≤ sz by omega)
      generalize hu : encW ⟨1, i, n, (z : Int)⟩ = u at *
      simp only [if_true]
      have hne : ws ≠ [] := by
        rintro rfl
        simp at j1
        omega
      have hroom : 2 * m + 2 * z ≤ ws.length := by omega
      have hlay : Hid (layG ws (m : Int) u (z : Int) = (putW ws (2 * m) (List.replicate (2 * z) 0)).set (2 * m) u) := Lib.hid (by
        unfold layG
        obtain ⟨k, hk⟩ : ∃ k, 2 * z = k + 1 := ⟨2 * z - 1, by omega⟩
        rw [hk, lay_head _ _ _ _ (by omega), show (2 * (m : Int)).toNat = 2 * m by omega, show (2 * (z : Int) - 1).toNat = k by omega])
      have hll : Hid ((layG ws (m : Int) u (z : Int)).length = ws.length) := Lib.hid (by rw [hlay.out, List.length_set, putW_length _ _ _ (by rw [List.length_replicate]; omega)])
      have hstep : Hid (∀ j, j < 2 * z → (putW ws (2 * m) (List.replicate j 0)).set (2 * m + j) 0 = putW ws (2 * m) (List.replicate (j + 1) 0)) := Lib.hid fun j hj => replicate_step ws (2 * m) j 0 (by omega)
      have hpl : Hid (∀ j, j ≤ 2 * z → (putW ws (2 * m) (List.replicate j 0)).length = ws.length) := Lib.hid fun j hj => putW_length _ _ _ (by rw [List.length_replicate]; omega)
      have hp0 : Hid (putW ws (2 * m) (List.replicate 0 0) = ws) := Lib.hid (putW_none ws (2 * m))
      have HS := Lib.hid hS
      have HNn := Lib.hid hn
      have HNe := Lib.hid hne
      rw [hll.out]
      clear hS hL ho okH hcan he hc hn hne
      obtain ⟨L, hLL⟩ : ∃ L, L = ws.length := ⟨_, rfl⟩
      rw [← hLL] at hlc hl ed j1 hroom hpl hll ⊢
      have HLL := Lib.hid hLL
      clear hLL
      unfold Hd.val at HEn
      simp only at HEn
      go_enter Tryd.func34, Tryd.ntmps34
      go_wp2_with fail
      refine (HO.out _ (Kept.refl [] w)).mono ?_
      rintro e x1 ⟨rfl, k1⟩
      have K1 := Lib.hid (k1.alloc (.cells #[.int .u8 1, .int .i64 i, .int .i64 n, .int .i64 (z : Int)] 37))
      have b1 := HN.out x1
      obtain ⟨c0, c1, c2, c3⟩ := cells4 b1
      have HB1 := Lib.hid b1
      have Hge := Lib.hid k1.more
      clear k1 b1 HO HN
      have HS1 := Lib.hid (HS.out.keep0 K1.out)
      generalize hy1 : x1.alloc (.cells #[.int .u8 1, .int .i64 i, .int .i64 n, .int .i64 (z : Int)] 37) = y1 at *
      generalize hhb : x1.heap.size = hb at *
      go_wp2_with (at_builtin; (refine append_words rfl (.const (.slice none 0 0)) (.tmp 47) rfl (.slice none 0 0) [] rfl (Own.nil _) A L c ws rfl HLL.out.symm HNn.out HS1.out (show 0 + L ≤ 1073741824 by omega) ?_))
      intro v2 x2 hO2 hG2 hB2
      have hK2 : Kept [] y1 x2 := own_grown (Kept.refl [] y1) (.inl rfl) hG2
      have hF2 := own_fresh (Kept.refl [] y1) (.inl rfl) hB2
      obtain ⟨gb, cap, rfl, hcap, hlay2⟩ := lay_of_own hO2 HNe.out
      have hgb : y1.heap.size ≤ gb := by
        rcases hF2 with h | ⟨b, h, hle⟩
        · cases h
        · injection h with h
          rw [show gb = b from h]; exact hle
      rw [← HLL.out] at hcap ⊢
      have b2 := HB1.out.keep0 hK2
      have hbg : hb ≠ gb := by have := HB1.out.lt; omega
      have HB2 := Lib.hid b2
      have HK2 := Lib.hid hK2
      have HLy2 := Lib.hid hlay2
      have Hgb := Lib.hid hgb
      have Hbg := Lib.hid hbg
      clear hO2 hG2 hB2 hK2 hF2 hlay2 b2 hgb HS1 HB1 c0 c1 c2 c3 hbg
      go_wp2_with fail
      go_loopw [15] (fun t wr => ∃ j : Nat, j ≤ 2 * z ∧ t = .int .i64 ((2 * m + j : Nat) : Int) ∧ Hid (Lay wr gb (putW ws (2 * m) (List.replicate j 0)) ∧ Kept [gb] x2 wr)) (fun t _ => 2 * m + 2 * z - (intOf t).toNat)
      case atStart => exact ⟨0, Nat.zero_le _, by simp, Lib.hid ⟨by rw [hp0.out]; exact HLy2.out, Kept.refl _ _⟩⟩
      case round =>
        obtain ⟨j, hj, rfl, hr⟩ := hrel
        obtain ⟨c0, c1, c2, c3⟩ := cells4 (HB2.out.kept hr.out.2 (by simpa using Hbg.out))
        by_cases hlt : j < 2 * z
        · have hc := hr.out.1.cell (2 * m + j) (by rw [hpl.out j hj]; omega)
          have hf := hr.out.1.free (2 * m + j)
          have hidx : 2 * m + j < L := by omega
          have hHN : Hid (Lay (wr.setCell ⟨gb, 2 * m + j, none⟩ (.int .u64 0)) gb (putW ws (2 * m) (List.replicate (j + 1) 0)) ∧ Kept [gb] x2 (wr.setCell ⟨gb, 2 * m + j, none⟩ (.int .u64 0))) := Lib.hid (by
            refine ⟨?_, hr.out.2.setCell _ _ (.inl (by simp))⟩
            rw [← hstep.out j hlt]
            exact hr.out.1.put _ _ (by rw [hpl.out j hj]; omega))
          clear hr
          go_wp2_with fail
          go_roundw
          case rel => exact ⟨j + 1, by omega, by go_num, hHN⟩
          case measure => simp [intOf]; omega
        · obtain rfl : j = 2 * z := by omega
          have hlay3 := hr.out.1
          have hk3 := hr.out.2
          have HL3 := Lib.hid hlay3
          have HK3 := Lib.hid hk3
          clear hr hlay3 hk3
          go_wp2_with fail
          refine (HEn.out _).mono ?_
          rintro e x4 ⟨rfl, k4⟩
          have hL4 := HL3.out.keep0 k4
          have hK4 := HK3.out.trans (k4.none _)
          have hc := hL4.cell (2 * m) (by rw [hpl.out _ (Nat.le_refl _)]; omega)
          have hf := hL4.free (2 * m)
          have hidx : 2 * m < L := by omega
          have hFin : Hid (Seen (x4.setCell ⟨gb, 2 * m, none⟩ (.int .u64 u)) (some ⟨gb, 0, none⟩) (layG ws (m : Int) u (z : Int)) ∧ Kept [] w (x4.setCell ⟨gb, 2 * m, none⟩ (.int .u64 u))) := Lib.hid (by
            have k5 := hK4.setCell ⟨gb, 2 * m, none⟩ (.int .u64 u) (.inl (by simp))
            refine ⟨?_, ?_⟩
            · rw [hlay.out]
              exact (hL4.put _ _ (by rw [hpl.out _ (Nat.le_refl _)]; omega)).seen
            · refine (K1.out.trans HK2.out).forget k5 fun b hb => ?_
              obtain rfl := List.mem_singleton.1 hb
              have := K1.out.more
              have := Hgb.out
              omega)
          clear hL4 hK4 k4 HL3 HK3
          go_wp2_with fail
          go_ret2
          first | exact ⟨some ⟨gb, 0, none⟩, cap, rfl, hFin.out⟩ | exact ⟨some ⟨gb, 0, none⟩, ⟨cap, rfl⟩, hFin.out⟩
  · have hn : (sizeE l i n != 0) = true := by rw [bne_iff_ne]; exact he
    have hE : makeE ws.length l g i n = sizeE l i n := by unfold makeE; rw [if_pos he]
    have hM : makeW ws l g i n = ws := by unfold makeW; rw [hE, if_neg he]
    rw [hE, hM]
    clear hE hM
    have HS := Lib.hid hS
    unfold Hd.val at HO
    clear hS hL he
    generalize sizeE l i n = er at *
    go_enter Tryd.func34, Tryd.ntmps34
    go_wp2_with fail
    refine (HO.out _ (Kept.refl [] w)).mono ?_
    rintro e x1 ⟨rfl, k1⟩
    have K1 := Lib.hid k1
    clear k1 HO
    go_wp2_with fail
    go_ret2
    first | exact ⟨A, c, rfl, HS.out.keep0 (K1.out.alloc _), K1.out.alloc _⟩ | exact ⟨A, ⟨c, rfl⟩, HS.out.keep0 (K1.out.alloc _), K1.out.alloc _⟩
end
end Go.Proofs.YtpnjblledbihcaaDoor.Sh
