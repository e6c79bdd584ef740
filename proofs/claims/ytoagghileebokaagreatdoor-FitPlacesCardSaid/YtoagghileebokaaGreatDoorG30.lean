/-
  Several texts in one: SpDocMake, SpDocPut, SpDocEnds, SpTwin.
-/
import Derived.Test.YtoagghileebokaaGreatDoorG26
import Derived.Test.YtoagghileebokaaGreatDoorG21
import Derived.Test.YtoagghileebokaaGreatDoorG28
import Derived.Test.YtoagghileebokaaGreatDoorG35
/-
  The contract of the document's Make where there is room: the words lie in a block of their own.
-/
namespace Go.Proofs.YtoagghileebokaaGreatDoor.Sp
open Go.RowKit Go.Proofs.YtoagghileebokaaGreatDoor.Ar Go.Proofs.YtoagghileebokaaGreatDoor.Sh
open Go.Proofs.YtoagghileebokaaGreatDoor.Hd (Hd Fields encW errH ofL dof_row dencode_ok cells4 free4 of_facts can_obj errH_yes)
open Go.Proofs.YtoagghileebokaaGreatDoor.Tb (Ty sizeE sizeT)
set_option linter.unusedVariables false
section
variable {w : World}
set_option maxRecDepth 100000 in
set_option maxHeartbeats 4000000 in
theorem dmake_yes {A B : Option Addr} {c d : Nat} {ws : List Int} {l : List Ty} (hn : A = none → c = 0) (hS : Ar.Seen w A ws) (hlc : ws.length ≤ c) (hl : ws.length ≤ 65536) (hL : Tb.Seen w B l) (hok : ∀ x ∈ l, x.ok ∧ x.fit) (hlen : l.length ≤ 64) (g i n : Int) (i0 : -9223372036854775808 ≤ i) (i1 : i ≤ 9223372036854775807)
    (he : sizeE l i n = 0) (g0 : 0 ≤ g) (hroomy : (ofL l i n).sz ≤ (ws.length : Int) / 2 - g) :
    Calls Tryz.prog 108 #[.slice A ws.length c, .slice B l.length d, .int .i64 g, .int .i64 i, .int .i64 n] w fun e w' => ∃ gb cap, e = .returned (.tuple #[.slice (some ⟨gb, 0, none⟩) ws.length cap, .int .i64 0]) ∧ Sh.Lay w' gb (makeW ws l g i n) ∧ ws.length ≤ cap ∧ w.heap.size ≤ gb ∧ Kept [] w w' := by
  have HO := Lib.hid (fun y (k : Kept [] w y) => dof_row (c := d) (hL.keep0 k) hok (by omega) i n i0 i1)
  have ed : (ws.length : Int).tdiv 2 = (ws.length : Int) / 2 := Int.tdiv_eq_ediv_of_nonneg (by omega)
  obtain ⟨sz, ho, s1, s2, i2, i3, n1, n2⟩ := of_facts he hlen
  have hcan : (Hd.Hd.mk 1 i n sz).can := can_obj (by omega) (by omega) (by omega) (by omega) (by omega) (by omega)
  have okH : (Hd.Hd.mk 1 i n sz).ok := by constructor <;> simp <;> omega
  have HN : Hid (∀ y : World, Has (y.alloc (.cells #[.int .u8 1, .int .i64 i, .int .i64 n, .int .i64 sz] 49)) y.heap.size 49 [.int .u8 1, .int .i64 i, .int .i64 n, .int .i64 sz]) := Lib.hid fun y => Has.new y _ _
  rw [he, ho] at HO
  rw [ho] at hroomy
  have hc : inG ws.length g sz = true := (inG_iff _ _ _).2 ⟨g0, hroomy⟩
  have hE : makeE ws.length l g i n = if inG ws.length g sz then 0 else 2 := by unfold makeE; rw [if_neg (by simpa using he), ho]
  have hM : makeW ws l g i n = if (if inG ws.length g sz then (0 : Int) else 2) = 0 then layG ws g (encW ⟨1, i, n, sz⟩) sz else ws := by unfold makeW; rw [hE, ho]
  rw [hM]
  rw [hc]
  clear hE hM hroomy g0
  unfold Hd.val at HO
  simp only at HO
  obtain ⟨j0, j1⟩ := (inG_iff _ _ _).1 hc
  have HEn := Lib.hid (fun (y : World) => dencode_ok (w := y) ⟨1, i, n, sz⟩ okH)
  rw [errH_yes hcan] at HEn
  obtain ⟨m, rfl⟩ := Int.eq_ofNat_of_zero_le j0
  obtain ⟨z, rfl⟩ := Int.eq_ofNat_of_zero_le (show 0 ≤ sz by omega)
  generalize hu : encW ⟨1, i, n, (z : Int)⟩ = u at *
  simp only [if_true]
  have hne : ws ≠ [] := by
    rintro rfl
    simp at j1
    omega
  have hroom : 2 * m + 2 * z ≤ ws.length := by omega
  have hlay : Hid (layG ws (m : Int) u (z : Int) = (putW ws (2 * m) (List.replicate (2 * z) 0)).set (2 * m) u) := Lib.hid (by
    unfold layG
    obtain ⟨k, hk⟩ : ∃ k, 2 * z = k + 1 := ⟨2 * z - 1, by omega⟩
    rw [hk, lay_head _ _ _ _ (by omega), show (2 * (m : Int)).toNat = 2 * m by omega, show (2 * (z : Int) - 1).toNat = k by omega])
  have hll : Hid ((layG ws (m : Int) u (z : Int)).length = ws.length) := Lib.hid (by rw [hlay.out, List.length_set, putW_length _ _ _ (by rw [List.length_replicate]; omega)])
  have hstep : Hid (∀ j, j < 2 * z → (putW ws (2 * m) (List.replicate j 0)).set (2 * m + j) 0 = putW ws (2 * m) (List.replicate (j + 1) 0)) := Lib.hid fun j hj => replicate_step ws (2 * m) j 0 (by omega)
  have hpl : Hid (∀ j, j ≤ 2 * z → (putW ws (2 * m) (List.replicate j 0)).length = ws.length) := Lib.hid fun j hj => putW_length _ _ _ (by rw [List.length_replicate]; omega)
  have hp0 : Hid (putW ws (2 * m) (List.replicate 0 0) = ws) := Lib.hid (putW_none ws (2 * m))
  have HS := Lib.hid hS
  have HNn := Lib.hid hn
  have HNe := Lib.hid hne
  clear hS hL ho okH hcan he hc hn hne
  obtain ⟨L, hLL⟩ : ∃ L, L = ws.length := ⟨_, rfl⟩
  rw [← hLL] at hlc hl ed j1 hroom hpl hll ⊢
  have HLL := Lib.hid hLL
  clear hLL
  unfold Hd.val at HEn
  simp only at HEn
  go_enter Tryz.func108, Tryz.ntmps108
  go_wp2_with fail
  refine (HO.out _ (Kept.refl [] w)).mono ?_
  rintro e x1 ⟨rfl, k1⟩
  have K1 := Lib.hid (k1.alloc (.cells #[.int .u8 1, .int .i64 i, .int .i64 n, .int .i64 (z : Int)] 49))
  have b1 := HN.out x1
  obtain ⟨c0, c1, c2, c3⟩ := cells4 b1
  have HB1 := Lib.hid b1
  have Hge := Lib.hid k1.more
  clear k1 b1 HO HN
  have HS1 := Lib.hid (HS.out.keep0 K1.out)
  generalize hy1 : x1.alloc (.cells #[.int .u8 1, .int .i64 i, .int .i64 n, .int .i64 (z : Int)] 49) = y1 at *
  generalize hhb : x1.heap.size = hb at *
  go_wp2_with (at_builtin; (refine append_words rfl (.const (.slice none 0 0)) (.tmp 47) rfl (.slice none 0 0) [] rfl (Ar.Own.nil _) A L c ws rfl HLL.out.symm HNn.out HS1.out (show 0 + L ≤ 1073741824 by omega) ?_))
  intro v2 x2 hO2 hG2 hB2
  have hK2 : Kept [] y1 x2 := own_grown (Kept.refl [] y1) (.inl rfl) hG2
  have hF2 := own_fresh (Kept.refl [] y1) (.inl rfl) hB2
  obtain ⟨gb, cap, rfl, hcap, hlay2⟩ := lay_of_own hO2 HNe.out
  have hgb : y1.heap.size ≤ gb := by
    rcases hF2 with h | ⟨b, h, hle⟩
    · cases h
    · injection h with h
      rw [show gb = b from h]; exact hle
  rw [← HLL.out] at hcap ⊢
  have b2 := HB1.out.keep0 hK2
  have hbg : hb ≠ gb := by have := HB1.out.lt; omega
  have HB2 := Lib.hid b2
  have HK2 := Lib.hid hK2
  have HLy2 := Lib.hid hlay2
  have Hgb := Lib.hid hgb
  have Hbg := Lib.hid hbg
  clear hO2 hG2 hB2 hK2 hF2 hlay2 b2 hgb HS1 HB1 c0 c1 c2 c3 hbg
  go_wp2_with fail
  go_loopw [15] (fun t wr => ∃ j : Nat, j ≤ 2 * z ∧ t = .int .i64 ((2 * m + j : Nat) : Int) ∧ Hid (Sh.Lay wr gb (putW ws (2 * m) (List.replicate j 0)) ∧ Kept [gb] x2 wr)) (fun t _ => 2 * m + 2 * z - (intOf t).toNat)
  case atStart => exact ⟨0, Nat.zero_le _, by simp, Lib.hid ⟨by rw [hp0.out]; exact HLy2.out, Kept.refl _ _⟩⟩
  case round =>
    obtain ⟨j, hj, rfl, hr⟩ := hrel
    obtain ⟨c0, c1, c2, c3⟩ := cells4 (HB2.out.kept hr.out.2 (by simpa using Hbg.out))
    by_cases hlt : j < 2 * z
    · have hc := hr.out.1.cell (2 * m + j) (by rw [hpl.out j hj]; omega)
      have hf := hr.out.1.free (2 * m + j)
      have hidx : 2 * m + j < L := by omega
      have hHN : Hid (Sh.Lay (wr.setCell ⟨gb, 2 * m + j, none⟩ (.int .u64 0)) gb (putW ws (2 * m) (List.replicate (j + 1) 0)) ∧ Kept [gb] x2 (wr.setCell ⟨gb, 2 * m + j, none⟩ (.int .u64 0))) := Lib.hid (by
        refine ⟨?_, hr.out.2.setCell _ _ (.inl (by simp))⟩
        rw [← hstep.out j hlt]
        exact hr.out.1.put _ _ (by rw [hpl.out j hj]; omega))
      clear hr
      go_wp2_with fail
      go_roundw
      case rel => exact ⟨j + 1, by omega, by go_num, hHN⟩
      case measure => simp [intOf]; omega
    · obtain rfl : j = 2 * z := by omega
      have hlay3 := hr.out.1
      have hk3 := hr.out.2
      have HL3 := Lib.hid hlay3
      have HK3 := Lib.hid hk3
      clear hr hlay3 hk3
      go_wp2_with fail
      refine (HEn.out _).mono ?_
      rintro e x4 ⟨rfl, k4⟩
      have hL4 := HL3.out.keep0 k4
      have hK4 := HK3.out.trans (k4.none _)
      have hc := hL4.cell (2 * m) (by rw [hpl.out _ (Nat.le_refl _)]; omega)
      have hf := hL4.free (2 * m)
      have hidx : 2 * m < L := by omega
      have hFin : Hid (Sh.Lay (x4.setCell ⟨gb, 2 * m, none⟩ (.int .u64 u)) gb (layG ws (m : Int) u (z : Int)) ∧ Kept [] w (x4.setCell ⟨gb, 2 * m, none⟩ (.int .u64 u))) := Lib.hid (by
        have k5 := hK4.setCell ⟨gb, 2 * m, none⟩ (.int .u64 u) (.inl (by simp))
        refine ⟨?_, ?_⟩
        · rw [hlay.out]
          exact hL4.put _ _ (by rw [hpl.out _ (Nat.le_refl _)]; omega)
        · refine (K1.out.trans HK2.out).forget k5 fun b hb => ?_
          obtain rfl := List.mem_singleton.1 hb
          have := K1.out.more
          have := Hgb.out
          omega)
      have hEnd := Lib.hid (And.intro hFin.out.1 (And.intro hcap (And.intro (Nat.le_trans K1.out.more Hgb.out) hFin.out.2)))
      clear hL4 hK4 k4 HL3 HK3
      go_wp2_with fail
      go_ret2
      exact ⟨gb, cap, rfl, hEnd.out⟩
end
end Go.Proofs.YtoagghileebokaaGreatDoor.Sp

/-
  The contract of the document's Put.
-/
namespace Go.Proofs.YtoagghileebokaaGreatDoor.Sp
open Go.RowKit Go.Proofs.YtoagghileebokaaGreatDoor.Ar Go.Proofs.YtoagghileebokaaGreatDoor.Sh
open Go.Proofs.YtoagghileebokaaGreatDoor.Hd (Hd Fields encW gapH errH cells4 free4 dof_row ofL of_facts)
open Go.Proofs.YtoagghileebokaaGreatDoor.Tb (Ty sizeE sizeT)
set_option linter.unusedVariables false
section
variable {x : World} {r q cap : Nat} {B : Option Addr} {d : Nat} {l : List Ty} {ws : List Int} {cs : List Cel}
theorem Fit.sized {g i n : Int} (hf : Fit x B l ws cs) : (makeW ws l g i n).length = ws.length := makeW_length hf.few
/-- The words that are laid where there is room. -/
theorem lay_two {y : World} {r q cap : Nat} (h : DSp y r q cap B d l ws) (hl : ws.length ≤ 65536) (f g e z : Int) (f0 : 0 ≤ f) (g0 : f ≤ g) (z0 : 1 ≤ z) (hz : g + z ≤ e) (he : e ≤ gran ws) :
    Calls Tryz.prog 105 #[.pointer (some ⟨r, 0, none⟩), .int .i64 f, .int .i64 (g - f)] y fun e1 y1 => (∃ v, e1 = .returned v) ∧ Hid (Kept [r] y y1) ∧ Hid (Calls Tryz.prog 105 #[.pointer (some ⟨r, 0, none⟩), .int .i64 (g + z), .int .i64 (e - g - z)] y1 fun e2 y2 => (∃ v, e2 = .returned v) ∧ Doc y y2 r q B d l (gapS (gapS ws f g) (g + z) e)) := by
  have hg : gran ws = (ws.length : Int) / 2 := rfl
  refine (lay_ok h hl f (g - f) f0 (fun _ => by omega) (by omega)).mono ?_
  rintro e1 y1 ⟨he1, q1, cap1, h1, hq1, k1⟩
  rw [show f + (g - f) = g by omega] at h1
  refine ⟨he1, Lib.hid k1, Lib.hid ?_⟩
  refine (lay_ok h1 (by rw [gapS_length]; exact hl) (g + z) (e - g - z) (by omega) (fun _ => by rw [gran_eq (gapS_length _ _ _)]; omega) (by omega)).mono ?_
  rintro e2 y2 ⟨he2, q2, cap2, h2, hq2, k2⟩
  rw [show g + z + (e - g - z) = e by omega] at h2
  refine ⟨he2, q2, cap2, h2, ?_, k1.trans k2⟩
  rcases hq2 with rfl | hq2
  · exact hq1
  · exact .inr (Nat.le_trans k1.more hq2)
set_option maxRecDepth 100000 in
set_option maxHeartbeats 4000000 in
theorem sput_ok (h : DSp x r q cap B d l ws) (hf : Fit x B l ws cs) (g i n : Int) (g0 : -9223372036854775808 ≤ g) (g1 : g ≤ 9223372036854775807) (i0 : -9223372036854775808 ≤ i) (i1 : i ≤ 9223372036854775807) :
    Calls Tryz.prog 77 #[.pointer (some ⟨r, 0, none⟩), .int .i64 g, .int .i64 i, .int .i64 n] x fun e y => e = .returned (.int .i64 (putE ws l cs g i n)) ∧ Doc x y r q B d l (putX ws l cs g i n) := by
  have HO := Lib.hid (dof_row (c := d) hf.types hf.ok (by have := hf.few; omega) i n i0 i1)
  have ed : (ws.length : Int).tdiv 2 = gran ws := Int.tdiv_eq_ediv_of_nonneg (by omega)
  have hsh := hf.short
  have hgr : 0 ≤ gran ws ∧ gran ws ≤ 32768 := by unfold gran; omega
  obtain ⟨c0, c1, f0⟩ := h.cells
  by_cases he : sizeE l i n = 0
  · obtain ⟨sz, ho, s1, s2, j0, j1, n0, n1⟩ := of_facts he hf.few
    have HN : Hid (∀ y : World, Has (y.alloc (.cells #[.int .u8 1, .int .i64 i, .int .i64 n, .int .i64 sz] 49)) y.heap.size 49 [.int .u8 1, .int .i64 i, .int .i64 n, .int .i64 sz]) := Lib.hid fun y => Has.new y _ _
    rw [ho, he] at HO
    unfold Hd.val at HO
    simp only at HO
    have HD := Lib.hid h
    by_cases hout : g < 0 ∨ gran ws ≤ g
    · obtain ⟨e1, e2⟩ := putE_far (cs := cs) he hout
      rw [e1, e2]
      clear h hf he ho e1 e2
      generalize hL : ws.length = L at *
      generalize l.length = M at *
      generalize gran ws = G at *
      by_cases hg : g < 0
      · clear hout
        go_enter Tryz.func77, Tryz.ntmps77
        go_wp2_with fail
        refine HO.out.mono ?_
        rintro e w1 ⟨rfl, k1⟩
        have K1 := Lib.hid (k1.alloc (.cells #[.int .u8 1, .int .i64 i, .int .i64 n, .int .i64 sz] 49))
        clear k1 HO HN
        go_wp2_with fail
        go_ret
        exact ⟨rfl, Doc.same HD.out K1.out⟩
      · have hge : G ≤ g := by omega
        clear hout
        go_enter Tryz.func77, Tryz.ntmps77
        go_wp2_with fail
        refine HO.out.mono ?_
        rintro e w1 ⟨rfl, k1⟩
        have K1 := Lib.hid (k1.alloc (.cells #[.int .u8 1, .int .i64 i, .int .i64 n, .int .i64 sz] 49))
        clear c0 c1 f0
        obtain ⟨c0, c1, f0⟩ := (HD.out.keep0 K1.out).cells
        rw [hL] at c0
        clear k1 HO HN
        go_wp2_with fail
        go_ret
        exact ⟨rfl, Doc.same HD.out K1.out⟩
    · have hin : 0 ≤ g ∧ g < gran ws := by omega
      have HAl := Lib.hid (fun y (k : Kept [] x y) => all_ok (h.keep0 k) (hf.keep0 k))
      have hmost := hf.most
      have HT := Lib.hid hf.tiled
      have HFull := Lib.hid (putE_full (ws := ws) (l := l) (cs := cs) (n := n) (i := i) he hin)
      have HRoom := Lib.hid (fun x => putE_room (ws := ws) (l := l) (cs := cs) (n := n) (i := i) (x := x) he hin)
      have hmw := Lib.hid (hf.sized (g := g) (i := i) (n := n))
      have HMk : Hid (∀ y, Kept [] x y → (ofL l i n).sz ≤ gran ws - g → Calls Tryz.prog 108 #[.slice (some ⟨q, 0, none⟩) ws.length cap, .slice B l.length d, .int .i64 g, .int .i64 i, .int .i64 n] y fun e z => ∃ gb cap, e = .returned (.tuple #[.slice (some ⟨gb, 0, none⟩) ws.length cap, .int .i64 0]) ∧ Sh.Lay z gb (makeW ws l g i n) ∧ ws.length ≤ cap ∧ y.heap.size ≤ gb ∧ Kept [] y z) :=
        Lib.hid fun y k hr => dmake_yes (fun h => by cases h) (h.row.seen.keep0 k) h.cap hf.short (hf.types.keep0 k) hf.ok hf.few g i n i0 i1 he hin.1 hr
      have HRm : Hid (∀ c : Cel, RoomP l g i n c ↔ c.h.tg ≠ 1 ∧ c.a ≤ g ∧ g < c.a + c.h.sz ∧ sz ≤ c.a + c.h.sz - g) := Lib.hid fun c => by unfold RoomP; rw [ho]
      have HPi : Hid (∀ c : Cel, putInto ws l c g i n = gapS (gapS (makeW ws l g i n) c.a g) (g + sz) (c.a + c.h.sz)) := Lib.hid fun c => by unfold putInto; rw [ho]
      rw [ho] at HMk
      have HGm := Lib.hid (gran_eq (hf.sized (g := g) (i := i) (n := n)))
      clear h hf he ho hout
      simp only at HMk
      generalize hL : ws.length = L at *
      generalize hM : l.length = M at *
      generalize gran ws = G at *
      generalize makeW ws l g i n = ws1 at *
      go_enter Tryz.func77, Tryz.ntmps77
      go_wp2_with fail
      refine HO.out.mono ?_
      rintro e w1 ⟨rfl, k1⟩
      have K1 := Lib.hid (k1.alloc (.cells #[.int .u8 1, .int .i64 i, .int .i64 n, .int .i64 sz] 49))
      have B1 := Lib.hid (HN.out w1)
      have hb1 : x.heap.size ≤ w1.heap.size := k1.more
      clear c0 c1 f0
      obtain ⟨c0, c1, f0⟩ := (HD.out.keep0 K1.out).cells
      rw [hL] at c0
      clear k1 HO HN
      go_wp2_with fail
      generalize w1.alloc (.cells #[.int .u8 1, .int .i64 i, .int .i64 n, .int .i64 sz] 49) = y1 at *
      generalize w1.heap.size = hb at *
      refine (HAl.out _ K1.out).mono ?_
      rintro e x2 ⟨v, rfl, hO, hV, k2⟩
      obtain ⟨Av, cv, rfl, _⟩ := back_own (Kept.refl [] _) hO
      have HSn := Lib.hid hO.seen
      have K2 := Lib.hid (K1.out.trans k2)
      have B2 := Lib.hid (B1.out.keep0 k2)
      have H0 : Hid ((∀ c ∈ cs.take 0, ¬ RoomP l g i n c) ∧ Kept [] x2 x2) := Lib.hid ⟨by simp, Kept.refl _ _⟩
      clear hO hV k2 B1 K1 HAl c0 c1 f0
      go_wp2_with fail
      go_loopw [12] (fun t wr => ∃ j : Nat, t = .int .i64 (j : Int) ∧ j ≤ cs.length ∧ Hid ((∀ c ∈ cs.take j, ¬ RoomP l g i n c) ∧ Kept [] x2 wr)) (fun t _ => cs.length - (intOf t).toNat)
      case atStart => exact ⟨0, rfl, Nat.zero_le _, H0⟩
      case round =>
        obtain ⟨j, rfl, hj, hr⟩ := hrel
        clear H0
        by_cases hlt : j < cs.length
        · obtain ⟨g9, o9, rfl, hg9, c0, c1, c2, c3, c4⟩ := (HSn.out.keep0 hr.out.2).at j hlt _ rfl
          have hxm := cel_mem hlt
          have htk := cel_take hlt
          have hcr := HRm.out (cs.getD j Cel.zero)
          generalize hx : cs.getD j Cel.zero = c at hxm htk hcr c0 c1 c2 c3 c4
          obtain ⟨m1, m2, m3, m4, m5⟩ := HT.out.mem c hxm
          have hz := can_sz m3
          have hHb := B2.out.keep0 hr.out.2
          have hNc : Has (wr.alloc (.cells #[.int .i64 c.a, .int .u8 c.h.tg, .int .i64 c.h.ty, .int .i64 c.h.ln, .int .i64 c.h.sz] 51)) wr.heap.size 51 [.int .i64 c.a, .int .u8 c.h.tg, .int .i64 c.h.ty, .int .i64 c.h.ln, .int .i64 c.h.sz] := Has.new wr _ _
          by_cases hroom : RoomP l g i n c
          · have hro : roomO l cs g i n = some c := by
              unfold roomO
              rw [← List.take_append_drop j cs, List.find?_append, List.find?_eq_none.2 (fun d hd => by simpa using hr.out.1 d hd), cel_drop hlt, hx]
              simp [hroom]
            obtain ⟨e1, e2⟩ := HRoom.out c hro
            have HE := Lib.hid (And.intro e1 (e2.trans (HPi.out c)))
            obtain ⟨r1, r2, r3, r4⟩ := hcr.1 hroom
            have HM := Lib.hid (fun y k => HMk.out y k (show sz ≤ G - g by omega))
            clear e1 e2 hro hroom hcr htk m3 m4 m5 HT HFull HRoom HRm HPi HMk hxm hx
            obtain ⟨xa, ⟨xt, xy, xl, xz⟩⟩ := c
            simp only at *
            have ht : (xt == 1) = false := by simpa using r1
            have K3 := Lib.hid (((K2.out.trans hr.out.2).alloc (.cells #[.int .i64 xa, .int .u8 xt, .int .i64 xy, .int .i64 xl, .int .i64 xz] 51)))
            have B3 := Lib.hid (hHb.alloc (.cells #[.int .i64 xa, .int .u8 xt, .int .i64 xy, .int .i64 xl, .int .i64 xz] 51))
            have C3 := Lib.hid hNc
            clear hr r1 hHb hNc HSn
            have K9 := K3.out
            obtain ⟨b0, b1, b2, b3⟩ := cells4 B3.out
            obtain ⟨d0, d1, d2, d3, d4⟩ := cells5 C3.out
            go_wp2_with fail
            generalize wr.alloc (.cells #[.int .i64 xa, .int .u8 xt, .int .i64 xy, .int .i64 xl, .int .i64 xz] 51) = y3 at *
            generalize wr.heap.size = cb at *
            have hx0 : Kept [] y3 y3 := Kept.refl _ _
            have hD3 := HD.out.keep0 K3.out
            obtain ⟨c0', c1', f0'⟩ := hD3.cells
            rw [hL] at c0'
            rw [hM] at c1'
            have HM2 : Hid (∀ y, Kept [] y3 y → Calls Tryz.prog 108 #[.slice (some ⟨q, 0, none⟩) L cap, .slice B M d, .int .i64 g, .int .i64 i, .int .i64 n] y fun e z => ∃ gb cap2, e = .returned (.tuple #[.slice (some ⟨gb, 0, none⟩) L cap2, .int .i64 0]) ∧ Hid (Sh.Lay z gb ws1 ∧ L ≤ cap2 ∧ y3.heap.size ≤ gb ∧ Kept [] y3 z) ∧ z.cell? ⟨r, 0, none⟩ = some (.slice (some ⟨q, 0, none⟩) L cap) ∧ z.cell? ⟨r, 1, none⟩ = some (.slice B M d)) :=
              Lib.hid fun y k => (HM.out y (K3.out.trans k)).mono fun e z ⟨gb, cap2, he, h1, h2, h3, h4⟩ => ⟨gb, cap2, he, Lib.hid ⟨h1, h2, Nat.le_trans k.more h3, k.trans h4⟩, by rw [← hL]; exact (hD3.keep0 (k.trans h4)).cells.1, by rw [← hM]; exact (hD3.keep0 (k.trans h4)).cells.2.1⟩
            clear HM c0 c1 c2 c3 c4 b0 b1 b2 b3 d0 d1 d2 d3 d4 K9 hD3
            go_region_held3 (fun y => y.cell? ⟨r, 0, none⟩ = some (.slice (some ⟨q, 0, none⟩) L cap) ∧ y.cell? ⟨r, 1, none⟩ = some (.slice B M d)) (go_keep)
              (first
                | (go_at_call 108; refine (HM2.out _ ?_).mono ?_; (first | exact hx0 | exact hx0.drewN _ | exact hx0.drew); rintro e z1 ⟨gb, cap2, rfl, hM1, r0, r1⟩))
            all_goals
              obtain ⟨M1, M2, M3, M4⟩ := hM1.out
              have hD4 := HD.out.keep0 (K3.out.trans M4)
              have f4 := hD4.cells.2.2
              have HQ := Lib.hid (And.intro M1 (And.intro M2 (And.intro M3 M4)))
              have hD5 : DSp (z1.setCell ⟨r, 0, none⟩ (.slice (some ⟨gb, 0, none⟩) L cap2)) r gb cap2 B d l ws1 := by
                have hrg : r ≠ gb := by have := HD.out.head.lt; have := K3.out.more; omega
                refine ⟨?_, ?_, by rw [hmw.out]; exact M2⟩
                · rw [hmw.out]
                  have := hD4.head.put 0 (.slice (some ⟨gb, 0, none⟩) L cap2)
                  exact this
                · obtain ⟨rest, hr⟩ := M1
                  exact ⟨rest, hr.beside _ (Ne.symm hrg) _⟩
              have hK5 : Kept [r] y3 (z1.setCell ⟨r, 0, none⟩ (.slice (some ⟨gb, 0, none⟩) L cap2)) := (M4.none _).setCell _ _ (.inl (by simp))
              have HL2 := Lib.hid (lay_two hD5 (by rw [hmw.out]; omega) xa g (xa + xz) sz (by omega) (by omega) (by omega) (by omega) (by rw [HGm.out]; omega))
              have hD3' := HD.out.keep0 K3.out
              have hnr : hb ≠ r := Has.block_type B3.out hD3'.head (by decide)
              have hcr : cb ≠ r := Has.block_type C3.out hD3'.head (by decide)
              have hB5 := (B3.out.keep0 M4).beside ⟨r, 0, none⟩ hnr (.slice (some ⟨gb, 0, none⟩) L cap2)
              have hC5 := (C3.out.keep0 M4).beside ⟨r, 0, none⟩ hcr (.slice (some ⟨gb, 0, none⟩) L cap2)
              obtain ⟨b0, b1, b2, b3⟩ := cells4 hB5
              obtain ⟨d0, d1, d2, d3, d4⟩ := cells5 hC5
              have HB5 := Lib.hid hB5
              have HC5 := Lib.hid hC5
              have HK5 := Lib.hid hK5
              have Hgb := Lib.hid M3
              clear M1 M2 M3 M4 hD4 hD5 hK5 hM1 HQ hD3' hB5 hC5 HM2 hx0
              go_wp2_with fail
              generalize z1.setCell ⟨r, 0, none⟩ (.slice (some ⟨gb, 0, none⟩) L cap2) = y5 at *
              refine HL2.out.mono ?_
              rintro e5 y6 ⟨⟨v5, rfl⟩, hk6, hL6⟩
              have hB6 := HB5.out.kept hk6.out (by simpa using hnr)
              have hC6 := HC5.out.kept hk6.out (by simpa using hcr)
              clear b0 b1 b2 b3 d0 d1 d2 d3 d4 HB5 HC5 HL2 hk6
              obtain ⟨b0, b1, b2, b3⟩ := cells4 hB6
              obtain ⟨d0, d1, d2, d3, d4⟩ := cells5 hC6
              clear hB6 hC6
              go_wp2_with fail
              refine hL6.out.mono ?_
              rintro e6 y7 ⟨⟨v6, rfl⟩, q', cap', h7, hq', k7⟩
              have HEnd : Hid (Doc x y7 r q B d l (gapS (gapS ws1 xa g) (g + sz) (xa + xz))) := Lib.hid ⟨q', cap', h7, .inr (by have := K3.out.more; have := HK5.out.more; have := Hgb.out; rcases hq' with rfl | hq' <;> omega), ((K3.out.none _).trans HK5.out).trans k7⟩
              clear h7 hq' k7 hL6
              go_wp2_with fail
              go_ret
              exact ⟨ret_int HE.out.1.symm, by rw [HE.out.2]; exact HEnd.out⟩
          · have HN : Hid ((∀ c ∈ cs.take (j + 1), ¬ RoomP l g i n c) ∧ Kept [] x2 (wr.alloc (.cells #[.int .i64 c.a, .int .u8 c.h.tg, .int .i64 c.h.ty, .int .i64 c.h.ln, .int .i64 c.h.sz] 51))) := Lib.hid ⟨fun e he => by
                rw [htk] at he
                rcases List.mem_append.1 he with he | he
                · exact hr.out.1 e he
                · rw [List.mem_singleton.1 he]; exact hroom, hr.out.2.alloc _⟩
            have hno : c.h.tg = 1 ∨ (c.h.tg ≠ 1 ∧ (g < c.a ∨ (¬ g < c.a ∧ (c.a + c.h.sz ≤ g ∨ (g < c.a + c.h.sz ∧ c.a + c.h.sz - g < sz))))) := by
              by_cases k1 : c.h.tg = 1
              · exact .inl k1
              · refine .inr ⟨k1, ?_⟩
                by_cases k2 : g < c.a
                · exact .inl k2
                · refine .inr ⟨k2, ?_⟩
                  by_cases k3 : c.a + c.h.sz ≤ g
                  · exact .inl k3
                  · refine .inr ⟨by omega, ?_⟩
                    by_cases k4 : c.a + c.h.sz - g < sz
                    · exact k4
                    · exact absurd (hcr.2 ⟨k1, by omega, by omega, by omega⟩) hroom
            clear hr hroom hcr htk m3 m4 m5 HT HFull HRoom HRm HPi HMk hxm hx
            obtain ⟨xa, ⟨xt, xy, xl, xz⟩⟩ := c
            simp only at *
            obtain ⟨b0, b1, b2, b3⟩ := cells4 (hHb.alloc (.cells #[.int .i64 xa, .int .u8 xt, .int .i64 xy, .int .i64 xl, .int .i64 xz] 51))
            obtain ⟨d0, d1, d2, d3, d4⟩ := cells5 hNc
            clear hHb hNc HSn
            rcases hno with k1 | ⟨k1, k2 | ⟨k2, k3 | ⟨k3, k4⟩⟩⟩
            · subst k1
              go_wp2_with fail
              go_roundw
              case rel => exact ⟨j + 1, by go_num, by omega, HN⟩
              case measure => simp [intOf] <;> omega
            · have ht : (xt == 1) = false := by simpa using k1
              go_wp2_with fail
              go_roundw
              case rel => exact ⟨j + 1, by go_num, by omega, HN⟩
              case measure => simp [intOf] <;> omega
            · have ht : (xt == 1) = false := by simpa using k1
              go_wp2_with fail
              go_roundw
              case rel => exact ⟨j + 1, by go_num, by omega, HN⟩
              case measure => simp [intOf] <;> omega
            · have ht : (xt == 1) = false := by simpa using k1
              go_wp2_with fail
              go_roundw
              case rel => exact ⟨j + 1, by go_num, by omega, HN⟩
              case measure => simp [intOf] <;> omega
        · obtain rfl : j = cs.length := by omega
          have hn : roomO l cs g i n = none := by
            unfold roomO
            rw [List.find?_eq_none]
            intro c hc
            have := hr.out.1 c (by rw [List.take_length]; exact hc)
            simpa using this
          obtain ⟨e1, e2⟩ := HFull.out hn
          have HE := Lib.hid (And.intro e1 e2)
          have HK := Lib.hid (K2.out.trans hr.out.2)
          clear hr e1 e2 hn
          go_wp2_with fail
          go_ret
          exact ⟨ret_int HE.out.1.symm, by rw [HE.out.2]; exact Doc.same HD.out HK.out⟩
  · obtain ⟨e1, e2⟩ := putE_err (ws := ws) (cs := cs) (g := g) he
    rw [e1, e2]
    have hb : (sizeE l i n != 0) = true := by rw [bne_iff_ne]; exact he
    have HD := Lib.hid h
    unfold Hd.val at HO
    clear h hf he e1 e2
    generalize sizeE l i n = er at *
    generalize ofL l i n = xh at *
    generalize ws.length = L at *
    generalize l.length = M at *
    generalize xh.tg = xg at *
    generalize xh.ty = xt at *
    generalize xh.ln = xn at *
    generalize xh.sz = xs at *
    go_enter Tryz.func77, Tryz.ntmps77
    go_wp2_with fail
    refine HO.out.mono ?_
    rintro e w1 ⟨rfl, k1⟩
    have K1 := Lib.hid (k1.alloc (.cells #[.int .u8 xg, .int .i64 xt, .int .i64 xn, .int .i64 xs] 49))
    clear k1 HO
    go_wp2_with fail
    go_ret
    exact ⟨rfl, Doc.same HD.out K1.out⟩
end
end Go.Proofs.YtoagghileebokaaGreatDoor.Sp

/-
  Where a Drop's gap begins and ends, by the starts and by the cells.
-/
namespace Go.Proofs.YtoagghileebokaaGreatDoor.Sp
open Go.RowKit Go.Proofs.YtoagghileebokaaGreatDoor.Ar Go.Proofs.YtoagghileebokaaGreatDoor.Sh
open Go.Proofs.YtoagghileebokaaGreatDoor.Hd (Hd fitL wordI ofL of_facts can_obj encW_yes encW)
open Go.Proofs.YtoagghileebokaaGreatDoor.Tb (Ty sizeE)
open Go.Proofs.YtoagghileebokaaGreatDoor.Bt (bit atI prevO nextO hasV)
set_option linter.unusedVariables false

theorem Snd.ends {ws : List Int} {l : List Ty} {bs : List Bool} {A B : List Cel} {c : Cel} {g : Nat} (h : Snd ws l bs (A ++ c :: B)) (hc1 : c.a = (g : Int)) (hc2 : c.h.tg = 1) :
    prevEndV bs ws g = fromR A.reverse g ∧ nextStartV bs ws g = toR B ((g : Int) + c.h.sz) := by
  have hb : bit bs g = true := (h.agree g).2 ⟨c, objs_mem.2 ⟨by simp, hc2⟩, hc1⟩
  obtain ⟨mm, t1, t2⟩ := Tiled.split h.tiled
  have hmm : mm = (g : Int) := by rw [← hc1]; exact t2.1.symm
  subst hmm
  have t3 : Tiled ws l ((g : Int) + c.h.sz) B (gran ws) := t2.2.2.2.2
  obtain ⟨A1, A2, m1, e1, a1, a2, u1, u2, e6⟩ := fromR_cut (A := A.reverse) (by rw [List.reverse_reverse]; exact t1)
  rw [List.reverse_reverse] at e1
  obtain ⟨B1, B2, m2, f1, b1, b2, v1, v2, f6⟩ := toR_cut t3
  rw [e6, f6]
  subst e1 f1
  have hcs := can_sz t2.2.1
  have hbl := bit_lt hb
  have hgl := h.len
  -- where objects begin
  have hobj : ∀ i : Nat, bit bs i = true ↔ ∃ d ∈ A1 ++ A2 ++ c :: (B1 ++ B2), d.h.tg = 1 ∧ d.a = (i : Int) := fun i => by
    rw [h.agree i]
    constructor
    · rintro ⟨d, hd, e⟩
      obtain ⟨x, y⟩ := objs_mem.1 hd
      exact ⟨d, x, y, e⟩
    · rintro ⟨d, hd, e, k⟩
      exact ⟨d, objs_mem.2 ⟨hd, e⟩, k⟩
  have hprev : prevEndV bs ws g = m1 := by
    unfold prevEndV
    rcases a2 with rfl | ⟨A0, p, rfl, hp⟩
    · have h0 : (0 : Int) = m1 := u1
      have hn : prevO bs ((g : Int) - 1) = none := by
        cases ho : prevO bs ((g : Int) - 1) with
        | none => rfl
        | some x =>
          exfalso
          obtain ⟨x1, x2, _⟩ := prevO_some ho
          obtain ⟨d, hd, d1, d2⟩ := (hobj x).1 x2
          simp only [List.nil_append, List.mem_append, List.mem_cons] at hd
          rcases hd with hd | rfl | hd | hd
          · exact a1 d hd d1
          · omega
          · have := (v1.mem d hd).1; omega
          · have := (v2.mem d hd).1; have := v1.le; omega
      rw [hn]
      exact h0
    · obtain ⟨m0, w1, w2⟩ := Tiled.split u1
      have hpa : p.a = m0 := w2.1
      have hps := can_sz w2.2.1
      have hpe : m0 + p.h.sz = m1 := w2.2.2.2.2
      have hu2 := u2.le
      have hm0 := w1.le
      have hpb : bit bs m0.toNat = true := (hobj m0.toNat).2 ⟨p, by simp, hp, by omega⟩
      have ho : prevO bs ((g : Int) - 1) = some m0.toNat := by
        cases ho : prevO bs ((g : Int) - 1) with
        | none => have := prevO_none ho m0.toNat (by omega); rw [this] at hpb; cases hpb
        | some x =>
          obtain ⟨x1, x2, x3⟩ := prevO_some ho
          obtain ⟨d, hd, d1, d2⟩ := (hobj x).1 x2
          have hge : m0.toNat ≤ x := by
            rcases Nat.lt_or_ge x m0.toNat with k | k
            · have := x3 m0.toNat k (by omega); rw [this] at hpb; cases hpb
            · exact k
          simp only [List.mem_append, List.mem_cons, List.not_mem_nil, or_false] at hd
          rcases hd with ((hd | rfl) | hd) | rfl | hd | hd
          · obtain ⟨y1, y2, y3, _⟩ := w1.mem d hd
            have := can_sz y3
            omega
          · rw [show m0.toNat = x by omega]
          · exact absurd d1 (a1 d hd)
          · omega
          · have := (v1.mem d hd).1; omega
          · have := (v2.mem d hd).1; have := v1.le; omega
      have hcell := (Tiled.cell u1 (Int.le_refl _) (show m1 ≤ (ws.length : Int) / 2 by have := u2.le; have : gran ws = (ws.length : Int) / 2 := rfl; omega) p (by simp)).2.1
      have hat : atI (some m0.toNat) = m0 := by show ((m0.toNat : Nat) : Int) = m0; omega
      rw [ho, hat, ← hpa, hcell, hpa]
      exact hpe
  have hnext : nextStartV bs ws g = m2 := by
    unfold nextStartV
    rcases b2 with rfl | ⟨p, B0, rfl, hp⟩
    · have h0 : m2 = gran ws := v2
      have hn : nextO bs ((g : Int) + 1) true = none := by
        cases ho : nextO bs ((g : Int) + 1) true with
        | none => rfl
        | some x =>
          exfalso
          obtain ⟨x1, x2, _⟩ := nextO_some (by omega) ho
          obtain ⟨d, hd, d1, d2⟩ := (hobj x).1 x2
          simp only [List.append_nil, List.mem_append, List.mem_cons] at hd
          rcases hd with (hd | hd) | rfl | hd
          · obtain ⟨y1, y2, y3, _⟩ := u1.mem d hd
            have := can_sz y3
            have := u2.le
            omega
          · obtain ⟨y1, y2, y3, _⟩ := u2.mem d hd
            have := can_sz y3
            omega
          · omega
          · exact b1 d hd d1
      rw [hn, h0]
      rfl
    · have hpa : p.a = m2 := v2.1
      have hps := can_sz v2.2.1
      have hv1 := v1.le
      have hpe := Tiled.le v2.2.2.2.2
      have hpb : bit bs m2.toNat = true := (hobj m2.toNat).2 ⟨p, by simp, hp, by omega⟩
      have ho : nextO bs ((g : Int) + 1) true = some m2.toNat := by
        cases ho : nextO bs ((g : Int) + 1) true with
        | none => have := nextO_none (by omega) ho m2.toNat (by omega); rw [this] at hpb; cases hpb
        | some x =>
          obtain ⟨x1, x2, x3⟩ := nextO_some (by omega) ho
          obtain ⟨d, hd, d1, d2⟩ := (hobj x).1 x2
          have hge : x ≤ m2.toNat := by
            rcases Nat.lt_or_ge m2.toNat x with k | k
            · have := x3 m2.toNat (by omega) k; rw [this] at hpb; cases hpb
            · exact k
          simp only [List.mem_append, List.mem_cons] at hd
          rcases hd with (hd | hd) | rfl | hd | rfl | hd
          · obtain ⟨y1, y2, y3, _⟩ := u1.mem d hd
            have := can_sz y3
            have := u2.le
            omega
          · obtain ⟨y1, y2, y3, _⟩ := u2.mem d hd
            have := can_sz y3
            omega
          · omega
          · exact absurd d1 (b1 d hd)
          · rw [show m2.toNat = x by omega]
          · have := (Tiled.mem v2.2.2.2.2 d hd).1
            omega
      have hat : atI (some m2.toNat) = m2 := by show ((m2.toNat : Nat) : Int) = m2; omega
      rw [ho]
      exact hat
  exact ⟨hprev, hnext⟩
end Go.Proofs.YtoagghileebokaaGreatDoor.Sp

/-
  A law's own space beside the document's: what Put, Drop and Settle make of each.
-/
namespace Go.Proofs.YtoagghileebokaaGreatDoor.Sp
open Go.RowKit Go.Proofs.YtoagghileebokaaGreatDoor.Ar Go.Proofs.YtoagghileebokaaGreatDoor.Sh
open Go.Proofs.YtoagghileebokaaGreatDoor.Hd (Hd Fields ofL of_facts)
open Go.Proofs.YtoagghileebokaaGreatDoor.Tb (Ty Tab sizeE)
open Go.Proofs.YtoagghileebokaaGreatDoor.Bt (Bv bit hasV)
open Go.Proofs.YtoagghileebokaaGreatDoor.Wd (Table)
set_option linter.unusedVariables false

/-- A space with the words wp, beside the document's with the words wd. -/
structure Duo (w x : World) (s : Ids) (r : Nat) (B : Option Addr) (d : Nat) (l : List Ty) (wp : List Int) (bs : List Bool) (cs : List Cel) (wd : List Int) : Prop where
  fields : Fields w
  table : Table w
  mine : Mine w x s l wp bs cs
  doc : ∃ q cap, DSp x r q cap B d l wd ∧ q ∉ s.turn
  fresh : w.heap.size ≤ r
  big : 8 ≤ bs.length
  size : bs.length = s.n
/-- What is known of the document's words. -/
theorem fit_of {w x : World} {s : Ids} {B : Option Addr} {l : List Ty} {ws : List Int} {bs : List Bool} {cs : List Cel} (h : Mine w x s l ws bs cs) (hT : Tb.Seen w B l) : Fit w B l ws cs :=
  ⟨h.spc.short, h.spc.wm, hT, h.spc.tab.all, h.spc.tab.len, h.snd.tiled⟩
section
variable {w x y : World} {s : Ids} {r : Nat} {B : Option Addr} {d : Nat} {l : List Ty} {wp wp' wd wd' : List Int} {bs bs' : List Bool} {cs cs' : List Cel}
theorem Duo.keep0 (h : Duo w x s r B d l wp bs cs wd) (k : Kept [] x y) : Duo w y s r B d l wp bs cs wd := by
  obtain ⟨q, cap, hd, hq⟩ := h.doc
  exact ⟨h.fields, h.table, h.mine.keep0 k, ⟨q, cap, hd.keep0 k, hq⟩, h.fresh, h.big, h.size⟩
theorem Duo.ours (h : Duo w x s r B d l wp bs cs wd) (k : Kept s.turn x y) (hm : Mine w y s l wp' bs' cs') : Duo w y s r B d l wp' bs' cs' wd := by
  obtain ⟨q, cap, hd, hq⟩ := h.doc
  have hb : bs'.length = bs.length := by
    obtain ⟨v1, a1, _⟩ := h.mine.spc.bv
    obtain ⟨v2, a2, _⟩ := hm.spc.bv
    have h1 := (a1.head.kept k (h.mine.spc.beside a1.head (by decide) (by decide) (by decide))).cell 0
    have h2 := a2.head.cell 0
    rw [h1] at h2
    simp at h2
    omega
  exact ⟨h.fields, h.table, hm, ⟨q, cap, hd.kept k (h.mine.spc.beside hd.head (by decide) (by decide) (by decide)) hq, hq⟩, h.fresh, by rw [hb]; exact h.big, by rw [hb]; exact h.size⟩
theorem Duo.theirs (h : Duo w x s r B d l wp bs cs wd) {q : Nat} (hq : q ∉ s.turn) (hD : Doc x y r q B d l wd') : Duo w y s r B d l wp bs cs wd' := by
  obtain ⟨q0, cap0, hd, _⟩ := h.doc
  obtain ⟨q', cap', h1, h2, k⟩ := hD
  have kw : Kept [] w y := h.mine.kept.forget k (fun i hi => by rw [List.mem_singleton.1 hi]; exact h.fresh)
  have hq' : q' ∉ s.turn := by
    rcases h2 with rfl | h2
    · exact hq
    · intro hm
      have := h.mine.spc.turn_lt _ hm
      omega
  refine ⟨h.fields, h.table, ⟨kw, h.mine.spc.moved fun i o ⟨t, c, ht, hh⟩ ho => ?_, ⟨h.fields.keep0 kw, table_keep0 h.table kw, h.mine.glob.nf, h.mine.glob.nt⟩, h.mine.snd, h.mine.fresh⟩, ⟨q', cap', h1, hq'⟩, h.fresh, h.big, h.size⟩
  have hi := (Array.getElem?_eq_some_iff.1 ho).1
  refine (k.old i hi ?_).trans ho
  have hne := Has.block_type hh hd.head (by rcases ht with rfl | rfl | rfl | rfl | rfl | rfl | rfl <;> decide)
  simpa using hne
end
section
variable {w x : World} {s : Ids} {r : Nat} {B : Option Addr} {d : Nat} {l : List Ty} {ws wd : List Int} {bs : List Bool} {cs : List Cel}
theorem up {S : List Nat} {a b : World} {r : Nat} (k : Kept S a b) : Kept (r :: S) a b := k.mono fun i hi => List.mem_cons_of_mem _ hi
theorem duo_put (h : Duo w x s r B d l ws bs cs wd) (g i n : Int) (g0 : -9223372036854775808 ≤ g) (g1 : g ≤ 9223372036854775807) (i0 : -9223372036854775808 ≤ i) (i1 : i ≤ 9223372036854775807) :
    Calls Tryz.prog 28 #[.pointer (some ⟨s.sp, 0, none⟩), .int .i64 g, .int .i64 i, .int .i64 n] x fun e y => e = .returned (.int .i64 (putE ws l cs g i n)) ∧ (∃ bs' cs', Duo w y s r B d l (putX ws l cs g i n) bs' cs' wd) ∧ Kept (r :: s.turn) x y := by
  have m := h.mine
  by_cases he : sizeE l i n = 0
  · by_cases hin : 0 ≤ g ∧ g < gran ws
    · obtain ⟨S, hS, P, c, Q, hcs, c1, c2, hf⟩ := m.snd.gap g hin.1 hin.2
      obtain ⟨sz, ho, s1, s2, j0, j1, n0, n1⟩ := of_facts he m.spc.tab.len
      have hsh := m.spc.short
      have hgr : gran ws ≤ 32768 := by unfold gran; omega
      obtain ⟨b1, b2, b3, b4, b5⟩ := m.snd.tiled.mem c (by rw [hcs]; simp)
      have hz := can_sz b3
      have hra := room_at (l := l) (g := g) (i := i) (n := n) (by have := m.snd.tiled; rw [hcs] at this; exact this) c1 c2
      rw [← hcs] at hra
      by_cases hx : RoomP l g i n c
      · rw [if_pos hx] at hra
        obtain ⟨e1, e2⟩ := putE_room (ws := ws) he hin hra
        have hN0 := m.snd
        rw [hcs] at hN0
        have hN := hN0.put m.spc.tab.len he hx.1 c1 hx.2.2.2
        refine (put_yes m.glob.zero m.spc g i n i0 i1 he hin.1 hin.2 S hS c hf ⟨by omega, by omega⟩ ⟨by omega, by omega⟩ hx.1 hx.2.2.2 c1).mono ?_
        rintro e y ⟨he', hS', hk⟩
        rw [e1, e2]
        exact ⟨he', ⟨_, _, h.ours hk (m.turned hk hS' hN)⟩, up hk⟩
      · rw [if_neg hx] at hra
        obtain ⟨e1, e2⟩ := putE_full (ws := ws) he hin hra
        refine (put_none m.glob.zero m.spc g i n i0 i1 he hin.1 hin.2 S hS c hf ⟨by omega, by omega⟩ ⟨by omega, by omega⟩ ?_).mono ?_
        · by_cases k1 : c.h.tg = 1
          · exact .inl k1
          · rcases Int.lt_or_le (c.a + c.h.sz - g) (ofL l i n).sz with k | k
            · exact .inr k
            · exact absurd ⟨k1, c1, c2, k⟩ hx
        · rintro e y ⟨he', hk⟩
          rw [e1, e2]
          exact ⟨he', ⟨bs, cs, h.keep0 hk⟩, hk.none _⟩
    · obtain ⟨e1, e2⟩ := putE_far (ws := ws) (cs := cs) (g := g) he (by omega)
      refine (put_out m.glob.zero m.spc g i n g0 g1 i0 i1 he (by omega)).mono ?_
      rintro e y ⟨he', hk⟩
      rw [e1, e2]
      exact ⟨he', ⟨bs, cs, h.keep0 hk⟩, hk.none _⟩
  · obtain ⟨e1, e2⟩ := putE_err (ws := ws) (cs := cs) (g := g) he
    refine (put_err m.glob.zero m.spc g i n i0 i1 he).mono ?_
    rintro e y ⟨he', hk⟩
    rw [e1, e2]
    exact ⟨he', ⟨bs, cs, h.keep0 hk⟩, hk.none _⟩
theorem duo_drop (h : Duo w x s r B d l ws bs cs wd) (g : Int) (g0 : -9223372036854775808 ≤ g) (g1 : g ≤ 9223372036854775807) :
    Calls Tryz.prog 78 #[.pointer (some ⟨s.sp, 0, none⟩), .int .i64 g] x fun e y => e = .returned (.int .i64 (dropE cs g)) ∧ (∃ bs' cs', Duo w y s r B d l (dropX ws cs g) bs' cs' wd) ∧ Kept (r :: s.turn) x y := by
  have m := h.mine
  cases hv : hasV bs g with
  | false =>
    have hn : objAt [] cs g = none := objAt_none fun c hc ht e => by
      have hcm := m.snd.tiled.mem c hc
      have hb : bit bs g.toNat = true := (m.snd.agree _).2 ⟨c, objs_mem.2 ⟨hc, ht⟩, by omega⟩
      unfold hasV at hv
      rw [hb, decide_eq_true (by omega)] at hv
      cases hv
    refine (drop_no m.glob m.spc g g0 g1 hv).mono ?_
    rintro e y ⟨he, hk⟩
    unfold dropE dropX
    rw [hn]
    exact ⟨he, ⟨bs, cs, h.keep0 hk⟩, hk.none _⟩
  | true =>
    have hv' := hv
    unfold hasV at hv'
    rw [Bool.and_eq_true, decide_eq_true_iff] at hv'
    obtain ⟨h0, hb⟩ := hv'
    have hbl := bit_lt hb
    have hfew := m.spc.few
    obtain ⟨A, c, Q, hcs, hc1, hc2, t1, t2⟩ := m.snd.at hb
    have hgn : ((g.toNat : Nat) : Int) = g := by omega
    have hSn := m.snd
    rw [hcs] at hSn
    obtain ⟨hpe, hne⟩ := hSn.ends hc1 hc2
    obtain ⟨P, M, Q', c', hcs', ho, hc', u1, u2, u3⟩ := m.snd.drop hb
    rw [hgn] at hc1 hpe hne hc' u1 u2 u3
    have hat : objAt [] cs g = some (A.reverse, c, Q) := by
      have h1 := m.snd.tiled
      rw [hcs] at h1
      have h2 := objAt_some (A := []) h1 hc1 hc2
      rw [List.append_nil] at h2
      rw [hcs]
      exact h2
    have hsh := m.spc.short
    have hgr : gran ws ≤ 32768 := by unfold gran; omega
    have hp := u1.le
    have hpn := u2.le
    have hng := u3.le
    refine (drop_yes m.glob m.spc g h0 (by omega) hv (by omega) ⟨by omega, by omega⟩).mono ?_
    rintro e y ⟨he, hS, hk⟩
    have hm := m.snd
    rw [hcs'] at hm
    have hN := hm.replace (ws1 := ws) (os := []) u1 u2 u3 rfl (fun _ _ _ => rfl) hpn
    have hX : dropX ws cs g = dropW ws bs g := by
      unfold dropX dropW
      rw [hat, hpe, hne]
      rfl
    unfold dropE
    rw [hat, hX]
    exact ⟨he, ⟨_, _, h.ours hk (m.turned hk hS hN)⟩, up hk⟩
theorem settle_snd {gs : List Int} {os : List Cel} (hS : Snd ws l bs cs) (hs : standL ws l 0 gs = some os) : Snd (becomeW ws 0 os (gran ws)) l (becomeB bs 0 os (gran ws)) (becomeL 0 os (gran ws)) := by
  have hg : 0 ≤ gran ws := by unfold gran; omega
  have h1 : Snd ws l bs ([] ++ cs ++ []) := by simpa using hS
  have h2 := h1.replace (ws1 := ws) (os := os) (f := 0) (e := gran ws) rfl hS.tiled rfl rfl (fun _ _ _ => rfl) (standing_of hs hg)
  simpa using h2
theorem duo_settle (h : Duo w x s r B d l ws bs cs wd) (A : Option Addr) (gs : List Int) (ca : Nat) (hS : Ir.Seen x A gs) (hI : ∀ g ∈ gs, -9223372036854775808 ≤ g ∧ g ≤ 9223372036854775807) (hlen : gs.length ≤ 100000) :
    Calls Tryz.prog 83 #[.pointer (some ⟨s.sp, 0, none⟩), .slice A gs.length ca] x fun e y => e = .returned (.int .i64 (settleE ws l gs)) ∧ (∃ bs' cs', Duo w y s r B d l (settleX ws l gs) bs' cs' wd) ∧ Kept (r :: s.turn) x y := by
  have m := h.mine
  refine (settle_ok m.glob m.spc A gs ca hS hI hlen).mono ?_
  rintro e y ⟨he, hk, ⟨z1, hs⟩ | ⟨os, z1, hs⟩⟩
  · have hX : settleX ws l gs = ws := by unfold settleX; rw [z1]
    rw [hX]
    exact ⟨he, ⟨bs, cs, h.ours hk (m.turned hk hs m.snd)⟩, up hk⟩
  · have hX : settleX ws l gs = becomeW ws 0 os (gran ws) := by unfold settleX; rw [z1]
    rw [hX]
    exact ⟨he, ⟨_, _, h.ours hk (m.turned hk hs (settle_snd m.snd z1))⟩, up hk⟩
/-! ### the document's -/
variable {wp : List Int} {bp : List Bool} {cp : List Cel}
theorem duo_sput (h : Duo w x s r B d l wp bp cp ws) (hf : Fit w B l ws cs) (g i n : Int) (g0 : -9223372036854775808 ≤ g) (g1 : g ≤ 9223372036854775807) (i0 : -9223372036854775808 ≤ i) (i1 : i ≤ 9223372036854775807) :
    Calls Tryz.prog 77 #[.pointer (some ⟨r, 0, none⟩), .int .i64 g, .int .i64 i, .int .i64 n] x fun e y => e = .returned (.int .i64 (putE ws l cs g i n)) ∧ Duo w y s r B d l wp bp cp (putX ws l cs g i n) ∧ Kept (r :: s.turn) x y := by
  obtain ⟨q, cap, hd, hq⟩ := h.doc
  exact (sput_ok hd (hf.keep0 h.mine.kept) g i n g0 g1 i0 i1).mono fun e y ⟨he, hD⟩ => ⟨he, h.theirs hq hD, let ⟨_, _, _, _, k⟩ := hD; k.mono (fun i hi => by rw [List.mem_singleton.1 hi]; exact List.mem_cons_self)⟩
theorem duo_sdrop (h : Duo w x s r B d l wp bp cp ws) (hf : Fit w B l ws cs) (g : Int) (g0 : -9223372036854775808 ≤ g) (g1 : g ≤ 9223372036854775807) :
    Calls Tryz.prog 79 #[.pointer (some ⟨r, 0, none⟩), .int .i64 g] x fun e y => e = .returned (.int .i64 (dropE cs g)) ∧ Duo w y s r B d l wp bp cp (dropX ws cs g) ∧ Kept (r :: s.turn) x y := by
  obtain ⟨q, cap, hd, hq⟩ := h.doc
  exact (sdrop_ok hd (hf.keep0 h.mine.kept) g g0 g1).mono fun e y ⟨he, hD⟩ => ⟨he, h.theirs hq hD, let ⟨_, _, _, _, k⟩ := hD; k.mono (fun i hi => by rw [List.mem_singleton.1 hi]; exact List.mem_cons_self)⟩
theorem duo_ssettle (h : Duo w x s r B d l wp bp cp ws) (hf : Fit w B l ws cs) (A : Option Addr) (gs : List Int) (ca : Nat) (hS : Ir.Seen x A gs) (hlen : gs.length ≤ 100000) :
    Calls Tryz.prog 84 #[.pointer (some ⟨r, 0, none⟩), .slice A gs.length ca] x fun e y => e = .returned (.int .i64 (settleE ws l gs)) ∧ Duo w y s r B d l wp bp cp (settleX ws l gs) ∧ Kept (r :: s.turn) x y := by
  obtain ⟨q, cap, hd, hq⟩ := h.doc
  exact (ssettle_ok hd (hf.keep0 h.mine.kept) A gs ca hS hlen).mono fun e y ⟨he, hD⟩ => ⟨he, h.theirs hq hD, let ⟨_, _, _, _, k⟩ := hD; k.mono (fun i hi => by rw [List.mem_singleton.1 hi]; exact List.mem_cons_self)⟩
end
end Go.Proofs.YtoagghileebokaaGreatDoor.Sp
