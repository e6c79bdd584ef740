/-
  Several texts in one: ArMove, ArWords, ArNew, ShMake.
-/
import Derived.Test.YtoagghileebokaaGreatDoorG11
import Derived.Laws.CopyOwn
import Derived.Laws.MakeOwn
import Derived.Deep.QuietTactic
import Derived.BigQuiet
import Derived.Deep.RegionWith
import Derived.RegionTactic
import Derived.Test.YtoagghileebokaaGreatDoorG12
/-
  The contract of package arena's Move.
-/
namespace Go.Proofs.YtoagghileebokaaGreatDoor.Ar
open Go.RowKit

section
variable {p q : Nat} {ws : List Int} {n : Int} {w : World}
theorem Arena.laid (h : Arena w p q ws n) (i : Nat) (l : List Int) (hl : i + l.length ≤ ws.length) : Arena (w.setRow q (ints (putW ws i l)).toArray) p q (putW ws i l) n := by
  have e := putW_length ws i l hl
  refine ⟨?_, h.row.row _, by rw [e]; exact h.short⟩
  rw [e]
  exact h.head.otherRow q h.ne _

end
end Go.Proofs.YtoagghileebokaaGreatDoor.Ar

/-
  The contracts of package arena's Move (whatever the ranges), clone and Words.
-/
namespace Go.Proofs.YtoagghileebokaaGreatDoor.Ar
open Go.RowKit

section
variable {p q : Nat} {ws : List Int} {n : Int} {w : World}
end

section
variable {p q : Nat} {ws : List Int} {n : Int} {w : World}
end
end Go.Proofs.YtoagghileebokaaGreatDoor.Ar

/-
  The contracts of package arena's New and Copy, and of the document's Same and May.
-/
namespace Go.Proofs.YtoagghileebokaaGreatDoor.Ar
open Go.RowKit

/-- The numbers of words that an arena may have. -/
def mayB (n : Int) : Bool := decide (16 ≤ n ∧ n ≤ 65536 ∧ n.tmod 2 = 0)
theorem mayB_iff (n : Int) : mayB n = true ↔ 16 ≤ n ∧ n ≤ 65536 ∧ n.tmod 2 = 0 := by unfold mayB; exact decide_eq_true_iff

theorem new_ok (c : Nat) (hm : mayB (c : Int) = true) (w : World) :
    Calls Tryz.prog 39 #[.int .i64 c] w fun e w' => ∃ p q, e = .returned (.tuple #[.pointer (some ⟨p, 0, none⟩), .int .i64 0]) ∧ w.heap.size ≤ p ∧ w.heap.size ≤ q ∧ Arena w' p q (List.replicate c 0) 0 ∧ Kept [] w w' := by
  obtain ⟨h1, h2, h3⟩ := (mayB_iff _).1 hm
  have hmk := run_make_words c (by omega)
  have hmod : (c : Int) % 2 = 0 := by rw [Int.tmod_eq_emod_of_nonneg (by omega)] at h3; exact h3
  have hfin : ∀ x, x = (w.alloc (.cells (ints (List.replicate c 0)).toArray 55)).alloc (.cells #[.slice (some ⟨w.heap.size, 0, none⟩) c c, .int .u64 0] 132) →
      ∃ p q, (Ending.returned (.tuple #[.pointer (some ⟨w.heap.size + 1, 0, none⟩), .int .i64 0])) = .returned (.tuple #[.pointer (some ⟨p, 0, none⟩), .int .i64 0]) ∧ w.heap.size ≤ p ∧ w.heap.size ≤ q ∧ Arena x p q (List.replicate c 0) 0 ∧ Kept [] w x := by
    rintro _ rfl
    have ha := (Has.new w 55 (ints (List.replicate c 0))).alloc (.cells #[.slice (some ⟨w.heap.size, 0, none⟩) c c, .int .u64 0] 132)
    have hb := Has.new (w.alloc (.cells (ints (List.replicate c 0)).toArray 55)) 132 [.slice (some ⟨w.heap.size, 0, none⟩) c c, .int .u64 0]
    rw [World.size_alloc] at hb
    refine ⟨_, w.heap.size, rfl, by omega, by omega, ⟨?_, ha, by rw [List.length_replicate]; omega⟩, ((Kept.refl [] w).alloc _).alloc _⟩
    rw [List.length_replicate]
    exact hb
  have Hfin := Lib.hid hfin
  have hd : ((c : Int) % 2 != 0) = false := by rw [hmod]; rfl
  clear hfin hm h3
  generalize ints (List.replicate c 0) = M at *
  clear hmod
  go_enter Tryz.func39, Tryz.ntmps39
  go_wp2
  go_ret2
  exact Hfin.out _ rfl
theorem new_bad (c : Int) (hm : mayB c = false) (w : World) :
    Calls Tryz.prog 39 #[.int .i64 c] w fun e w' => e = .returned (.tuple #[.pointer none, .int .i64 2]) ∧ w = w' := by
  have hn : ¬ (16 ≤ c ∧ c ≤ 65536 ∧ c.tmod 2 = 0) := fun hh => by rw [(mayB_iff _).2 hh] at hm; cases hm
  clear hm
  by_cases h1 : c < 16
  · go_enter Tryz.func39, Tryz.ntmps39
    go_wp2
    go_ret2
    exact ⟨rfl, rfl⟩
  · by_cases h2 : 65536 < c
    · go_enter Tryz.func39, Tryz.ntmps39
      go_wp2
      go_ret2
      exact ⟨rfl, rfl⟩
    · have h3 : c % 2 ≠ 0 := fun hh => hn ⟨by omega, by omega, by rw [Int.tmod_eq_emod_of_nonneg (by omega)]; exact hh⟩
      have hd : (c % 2 != 0) = true := by simpa using h3
      clear hn h3
      go_enter Tryz.func39, Tryz.ntmps39
      go_wp2
      go_ret2
      exact ⟨rfl, rfl⟩
end Go.Proofs.YtoagghileebokaaGreatDoor.Ar

/-
  The contract of Make.
-/
namespace Go.Proofs.YtoagghileebokaaGreatDoor.Sh
open Go.RowKit Go.Proofs.YtoagghileebokaaGreatDoor.Ar
open Go.Proofs.YtoagghileebokaaGreatDoor.Hd (Hd Fields encW errH ofL of_tab encode_ok cells4 free4 of_facts can_obj errH_yes)
open Go.Proofs.YtoagghileebokaaGreatDoor.Tb (Ty Tab getT hasT sizeE sizeT)
set_option linter.unusedVariables false

/-- The words of an object, laid at the granule g: its header's, and zeros. -/
def layG (ws : List Int) (g u z : Int) : List Int := putW ws (2 * g).toNat (u :: List.replicate (2 * z - 1).toNat 0)
def makeE (L : Nat) (l : List Ty) (g i n : Int) : Int := if sizeE l i n ≠ 0 then sizeE l i n else if inG L g (ofL l i n).sz then 0 else 2
def makeW (ws : List Int) (l : List Ty) (g i n : Int) : List Int := if makeE ws.length l g i n = 0 then layG ws g (encW (ofL l i n)) (ofL l i n).sz else ws
theorem put_put (ws : List Int) (i : Nat) (u : Int) (r : List Int) (h : i + 1 + r.length ≤ ws.length) : putW (putW ws i [u]) (i + 1) r = putW ws i (u :: r) := by
  unfold putW
  have e1 : (ws.take i ++ ([u] ++ ws.drop (i + [u].length))).take (i + 1) = ws.take i ++ [u] := by
    rw [← List.append_assoc, List.take_append_of_le_length (by simp; omega), List.take_of_length_le (by simp; omega)]
  have e2 : (ws.take i ++ ([u] ++ ws.drop (i + [u].length))).drop (i + 1 + r.length) = ws.drop (i + (u :: r).length) := by
    rw [← List.append_assoc, List.drop_append, List.drop_eq_nil_of_le (by simp; omega), List.nil_append, List.drop_drop]
    congr 1
    simp only [List.length_append, List.length_take, List.length_cons, List.length_nil]
    omega
  rw [e1, e2]
  simp
theorem lay_two (ws : List Int) (g u z : Int) (h : inG ws.length g z = true) (hz : 1 ≤ z) : fillW (fillW ws (2 * g) 1 u) (2 * g + 1) (z * 2 - 1) 0 = layG ws g u z := by
  obtain ⟨h0, h1⟩ := (inG_iff _ _ _).1 h
  have hw : Ar.within ws.length (2 * g) 1 = true := (Ar.within_iff _ _ _).2 ⟨by omega, by omega, by omega⟩
  have e1 : fillW ws (2 * g) 1 u = putW ws (2 * g).toNat [u] := by unfold fillW; rw [if_pos hw]; rfl
  have hl : (putW ws (2 * g).toNat [u]).length = ws.length := putW_length _ _ _ (by simp; omega)
  have hw2 : Ar.within ws.length (2 * g + 1) (z * 2 - 1) = true := (Ar.within_iff _ _ _).2 ⟨by omega, by omega, by omega⟩
  rw [e1]
  unfold fillW layG
  rw [hl, if_pos hw2, show (2 * g + 1).toNat = (2 * g).toNat + 1 by omega, show (z * 2 - 1).toNat = (2 * z - 1).toNat by omega]
  exact put_put _ _ _ _ (by rw [List.length_replicate]; omega)
section
variable {w : World}
def MakePost (w : World) (p q : Nat) (ws : List Int) (l : List Ty) (g i n : Int) (e : Ending) (w' : World) : Prop :=
  e = .returned (.int .i64 (makeE ws.length l g i n)) ∧ (∃ m, Arena w' p q (makeW ws l g i n) m) ∧ Kept [p, q] w w'
set_option maxRecDepth 100000 in
set_option maxHeartbeats 2000000 in
theorem make_ok (hF : Fields w) {p q : Nat} {ws : List Int} {m : Int} (h : Arena w p q ws m) {tp : Nat} {A : Option Addr} {c : Nat} {l : List Ty} (hT : Tab w tp A c l) (g i n : Int) (g0 : -9223372036854775808 ≤ g) (g1 : g ≤ 9223372036854775807) (i0 : -9223372036854775808 ≤ i) (i1 : i ≤ 9223372036854775807) :
    Calls Tryz.prog 53 #[.pointer (some ⟨p, 0, none⟩), .pointer (some ⟨tp, 0, none⟩), .int .i64 g, .int .i64 i, .int .i64 n] w (MakePost w p q ws l g i n) := by
  have HO := Lib.hid (of_tab hT i n i0 i1)
  have hl64 := hT.len
  have hs := h.short
  unfold MakePost makeW makeE
  by_cases he : sizeE l i n = 0
  · obtain ⟨sz, ho, s1, s2, i2, i3, n1, n2⟩ := of_facts he hl64
    have hcan : (Hd.Hd.mk 1 i n sz).can := can_obj (by omega) (by omega) (by omega) (by omega) (by omega) (by omega)
    have okH : (Hd.Hd.mk 1 i n sz).ok := by constructor <;> simp <;> omega
    have HI := Lib.hid (fun y (k : Kept [] w y) => within_ok (h.keep0 k) g sz g1 (by omega) (by omega))
    have HN : Hid (∀ y : World, Has (y.alloc (.cells #[.int .u8 1, .int .i64 i, .int .i64 n, .int .i64 sz] 49)) y.heap.size 49 [.int .u8 1, .int .i64 i, .int .i64 n, .int .i64 sz]) := Lib.hid fun y => Has.new y _ _
    rw [he, ho] at HO
    rw [if_neg (by simpa using he), ho]
    unfold Hd.val at HO
    simp only at HO ⊢
    cases hc : inG ws.length g sz with
    | false =>
      rw [hc] at HI
      simp only [Bool.false_eq_true, if_false]
      have HA := Lib.hid h
      clear h hT hF ho okH hcan he hc
      go_enter Tryz.func53, Tryz.ntmps53
      go_wp2_with fail
      refine HO.out.mono ?_
      rintro e x1 ⟨rfl, k1⟩
      have K1 := Lib.hid (k1.alloc (.cells #[.int .u8 1, .int .i64 i, .int .i64 n, .int .i64 sz] 49))
      have b1 := HN.out x1
      obtain ⟨c0, c1, c2, c3⟩ := cells4 b1
      clear k1 b1 HO HN
      go_wp2_with fail
      refine (HI.out _ K1.out).mono ?_
      rintro e x3 ⟨rfl, rfl⟩
      go_wp2_with fail
      go_ret
      exact ⟨rfl, ⟨m, HA.out.keep0 K1.out⟩, K1.out.none _⟩
    | true =>
      obtain ⟨j0, j1⟩ := (inG_iff _ _ _).1 hc
      have HEn := Lib.hid (fun y (k : Kept [] w y) => encode_ok (hF.keep0 k) ⟨1, i, n, sz⟩ okH)
      rw [errH_yes hcan] at HEn
      have HX := Lib.hid (fun (y : World) => first_ok (w := y) g (by omega) (by omega))
      have hlw := lay_two ws g (encW ⟨1, i, n, sz⟩) sz hc s1
      generalize encW ⟨1, i, n, sz⟩ = u at *
      have hw : Ar.within ws.length (2 * g) 1 = true := (Ar.within_iff _ _ _).2 ⟨by omega, by omega, by omega⟩
      have hst : Hid (∀ y, Kept [] w y → Calls Tryz.prog 69 #[.pointer (some ⟨p, 0, none⟩), .int .i64 (2 * g), .int .u64 u] y fun e w' => e = .returned (.int .i64 0) ∧ Arena w' p q (fillW ws (2 * g) 1 u) (fillN ws m (2 * g) 1) ∧ Kept [p, q] y w') := Lib.hid fun y k => by
        have := store_any (h.keep0 k) (2 * g) u (by omega) (by omega)
        rw [hw] at this
        exact this
      have hl2 := fillW_length ws (2 * g) 1 u
      have hw2 : Ar.within (fillW ws (2 * g) 1 u).length (2 * g + 1) (sz * 2 - 1) = true := (Ar.within_iff _ _ _).2 ⟨by omega, by omega, by omega⟩
      have hfl : Hid (∀ y, Arena y p q (fillW ws (2 * g) 1 u) (fillN ws m (2 * g) 1) → Calls Tryz.prog 90 #[.pointer (some ⟨p, 0, none⟩), .int .i64 (2 * g + 1), .int .i64 (sz * 2 - 1), .int .u64 0] y fun e w' => e = .returned (.int .i64 0) ∧ (∃ m, Arena w' p q (layG ws g u sz) m) ∧ Kept [p, q] y w') := Lib.hid fun y k => by
        have := fill_any k (2 * g + 1) (sz * 2 - 1) 0 (by omega) (by omega) (by omega) (by omega)
        rw [hw2, hlw] at this
        exact this.mono fun e w' ⟨a, b, c⟩ => ⟨a, ⟨_, b⟩, c⟩
      have hpq : ∀ x, x ∈ [p, q] → x < w.heap.size := by
        intro x hx
        simp at hx
        rcases hx with rfl | rfl
        · exact h.head.lt
        · exact h.row.lt
      have Hpq := Lib.hid hpq
      rw [hc] at HI
      simp only [if_true]
      clear hpq h hT hF ho okH hcan he hc hlw hw hw2 hl2
      generalize fillW ws (2 * g) 1 u = ws1 at *
      generalize fillN ws m (2 * g) 1 = m1 at *
      generalize layG ws g u sz = ws2 at *
      unfold Hd.val at HEn
      simp only at HEn
      go_enter Tryz.func53, Tryz.ntmps53
      go_wp2_with fail
      refine HO.out.mono ?_
      rintro e x1 ⟨rfl, k1⟩
      have K1 := Lib.hid (k1.alloc (.cells #[.int .u8 1, .int .i64 i, .int .i64 n, .int .i64 sz] 49))
      have b1 := HN.out x1
      obtain ⟨c0, c1, c2, c3⟩ := cells4 b1
      have HB1 := Lib.hid b1
      have Hge := Lib.hid k1.more
      clear k1 b1 HO HN
      go_wp2_with fail
      generalize x1.alloc (.cells #[.int .u8 1, .int .i64 i, .int .i64 n, .int .i64 sz] 49) = y1 at *
      generalize x1.heap.size = hb at *
      refine (HI.out _ K1.out).mono ?_
      rintro e x3 ⟨rfl, rfl⟩
      go_wp2_with fail
      refine (HEn.out _ K1.out).mono ?_
      rintro e x2 ⟨rfl, k2⟩
      have K2 := Lib.hid (K1.out.trans k2)
      have HB2 := Lib.hid (HB1.out.keep0 k2)
      clear k2 HEn K1 HB1 c0 c1 c2 c3 HI
      go_wp2_with fail
      refine (HX.out _).mono ?_
      rintro e x3 ⟨rfl, rfl⟩
      go_wp2_with fail
      refine (hst.out _ K2.out).mono ?_
      rintro e x3 ⟨rfl, a3, k3⟩
      have hnb : hb ∉ [p, q] := fun hx => by have := Hpq.out hb hx; have := Hge.out; omega
      have b3 := HB2.out.kept k3 hnb
      have HA3 := Lib.hid a3
      have HK3 := Lib.hid ((K2.out.none [p, q]).trans k3)
      obtain ⟨c0, c1, c2, c3⟩ := cells4 b3
      clear a3 k3 hnb b3 hst K2 HB2
      go_wp2_with fail
      have w1 : Hid (IntKind.i64.wrap (2 * g + 1) = 2 * g + 1 ∧ IntKind.i64.wrap (sz * 2) = sz * 2 ∧ IntKind.i64.wrap (sz * 2 - 1) = sz * 2 - 1) := Lib.hid ⟨by rw [IntKind.wrap_i64]; omega, by rw [IntKind.wrap_i64]; omega, by rw [IntKind.wrap_i64]; omega⟩
      go_region_with (first | (go_at_call 89; refine (HX.out _).mono ?_; rintro e w1 ⟨rfl, rfl⟩) | (go_at_call 90; rw [w1.out.1, w1.out.2.1, w1.out.2.2]; refine (hfl.out _ (by first | exact HA3.out | exact HA3.out.drewN _)).mono ?_; rintro e w1 ⟨rfl, a4, k4⟩))
      all_goals go_wp2_with fail
      all_goals go_ret
      all_goals exact ⟨rfl, a4, (HK3.out.drewN _).trans k4⟩
  · have hn : (sizeE l i n != 0) = true := by rw [bne_iff_ne]; exact he
    rw [if_pos he, if_neg he]
    have HA := Lib.hid h
    unfold Hd.val at HO
    clear h hT hF he
    generalize sizeE l i n = er at *
    go_enter Tryz.func53, Tryz.ntmps53
    go_wp2_with fail
    refine HO.out.mono ?_
    rintro e x1 ⟨rfl, k1⟩
    have K1 := Lib.hid k1
    clear k1 HO
    go_wp2_with fail
    go_ret
    exact ⟨rfl, ⟨m, HA.out.keep0 (K1.out.alloc _)⟩, (K1.out.alloc _).none _⟩
end
end Go.Proofs.YtoagghileebokaaGreatDoor.Sh
