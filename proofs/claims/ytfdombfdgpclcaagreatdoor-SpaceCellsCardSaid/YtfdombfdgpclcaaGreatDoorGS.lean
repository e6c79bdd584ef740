/-
  Several texts in one: ShOps, ShHead, ShMake, ShWm, ShMadeAt.
-/
import Derived.Test.YtfdombfdgpclcaaGreatDoorProg
import Derived.Test.YtfdombfdgpclcaaGreatDoorGA
import Derived.WalkKit
import Derived.Test.YtfdombfdgpclcaaGreatDoorGH
import Derived.WalkSpells
import Derived.Test.YtfdombfdgpclcaaGreatDoorGO
import Derived.RegionTactic
import Derived.Deep.RegionWith
/-
  Addresses and granules: the contracts of Addr, Word, first, within, and of the document's Addr and Word.
-/
namespace Go.Proofs.YtfdombfdgpclcaaGreatDoor.Sh
open Go.RowKit Go.Proofs.YtfdombfdgpclcaaGreatDoor.Ar
set_option linter.unusedVariables false

def addrR (g : Int) : Int := if g < 0 then 0 else 1048576 + 2 * g
def wordB (u : Int) : Bool := decide (1048576 ≤ u ∧ u < 1114112)
def wordR (u : Int) : Int := if 1048576 ≤ u ∧ u < 1114112 then u - 1048576 else 0
section
variable {w : World}
theorem first_ok (g : Int) (h0 : -4611686018427387904 ≤ g) (h1 : g ≤ 4611686018427387903) : Calls Tryz.prog 55 #[.int .i64 g] w fun e w' => e = .returned (.int .i64 (2 * g)) ∧ w = w' := by
  go_enter Tryz.func55, Tryz.ntmps55
  go_wp2
  go_ret
  exact ⟨ret_int (by omega), rfl⟩
/-- So many granules, from the granule g on, are in an arena of L words. -/
def inG (L : Nat) (g z : Int) : Bool := decide (0 ≤ g ∧ z ≤ (L : Int) / 2 - g)
theorem inG_iff (L : Nat) (g z : Int) : inG L g z = true ↔ 0 ≤ g ∧ z ≤ (L : Int) / 2 - g := by unfold inG; exact decide_eq_true_iff
variable {p q : Nat} {ws : List Int} {n : Int}
set_option maxRecDepth 100000 in
theorem within_ok (h : Arena w p q ws n) (g z : Int) (g1 : g ≤ 9223372036854775807) (z0 : -9223372036854775808 ≤ z) (z1 : z ≤ 9223372036854775807) :
    Calls Tryz.prog 53 #[.pointer (some ⟨p, 0, none⟩), .int .i64 g, .int .i64 z] w fun e w' => e = .returned (.bool (inG ws.length g z)) ∧ w = w' := by
  have HL0 := Lib.hid (len_any h)
  have hs := h.short
  unfold inG
  clear h
  generalize ws.length = L at *
  by_cases h0 : g < 0
  · rw [decide_eq_false (by omega)]
    go_enter Tryz.func53, Tryz.ntmps53
    go_wp2_with fail
    go_ret
    exact ⟨rfl, rfl⟩
  · have h0' : 0 ≤ g := by omega
    have ed : (L : Int).tdiv 2 = (L : Int) / 2 := Int.tdiv_eq_ediv_of_nonneg (by omega)
    by_cases h1 : z ≤ (L : Int) / 2 - g
    · rw [decide_eq_true ⟨h0', h1⟩]
      go_enter Tryz.func53, Tryz.ntmps53
      go_wp2_with fail
      refine HL0.out.mono ?_
      rintro e w1 ⟨rfl, rfl⟩
      go_wp2_with fail
      go_ret
      exact ⟨rfl, rfl⟩
    · rw [decide_eq_false (by omega)]
      go_enter Tryz.func53, Tryz.ntmps53
      go_wp2_with fail
      refine HL0.out.mono ?_
      rintro e w1 ⟨rfl, rfl⟩
      go_wp2_with fail
      go_ret
      exact ⟨ret_bool (decide_eq_false (by omega)), rfl⟩
end
end Go.Proofs.YtfdombfdgpclcaaGreatDoor.Sh

/-
  The header that stands at a granule: the contracts of Head and of the document's Head.
-/
namespace Go.Proofs.YtfdombfdgpclcaaGreatDoor.Sh
open Go.RowKit Go.Proofs.YtfdombfdgpclcaaGreatDoor.Ar
open Go.Proofs.YtfdombfdgpclcaaGreatDoor.Hd (Hd Fields decE decH decode_ok free4 cells4 put4 ret_hd ret_hd0 isHead headI head_ok)
set_option linter.unusedVariables false

/-- All words are words. -/
def Wds (ws : List Int) : Prop := ∀ i, 0 ≤ ws.getD i 0 ∧ ws.getD i 0 ≤ 18446744073709551615
theorem wds_of {ws : List Int} (h : ∀ v ∈ ws, 0 ≤ v ∧ v < 18446744073709551616) : Wds ws := by
  intro i
  rw [List.getD_eq_getElem?_getD]
  cases hx : ws[i]? with
  | none => simp
  | some v =>
    have := h v (List.mem_of_getElem? hx)
    simp only [Option.getD_some]
    omega
/-- The word where a granule begins. -/
def atG (ws : List Int) (g : Int) : Int := ws.getD (2 * g).toNat 0
def hdE (ws : List Int) (g : Int) : Int := if inG ws.length g 1 then decE (atG ws g) else 2
def hdH (ws : List Int) (g : Int) : Hd := if inG ws.length g 1 then decH (atG ws g) else Hd.zero
theorem load_at {ws : List Int} {g : Int} (h : inG ws.length g 1 = true) : loadV ws (2 * g) = atG ws g ∧ Ar.within ws.length (2 * g) 1 = true := by
  obtain ⟨h0, h1⟩ := (inG_iff _ _ _).1 h
  have hw : Ar.within ws.length (2 * g) 1 = true := (Ar.within_iff _ _ _).2 ⟨by omega, by omega, by omega⟩
  exact ⟨by unfold loadV atG; rw [if_pos hw], hw⟩
theorem hdH_ok {ws : List Int} {g : Int} (hW : Wds ws) : (hdH ws g).ok := by
  unfold hdH decH
  cases inG ws.length g 1
  · exact Hd.Hd.zero_ok
  · cases isHead (atG ws g)
    · exact Hd.Hd.zero_ok
    · exact head_ok (hW _).1 (hW _).2
section
variable {w : World}
set_option maxRecDepth 100000 in
set_option maxHeartbeats 1000000 in
theorem head_nil (g : Int) : Calls Tryz.prog 59 #[.pointer none, .int .i64 g] w fun e w' => e = .returned (.tuple #[Hd.zero.val, .int .i64 1]) ∧ Kept [] w w' := by
  have hb := Hd.Hd.new w Hd.zero
  have k0 : Kept [] w (w.alloc (.cells #[.int .u8 Hd.zero.tg, .int .i64 Hd.zero.ty, .int .i64 Hd.zero.ln, .int .i64 Hd.zero.sz] 43)) := (Kept.refl [] w).alloc _
  unfold Hd.val
  unfold Hd.zero at *
  simp only at hb k0
  have r2 := hb
  obtain ⟨f0, f1, f2, f3⟩ := free4 r2
  obtain ⟨d0, d1, d2, d3⟩ := cells4 r2
  have R2 := Lib.hid r2
  have K2 := Lib.hid k0
  clear r2 hb k0
  go_enter Tryz.func59, Tryz.ntmps59
  go_wp2_with fail
  exact ret_hd0 rfl rfl R2.out rfl rfl ⟨rfl, K2.out⟩
set_option maxRecDepth 100000 in
set_option maxHeartbeats 1000000 in
theorem head_any (hF : Fields w) {p q : Nat} {ws : List Int} {n : Int} (h : Arena w p q ws n) (hW : Wds ws) (g : Int) (g0 : -9223372036854775808 ≤ g) (g1 : g ≤ 9223372036854775807) :
    Calls Tryz.prog 59 #[.pointer (some ⟨p, 0, none⟩), .int .i64 g] w fun e w' => e = .returned (.tuple #[(hdH ws g).val, .int .i64 (hdE ws g)]) ∧ Kept [] w w' := by
  have hb := Hd.Hd.new w Hd.zero
  have k0 : Kept [] w (w.alloc (.cells #[.int .u8 Hd.zero.tg, .int .i64 Hd.zero.ty, .int .i64 Hd.zero.ln, .int .i64 Hd.zero.sz] 43)) := (Kept.refl [] w).alloc _
  have HI := Lib.hid (fun y (k : Kept [] w y) => within_ok (h.keep0 k) g 1 g1 (by omega) (by omega))
  unfold hdH hdE
  cases hc : inG ws.length g 1
  · simp only [hc, Bool.false_eq_true, if_false] at HI ⊢
    clear hc
    unfold Hd.val
    unfold Hd.zero at *
    simp only at hb k0
    have HB := Lib.hid hb
    have K0 := Lib.hid k0
    clear hb k0
    go_enter Tryz.func59, Tryz.ntmps59
    go_wp2_with fail
    refine (HI.out _ K0.out).mono ?_
    rintro e x1 ⟨rfl, rfl⟩
    obtain ⟨f0, f1, f2, f3⟩ := free4 HB.out
    obtain ⟨d0, d1, d2, d3⟩ := cells4 HB.out
    go_wp2_with fail
    exact ret_hd0 rfl rfl HB.out rfl rfl ⟨rfl, K0.out⟩
  · obtain ⟨i0, i1⟩ := (inG_iff _ _ _).1 hc
    have hs := h.short
    obtain ⟨e1, e2⟩ := load_at hc
    have HL := Lib.hid (fun y (k : Kept [] w y) => load_any (h.keep0 k) (2 * g) (by omega) (by omega))
    have HX := Lib.hid (fun (y : World) => first_ok (w := y) g (by omega) (by omega))
    have HD := Lib.hid (fun y (k : Kept [] w y) => decode_ok (hF.keep0 k) (atG ws g) (hW _).1 (hW _).2)
    rw [e1, e2] at HL
    simp only [hc, if_true] at HI ⊢
    clear hc e1 e2 h hF hW hs i0 i1
    generalize atG ws g = u at *
    generalize decH u = x at *
    generalize decE u = er at *
    unfold Hd.val at *
    generalize x.tg = xg at *
    generalize x.ty = xt at *
    generalize x.ln = xn at *
    generalize x.sz = xs at *
    unfold Hd.zero at *
    simp only at hb k0
    have HB := Lib.hid hb
    have K0 := Lib.hid k0
    clear hb k0
    rw [show errOf true = 0 from rfl] at HL
    go_enter Tryz.func59, Tryz.ntmps59
    go_wp2_with fail
    refine (HI.out _ K0.out).mono ?_
    rintro e x1 ⟨rfl, rfl⟩
    go_wp2_with fail
    refine (HX.out _).mono ?_
    rintro e x1 ⟨rfl, rfl⟩
    go_wp2_with fail
    refine (HL.out _ K0.out).mono ?_
    rintro e x1 ⟨rfl, rfl⟩
    go_wp2_with fail
    refine (HD.out _ K0.out).mono ?_
    rintro e x1 ⟨rfl, k1⟩
    have K1 := Lib.hid (K0.out.trans k1)
    have r1 := HB.out.keep0 k1
    obtain ⟨f0, f1, f2, f3⟩ := free4 r1
    obtain ⟨d0, d1, d2, d3⟩ := cells4 r1
    have R1 := Lib.hid r1
    clear r1 HB K0 k1
    go_wp2_with fail
    exact ret_hd rfl rfl R1.out K1.out (Nat.le_refl _) rfl rfl fun X hX => ⟨rfl, hX⟩
end
end Go.Proofs.YtfdombfdgpclcaaGreatDoor.Sh

/-
  The contract of Make.
-/
namespace Go.Proofs.YtfdombfdgpclcaaGreatDoor.Sh
open Go.RowKit Go.Proofs.YtfdombfdgpclcaaGreatDoor.Ar
open Go.Proofs.YtfdombfdgpclcaaGreatDoor.Hd (Hd Fields encW errH ofL of_tab encode_ok cells4 free4 of_facts can_obj errH_yes)
open Go.Proofs.YtfdombfdgpclcaaGreatDoor.Tb (Ty Tab getT hasT sizeE sizeT)
set_option linter.unusedVariables false

/-- The words of an object, laid at the granule g: its header's, and zeros. -/
def layG (ws : List Int) (g u z : Int) : List Int := putW ws (2 * g).toNat (u :: List.replicate (2 * z - 1).toNat 0)
def makeE (L : Nat) (l : List Ty) (g i n : Int) : Int := if sizeE l i n ≠ 0 then sizeE l i n else if inG L g (ofL l i n).sz then 0 else 2
def makeW (ws : List Int) (l : List Ty) (g i n : Int) : List Int := if makeE ws.length l g i n = 0 then layG ws g (encW (ofL l i n)) (ofL l i n).sz else ws
theorem put_put (ws : List Int) (i : Nat) (u : Int) (r : List Int) (h : i + 1 + r.length ≤ ws.length) : putW (putW ws i [u]) (i + 1) r = putW ws i (u :: r) := by
  unfold putW
  have e1 : (ws.take i ++ ([u] ++ ws.drop (i + [u].length))).take (i + 1) = ws.take i ++ [u] := by
    rw [← List.append_assoc, List.take_append_of_le_length (by simp; omega), List.take_of_length_le (by simp; omega)]
  have e2 : (ws.take i ++ ([u] ++ ws.drop (i + [u].length))).drop (i + 1 + r.length) = ws.drop (i + (u :: r).length) := by
    rw [← List.append_assoc, List.drop_append, List.drop_eq_nil_of_le (by simp; omega), List.nil_append, List.drop_drop]
    congr 1
    simp only [List.length_append, List.length_take, List.length_cons, List.length_nil]
    omega
  rw [e1, e2]
  simp
theorem lay_two (ws : List Int) (g u z : Int) (h : inG ws.length g z = true) (hz : 1 ≤ z) : fillW (fillW ws (2 * g) 1 u) (2 * g + 1) (z * 2 - 1) 0 = layG ws g u z := by
  obtain ⟨h0, h1⟩ := (inG_iff _ _ _).1 h
  have hw : Ar.within ws.length (2 * g) 1 = true := (Ar.within_iff _ _ _).2 ⟨by omega, by omega, by omega⟩
  have e1 : fillW ws (2 * g) 1 u = putW ws (2 * g).toNat [u] := by unfold fillW; rw [if_pos hw]; rfl
  have hl : (putW ws (2 * g).toNat [u]).length = ws.length := putW_length _ _ _ (by simp; omega)
  have hw2 : Ar.within ws.length (2 * g + 1) (z * 2 - 1) = true := (Ar.within_iff _ _ _).2 ⟨by omega, by omega, by omega⟩
  rw [e1]
  unfold fillW layG
  rw [hl, if_pos hw2, show (2 * g + 1).toNat = (2 * g).toNat + 1 by omega, show (z * 2 - 1).toNat = (2 * z - 1).toNat by omega]
  exact put_put _ _ _ _ (by rw [List.length_replicate]; omega)
section
variable {w : World}
set_option maxRecDepth 100000 in
theorem make_nil (T : Value) (g i n : Int) : Calls Tryz.prog 28 #[.pointer none, T, .int .i64 g, .int .i64 i, .int .i64 n] w fun e w' => e = .returned (.int .i64 1) ∧ w = w' := by
  go_enter Tryz.func28, Tryz.ntmps28
  go_wp2
  go_ret
  exact ⟨rfl, rfl⟩
def MakePost (w : World) (p q : Nat) (ws : List Int) (l : List Ty) (g i n : Int) (e : Ending) (w' : World) : Prop :=
  e = .returned (.int .i64 (makeE ws.length l g i n)) ∧ (∃ m, Arena w' p q (makeW ws l g i n) m) ∧ Kept [p, q] w w'
set_option maxRecDepth 100000 in
set_option maxHeartbeats 2000000 in
theorem make_ok (hF : Fields w) {p q : Nat} {ws : List Int} {m : Int} (h : Arena w p q ws m) {tp : Nat} {A : Option Addr} {c : Nat} {l : List Ty} (hT : Tab w tp A c l) (g i n : Int) (g0 : -9223372036854775808 ≤ g) (g1 : g ≤ 9223372036854775807) (i0 : -9223372036854775808 ≤ i) (i1 : i ≤ 9223372036854775807) :
    Calls Tryz.prog 28 #[.pointer (some ⟨p, 0, none⟩), .pointer (some ⟨tp, 0, none⟩), .int .i64 g, .int .i64 i, .int .i64 n] w (MakePost w p q ws l g i n) := by
  have HO := Lib.hid (of_tab hT i n i0 i1)
  have hl64 := hT.len
  have hs := h.short
  unfold MakePost makeW makeE
  by_cases he : sizeE l i n = 0
  · obtain ⟨sz, ho, s1, s2, i2, i3, n1, n2⟩ := of_facts he hl64
    have hcan : (Hd.Hd.mk 1 i n sz).can := can_obj (by omega) (by omega) (by omega) (by omega) (by omega) (by omega)
    have okH : (Hd.Hd.mk 1 i n sz).ok := by constructor <;> simp <;> omega
    have HI := Lib.hid (fun y (k : Kept [] w y) => within_ok (h.keep0 k) g sz g1 (by omega) (by omega))
    have HN : Hid (∀ y : World, Has (y.alloc (.cells #[.int .u8 1, .int .i64 i, .int .i64 n, .int .i64 sz] 43)) y.heap.size 43 [.int .u8 1, .int .i64 i, .int .i64 n, .int .i64 sz]) := Lib.hid fun y => Has.new y _ _
    rw [he, ho] at HO
    rw [if_neg (by simpa using he), ho]
    unfold Hd.val at HO
    simp only at HO ⊢
    cases hc : inG ws.length g sz with
    | false =>
      rw [hc] at HI
      simp only [Bool.false_eq_true, if_false]
      have HA := Lib.hid h
      clear h hT hF ho okH hcan he hc
      go_enter Tryz.func28, Tryz.ntmps28
      go_wp2_with fail
      refine HO.out.mono ?_
      rintro e x1 ⟨rfl, k1⟩
      have K1 := Lib.hid (k1.alloc (.cells #[.int .u8 1, .int .i64 i, .int .i64 n, .int .i64 sz] 43))
      have b1 := HN.out x1
      obtain ⟨c0, c1, c2, c3⟩ := cells4 b1
      clear k1 b1 HO HN
      go_wp2_with fail
      refine (HI.out _ K1.out).mono ?_
      rintro e x3 ⟨rfl, rfl⟩
      go_wp2_with fail
      go_ret
      exact ⟨rfl, ⟨m, HA.out.keep0 K1.out⟩, K1.out.none _⟩
    | true =>
      obtain ⟨j0, j1⟩ := (inG_iff _ _ _).1 hc
      have HEn := Lib.hid (fun y (k : Kept [] w y) => encode_ok (hF.keep0 k) ⟨1, i, n, sz⟩ okH)
      rw [errH_yes hcan] at HEn
      have HX := Lib.hid (fun (y : World) => first_ok (w := y) g (by omega) (by omega))
      have hlw := lay_two ws g (encW ⟨1, i, n, sz⟩) sz hc s1
      generalize encW ⟨1, i, n, sz⟩ = u at *
      have hw : Ar.within ws.length (2 * g) 1 = true := (Ar.within_iff _ _ _).2 ⟨by omega, by omega, by omega⟩
      have hst : Hid (∀ y, Kept [] w y → Calls Tryz.prog 45 #[.pointer (some ⟨p, 0, none⟩), .int .i64 (2 * g), .int .u64 u] y fun e w' => e = .returned (.int .i64 0) ∧ Arena w' p q (fillW ws (2 * g) 1 u) (fillN ws m (2 * g) 1) ∧ Kept [p, q] y w') := Lib.hid fun y k => by
        have := store_any (h.keep0 k) (2 * g) u (by omega) (by omega)
        rw [hw] at this
        exact this
      have hl2 := fillW_length ws (2 * g) 1 u
      have hw2 : Ar.within (fillW ws (2 * g) 1 u).length (2 * g + 1) (sz * 2 - 1) = true := (Ar.within_iff _ _ _).2 ⟨by omega, by omega, by omega⟩
      have hfl : Hid (∀ y, Arena y p q (fillW ws (2 * g) 1 u) (fillN ws m (2 * g) 1) → Calls Tryz.prog 56 #[.pointer (some ⟨p, 0, none⟩), .int .i64 (2 * g + 1), .int .i64 (sz * 2 - 1), .int .u64 0] y fun e w' => e = .returned (.int .i64 0) ∧ (∃ m, Arena w' p q (layG ws g u sz) m) ∧ Kept [p, q] y w') := Lib.hid fun y k => by
        have := fill_any k (2 * g + 1) (sz * 2 - 1) 0 (by omega) (by omega) (by omega) (by omega)
        rw [hw2, hlw] at this
        exact this.mono fun e w' ⟨a, b, c⟩ => ⟨a, ⟨_, b⟩, c⟩
      have hpq : ∀ x, x ∈ [p, q] → x < w.heap.size := by
        intro x hx
        simp at hx
        rcases hx with rfl | rfl
        · exact h.head.lt
        · exact h.row.lt
      have Hpq := Lib.hid hpq
      rw [hc] at HI
      simp only [if_true]
      clear hpq h hT hF ho okH hcan he hc hlw hw hw2 hl2
      generalize fillW ws (2 * g) 1 u = ws1 at *
      generalize fillN ws m (2 * g) 1 = m1 at *
      generalize layG ws g u sz = ws2 at *
      unfold Hd.val at HEn
      simp only at HEn
      go_enter Tryz.func28, Tryz.ntmps28
      go_wp2_with fail
      refine HO.out.mono ?_
      rintro e x1 ⟨rfl, k1⟩
      have K1 := Lib.hid (k1.alloc (.cells #[.int .u8 1, .int .i64 i, .int .i64 n, .int .i64 sz] 43))
      have b1 := HN.out x1
      obtain ⟨c0, c1, c2, c3⟩ := cells4 b1
      have HB1 := Lib.hid b1
      have Hge := Lib.hid k1.more
      clear k1 b1 HO HN
      go_wp2_with fail
      generalize x1.alloc (.cells #[.int .u8 1, .int .i64 i, .int .i64 n, .int .i64 sz] 43) = y1 at *
      generalize x1.heap.size = hb at *
      refine (HI.out _ K1.out).mono ?_
      rintro e x3 ⟨rfl, rfl⟩
      go_wp2_with fail
      refine (HEn.out _ K1.out).mono ?_
      rintro e x2 ⟨rfl, k2⟩
      have K2 := Lib.hid (K1.out.trans k2)
      have HB2 := Lib.hid (HB1.out.keep0 k2)
      clear k2 HEn K1 HB1 c0 c1 c2 c3 HI
      go_wp2_with fail
      refine (HX.out _).mono ?_
      rintro e x3 ⟨rfl, rfl⟩
      go_wp2_with fail
      refine (hst.out _ K2.out).mono ?_
      rintro e x3 ⟨rfl, a3, k3⟩
      have hnb : hb ∉ [p, q] := fun hx => by have := Hpq.out hb hx; have := Hge.out; omega
      have b3 := HB2.out.kept k3 hnb
      have HA3 := Lib.hid a3
      have HK3 := Lib.hid ((K2.out.none [p, q]).trans k3)
      obtain ⟨c0, c1, c2, c3⟩ := cells4 b3
      clear a3 k3 hnb b3 hst K2 HB2
      go_wp2_with fail
      have w1 : Hid (IntKind.i64.wrap (2 * g + 1) = 2 * g + 1 ∧ IntKind.i64.wrap (sz * 2) = sz * 2 ∧ IntKind.i64.wrap (sz * 2 - 1) = sz * 2 - 1) := Lib.hid ⟨by rw [IntKind.wrap_i64]; omega, by rw [IntKind.wrap_i64]; omega, by rw [IntKind.wrap_i64]; omega⟩
      go_region_with (first | (go_at_call 55; refine (HX.out _).mono ?_; rintro e w1 ⟨rfl, rfl⟩) | (go_at_call 56; rw [w1.out.1, w1.out.2.1, w1.out.2.2]; refine (hfl.out _ (by first | exact HA3.out | exact HA3.out.drewN _)).mono ?_; rintro e w1 ⟨rfl, a4, k4⟩))
      all_goals go_wp2_with fail
      all_goals go_ret
      all_goals exact ⟨rfl, a4, (HK3.out.drewN _).trans k4⟩
  · have hn : (sizeE l i n != 0) = true := by rw [bne_iff_ne]; exact he
    rw [if_pos he, if_neg he]
    have HA := Lib.hid h
    unfold Hd.val at HO
    clear h hT hF he
    generalize sizeE l i n = er at *
    go_enter Tryz.func28, Tryz.ntmps28
    go_wp2_with fail
    refine HO.out.mono ?_
    rintro e x1 ⟨rfl, k1⟩
    have K1 := Lib.hid k1
    clear k1 HO
    go_wp2_with fail
    go_ret
    exact ⟨rfl, ⟨m, HA.out.keep0 (K1.out.alloc _)⟩, (K1.out.alloc _).none _⟩
end
end Go.Proofs.YtfdombfdgpclcaaGreatDoor.Sh

/-
  Rows of words: what Make lays keeps them so.
-/
namespace Go.Proofs.YtfdombfdgpclcaaGreatDoor.Sh
open Go.RowKit Go.Proofs.YtfdombfdgpclcaaGreatDoor.Ar
open Go.Proofs.YtfdombfdgpclcaaGreatDoor.Hd (Hd Fields encW ofL of_facts can_obj encW_yes word_range fitE)
open Go.Proofs.YtfdombfdgpclcaaGreatDoor.Tb (Ty getT hasT sizeE sizeT)
set_option linter.unusedVariables false

/-- All numbers of a row are words. -/
def Wm (ws : List Int) : Prop := ∀ v ∈ ws, 0 ≤ v ∧ v < 18446744073709551616
theorem Wm.wds {ws : List Int} (h : Wm ws) : Wds ws := wds_of h
theorem Wm.zeros (k : Nat) : Wm (List.replicate k 0) := fun v hv => by rw [List.eq_of_mem_replicate hv]; decide
theorem Wm.put {ws l : List Int} (i : Nat) (h : Wm ws) (hl : Wm l) : Wm (putW ws i l) := by
  intro v hv
  unfold putW at hv
  rcases List.mem_append.1 hv with hv | hv
  · exact h v (List.mem_of_mem_take hv)
  · rcases List.mem_append.1 hv with hv | hv
    · exact hl v hv
    · exact h v (List.mem_of_mem_drop hv)
theorem Wm.set {ws : List Int} (i : Nat) (u : Int) (h : Wm ws) (hu : 0 ≤ u ∧ u < 18446744073709551616) : Wm (ws.set i u) := by
  intro v hv
  rcases List.mem_or_eq_of_mem_set hv with hv | rfl
  · exact h v hv
  · exact hu
theorem Wm.make {ws : List Int} {l : List Ty} {g i n : Int} (h : Wm ws) (hl : l.length ≤ 64) : Wm (makeW ws l g i n) := by
  unfold makeW
  split
  · rename_i hm
    unfold layG
    refine h.put _ ?_
    intro v hv
    rcases List.mem_cons.1 hv with rfl | hv
    · have he : sizeE l i n = 0 := by
        unfold makeE at hm
        by_cases c : sizeE l i n = 0
        · exact c
        · rw [if_pos c] at hm; exact absurd hm c
      obtain ⟨sz, ho, s1, s2, i2, i3, n1, n2⟩ := of_facts he hl
      have hcan : (Hd.Hd.mk 1 i n sz).can := can_obj (by omega) (by omega) (by omega) (by omega) (by omega) (by omega)
      rw [ho, encW_yes hcan]
      have := word_range hcan
      omega
    · rw [List.eq_of_mem_replicate hv]; decide
  · exact h
theorem makeW_length {ws : List Int} {l : List Ty} {g i n : Int} (hl : l.length ≤ 64) : (makeW ws l g i n).length = ws.length := by
  unfold makeW
  split
  · rename_i hm
    unfold makeE at hm
    by_cases c : sizeE l i n = 0
    · rw [if_neg (by simpa using c)] at hm
      obtain ⟨sz, ho, s1, s2, i2, i3, n1, n2⟩ := of_facts c hl
      cases hi : inG ws.length g (ofL l i n).sz
      · rw [hi] at hm; simp at hm
      · obtain ⟨h0, h1⟩ := (inG_iff _ _ _).1 hi
        rw [ho] at h1 ⊢
        simp only at h1
        unfold layG
        refine putW_length _ _ _ ?_
        simp only [List.length_cons, List.length_replicate]
        omega
    · rw [if_pos c] at hm; exact absurd hm c
  · rfl
end Go.Proofs.YtfdombfdgpclcaaGreatDoor.Sh

/-
  What stands where Make has laid an object: its header.
-/
namespace Go.Proofs.YtfdombfdgpclcaaGreatDoor.Sh
open Go.RowKit Go.Proofs.YtfdombfdgpclcaaGreatDoor.Ar
open Go.Proofs.YtfdombfdgpclcaaGreatDoor.Hd (Hd encW ofL fitL of_facts can_obj encW_yes fit_of isHead_word head_word dec_yes wordI)
open Go.Proofs.YtfdombfdgpclcaaGreatDoor.Tb (Ty getT hasT sizeE sizeT)
set_option linter.unusedVariables false

theorem putW_getD (ws : List Int) (i j : Nat) (l : List Int) (h : i ≤ ws.length) (hj : j < l.length) : (putW ws i l).getD (i + j) 0 = l.getD j 0 := by
  unfold putW
  have h1 : (ws.take i).length = i := by rw [List.length_take]; omega
  rw [List.getD_eq_getElem?_getD, List.getElem?_append_right (by omega), h1, Nat.add_sub_cancel_left, List.getElem?_append_left hj, List.getD_eq_getElem?_getD]
/-- An object was made. -/
structure MadeAt (ws : List Int) (l : List Ty) (g i n : Int) (gn : Nat) (sz : Int) : Prop where
  gEq : g = (gn : Int)
  size : sizeE l i n = 0
  head : ofL l i n = ⟨1, i, n, sz⟩
  s1 : 1 ≤ sz
  s2 : sz ≤ 40000
  i1 : 1 ≤ i
  i2 : i ≤ 64
  n0 : 0 ≤ n
  n1 : n ≤ 4096
  isin : sz ≤ (ws.length : Int) / 2 - g
  words : makeW ws l g i n = putW ws (2 * gn) (encW ⟨1, i, n, sz⟩ :: List.replicate (2 * sz - 1).toNat 0)
theorem made_at {ws : List Int} {l : List Ty} {g i n : Int} (hl : l.length ≤ 64) (h : makeE ws.length l g i n = 0) : ∃ gn sz, MadeAt ws l g i n gn sz := by
  have hm := h
  unfold makeE at hm
  by_cases c : sizeE l i n = 0
  · rw [if_neg (by simpa using c)] at hm
    obtain ⟨sz, ho, s1, s2, i2, i3, n1, n2⟩ := of_facts c hl
    cases hi : inG ws.length g (ofL l i n).sz
    · rw [hi] at hm; simp at hm
    · obtain ⟨h0, h1⟩ := (inG_iff _ _ _).1 hi
      rw [ho] at h1
      simp only at h1
      refine ⟨g.toNat, sz, by omega, c, ho, s1, s2, i2, i3, n1, n2, h1, ?_⟩
      unfold makeW
      rw [if_pos h, ho]
      unfold layG
      rw [show (2 * g).toNat = 2 * g.toNat by omega]
  · rw [if_pos c] at hm; exact absurd hm c
section
variable {ws : List Int} {l : List Ty} {g i n : Int} {gn : Nat} {sz : Int}
theorem MadeAt.len (H : MadeAt ws l g i n gn sz) : (makeW ws l g i n).length = ws.length := by
  have := H.isin
  have := H.gEq
  have := H.s1
  rw [H.words]
  refine putW_length _ _ _ ?_
  simp only [List.length_cons, List.length_replicate]
  omega
theorem MadeAt.can (H : MadeAt ws l g i n gn sz) : (Hd.Hd.mk 1 i n sz).can := by
  have := H.i1; have := H.i2; have := H.n0; have := H.n1; have := H.s1; have := H.s2
  exact can_obj (by omega) (by omega) (by omega) (by omega) (by omega) (by omega)
theorem MadeAt.at (H : MadeAt ws l g i n gn sz) : atG (makeW ws l g i n) g = wordI ⟨1, i, n, sz⟩ := by
  have h1 := H.isin
  have h2 := H.gEq
  have h3 := H.s1
  unfold atG
  rw [H.words, show (2 * g).toNat = 2 * gn + 0 by omega, putW_getD _ _ _ _ (by omega) (by simp), encW_yes H.can]
  rfl
theorem MadeAt.dec (H : MadeAt ws l g i n gn sz) : hdE (makeW ws l g i n) g = 0 ∧ hdH (makeW ws l g i n) g = ⟨1, i, n, sz⟩ := by
  have h1 := H.isin
  have h2 := H.gEq
  have h3 := H.s1
  have hin : inG (makeW ws l g i n).length g 1 = true := (inG_iff _ _ _).2 ⟨by omega, by rw [H.len]; omega⟩
  have hd := dec_yes (isHead_word H.can)
  unfold hdE hdH
  rw [if_pos hin, if_pos hin, H.at, hd.1, hd.2, head_word H.can]
  exact ⟨rfl, rfl⟩
end
end Go.Proofs.YtfdombfdgpclcaaGreatDoor.Sh
