/-
  Several texts in one: WkFaults, WkEdges.
-/
import Derived.Test.YtagmmbkgjomdlaaGreatDoorG21
import Derived.Test.YtagmmbkgjomdlaaGreatDoorG41
import Derived.Test.YtagmmbkgjomdlaaGreatDoorG18
import Derived.Test.YtagmmbkgjomdlaaGreatDoorG39
/-
  The contract of startFaults: the faults of the starts at a cell's granules.
-/
namespace Go.Proofs.YtagmmbkgjomdlaaGreatDoor.Wk
open Go.RowKit Go.Proofs.YtagmmbkgjomdlaaGreatDoor.Ar Go.Proofs.YtagmmbkgjomdlaaGreatDoor.Lk
open Go.Proofs.YtagmmbkgjomdlaaGreatDoor.Sp hiding Own own_from own_put back_own Seen own_cells seen_one
open Go.Proofs.YtagmmbkgjomdlaaGreatDoor.Hd (Hd Fields)
open Go.Proofs.YtagmmbkgjomdlaaGreatDoor.Tb (Ty Tab)
open Go.Proofs.YtagmmbkgjomdlaaGreatDoor.Bt (Bv bit hasV has_ok)
set_option linter.unusedVariables false

/-- The fault of a granule's start, where an object begins or doesn't. -/
def sAt (bs : List Bool) (b : Bool) (g : Int) : List Tri := if hasV bs g then (if b then [] else [⟨g, 0, 9⟩]) else (if b then [⟨g, 0, 3⟩] else [])
def sF (bs : List Bool) (a tg : Int) (k : Nat) : List Tri := (List.range k).flatMap fun i : Nat => sAt bs (decide (i = 0 ∧ tg = 1)) (a + (i : Int))
theorem sAt_len (bs : List Bool) (b : Bool) (g : Int) : (sAt bs b g).length ≤ 1 := by
  unfold sAt
  cases hasV bs g <;> cases b <;> simp
theorem sF_snoc (bs : List Bool) (a tg : Int) (k : Nat) : sF bs a tg (k + 1) = sF bs a tg k ++ sAt bs (decide (k = 0 ∧ tg = 1)) (a + k) := by
  unfold sF
  rw [List.range_succ, List.flatMap_append]
  simp
theorem sF_len (bs : List Bool) (a tg : Int) : ∀ k : Nat, (sF bs a tg k).length ≤ k
  | 0 => by simp [sF]
  | k + 1 => by
    rw [sF_snoc, List.length_append]
    have := sF_len bs a tg k
    have := sAt_len bs (decide (k = 0 ∧ tg = 1)) (a + k)
    omega
/-- The faults of all starts at a cell's granules. -/
def cF (bs : List Bool) (c : Cel) : List Tri := sF bs c.a c.h.tg c.h.sz.toNat
theorem cF_len (bs : List Bool) (c : Cel) (h : c.h.sz ≤ 32768) : (cF bs c).length ≤ 32768 := by
  have := sF_len bs c.a c.h.tg c.h.sz.toNat
  unfold cF
  omega

set_option maxRecDepth 100000 in
set_option maxHeartbeats 4000000 in
theorem startFaults_ok {w : World} (bs : List Bool) (p q : Nat) (c : Cel) (hv : Bv w p q bs) (h0 : 0 ≤ c.a) (h1 : c.a ≤ 1000000) (h2 : 0 ≤ c.h.sz) (h3 : c.h.sz ≤ 32768) :
    Calls Tryz.prog 55 #[.pointer (some ⟨p, 0, none⟩), c.val] w fun e w' => ∃ v, e = .returned v ∧ Own Flt w' v (cF bs c) ∧ FreshV w v ∧ Kept [] w w' := by
  have HBe := Lib.hid (fun y => wbehind_ok c (by omega) (by omega) (by omega) (by omega) y)
  have HHas := Lib.hid (fun y (k : Kept [] w y) (g : Int) (g0 : 0 ≤ g) (g1 : g ≤ 2000000) => has_ok bs p q y (hv.keep0 k) g (by omega) (by omega))
  unfold cF Cel.val
  unfold Cel.val at HBe
  clear hv
  obtain ⟨xa, ⟨xt, xy, xl, xz⟩⟩ := c
  simp only at *
  obtain ⟨n, rfl⟩ : ∃ n : Nat, xz = n := ⟨xz.toNat, by omega⟩
  rw [Int.toNat_natCast]
  have hn : n ≤ 32768 := by omega
  clear h2 h3
  have hb0 := Has.new w 78 [.int .i64 xa, .int .u8 xt, .int .i64 xy, .int .i64 xl, .int .i64 n]
  have hk0 : Kept [] w (w.alloc (.cells #[.int .i64 xa, .int .u8 xt, .int .i64 xy, .int .i64 xl, .int .i64 n] 78)) := (Kept.refl [] w).alloc _
  have H0 : Hid (Has (w.alloc (.cells #[.int .i64 xa, .int .u8 xt, .int .i64 xy, .int .i64 xl, .int .i64 n] 78)) w.heap.size 78 [.int .i64 xa, .int .u8 xt, .int .i64 xy, .int .i64 xl, .int .i64 n] ∧ Own Flt (w.alloc (.cells #[.int .i64 xa, .int .u8 xt, .int .i64 xy, .int .i64 xl, .int .i64 n] 78)) (.slice none 0 0) (sF bs xa xt 0) ∧ FreshV w (.slice none 0 0) ∧ Kept [] w (w.alloc (.cells #[.int .i64 xa, .int .u8 xt, .int .i64 xy, .int .i64 xl, .int .i64 n] 78))) := Lib.hid ⟨hb0, show Own Flt _ _ [] from Own.nil _, .inl rfl, hk0⟩
  obtain ⟨c0, c1, c2, c3, c4⟩ := cells5 hb0
  clear hb0 hk0
  go_enter Tryz.func55, Tryz.ntmps55
  go_wp2_with fail
  clear c0 c1 c2 c3 c4
  go_loopw [5, 6] (fun v t wr => ∃ k : Nat, t = .int .i64 (xa + k) ∧ k ≤ n ∧ Hid (Has wr w.heap.size 78 [.int .i64 xa, .int .u8 xt, .int .i64 xy, .int .i64 xl, .int .i64 n] ∧ Own Flt wr v (sF bs xa xt k) ∧ FreshV w v ∧ Kept [] w wr)) (fun _ t _ => (xa + n - intOf t).toNat)
  case atStart => exact ⟨0, by simp, Nat.zero_le _, H0⟩
  case round =>
    obtain ⟨k, rfl, hk, hr⟩ := hrel
    clear H0
    have hb := hr.out.1
    obtain ⟨c0, c1, c2, c3, c4⟩ := cells5 hb
    have HR := Lib.hid (fun y (ky : Kept [] wr y) => hb.keep0 ky)
    have HO := Lib.hid hr.out.2.1
    have HV := Lib.hid hr.out.2.2.1
    have HK := Lib.hid hr.out.2.2.2
    clear hb hr
    generalize u5 = v at *
    go_wp2_with fail
    refine (HBe.out _).mono ?_
    rintro e w1 ⟨rfl, k1⟩
    have hb1 := HR.out _ k1
    clear c0 c1 c2 c3 c4
    by_cases hlt : k < n
    · obtain ⟨c0, c1, c2, c3, c4⟩ := cells5 hb1
      have HH := Lib.hid (HHas.out w1 (HK.out.trans k1) (xa + k) (by omega) (by omega))
      have HR1 := Lib.hid (fun y (ky : Kept [] w1 y) => hb1.keep0 ky)
      have HO1 := Lib.hid (HO.out.keep0 k1)
      have K1 := Lib.hid (HK.out.trans k1)
      have hsn := sF_snoc bs xa xt k
      have hln := sF_len bs xa xt k
      clear k1 hb1 HO HK HR
      generalize sF bs xa xt k = rs at *
      by_cases hk0 : k = 0
      · have hq : (xa + (k : Int) == xa) = true := by simp [hk0]
        by_cases ht : xt = 1
        · have hq2 : (xt == 1) = true := by simp [ht]
          rw [decide_eq_true ⟨hk0, ht⟩] at hsn
          clear hk0 ht
          have hsn := Lib.hid hsn
          go_wp2_with fail
          refine HH.out.mono ?_
          rintro e w2 ⟨rfl, k2⟩
          have B2 := Lib.hid (HR1.out _ k2)
          have HO2 := Lib.hid (HO1.out.keep0 k2)
          have K2 := Lib.hid (K1.out.trans k2)
          clear k2 c0 c1 c2 c3 c4 HH HR1 HO1 K1
          cases hhv : hasV bs (xa + k) with
          | true =>
            have HSn : Hid (sF bs xa xt (k + 1) = rs) := Lib.hid (by rw [hsn.out]; simp only [sAt, hhv]; simp)
            clear hsn
            have HN : Hid (Has w2 w.heap.size 78 [.int .i64 xa, .int .u8 xt, .int .i64 xy, .int .i64 xl, .int .i64 n] ∧ Own Flt w2 v (sF bs xa xt (k + 1)) ∧ FreshV w v ∧ Kept [] w w2) := Lib.hid ⟨B2.out, by rw [HSn.out]; exact HO2.out, HV.out, K2.out⟩
            clear HSn HO2 B2 K2 HV
            go_wp2_with fail
            go_roundw
            case rel => exact ⟨k + 1, by go_num, by omega, HN⟩
            case measure => simp [intOf] <;> omega
          | false =>
            have HSn : Hid (sF bs xa xt (k + 1) = rs ++ [⟨xa + k, 0, 3⟩]) := Lib.hid (by rw [hsn.out]; simp only [sAt, hhv]; simp)
            clear hsn
            have hka : Kept [] w2 (w2.alloc (.cells #[.int .i64 (xa + k), .int .i64 0, .int .i64 3] 69)) := (Kept.refl [] w2).alloc _
            have hB : Has (w2.alloc (.cells #[.int .i64 (xa + k), .int .i64 0, .int .i64 3] 69)) w2.heap.size 69 (Tri.l ⟨xa + k, 0, 3⟩) := Has.new w2 69 [.int .i64 (xa + k), .int .i64 0, .int .i64 3]
            have H0 : Hid (Seen Flt (w2.alloc (.cells #[.int .i64 (xa + k), .int .i64 0, .int .i64 3] 69)) (some ⟨w2.heap.size, 0, none⟩) [(⟨xa + k, 0, 3⟩ : Tri)]) := Lib.hid (seen_one (K := Flt) hB)
            have HOa := Lib.hid (HO2.out.keep0 hka)
            have Hka := Lib.hid (K2.out.trans hka)
            have HBa := Lib.hid (B2.out.keep0 hka)
            have hb1 : rs.length + 1 ≤ 1073741824 := by omega
            clear hka hB
            go_wp2_with (at_builtin; (refine append_law Flt rfl (.tmp 47) (.tmp 50) rfl v rs rfl HOa.out (some ⟨w2.heap.size, 0, none⟩) 1 1 [(⟨xa + k, 0, 3⟩ : Tri)] rfl rfl (fun h => by cases h) H0.out hb1 ?_))
            intro v' w4 o4 g4 b4
            have hk4 := own_grown Hka.out HV.out g4
            have hf4 := own_fresh (v' := v') Hka.out HV.out (by rw [World.size_alloc]; exact b4)
            have hne : w.heap.size ∉ v.ownBlock.toList := fun hm => by
              obtain ⟨cs, hcs⟩ := own_cells (K := Flt) HOa.out _ hm
              exact Has.block_type HBa.out hcs (by decide) rfl
            have hB4 := HBa.out.kept (Sp.kept_grown g4) hne
            have HN : Hid (Has w4 w.heap.size 78 [.int .i64 xa, .int .u8 xt, .int .i64 xy, .int .i64 xl, .int .i64 n] ∧ Own Flt w4 v' (sF bs xa xt (k + 1)) ∧ FreshV w v' ∧ Kept [] w w4) := Lib.hid ⟨hB4, by rw [HSn.out]; exact o4, hf4, hk4⟩
            clear o4 g4 b4 hk4 hf4 hne hB4 H0 HOa Hka HBa HSn HO2 B2 K2 HV
            go_wp2_with fail
            go_roundw
            case rel => exact ⟨k + 1, by go_num, by omega, HN⟩
            case measure => simp [intOf] <;> omega

        · have hq2 : (xt == 1) = false := by simpa using ht
          rw [decide_eq_false (fun h => ht h.2)] at hsn
          clear hk0 ht
          have hsn := Lib.hid hsn
          go_wp2_with fail
          refine HH.out.mono ?_
          rintro e w2 ⟨rfl, k2⟩
          have B2 := Lib.hid (HR1.out _ k2)
          have HO2 := Lib.hid (HO1.out.keep0 k2)
          have K2 := Lib.hid (K1.out.trans k2)
          clear k2 c0 c1 c2 c3 c4 HH HR1 HO1 K1
          cases hhv : hasV bs (xa + k) with
          | true =>
            have HSn : Hid (sF bs xa xt (k + 1) = rs ++ [⟨xa + k, 0, 9⟩]) := Lib.hid (by rw [hsn.out]; simp only [sAt, hhv]; simp)
            clear hsn
            have hka : Kept [] w2 (w2.alloc (.cells #[.int .i64 (xa + k), .int .i64 0, .int .i64 9] 69)) := (Kept.refl [] w2).alloc _
            have hB : Has (w2.alloc (.cells #[.int .i64 (xa + k), .int .i64 0, .int .i64 9] 69)) w2.heap.size 69 (Tri.l ⟨xa + k, 0, 9⟩) := Has.new w2 69 [.int .i64 (xa + k), .int .i64 0, .int .i64 9]
            have H0 : Hid (Seen Flt (w2.alloc (.cells #[.int .i64 (xa + k), .int .i64 0, .int .i64 9] 69)) (some ⟨w2.heap.size, 0, none⟩) [(⟨xa + k, 0, 9⟩ : Tri)]) := Lib.hid (seen_one (K := Flt) hB)
            have HOa := Lib.hid (HO2.out.keep0 hka)
            have Hka := Lib.hid (K2.out.trans hka)
            have HBa := Lib.hid (B2.out.keep0 hka)
            have hb1 : rs.length + 1 ≤ 1073741824 := by omega
            clear hka hB
            go_wp2_with (at_builtin; (refine append_law Flt rfl (.tmp 36) (.tmp 39) rfl v rs rfl HOa.out (some ⟨w2.heap.size, 0, none⟩) 1 1 [(⟨xa + k, 0, 9⟩ : Tri)] rfl rfl (fun h => by cases h) H0.out hb1 ?_))
            intro v' w4 o4 g4 b4
            have hk4 := own_grown Hka.out HV.out g4
            have hf4 := own_fresh (v' := v') Hka.out HV.out (by rw [World.size_alloc]; exact b4)
            have hne : w.heap.size ∉ v.ownBlock.toList := fun hm => by
              obtain ⟨cs, hcs⟩ := own_cells (K := Flt) HOa.out _ hm
              exact Has.block_type HBa.out hcs (by decide) rfl
            have hB4 := HBa.out.kept (Sp.kept_grown g4) hne
            have HN : Hid (Has w4 w.heap.size 78 [.int .i64 xa, .int .u8 xt, .int .i64 xy, .int .i64 xl, .int .i64 n] ∧ Own Flt w4 v' (sF bs xa xt (k + 1)) ∧ FreshV w v' ∧ Kept [] w w4) := Lib.hid ⟨hB4, by rw [HSn.out]; exact o4, hf4, hk4⟩
            clear o4 g4 b4 hk4 hf4 hne hB4 H0 HOa Hka HBa HSn HO2 B2 K2 HV
            go_wp2_with fail
            go_roundw
            case rel => exact ⟨k + 1, by go_num, by omega, HN⟩
            case measure => simp [intOf] <;> omega
          | false =>
            have HSn : Hid (sF bs xa xt (k + 1) = rs) := Lib.hid (by rw [hsn.out]; simp only [sAt, hhv]; simp)
            clear hsn
            have HN : Hid (Has w2 w.heap.size 78 [.int .i64 xa, .int .u8 xt, .int .i64 xy, .int .i64 xl, .int .i64 n] ∧ Own Flt w2 v (sF bs xa xt (k + 1)) ∧ FreshV w v ∧ Kept [] w w2) := Lib.hid ⟨B2.out, by rw [HSn.out]; exact HO2.out, HV.out, K2.out⟩
            clear HSn HO2 B2 K2 HV
            go_wp2_with fail
            go_roundw
            case rel => exact ⟨k + 1, by go_num, by omega, HN⟩
            case measure => simp [intOf] <;> omega

      · have hq : (xa + (k : Int) == xa) = false := by simp; omega
        rw [decide_eq_false (fun h => hk0 h.1)] at hsn
        clear hk0
        have hsn := Lib.hid hsn
        go_wp2_with fail
        refine HH.out.mono ?_
        rintro e w2 ⟨rfl, k2⟩
        have B2 := Lib.hid (HR1.out _ k2)
        have HO2 := Lib.hid (HO1.out.keep0 k2)
        have K2 := Lib.hid (K1.out.trans k2)
        clear k2 c0 c1 c2 c3 c4 HH HR1 HO1 K1
        cases hhv : hasV bs (xa + k) with
        | true =>
          have HSn : Hid (sF bs xa xt (k + 1) = rs ++ [⟨xa + k, 0, 9⟩]) := Lib.hid (by rw [hsn.out]; simp only [sAt, hhv]; simp)
          clear hsn
          have hka : Kept [] w2 (w2.alloc (.cells #[.int .i64 (xa + k), .int .i64 0, .int .i64 9] 69)) := (Kept.refl [] w2).alloc _
          have hB : Has (w2.alloc (.cells #[.int .i64 (xa + k), .int .i64 0, .int .i64 9] 69)) w2.heap.size 69 (Tri.l ⟨xa + k, 0, 9⟩) := Has.new w2 69 [.int .i64 (xa + k), .int .i64 0, .int .i64 9]
          have H0 : Hid (Seen Flt (w2.alloc (.cells #[.int .i64 (xa + k), .int .i64 0, .int .i64 9] 69)) (some ⟨w2.heap.size, 0, none⟩) [(⟨xa + k, 0, 9⟩ : Tri)]) := Lib.hid (seen_one (K := Flt) hB)
          have HOa := Lib.hid (HO2.out.keep0 hka)
          have Hka := Lib.hid (K2.out.trans hka)
          have HBa := Lib.hid (B2.out.keep0 hka)
          have hb1 : rs.length + 1 ≤ 1073741824 := by omega
          clear hka hB
          go_wp2_with (at_builtin; (refine append_law Flt rfl (.tmp 36) (.tmp 39) rfl v rs rfl HOa.out (some ⟨w2.heap.size, 0, none⟩) 1 1 [(⟨xa + k, 0, 9⟩ : Tri)] rfl rfl (fun h => by cases h) H0.out hb1 ?_))
          intro v' w4 o4 g4 b4
          have hk4 := own_grown Hka.out HV.out g4
          have hf4 := own_fresh (v' := v') Hka.out HV.out (by rw [World.size_alloc]; exact b4)
          have hne : w.heap.size ∉ v.ownBlock.toList := fun hm => by
            obtain ⟨cs, hcs⟩ := own_cells (K := Flt) HOa.out _ hm
            exact Has.block_type HBa.out hcs (by decide) rfl
          have hB4 := HBa.out.kept (Sp.kept_grown g4) hne
          have HN : Hid (Has w4 w.heap.size 78 [.int .i64 xa, .int .u8 xt, .int .i64 xy, .int .i64 xl, .int .i64 n] ∧ Own Flt w4 v' (sF bs xa xt (k + 1)) ∧ FreshV w v' ∧ Kept [] w w4) := Lib.hid ⟨hB4, by rw [HSn.out]; exact o4, hf4, hk4⟩
          clear o4 g4 b4 hk4 hf4 hne hB4 H0 HOa Hka HBa HSn HO2 B2 K2 HV
          go_wp2_with fail
          go_roundw
          case rel => exact ⟨k + 1, by go_num, by omega, HN⟩
          case measure => simp [intOf] <;> omega
        | false =>
          have HSn : Hid (sF bs xa xt (k + 1) = rs) := Lib.hid (by rw [hsn.out]; simp only [sAt, hhv]; simp)
          clear hsn
          have HN : Hid (Has w2 w.heap.size 78 [.int .i64 xa, .int .u8 xt, .int .i64 xy, .int .i64 xl, .int .i64 n] ∧ Own Flt w2 v (sF bs xa xt (k + 1)) ∧ FreshV w v ∧ Kept [] w w2) := Lib.hid ⟨B2.out, by rw [HSn.out]; exact HO2.out, HV.out, K2.out⟩
          clear HSn HO2 B2 K2 HV
          go_wp2_with fail
          go_roundw
          case rel => exact ⟨k + 1, by go_num, by omega, HN⟩
          case measure => simp [intOf] <;> omega

    · obtain rfl : k = n := by omega
      have HO1 := Lib.hid (HO.out.keep0 k1)
      have K1 := Lib.hid (HK.out.trans k1)
      clear k1 hb1 HO HK HR
      go_wp2_with fail
      go_ret
      exact ⟨v, rfl, HO1.out, HV.out, K1.out⟩
end Go.Proofs.YtagmmbkgjomdlaaGreatDoor.Wk

/-
  The contract of Edges.
-/
namespace Go.Proofs.YtagmmbkgjomdlaaGreatDoor.Wk
open Go.RowKit Go.Proofs.YtagmmbkgjomdlaaGreatDoor.Ar Go.Proofs.YtagmmbkgjomdlaaGreatDoor.Lk Go.Shelf Go.Sort Go.Maps
open Go.Proofs.YtagmmbkgjomdlaaGreatDoor.Sp hiding Own own_from own_put back_own Seen own_cells seen_one
open Go.Proofs.YtagmmbkgjomdlaaGreatDoor.Sh (ofE ofT ofS addrR inG inG_iff)
open Go.Proofs.YtagmmbkgjomdlaaGreatDoor.Hd (Hd Fields)
open Go.Proofs.YtagmmbkgjomdlaaGreatDoor.Tb (Ty Tab)
set_option linter.unusedVariables false
attribute [local go_sem] Oper.semAt_some

set_option maxRecDepth 100000 in
set_option maxHeartbeats 4000000 in
theorem edges_ok {w : World} {p pa pt : Option Addr} {l : List Ty} {ws : List Int} {cs : List Cel} (hs : From w p pa pt) (hg : Good w pa pt l ws) (hC : Scans ws l 0 cs) :
    Calls Tryz.prog 18 #[.pointer p] w fun e w' => ∃ v, e = .returned v ∧ Own Edg w' v (edgF (objs cs) (rfs ws l (objs cs))) ∧ Sp.FreshV w v ∧ Kept [] w w' := by
  have hlen := objs_few (most_of hg hC)
  have Hlen := Lib.hid hlen
  have HOe := Lib.hid (scans_obj hC)
  have Hwd := Lib.hid (rfs_word hg HOe.out)
  have Hin := Lib.hid (objs_in hC hg.bound.2)
  have Hfew := Lib.hid (rfs_few hC hg.bound.2)
  have HFr := Lib.hid hs
  have HGd := Lib.hid hg
  have HC := Lib.hid hC
  clear hs hg hC
  refine (callsIn_wide (n := 5)).1 ?_
  refine callsIn_of_wp_marks Tryz.func18 rfl trivial ?_ rfl
  simp only [Tryz.ntmps18, List.size_toArray, List.length_cons, List.length_nil, Nat.reduceAdd, Nat.reduceSub, Array.replicate_succ, Array.replicate_zero, List.push_toArray, List.append_toArray, List.nil_append, List.cons_append]
  gi_wp2_with (fail)
  have hk1 : Kept [] w (w.alloc (.cells #[.slice none 0 0] 46)) := (Kept.refl [] w).alloc _
  have h1 := Has.new w 46 [.slice none 0 0]
  obtain ⟨w1, hw1⟩ : ∃ w1, w.alloc (.cells #[.slice none 0 0] 46) = w1 := ⟨_, rfl⟩
  have hw1' : w.alloc (.cells [.slice none 0 0].toArray 46) = w1 := hw1
  rw [hw1] at hk1 ⊢
  rw [hw1'] at h1
  clear hw1 hw1'
  have H10 := Lib.hid h1
  have K1 := Lib.hid hk1
  clear h1 hk1
  refine ⟨trivial, (callsIn_wide.2 (objects_ok (HFr.out.keep0 K1.out) (HGd.out.keep0 K1.out) HC.out)).mono ?_⟩
  rintro e wb ⟨vo, rfl, hvo, _, kb⟩
  obtain ⟨A, c, rfl, _⟩ := Sp.back_own (Kept.refl [] _) hvo
  have H11 := Lib.hid (H10.out.keep0 kb)
  have HOb := Lib.hid hvo
  have Kb := Lib.hid (K1.out.trans kb)
  clear kb hvo K1 H10
  gi_wp2_with (fail)
  refine ⟨trivial, (callsIn_wide.2 (beginnings_ok (c := c) (objs cs) HOb.out.seen hlen Hin.out)).mono ?_⟩
  rintro e w2 ⟨bm, rfl, hm2, _, k2⟩
  have H12 := Lib.hid (H11.out.keep0 k2)
  have HM2 := Lib.hid hm2
  have K2 := Lib.hid (Kb.out.trans k2)
  have HO2 := Lib.hid (HOb.out.keep0 k2)
  clear k2 hm2 Kb H11 HOb
  gi_wp2_with (fail)
  have hk4 : Kept [] w2 (w2.alloc (.cells #[.map (some bm)] 107)) := (Kept.refl [] w2).alloc _
  have h4 := Has.new w2 107 [.map (some bm)]
  obtain ⟨w4, hw4⟩ : ∃ w4, w2.alloc (.cells #[.map (some bm)] 107) = w4 := ⟨_, rfl⟩
  have hw4' : w2.alloc (.cells [.map (some bm)].toArray 107) = w4 := hw4
  rw [hw4] at hk4 ⊢
  rw [hw4'] at h4
  clear hw4 hw4'
  have HK4 := Lib.hid (K2.out.trans hk4)
  refine ⟨trivial, (callsIn_wide.2 (HFr.out.ar _ HK4.out)).mono ?_⟩
  rintro e z ⟨rfl, rfl⟩
  gi_wp2_with (fail)
  refine ⟨trivial, (callsIn_wide.2 (HFr.out.tb _ HK4.out)).mono ?_⟩
  rintro e z ⟨rfl, rfl⟩
  gi_wp2_with (fail)
  refine ⟨trivial, (callsIn_wide.2 (references_ok pa pt A (objs cs).length c _)).mono ?_⟩
  rintro e w5 ⟨rfl, hw5⟩
  have hk5 : Kept [] w4 w5 := by rw [hw5]; exact (((Kept.refl [] w4).alloc _).alloc _).alloc _
  have hb5 : Has w5 w4.heap.size 62 [.pointer pa] := by rw [hw5]; exact ((Has.new w4 _ _).alloc _).alloc _
  have hg5 : Has w5 (w4.heap.size + 1) 64 [.pointer pt] := by
    rw [hw5]
    have := (Has.new (w4.alloc (.cells #[.pointer pa] 62)) 64 [.pointer pt]).alloc (.cells #[.slice A (objs cs).length c] 36)
    rwa [World.size_alloc] at this
  have ho5 : Has w5 (w4.heap.size + 1 + 1) 36 [.slice A (objs cs).length c] := by
    rw [hw5]
    have := Has.new ((w4.alloc (.cells #[.pointer pa] 62)).alloc (.cells #[.pointer pt] 64)) 36 [.slice A (objs cs).length c]
    rwa [World.size_alloc, World.size_alloc] at this
  have hl5 := (H12.out.keep0 hk4).keep0 hk5
  have Hm5 := Lib.hid (h4.keep0 hk5)
  have Hp5 := Lib.hid (Mp.keep0 (Mp.keep0 HM2.out hk4) hk5)
  have Hbm := Lib.hid (Nat.lt_of_lt_of_le HM2.out.lt (Nat.le_trans hk4.more hk5.more))
  have hkw5 := (K2.out.trans hk4).trans hk5
  have Hk5 := Lib.hid hkw5
  have Hb5 := Lib.hid hb5
  have Hg5 := Lib.hid hg5
  have Ho5 := Lib.hid ho5
  have Hl5 := Lib.hid hl5
  have HOw5 := Lib.hid ((HO2.out.keep0 hk4).keep0 hk5)
  have HG5 := Lib.hid (HGd.out.keep0 hkw5)
  have hne : w4.heap.size + 1 + 1 ∉ [w.heap.size] := by
    have := (K2.out.trans hk4).more
    simp
    omega
  have HSb : Hid (Boxes w5 [w.heap.size] ∧ w4.heap.size + 1 + 1 ∉ [w.heap.size]) := Lib.hid ⟨⟨fun b hb => by rw [List.mem_singleton.1 hb]; exact ⟨_, _, hl5, by decide⟩, fun b hb => by rw [List.mem_singleton.1 hb]; exact ownAt_has hl5, fun b hb => by rw [List.mem_singleton.1 hb]; exact Nat.ne_of_gt HGd.out.1.lt⟩, hne⟩
  clear hk5 hb5 hg5 ho5 hw5 hl5 hkw5 hne hk4 h4 K2 H12 HM2 HK4 HO2
  obtain ⟨ba, hba⟩ : ∃ ba, w4.heap.size = ba := ⟨_, rfl⟩
  obtain ⟨bb, hbb⟩ : ∃ bb, w4.heap.size + 1 = bb := ⟨_, rfl⟩
  obtain ⟨bo, hbo⟩ : ∃ bo, w4.heap.size + 1 + 1 = bo := ⟨_, rfl⟩
  rw [hbo] at Ho5 HSb ⊢
  rw [hbb] at Hg5 ⊢
  rw [hba] at Hb5 ⊢
  clear hba hbb hbo
  gi_wp2_with (fail)
  refine wpIn_rangeFunc_ownH rfl (by decide) (gf := 100) (lb := #[.pointer (some ⟨bo, 0, none⟩), .pointer (some ⟨ba, 0, none⟩), .pointer (some ⟨bb, 0, none⟩)]) rfl trivial (enters_of Tryz.func100 (by kernel_rfl) rfl)
    (wrefs_stops 4 (by decide) [w.heap.size] bo ba bb pa pt l ws (objs cs) _ w5 Ho5.out HSb.out.2 HOw5.out Hlen.out Hb5.out Hg5.out HG5.out HOe.out HSb.out.1)
    (fun h k => h.trans k) (fun W l o o' hl h hc _ => Kpn.put (fun b hb => by rw [List.mem_singleton.1 hb]; exact Hl5.out.lt) W l o o' hl h hc) (Below.refl _ _) (fun _ => rfl)
    (fun pre W => ((Has W w2.heap.size 107 [.map (some bm)] ∧ Mp W bm (objs cs).length (begD (objs cs))) ∧ ∃ v, Has W w.heap.size 46 [v] ∧ Own Edg W v (edgF (objs cs) (valsR pre)) ∧ Sp.FreshV w v) ∧ Kept [] w W)
    (fun _ _ _ => False)
    (OwnFrom.and (OwnFrom.and (OwnFrom.and (fun pre X Y row hs hg hr => own_has (β := Unit) (f := fun _ => [.map (some bm)]) () X Y row hs hg hr) (fun pre X Y row hs hg hr => Mp.from Hbm.out () X Y row hs hg hr)) (fun pre X Y row hs hg hr => by
      obtain ⟨v, h1, h2, h3⟩ := hs
      exact ⟨v, own_has (β := Unit) (f := fun _ => [v]) () X Y row h1 hg hr, own_from () X Y row h2 hg hr, h3⟩)) (own_kept Hk5.out.more))
    (fun _ _ _ _ _ hs _ _ => hs)
    ⟨⟨⟨Hm5.out, Hp5.out⟩, _, Hl5.out, Own.nil _, .inl rfl⟩, Hk5.out⟩
    (fun x a' W => ∃ Bx, Has W Bx 113 [.int .i64 x.1.a, .int .i64 x.1.b, .int .u64 x.1.c] ∧ a' = { tmps := #[.pointer p, undef, .slice none 0 0, .pointer (some ⟨w.heap.size, 0, none⟩), .slice A (objs cs).length c, .pointer (some ⟨w2.heap.size, 0, none⟩), .pointer (some ⟨Bx, 0, none⟩), undef, undef, .pointer p, .slice A (objs cs).length c, .slice A (objs cs).length c, .map (some bm), .pointer p, .pointer pa, .pointer p, .pointer pt, .slice A (objs cs).length c, .func (.func 100) #[] #[.pointer (some ⟨bo, 0, none⟩), .pointer (some ⟨ba, 0, none⟩), .pointer (some ⟨bb, 0, none⟩)], .agg #[.int .i64 x.1.a, .int .i64 x.1.b, .int .u64 x.1.c], undef, undef, undef, undef, undef, undef, undef, undef, undef, undef, undef, undef, undef, undef, undef, undef, undef, undef], defers := [] })
    (fun x a' _ X Y row hs hg hr => by
      obtain ⟨Bx, h2, h3⟩ := hs
      exact ⟨Bx, own_has (β := Unit) (f := fun _ => [.int .i64 x.1.a, .int .i64 x.1.b, .int .u64 x.1.c]) () X Y row h2 hg hr, h3⟩)
    ?assign ?body ?done ?stop
  case assign =>
    rintro lo pre x W K ⟨⟨⟨hi2, hp⟩, v, hi3, hO, hV⟩, hk⟩ hK
    unfold encR
    have HK := Lib.hid hK
    have HI := Lib.hid hi3
    have HI2 := Lib.hid hi2
    have HP := Lib.hid hp
    have HO := Lib.hid hO
    have HV := Lib.hid hV
    have Hk := Lib.hid hk
    clear hi3 hi2 hk hK hO hV hp
    gi_wp2
    have hkn : Kept [] W (W.alloc (.cells #[.int .i64 x.1.a, .int .i64 x.1.b, .int .u64 x.1.c] 113)) := (Kept.refl [] W).alloc _
    exact HK.out _ _ (keepsFrom_of hkn (by simp)) (Kpn.ofKept hkn (fun b hb => by rw [List.mem_singleton.1 hb]; exact HI.out.lt)) ⟨⟨⟨HI2.out.keep0 hkn, Mp.keep0 HP.out hkn⟩, v, HI.out.keep0 hkn, HO.out.keep0 hkn, HV.out⟩, Hk.out.trans hkn⟩ ⟨W.heap.size, Has.new W _ _, rfl⟩
  case body =>
    rintro lo pre y a' W _ _ ⟨⟨⟨hi2, hp⟩, v, hi3, hO, hV⟩, hk⟩ ⟨Bx, hX, rfl⟩ hlen
    have hsn := valsR_snoc pre y
    have hos := edgF_snoc (objs cs) (valsR pre) y.1
    rw [← hsn] at hos
    have hlr : (edgF (objs cs) (valsR pre)).length ≤ 65536 := by
      have h1 := edgF_len (objs cs) (valsR pre)
      have h2 : (valsR pre).length = pre.length := List.length_map _
      have h3 := Hfew.out
      omega
    clear hsn
    obtain ⟨⟨xa, xb, xc⟩, hy⟩ := y
    have hxc := Hwd.out _ hy
    simp only at hos hX hxc
    obtain ⟨x0, x1, x2⟩ := Kd.cells3 hX
    have c3 := hi3.cell 0
    have f3 := hi3.free 0
    have d3 := hi2.cell 0
    simp at c3 d3
    have hhas := leads_has (objs cs) xc
    have hat := fun h => leads_at (os := objs cs) (fun c hc => (Hin.out c hc).1) (u := xc) h
    have Hk := Lib.hid hk
    have H3' := Lib.hid hi3
    have H2' := Lib.hid hi2
    have HP := Lib.hid hp
    have HO := Lib.hid hO
    have HV := Lib.hid hV
    have HX := Lib.hid hX
    have Hat := Lib.hid hat
    have Hos := Lib.hid hos
    clear hk hlen hO hV hX hi3 hi2 hp hat hos
    dsimp only
    gi_wp2_with (gi_at_lookup; refine wpListIn_lookup_own_ok_int _ rfl _ _ 107 rfl 32 3 .i64 lawK Tryz.underlying107 Tryz.underlying3 (zeroE _) bm _ _ rfl HP.out _ (.int .u64 xc) rfl (keyOf_int_mk Tryz.underlying32 (WalkArith.wf_u64 hxc)) ?_)
    intro cc hcc hwf
    try rw [hhas]
    cases hld : leads (objs cs) xc with
    | false =>
      have Hos' : Hid (edgF (objs cs) (valsR (pre ++ [(⟨⟨xa, xb, xc⟩, hy⟩ : ElR (rfs ws l (objs cs)))])) = edgF (objs cs) (valsR pre)) := Lib.hid (by rw [Hos.out, if_neg (by rw [hld]; simp)])
      gi_wp2_with (fail)
      exact ⟨keepsFrom_of (Kept.refl [] W) (by simp), Kpn.refl _ _, ⟨⟨H2'.out, HP.out⟩, v, H3'.out, by rw [Hos'.out]; exact HO.out, HV.out⟩, Hk.out⟩
    | true =>
      have hcc2 : cc = (xc - 1048576) / 2 := by
        have := (Hat.out hld _).symm.trans hcc
        injection this with this
        injection this with _ this
        exact this.symm
      have HCC := Lib.hid hcc2
      clear hcc2 hcc
      have Hos' : Hid (edgF (objs cs) (valsR (pre ++ [(⟨⟨xa, xb, xc⟩, hy⟩ : ElR (rfs ws l (objs cs)))])) = edgF (objs cs) (valsR pre) ++ [⟨xa, xb, cc⟩]) := Lib.hid (by rw [Hos.out, if_pos (hld), HCC.out])
      have hka : Kept [] W (W.alloc (.cells #[.int .i64 xa, .int .i64 xb, .int .i64 cc] 90)) := (Kept.refl [] W).alloc _
      have hB : Has (W.alloc (.cells #[.int .i64 xa, .int .i64 xb, .int .i64 cc] 90)) W.heap.size 90 (Tri.l ⟨xa, xb, cc⟩) := Has.new W 90 [.int .i64 xa, .int .i64 xb, .int .i64 cc]
      have H0 : Hid (Seen Edg (W.alloc (.cells #[.int .i64 xa, .int .i64 xb, .int .i64 cc] 90)) (some ⟨W.heap.size, 0, none⟩) [(⟨xa, xb, cc⟩ : Tri)]) := Lib.hid (seen_one (K := Edg) hB)
      have HOa := Lib.hid (HO.out.keep0 hka)
      have Hka := Lib.hid hka
      clear hka hB
      generalize edgF (objs cs) (valsR pre) = rs at *
      have hb1 : rs.length + 1 ≤ 1073741824 := by omega
      gi_wp2_with (gi_at_builtin; refine append_in Edg rfl (.tmp 28) (.tmp 35) rfl v rs rfl HOa.out _ 1 1 [(⟨xa, xb, cc⟩ : Tri)] rfl rfl H0.out hb1 ?_)
      all_goals
        intro v' w3 hO hG hV
        have hk3 : Kept [] w w3 := own_grown (Hk.out.trans Hka.out) HV.out hG
        have hF3 := own_fresh (v' := v') (Hk.out.trans Hka.out) HV.out (by rw [World.size_alloc]; exact hV)
        have hS := Sp.kept_grown hG
        have hne : w.heap.size ∉ v.ownBlock.toList := fun hm => by
          obtain ⟨cs, hcs⟩ := own_cells (K := Edg) HO.out _ hm
          exact Has.block_type H3'.out hcs (by decide) rfl
        have h3 := (H3'.out.keep0 Hka.out).kept hS hne
        have h2 := (H2'.out.keep0 Hka.out).kept hS (fun hm => by
          obtain ⟨cs, hcs⟩ := own_cells (K := Edg) HO.out _ hm
          exact Has.block_type H2'.out hcs (by decide) rfl)
        have hp3 := World.ownsMap.kept (Mp.keep0 HP.out Hka.out) hG (fun e => by
          obtain ⟨cs, hcs⟩ := own_cells (K := Edg) HOa.out bm (by rw [← e]; simp)
          obtain ⟨es, ck, hb, _⟩ := Mp.keep0 HP.out Hka.out
          have := hcs.symm.trans hb
          injection this with this
          cases this)
        have c3 := h3.cell 0
        have f3 := h3.free 0
        simp at c3
        obtain ⟨g', cap', rfl, hg', _⟩ : ∃ g cap, v' = .slice (some ⟨g, 0, none⟩) (rs ++ [(⟨xa, xb, cc⟩ : Tri)]).length cap ∧ g < w3.heap.size ∧ (rs ++ [(⟨xa, xb, cc⟩ : Tri)]).length ≤ cap := by
          rcases hO.form with ⟨_, h⟩ | h
          · exact absurd (List.append_eq_nil_iff.1 h).2 (List.cons_ne_nil _ _)
          · obtain ⟨g, cap, h1, h2, h3, _⟩ := h
            exact ⟨g, cap, h1, h2, h3⟩
        have hown : ∀ X : World, w3.heap.size ≤ X.heap.size → (Value.slice (some ⟨g', 0, none⟩) (rs ++ [(⟨xa, xb, cc⟩ : Tri)]).length cap').ownBlock = v.ownBlock ∨ ∃ g, (Value.slice (some ⟨g', 0, none⟩) (rs ++ [(⟨xa, xb, cc⟩ : Tri)]).length cap').ownBlock = some g ∧ W.heap.size ≤ g ∧ g < X.heap.size := fun X hX => by
          rcases hV with h | h
          · exact .inl h
          · refine .inr ⟨g', rfl, ?_, by omega⟩
            have h : some g' = some _ := h
            injection h with h
            try rw [World.size_alloc] at h
            omega
        have HO3 := Lib.hid hO
        have Hk3 := Lib.hid hk3
        have HF3 := Lib.hid hF3
        have HS := Lib.hid ((Hka.out.none _).trans hS)
        have H33 := Lib.hid h3
        have H23 := Lib.hid h2
        have HP3 := Lib.hid hp3
        have Hown := Lib.hid hown
        clear hO hk3 hF3 hS h3 h2 hne hG hV H0 HOa hown hp3
        obtain ⟨len, hlen⟩ : ∃ len, len = (rs ++ [(⟨xa, xb, cc⟩ : Tri)]).length := ⟨_, rfl⟩
        rw [← hlen] at HO3 HF3 Hown ⊢
        clear hlen
        gi_wp2_with (fail)
        have hKS : Kept [w.heap.size] w3 (w3.setCell ⟨w.heap.size, 0, none⟩ (.slice (some ⟨g', 0, none⟩) len cap')) := (Kept.refl _ w3).setCell _ _ (.inl (by simp))
        have hKA : Kept (w.heap.size :: v.ownBlock.toList) W (w3.setCell ⟨w.heap.size, 0, none⟩ (.slice (some ⟨g', 0, none⟩) len cap')) := (HS.out.mono fun b hb => List.mem_cons_of_mem _ hb).trans (hKS.mono (by simp))
        have hbx : Has (w3.setCell ⟨w.heap.size, 0, none⟩ (.slice (some ⟨g', 0, none⟩) len cap')) w.heap.size 46 [.slice (some ⟨g', 0, none⟩) len cap'] := H33.out.put 0 _
        refine ⟨keepsFrom_of hKA ?_, Kpn.box (List.mem_singleton.2 rfl) H3'.out hKA hbx (Hown.out _ hKS.more) (fun c hc hn => absurd (List.mem_singleton.1 hc) hn), ⟨⟨H23.out.kept hKS (fun hm => Has.block_type H23.out H33.out (by decide) (List.mem_singleton.1 hm)), Mp.kept1 HP3.out hKS (fun e => Mp.ne HP3.out H33.out e)⟩, _, hbx, ?_, HF3.out⟩, Hk3.out.forget hKS (by simp)⟩
        · intro b hb
          rcases List.mem_cons.1 hb with rfl | hb
          · exact ⟨_, _, H3'.out⟩
          · exact ⟨_, own_cells (K := Edg) HO.out b hb⟩
        · rw [Hos'.out]
          exact HO3.out.kept hKS fun g hg e => by
            obtain rfl := List.mem_singleton.1 hg
            obtain ⟨cs, hcs⟩ := own_cells (K := Edg) HO3.out w.heap.size (by rw [e]; simp)
            exact Has.block_type H33.out hcs (by decide) rfl
  case done =>
    rintro D xs W hD hx ⟨⟨⟨hi2, hp⟩, v, hi3, hO, hV⟩, hk⟩ hK
    have c3 := hi3.cell 0
    simp at c3
    have HKd := Lib.hid hK
    have Hk := Lib.hid hk
    have HE : Hid (valsR xs = rfs ws l (objs cs)) := Lib.hid hx
    have HO := Lib.hid hO
    have HV := Lib.hid hV
    clear hK hk hi3 hi2 hx hO hV hp
    generalize valsR xs = P at *
    gi_wp2_with (fail)
    refine ⟨by simp, .inl ⟨_, _, rfl, run_takeDeferred HKd.out, ?_⟩⟩
    exact ⟨_, results_tmp rfl _ _ _, ⟨v, rfl, by rw [← HE.out]; exact own_put HO.out D _ _ HKd.out rfl, HV.out, kept_put Hk.out D _ (Nat.le_trans Hk5.out.more hD)⟩⟩
  case stop =>
    rintro D c pre W _ _ h _
    exact h.elim
end Go.Proofs.YtagmmbkgjomdlaaGreatDoor.Wk
