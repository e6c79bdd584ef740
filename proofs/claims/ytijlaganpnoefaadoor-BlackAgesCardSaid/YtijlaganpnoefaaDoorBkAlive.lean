/-
  Stage 12, black: the law's alive returns true: the chapter's example.
-/
import Derived.Test.YtijlaganpnoefaaDoorBkCtr
namespace Go.Proofs.YtijlaganpnoefaaDoor.Bk
open Go.RowKit Go.Proofs.YtijlaganpnoefaaDoor.Ar
set_option linter.unusedVariables false
def exB : List Int := [0, 0, 2, 0, 0, 2, 0, 0]
def exB2 : List Int := [0, 0, 0, 0, 0, 1, 0, 0]
theorem exb_hit : hitE (List.replicate 8 (0 : Int)).length [2, 5] = 0 ∧ hitL (List.replicate 8 0) [2, 5] = exB := by decide +kernel
theorem exb_first : firstL exB 0 8 2 = some 0 ∧ firstL exB 1 8 2 = some 3 ∧ firstL exB 0 8 3 = none := by decide +kernel
theorem exb_turn : ones exB = 0 ∧ hitE (turnL exB).length [5] = 0 ∧ ones (hitL (turnL exB) [5]) = 1 ∧ turnL (hitL (turnL exB) [5]) = exB2 := by decide +kernel
theorem exb_last : listL exB2 = [5] ∧ hitE exB2.length [0, 8] = 2 := by decide +kernel
section
variable {G : World → Prop} {P : World → World → Nat → List Nat → List Int → Prop} {w x : World} {p : Nat} {T : List Nat} {ls : List Int}
/-- Hit, of a slice that was made for it. -/
theorem hit_made (C : Ctr G P) (h : P w x p T ls) (gs : List Int) (hgs : ∀ g ∈ gs, I64 g) (hl : gs.length ≤ 1000000) :
    Calls Tryd.prog 13 #[.pointer (some ⟨p, 0, none⟩), .slice (some ⟨x.heap.size, 0, none⟩) gs.length gs.length] (x.alloc (.cells (Ir.ints gs).toArray 3)) fun e y => e = .returned (.int .i64 (hitE ls.length gs)) ∧ ∃ T', P w y p T' (hitL ls gs) := by
  have hk : Kept [] x (x.alloc (.cells (Ir.ints gs).toArray 3)) := (Kept.refl [] x).alloc _
  have hb : Ir.Row (x.alloc (.cells (Ir.ints gs).toArray 3)) x.heap.size gs := Has.new x 3 (Ir.ints gs)
  refine (C.hit gs (C.keep0 h hk) (fun y ky => ?_) hl hgs).mono fun e y ⟨h1, T', h2, _, _⟩ => ⟨h1, T', h2⟩
  exact Ir.Row.seen (Has.kept hb ky fun hm => by have := (C.fresh h _ hm).2; omega)
theorem i64_lit {gs : List Int} (h : gs.all (fun g => decide (-9223372036854775808 ≤ g ∧ g ≤ 9223372036854775807)) = true) : ∀ g ∈ gs, I64 g := fun g hg => by
  have h1 : -9223372036854775808 ≤ g ∧ g ≤ 9223372036854775807 := of_decide_eq_true (List.all_eq_true.1 h g hg)
  exact h1
set_option maxRecDepth 100000 in
set_option maxHeartbeats 16000000 in
theorem alive12_ok (C : Ctr G P) (hG : G w) : Calls Tryd.prog 8 #[] w fun e y => e = .returned (.bool true) ∧ Kept [] w y := by
  have HN := Lib.hid (C.new_yes 8 hG (Kept.refl [] w) (by decide))
  have HC := Lib.hid C
  have HG := Lib.hid hG
  clear C hG
  go_enter Tryd.func8, Tryd.ntmps8
  go_wp2_with fail
  refine HN.out.mono ?_
  rintro e x1 ⟨p, T1, rfl, h1, _, _⟩
  have HH := Lib.hid (hit_made HC.out h1 [2, 5] (i64_lit rfl) (by decide))
  rw [exb_hit.1, exb_hit.2] at HH
  clear HN h1
  go_wp2_with fail
  refine HH.out.mono ?_
  rintro e x2 ⟨rfl, T2, h2⟩
  have HF1 := Lib.hid (HC.out.first 0 8 2 h2 (by unfold I64; decide) (by unfold I64; decide) (by unfold I64; decide))
  rw [exb_first.1] at HF1
  have H2 := Lib.hid h2
  clear HH h2
  go_wp2_with fail
  refine HF1.out.mono ?_
  rintro e x3 ⟨rfl, k3⟩
  have H3 := Lib.hid (HC.out.keep0 H2.out k3)
  have HF2 := Lib.hid (HC.out.first 1 8 2 H3.out (by unfold I64; decide) (by unfold I64; decide) (by unfold I64; decide))
  rw [exb_first.2.1] at HF2
  clear HF1 H2 k3
  go_wp2_with fail
  refine HF2.out.mono ?_
  rintro e x4 ⟨rfl, k4⟩
  have H4 := Lib.hid (HC.out.keep0 H3.out k4)
  have HF3 := Lib.hid (HC.out.first 0 8 3 H4.out (by unfold I64; decide) (by unfold I64; decide) (by unfold I64; decide))
  rw [exb_first.2.2] at HF3
  clear HF2 H3 k4
  go_wp2_with fail
  refine HF3.out.mono ?_
  rintro e x5 ⟨rfl, k5⟩
  have H5 := Lib.hid (HC.out.keep0 H4.out k5)
  have HT1 := Lib.hid (HC.out.turn H5.out)
  rw [exb_turn.1] at HT1
  clear HF3 H4 k5
  go_wp2_with fail
  refine HT1.out.mono ?_
  rintro e x6 ⟨rfl, T6, h6, _, _⟩
  have HH2 := Lib.hid (hit_made HC.out h6 [5] (i64_lit rfl) (by decide))
  rw [exb_turn.2.1] at HH2
  clear HT1 H5 h6
  go_wp2_with fail
  refine HH2.out.mono ?_
  rintro e x7 ⟨rfl, T7, h7⟩
  have HT2 := Lib.hid (HC.out.turn h7)
  rw [exb_turn.2.2.1, exb_turn.2.2.2] at HT2
  clear HH2 h7
  go_wp2_with fail
  refine HT2.out.mono ?_
  rintro e x8 ⟨rfl, T8, h8, _, _⟩
  have HN2 := Lib.hid (HC.out.new_no (x := x8) (-1) (HC.out.gkeep HG.out (HC.out.start h8)) (by unfold I64; decide) (by decide))
  have H8 := Lib.hid h8
  clear HT2 h8
  go_wp2_with fail
  refine HN2.out.mono ?_
  rintro e x9 ⟨rfl, k9⟩
  have H9 := Lib.hid (HC.out.keep0 H8.out k9)
  have HL := Lib.hid (HC.out.list H9.out)
  rw [exb_last.1] at HL
  clear HN2 H8 k9
  go_wp2_with fail
  refine HL.out.mono ?_
  rintro e x10 ⟨v, rfl, hO, _, k10⟩
  have k10a := k10.alloc (.cells #[.int .i64 5] 3)
  have hO2 := hO.keep0 ((Kept.refl [] x10).alloc (.cells #[.int .i64 5] 3))
  obtain ⟨A, c, rfl, hbk⟩ := Ir.back_own (Kept.refl [] _) hO2
  have HSm := Lib.hid (same_any A (some ⟨x10.heap.size, 0, none⟩) [5] [5] c 1 _ hbk.2.1 (Ir.Row.seen (l := [5]) (Has.new x10 3 [.int .i64 5])) (by decide) (by decide))
  rw [decide_eq_true (rfl : [(5 : Int)] = [5]), show [(5 : Int)].length = 1 from rfl] at HSm
  have H10 := Lib.hid (HC.out.keep0 H9.out k10a)
  clear hO hO2 hbk k10 k10a HL H9
  simp only [List.length_cons, List.length_nil, Nat.zero_add]
  go_wp2_with fail
  refine HSm.out.mono ?_
  rintro e x11 ⟨rfl, kk, hkk⟩
  have H11 := Lib.hid (HC.out.keep0 H10.out (show Kept [] _ x11 by rw [hkk]; exact (Kept.refl [] _).drewN kk))
  clear hkk
  have HH3 := Lib.hid (hit_made HC.out H11.out [0, 8] (i64_lit rfl) (by decide))
  rw [exb_last.2] at HH3
  clear HSm H10
  go_wp2_with fail
  refine HH3.out.mono ?_
  rintro e x12 ⟨rfl, T12, h12⟩
  have HK := Lib.hid (HC.out.start h12)
  clear HH3 h12
  go_wp2_with fail
  go_ret
  exact ⟨rfl, HK.out⟩
end
end Go.Proofs.YtijlaganpnoefaaDoor.Bk
