/-
  The laws' own calls: laid (an arena of words), words (all of an arena).
-/
import Derived.Test.YtpnjblledbihcaaDoorShHead
import Derived.Test.YtpnjblledbihcaaDoorArNew
namespace Go.Proofs.YtpnjblledbihcaaDoor.Sh
open Go.RowKit Go.Proofs.YtpnjblledbihcaaDoor.Ar
set_option linter.unusedVariables false

/-- The first i words, then zeros. -/
def part (ws : List Int) (i : Nat) : List Int := ws.take i ++ List.replicate (ws.length - i) 0
theorem part_zero (ws : List Int) : part ws 0 = List.replicate ws.length 0 := by simp [part]
theorem part_all (ws : List Int) : part ws ws.length = ws := by simp [part]
theorem part_length (ws : List Int) (i : Nat) (h : i ≤ ws.length) : (part ws i).length = ws.length := by
  unfold part
  rw [List.length_append, List.length_take, List.length_replicate]
  omega
theorem part_step (ws : List Int) (i : Nat) (h : i < ws.length) : (part ws i).set i (ws.getD i 0) = part ws (i + 1) := by
  unfold part
  have h1 : (ws.take i).length = i := by rw [List.length_take]; omega
  obtain ⟨k, hk⟩ : ∃ k, ws.length - i = k + 1 := ⟨ws.length - i - 1, by omega⟩
  rw [List.set_append_right _ _ (by omega), h1, Nat.sub_self, hk, List.replicate_succ, List.set_cons_zero, show ws.length - (i + 1) = k by omega, List.take_succ_eq_append_getElem h, List.append_assoc]
  congr 1
  rw [List.getD_eq_getElem?_getD, List.getElem?_eq_getElem h]
  rfl
theorem fill_one (ws : List Int) (i : Nat) (u : Int) (h : i < ws.length) : fillW ws (i : Int) 1 u = ws.set i u := by
  have hw : Ar.within ws.length (i : Int) 1 = true := (Ar.within_iff _ _ _).2 ⟨by omega, by omega, by omega⟩
  unfold fillW
  rw [if_pos hw, Int.toNat_natCast]
  show putW ws i [u] = _
  unfold putW
  rw [List.set_eq_take_append_cons_drop, if_pos h]
  rfl
section
variable {w : World}
def LaidPost (w : World) (ws : List Int) (e : Ending) (w' : World) : Prop :=
  Kept [] w w' ∧ ((mayB (ws.length : Int) = false ∧ e = .returned (.pointer none)) ∨ (mayB (ws.length : Int) = true ∧ ∃ p q m, e = .returned (.pointer (some ⟨p, 0, none⟩)) ∧ w.heap.size ≤ p ∧ w.heap.size ≤ q ∧ Arena w' p q ws m))
set_option maxRecDepth 100000 in
set_option maxHeartbeats 1000000 in
theorem laid_any {A : Option Addr} {c : Nat} {ws : List Int} (hS : Seen w A ws) : Calls Tryd.prog 22 #[.slice A ws.length c] w (LaidPost w ws) := by
  unfold LaidPost
  cases hm : mayB (ws.length : Int)
  · have HN := Lib.hid (new_bad (ws.length : Int) hm w)
    clear hm hS
    generalize ws.length = L at *
    go_enter Tryd.func22, Tryd.ntmps22
    go_wp2_with fail
    refine HN.out.mono ?_
    rintro e x1 ⟨rfl, rfl⟩
    go_wp2_with fail
    go_ret
    exact ⟨Kept.refl _ _, .inl ⟨trivial, rfl⟩⟩
  · obtain ⟨m1, m2, m3⟩ := (mayB_iff _).1 hm
    have hne : ws ≠ [] := by rintro rfl; simp at m1
    obtain ⟨b, f, rfl, hcell⟩ := hS.later hne
    have HN := Lib.hid (new_ok ws.length hm w)
    have HC := Lib.hid hcell
    have HP := Lib.hid (part_step ws)
    have HPl := Lib.hid (part_length ws)
    have HP0 := Lib.hid (part_zero ws)
    have HPa := Lib.hid (part_all ws)
    clear hm hS hcell m1 m3
    obtain ⟨L, hL⟩ : ∃ L, L = ws.length := ⟨_, rfl⟩
    rw [← hL] at HN HC HP HPl HP0 HPa ⊢ m2
    clear hL
    go_enter Tryd.func22, Tryd.ntmps22
    go_wp2_with fail
    refine HN.out.mono ?_
    rintro e x1 ⟨p, q, rfl, hp, hq, hA, hK⟩
    have HA := Lib.hid hA
    have HK := Lib.hid hK
    have Hp := Lib.hid hp
    have Hq := Lib.hid hq
    clear hA hK hp hq HN
    go_wp2_with fail
    go_loopw [5] (fun t wr => ∃ j : Nat, j ≤ L ∧ t = .int .i64 (j : Int) ∧ Hid (∃ m, Arena wr p q (part ws j) m ∧ Kept [] w wr)) (fun t _ => L - (intOf t).toNat)
    case atStart => exact ⟨0, Nat.zero_le _, rfl, Lib.hid ⟨0, by rw [HP0.out]; exact HA.out, HK.out⟩⟩
    case round =>
      obtain ⟨j, hj, rfl, hr⟩ := hrel
      by_cases hlt : j < L
      · obtain ⟨m, hA, hK⟩ := hr.out
        have c1 := HC.out _ hK j hlt
        have hst := store_any hA (j : Int) (ws.getD j 0) (by omega) (by omega)
        rw [show Ar.within (part ws j).length (j : Int) 1 = true from (Ar.within_iff _ _ _).2 ⟨by omega, by omega, by rw [HPl.out j hj]; omega⟩, fill_one _ _ _ (by rw [HPl.out j hj]; exact hlt), HP.out j hlt] at hst
        have HSt := Lib.hid hst
        have HK1 := Lib.hid hK
        clear hst hK hA hr
        generalize ws.getD j 0 = u at *
        go_wp2_with fail
        refine HSt.out.mono ?_
        rintro e x2 ⟨rfl, hA, hk⟩
        have HN : Hid (∃ m, Arena x2 p q (part ws (j + 1)) m ∧ Kept [] w x2) := Lib.hid ⟨_, hA, HK1.out.forget hk (by
          intro i hi
          have := Hp.out
          have := Hq.out
          simp at hi
          omega)⟩
        clear hA hk HSt HK1
        go_wp2_with fail
        go_roundw
        case rel => exact ⟨j + 1, by omega, by go_num, HN⟩
        case measure => simp [intOf]; omega
      · obtain rfl : j = L := by omega
        obtain ⟨m, hA, hK⟩ := hr.out
        rw [HPa.out] at hA
        have HF := Lib.hid (And.intro hA hK)
        clear hA hK hr
        go_wp2_with fail
        go_ret
        exact ⟨HF.out.2, .inr ⟨trivial, p, q, m, rfl, Hp.out, Hq.out, HF.out.1⟩⟩
set_option maxRecDepth 100000 in
theorem words_any {p q : Nat} {ws : List Int} {n : Int} (h : Arena w p q ws n) : Calls Tryd.prog 32 #[.pointer (some ⟨p, 0, none⟩)] w fun e w' => ∃ A, e = .returned (.slice A ws.length ws.length) ∧ Seen w' A ws ∧ Kept [] w w' := by
  have HL := Lib.hid (len_any h)
  have hc : cutW ws 0 (ws.length : Int) = ws := by unfold cutW; simp
  have hw := words_ok h 0 (ws.length : Int) ((Ar.within_iff _ _ _).2 ⟨by omega, by omega, by omega⟩)
  rw [hc] at hw
  have HW := Lib.hid hw
  rw [Int.toNat_natCast] at HW
  clear h hc hw
  have HF : Hid (∀ (y : World) g, Has y g 22 (ints ws) → Seen y (some ⟨g, 0, none⟩) ws) := Lib.hid fun y g hh => Row.seen hh
  generalize ws.length = L at *
  go_enter Tryd.func32, Tryd.ntmps32
  go_wp2_with fail
  refine HL.out.mono ?_
  rintro e x1 ⟨rfl, rfl⟩
  go_wp2_with fail
  refine HW.out.mono ?_
  rintro e x1 ⟨g, rfl, hg, hH, hK⟩
  have HR := Lib.hid (And.intro (HF.out _ _ hH) hK)
  clear hg hH hK HW HF
  go_wp2_with fail
  go_ret
  exact ⟨_, rfl, HR.out⟩
end
end Go.Proofs.YtpnjblledbihcaaDoor.Sh
