/-
  What the law ShapeKeeps wants beside the contracts.
-/
import Derived.Test.YtpnjblledbihcaaDoorShMadeFacts
import Derived.Test.YtpnjblledbihcaaDoorShAlive
import Derived.Test.YtpnjblledbihcaaDoorShLaid
namespace Go.Proofs.YtpnjblledbihcaaDoor.Sh
open Go.RowKit Go.Proofs.YtpnjblledbihcaaDoor.Ar
open Go.Proofs.YtpnjblledbihcaaDoor.Hd (Hd Fields)
open Go.Proofs.YtpnjblledbihcaaDoor.Tb (Ty Tab blk blk_own)
set_option linter.unusedVariables false

/-- A row of bytes that came in. -/
def SeenB (w : World) (A : Option Addr) (bs : List Int) : Prop := bs ≠ [] → ∃ g f, A = some ⟨g, f, none⟩ ∧ ∀ x, Kept [] w x → ∀ j, j < bs.length → x.cell? ⟨g, f + j, none⟩ = some (.int .u8 (bs.getD j 0))
section
variable {w x x0 y : World} {v p q tp : Nat} {A : Option Addr} {c : Nat} {l : List Ty} {ws : List Int} {g : Int} {h : Hd} {t : Ty} {sl : Int}
set_option maxRecDepth 100000 in
theorem words_own {n : Int} (h : Arena w p q ws n) : Calls Tryd.prog 32 #[.pointer (some ⟨p, 0, none⟩)] w fun e w' => ∃ g, e = .returned (.slice (some ⟨g, 0, none⟩) ws.length ws.length) ∧ w.heap.size ≤ g ∧ Has w' g 22 (ints ws) ∧ Kept [] w w' := by
  have HL := Lib.hid (len_any h)
  have hc : cutW ws 0 (ws.length : Int) = ws := by unfold cutW; simp
  have hw := words_ok h 0 (ws.length : Int) ((Ar.within_iff _ _ _).2 ⟨by omega, by omega, by omega⟩)
  rw [hc] at hw
  have HW := Lib.hid hw
  rw [Int.toNat_natCast] at HW
  clear h hc hw
  generalize ws.length = L at *
  generalize ints ws = I at *
  go_enter Tryd.func32, Tryd.ntmps32
  go_wp2_with fail
  refine HL.out.mono ?_
  rintro e x1 ⟨rfl, rfl⟩
  go_wp2_with fail
  refine HW.out.mono ?_
  rintro e x1 ⟨g, rfl, hg, hH, hK⟩
  have HR := Lib.hid (And.intro hg (And.intro hH hK))
  clear hg hH hK HW
  go_wp2_with fail
  go_ret
  exact ⟨g, rfl, HR.out⟩
/-- A block that was made later may turn. -/
theorem Vw.past {ws' : List Int} (H0 : Vw w x0 v p q tp A c l ws' g h t sl) (H : Vw w x v p q tp A c l ws g h t sl) {b : Nat} (hb : x0.heap.size ≤ b) (k : Kept [b] x y) : Vw w y v p q tp A c l ws g h t sl := by
  obtain ⟨m0, h0⟩ := H0.both.ar
  obtain ⟨m, ha⟩ := H.both.ar
  have l1 := h0.head.lt
  have l2 := h0.row.lt
  have l3 := H0.both.tab.head.lt
  have l4 := H0.view.row.lt
  have l0 := H0.both.kept.more
  refine ⟨⟨H.both.kept.forget k (by intro i hi; rw [List.mem_singleton.1 hi]; omega), ⟨m, ha.kept k (by simp; omega) (by simp; omega)⟩, H.both.tab.kept k (by simp; omega) ?_, H.both.hp, H.both.hq, H.both.np, H.both.nb, H.both.wm⟩, H.view.kept k (by simp; omega), H.nv⟩
  intro b' hb' e
  rw [List.mem_singleton.1 hb'] at e
  have := own_lt H0.both.tab.own _ (blk_own e)
  omega
end
/-- The words as they were, with the one that has been written, once it has been gone over. -/
def mid (ws : List Int) (J : Nat) (u : Int) (j : Nat) : List Int := if j ≤ J then ws else ws.set J u
theorem mid_zero (ws : List Int) (J : Nat) (u : Int) : mid ws J u 0 = ws := if_pos (Nat.zero_le _)
theorem mid_length (ws : List Int) (J : Nat) (u : Int) (j : Nat) : (mid ws J u j).length = ws.length := by unfold mid; split <;> simp
theorem mid_here (ws : List Int) (J : Nat) (u : Int) : (mid ws J u J).set J u = mid ws J u (J + 1) := by
  unfold mid
  rw [if_pos (Nat.le_refl _), if_neg (by omega)]
theorem mid_else (ws : List Int) (J : Nat) (u : Int) (j : Nat) (h : j ≠ J) : mid ws J u (j + 1) = mid ws J u j := by
  unfold mid
  by_cases c : j ≤ J
  · rw [if_pos c, if_pos (by omega)]
  · rw [if_neg c, if_neg (by omega)]
theorem mid_get (ws : List Int) (J : Nat) (u : Int) (j : Nat) (hj : j < ws.length) : (mid ws J u (j + 1)).getD j 0 = (ws.set J u).getD j 0 := by
  unfold mid
  by_cases c : j + 1 ≤ J
  · rw [if_pos c, List.getD_eq_getElem?_getD, List.getD_eq_getElem?_getD, List.getElem?_set_ne (by omega)]
  · rw [if_neg c]
theorem set_get (ws : List Int) (J : Nat) (u : Int) (h : J < ws.length) : (ws.set J u).getD J 0 = u := by
  rw [List.getD_eq_getElem?_getD, List.getElem?_set_self h]
  rfl
end Go.Proofs.YtpnjblledbihcaaDoor.Sh
