/-
  Several texts in one: ShWm, ShMadeAt.
-/
import Derived.Test.YtdfnphgjjodfoaaGreatDoorG18
/-
  Rows of words: what Make lays keeps them so.
-/
namespace Go.Proofs.YtdfnphgjjodfoaaGreatDoor.Sh
open Go.RowKit Go.Proofs.YtdfnphgjjodfoaaGreatDoor.Ar
open Go.Proofs.YtdfnphgjjodfoaaGreatDoor.Hd (Hd Fields encW ofL of_facts can_obj encW_yes word_range fitE)
open Go.Proofs.YtdfnphgjjodfoaaGreatDoor.Tb (Ty getT hasT sizeE sizeT)
set_option linter.unusedVariables false

/-- All numbers of a row are words. -/
def Wm (ws : List Int) : Prop := ∀ v ∈ ws, 0 ≤ v ∧ v < 18446744073709551616
theorem Wm.wds {ws : List Int} (h : Wm ws) : Wds ws := wds_of h
theorem Wm.zeros (k : Nat) : Wm (List.replicate k 0) := fun v hv => by rw [List.eq_of_mem_replicate hv]; decide
theorem Wm.put {ws l : List Int} (i : Nat) (h : Wm ws) (hl : Wm l) : Wm (putW ws i l) := by
  intro v hv
  unfold putW at hv
  rcases List.mem_append.1 hv with hv | hv
  · exact h v (List.mem_of_mem_take hv)
  · rcases List.mem_append.1 hv with hv | hv
    · exact hl v hv
    · exact h v (List.mem_of_mem_drop hv)
theorem Wm.set {ws : List Int} (i : Nat) (u : Int) (h : Wm ws) (hu : 0 ≤ u ∧ u < 18446744073709551616) : Wm (ws.set i u) := by
  intro v hv
  rcases List.mem_or_eq_of_mem_set hv with hv | rfl
  · exact h v hv
  · exact hu
theorem Wm.make {ws : List Int} {l : List Ty} {g i n : Int} (h : Wm ws) (hl : l.length ≤ 64) : Wm (makeW ws l g i n) := by
  unfold makeW
  split
  · rename_i hm
    unfold layG
    refine h.put _ ?_
    intro v hv
    rcases List.mem_cons.1 hv with rfl | hv
    · have he : sizeE l i n = 0 := by
        unfold makeE at hm
        by_cases c : sizeE l i n = 0
        · exact c
        · rw [if_pos c] at hm; exact absurd hm c
      obtain ⟨sz, ho, s1, s2, i2, i3, n1, n2⟩ := of_facts he hl
      have hcan : (Hd.Hd.mk 1 i n sz).can := can_obj (by omega) (by omega) (by omega) (by omega) (by omega) (by omega)
      rw [ho, encW_yes hcan]
      have := word_range hcan
      omega
    · rw [List.eq_of_mem_replicate hv]; decide
  · exact h
theorem makeW_length {ws : List Int} {l : List Ty} {g i n : Int} (hl : l.length ≤ 64) : (makeW ws l g i n).length = ws.length := by
  unfold makeW
  split
  · rename_i hm
    unfold makeE at hm
    by_cases c : sizeE l i n = 0
    · rw [if_neg (by simpa using c)] at hm
      obtain ⟨sz, ho, s1, s2, i2, i3, n1, n2⟩ := of_facts c hl
      cases hi : inG ws.length g (ofL l i n).sz
      · rw [hi] at hm; simp at hm
      · obtain ⟨h0, h1⟩ := (inG_iff _ _ _).1 hi
        rw [ho] at h1 ⊢
        simp only at h1
        unfold layG
        refine putW_length _ _ _ ?_
        simp only [List.length_cons, List.length_replicate]
        omega
    · rw [if_pos c] at hm; exact absurd hm c
  · rfl
end Go.Proofs.YtdfnphgjjodfoaaGreatDoor.Sh

/-
  What stands where Make has laid an object: its header.
-/
namespace Go.Proofs.YtdfnphgjjodfoaaGreatDoor.Sh
open Go.RowKit Go.Proofs.YtdfnphgjjodfoaaGreatDoor.Ar
open Go.Proofs.YtdfnphgjjodfoaaGreatDoor.Hd (Hd encW ofL fitL of_facts can_obj encW_yes fit_of isHead_word head_word dec_yes wordI)
open Go.Proofs.YtdfnphgjjodfoaaGreatDoor.Tb (Ty getT hasT sizeE sizeT)
set_option linter.unusedVariables false

theorem putW_getD (ws : List Int) (i j : Nat) (l : List Int) (h : i ≤ ws.length) (hj : j < l.length) : (putW ws i l).getD (i + j) 0 = l.getD j 0 := by
  unfold putW
  have h1 : (ws.take i).length = i := by rw [List.length_take]; omega
  rw [List.getD_eq_getElem?_getD, List.getElem?_append_right (by omega), h1, Nat.add_sub_cancel_left, List.getElem?_append_left hj, List.getD_eq_getElem?_getD]
/-- An object was made. -/
structure MadeAt (ws : List Int) (l : List Ty) (g i n : Int) (gn : Nat) (sz : Int) : Prop where
  gEq : g = (gn : Int)
  size : sizeE l i n = 0
  head : ofL l i n = ⟨1, i, n, sz⟩
  s1 : 1 ≤ sz
  s2 : sz ≤ 40000
  i1 : 1 ≤ i
  i2 : i ≤ 64
  n0 : 0 ≤ n
  n1 : n ≤ 4096
  isin : sz ≤ (ws.length : Int) / 2 - g
  words : makeW ws l g i n = putW ws (2 * gn) (encW ⟨1, i, n, sz⟩ :: List.replicate (2 * sz - 1).toNat 0)
theorem made_at {ws : List Int} {l : List Ty} {g i n : Int} (hl : l.length ≤ 64) (h : makeE ws.length l g i n = 0) : ∃ gn sz, MadeAt ws l g i n gn sz := by
  have hm := h
  unfold makeE at hm
  by_cases c : sizeE l i n = 0
  · rw [if_neg (by simpa using c)] at hm
    obtain ⟨sz, ho, s1, s2, i2, i3, n1, n2⟩ := of_facts c hl
    cases hi : inG ws.length g (ofL l i n).sz
    · rw [hi] at hm; simp at hm
    · obtain ⟨h0, h1⟩ := (inG_iff _ _ _).1 hi
      rw [ho] at h1
      simp only at h1
      refine ⟨g.toNat, sz, by omega, c, ho, s1, s2, i2, i3, n1, n2, h1, ?_⟩
      unfold makeW
      rw [if_pos h, ho]
      unfold layG
      rw [show (2 * g).toNat = 2 * g.toNat by omega]
  · rw [if_pos c] at hm; exact absurd hm c
section
variable {ws : List Int} {l : List Ty} {g i n : Int} {gn : Nat} {sz : Int}
theorem MadeAt.len (H : MadeAt ws l g i n gn sz) : (makeW ws l g i n).length = ws.length := by
  have := H.isin
  have := H.gEq
  have := H.s1
  rw [H.words]
  refine putW_length _ _ _ ?_
  simp only [List.length_cons, List.length_replicate]
  omega
theorem MadeAt.can (H : MadeAt ws l g i n gn sz) : (Hd.Hd.mk 1 i n sz).can := by
  have := H.i1; have := H.i2; have := H.n0; have := H.n1; have := H.s1; have := H.s2
  exact can_obj (by omega) (by omega) (by omega) (by omega) (by omega) (by omega)
theorem MadeAt.at (H : MadeAt ws l g i n gn sz) : atG (makeW ws l g i n) g = wordI ⟨1, i, n, sz⟩ := by
  have h1 := H.isin
  have h2 := H.gEq
  have h3 := H.s1
  unfold atG
  rw [H.words, show (2 * g).toNat = 2 * gn + 0 by omega, putW_getD _ _ _ _ (by omega) (by simp), encW_yes H.can]
  rfl
end
end Go.Proofs.YtdfnphgjjodfoaaGreatDoor.Sh
