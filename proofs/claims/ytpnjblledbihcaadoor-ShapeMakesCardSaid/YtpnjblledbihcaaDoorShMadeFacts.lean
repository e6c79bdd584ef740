/-
  What stands where Make has laid an object.
-/
import Derived.Test.YtpnjblledbihcaaDoorShBoth
namespace Go.Proofs.YtpnjblledbihcaaDoor.Sh
open Go.RowKit Go.Proofs.YtpnjblledbihcaaDoor.Ar
open Go.Proofs.YtpnjblledbihcaaDoor.Hd (Hd encW ofL fitL of_facts can_obj encW_yes fit_of isHead_word head_word dec_yes wordI)
open Go.Proofs.YtpnjblledbihcaaDoor.Tb (Ty getT hasT sizeE sizeT)
set_option linter.unusedVariables false

theorem putW_getD (ws : List Int) (i j : Nat) (l : List Int) (h : i ≤ ws.length) (hj : j < l.length) : (putW ws i l).getD (i + j) 0 = l.getD j 0 := by
  unfold putW
  have h1 : (ws.take i).length = i := by rw [List.length_take]; omega
  rw [List.getD_eq_getElem?_getD, List.getElem?_append_right (by omega), h1, Nat.add_sub_cancel_left, List.getElem?_append_left hj, List.getD_eq_getElem?_getD]
/-- An object was made. -/
structure MadeAt (ws : List Int) (l : List Ty) (g i n : Int) (gn : Nat) (sz : Int) : Prop where
  gEq : g = (gn : Int)
  size : sizeE l i n = 0
  head : ofL l i n = ⟨1, i, n, sz⟩
  s1 : 1 ≤ sz
  s2 : sz ≤ 40000
  i1 : 1 ≤ i
  i2 : i ≤ 64
  n0 : 0 ≤ n
  n1 : n ≤ 4096
  isin : sz ≤ (ws.length : Int) / 2 - g
  words : makeW ws l g i n = putW ws (2 * gn) (encW ⟨1, i, n, sz⟩ :: List.replicate (2 * sz - 1).toNat 0)
theorem made_at {ws : List Int} {l : List Ty} {g i n : Int} (hl : l.length ≤ 64) (h : makeE ws.length l g i n = 0) : ∃ gn sz, MadeAt ws l g i n gn sz := by
  have hm := h
  unfold makeE at hm
  by_cases c : sizeE l i n = 0
  · rw [if_neg (by simpa using c)] at hm
    obtain ⟨sz, ho, s1, s2, i2, i3, n1, n2⟩ := of_facts c hl
    cases hi : inG ws.length g (ofL l i n).sz
    · rw [hi] at hm; simp at hm
    · obtain ⟨h0, h1⟩ := (inG_iff _ _ _).1 hi
      rw [ho] at h1
      simp only at h1
      refine ⟨g.toNat, sz, by omega, c, ho, s1, s2, i2, i3, n1, n2, h1, ?_⟩
      unfold makeW
      rw [if_pos h, ho]
      unfold layG
      rw [show (2 * g).toNat = 2 * g.toNat by omega]
  · rw [if_pos c] at hm; exact absurd hm c
section
variable {ws : List Int} {l : List Ty} {g i n : Int} {gn : Nat} {sz : Int}
theorem MadeAt.len (H : MadeAt ws l g i n gn sz) : (makeW ws l g i n).length = ws.length := by
  have := H.isin
  have := H.gEq
  have := H.s1
  rw [H.words]
  refine putW_length _ _ _ ?_
  simp only [List.length_cons, List.length_replicate]
  omega
theorem MadeAt.can (H : MadeAt ws l g i n gn sz) : (Hd.Hd.mk 1 i n sz).can := by
  have := H.i1; have := H.i2; have := H.n0; have := H.n1; have := H.s1; have := H.s2
  exact can_obj (by omega) (by omega) (by omega) (by omega) (by omega) (by omega)
theorem MadeAt.at (H : MadeAt ws l g i n gn sz) : atG (makeW ws l g i n) g = wordI ⟨1, i, n, sz⟩ := by
  have h1 := H.isin
  have h2 := H.gEq
  have h3 := H.s1
  unfold atG
  rw [H.words, show (2 * g).toNat = 2 * gn + 0 by omega, putW_getD _ _ _ _ (by omega) (by simp), encW_yes H.can]
  rfl
theorem MadeAt.dec (H : MadeAt ws l g i n gn sz) : hdE (makeW ws l g i n) g = 0 ∧ hdH (makeW ws l g i n) g = ⟨1, i, n, sz⟩ := by
  have h1 := H.isin
  have h2 := H.gEq
  have h3 := H.s1
  have hin : inG (makeW ws l g i n).length g 1 = true := (inG_iff _ _ _).2 ⟨by omega, by rw [H.len]; omega⟩
  have hd := dec_yes (isHead_word H.can)
  unfold hdE hdH
  rw [if_pos hin, if_pos hin, H.at, hd.1, hd.2, head_word H.can]
  exact ⟨rfl, rfl⟩
theorem MadeAt.of (H : MadeAt ws l g i n gn sz) : ofE (makeW ws l g i n) l g = 0 := by
  have h1 := H.isin
  have h2 := H.gEq
  unfold ofE
  rw [H.dec.1, H.dec.2, if_neg (by simp), if_neg]
  rintro (h | h | h)
  · exact h rfl
  · exact h (fit_of H.head H.size H.can)
  · rw [(inG_iff _ _ _).2 ⟨by omega, by rw [H.len]; exact h1⟩] at h
    cases h
theorem MadeAt.ty (H : MadeAt ws l g i n gn sz) : ofT (makeW ws l g i n) l g = getT l i := by
  unfold ofT
  rw [H.dec.2]
theorem MadeAt.has (H : MadeAt ws l g i n gn sz) : hasT l i = true := by
  have he := H.size
  cases hx : hasT l i with
  | true => rfl
  | false => unfold sizeE at he; rw [hx, if_neg (by decide)] at he; cases he
theorem MadeAt.err (H : MadeAt ws l g i n gn sz) : Kd.err (getT l i).k (getT l i).wd (getT l i).ms n = 0 := by
  have he := H.size
  unfold sizeE at he
  rw [H.has] at he
  exact he
theorem MadeAt.zero (H : MadeAt ws l g i n gn sz) (j : Nat) (h : (j : Int) < 2 * sz - 1) : (makeW ws l g i n).getD (2 * gn + 1 + j) 0 = 0 := by
  have h1 := H.isin
  have h2 := H.gEq
  rw [H.words, show 2 * gn + 1 + j = 2 * gn + (1 + j) by omega, putW_getD _ _ _ _ (by omega) (by simp only [List.length_cons, List.length_replicate]; omega), Nat.add_comm 1 j, List.getD_eq_getElem?_getD, List.getElem?_cons_succ, List.getElem?_replicate]
  split <;> rfl
theorem MadeAt.sz' (H : MadeAt ws l g i n gn sz) : sz = (Kd.slots (getT l i).k (getT l i).wd n + 2) / 2 := by
  have h := H.head
  unfold Hd.ofL Hd.ofH at h
  rw [if_pos H.size] at h
  have h2 : sizeT l i n = sz := congrArg Hd.Hd.sz h
  unfold sizeT at h2
  rw [H.has, if_pos rfl] at h2
  unfold Kd.sizeR at h2
  rw [if_pos H.err] at h2
  exact h2.symm
/-- A new object refers to nothing. -/
theorem MadeAt.none (H : MadeAt ws l g i n gn sz) (sl : Nat) (hs : Kd.slots (getT l i).k (getT l i).wd n = (sl : Int)) (t : Ty) : wordsOf (pairs (makeW ws l g i n) (gn : Int) t sl) = [] := by
  unfold wordsOf pairs
  rw [List.map_map, List.filter_eq_nil_iff]
  intro u hu
  obtain ⟨r, hr, rfl⟩ := List.mem_map.1 hu
  obtain ⟨m, rfl, hm⟩ := refsTo_mem hr
  have h1 := H.sz'
  rw [hs] at h1
  have h2 := H.zero m (by omega)
  simp only [Function.comp]
  rw [show (2 * (gn : Int) + 1 + (m : Int)).toNat = 2 * gn + 1 + m by omega, h2]
  decide
end
end Go.Proofs.YtpnjblledbihcaaDoor.Sh
