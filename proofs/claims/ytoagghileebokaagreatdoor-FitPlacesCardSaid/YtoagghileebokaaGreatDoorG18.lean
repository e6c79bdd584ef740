/-
  Several texts in one: ShWm, ShMadeAt, SpMath, SpBits.
-/
import Derived.Test.YtoagghileebokaaGreatDoorG15
import Derived.Test.YtoagghileebokaaGreatDoorG12
import Derived.Test.YtoagghileebokaaGreatDoorG16
import Derived.Test.YtoagghileebokaaGreatDoorG20
import Derived.Test.YtoagghileebokaaGreatDoorG17
/-
  Rows of words: what Make lays keeps them so.
-/
namespace Go.Proofs.YtoagghileebokaaGreatDoor.Sh
open Go.RowKit Go.Proofs.YtoagghileebokaaGreatDoor.Ar
open Go.Proofs.YtoagghileebokaaGreatDoor.Hd (Hd Fields encW ofL of_facts can_obj encW_yes word_range fitE)
open Go.Proofs.YtoagghileebokaaGreatDoor.Tb (Ty getT hasT sizeE sizeT)
set_option linter.unusedVariables false

/-- All numbers of a row are words. -/
def Wm (ws : List Int) : Prop := ∀ v ∈ ws, 0 ≤ v ∧ v < 18446744073709551616
theorem Wm.wds {ws : List Int} (h : Wm ws) : Wds ws := wds_of h
theorem Wm.zeros (k : Nat) : Wm (List.replicate k 0) := fun v hv => by rw [List.eq_of_mem_replicate hv]; decide
theorem Wm.put {ws l : List Int} (i : Nat) (h : Wm ws) (hl : Wm l) : Wm (putW ws i l) := by
  intro v hv
  unfold putW at hv
  rcases List.mem_append.1 hv with hv | hv
  · exact h v (List.mem_of_mem_take hv)
  · rcases List.mem_append.1 hv with hv | hv
    · exact hl v hv
    · exact h v (List.mem_of_mem_drop hv)
theorem Wm.set {ws : List Int} (i : Nat) (u : Int) (h : Wm ws) (hu : 0 ≤ u ∧ u < 18446744073709551616) : Wm (ws.set i u) := by
  intro v hv
  rcases List.mem_or_eq_of_mem_set hv with hv | rfl
  · exact h v hv
  · exact hu
theorem Wm.make {ws : List Int} {l : List Ty} {g i n : Int} (h : Wm ws) (hl : l.length ≤ 64) : Wm (makeW ws l g i n) := by
  unfold makeW
  split
  · rename_i hm
    unfold layG
    refine h.put _ ?_
    intro v hv
    rcases List.mem_cons.1 hv with rfl | hv
    · have he : sizeE l i n = 0 := by
        unfold makeE at hm
        by_cases c : sizeE l i n = 0
        · exact c
        · rw [if_pos c] at hm; exact absurd hm c
      obtain ⟨sz, ho, s1, s2, i2, i3, n1, n2⟩ := of_facts he hl
      have hcan : (Hd.Hd.mk 1 i n sz).can := can_obj (by omega) (by omega) (by omega) (by omega) (by omega) (by omega)
      rw [ho, encW_yes hcan]
      have := word_range hcan
      omega
    · rw [List.eq_of_mem_replicate hv]; decide
  · exact h
theorem makeW_length {ws : List Int} {l : List Ty} {g i n : Int} (hl : l.length ≤ 64) : (makeW ws l g i n).length = ws.length := by
  unfold makeW
  split
  · rename_i hm
    unfold makeE at hm
    by_cases c : sizeE l i n = 0
    · rw [if_neg (by simpa using c)] at hm
      obtain ⟨sz, ho, s1, s2, i2, i3, n1, n2⟩ := of_facts c hl
      cases hi : inG ws.length g (ofL l i n).sz
      · rw [hi] at hm; simp at hm
      · obtain ⟨h0, h1⟩ := (inG_iff _ _ _).1 hi
        rw [ho] at h1 ⊢
        simp only at h1
        unfold layG
        refine putW_length _ _ _ ?_
        simp only [List.length_cons, List.length_replicate]
        omega
    · rw [if_pos c] at hm; exact absurd hm c
  · rfl
end Go.Proofs.YtoagghileebokaaGreatDoor.Sh

/-
  What stands where Make has laid an object: its header.
-/
namespace Go.Proofs.YtoagghileebokaaGreatDoor.Sh
open Go.RowKit Go.Proofs.YtoagghileebokaaGreatDoor.Ar
open Go.Proofs.YtoagghileebokaaGreatDoor.Hd (Hd encW ofL fitL of_facts can_obj encW_yes fit_of isHead_word head_word dec_yes wordI)
open Go.Proofs.YtoagghileebokaaGreatDoor.Tb (Ty getT hasT sizeE sizeT)
set_option linter.unusedVariables false

theorem putW_getD (ws : List Int) (i j : Nat) (l : List Int) (h : i ≤ ws.length) (hj : j < l.length) : (putW ws i l).getD (i + j) 0 = l.getD j 0 := by
  unfold putW
  have h1 : (ws.take i).length = i := by rw [List.length_take]; omega
  rw [List.getD_eq_getElem?_getD, List.getElem?_append_right (by omega), h1, Nat.add_sub_cancel_left, List.getElem?_append_left hj, List.getD_eq_getElem?_getD]
/-- An object was made. -/
structure MadeAt (ws : List Int) (l : List Ty) (g i n : Int) (gn : Nat) (sz : Int) : Prop where
  gEq : g = (gn : Int)
  size : sizeE l i n = 0
  head : ofL l i n = ⟨1, i, n, sz⟩
  s1 : 1 ≤ sz
  s2 : sz ≤ 40000
  i1 : 1 ≤ i
  i2 : i ≤ 64
  n0 : 0 ≤ n
  n1 : n ≤ 4096
  isin : sz ≤ (ws.length : Int) / 2 - g
  words : makeW ws l g i n = putW ws (2 * gn) (encW ⟨1, i, n, sz⟩ :: List.replicate (2 * sz - 1).toNat 0)
theorem made_at {ws : List Int} {l : List Ty} {g i n : Int} (hl : l.length ≤ 64) (h : makeE ws.length l g i n = 0) : ∃ gn sz, MadeAt ws l g i n gn sz := by
  have hm := h
  unfold makeE at hm
  by_cases c : sizeE l i n = 0
  · rw [if_neg (by simpa using c)] at hm
    obtain ⟨sz, ho, s1, s2, i2, i3, n1, n2⟩ := of_facts c hl
    cases hi : inG ws.length g (ofL l i n).sz
    · rw [hi] at hm; simp at hm
    · obtain ⟨h0, h1⟩ := (inG_iff _ _ _).1 hi
      rw [ho] at h1
      simp only at h1
      refine ⟨g.toNat, sz, by omega, c, ho, s1, s2, i2, i3, n1, n2, h1, ?_⟩
      unfold makeW
      rw [if_pos h, ho]
      unfold layG
      rw [show (2 * g).toNat = 2 * g.toNat by omega]
  · rw [if_pos c] at hm; exact absurd hm c
section
variable {ws : List Int} {l : List Ty} {g i n : Int} {gn : Nat} {sz : Int}
theorem MadeAt.len (H : MadeAt ws l g i n gn sz) : (makeW ws l g i n).length = ws.length := by
  have := H.isin
  have := H.gEq
  have := H.s1
  rw [H.words]
  refine putW_length _ _ _ ?_
  simp only [List.length_cons, List.length_replicate]
  omega
theorem MadeAt.can (H : MadeAt ws l g i n gn sz) : (Hd.Hd.mk 1 i n sz).can := by
  have := H.i1; have := H.i2; have := H.n0; have := H.n1; have := H.s1; have := H.s2
  exact can_obj (by omega) (by omega) (by omega) (by omega) (by omega) (by omega)
theorem MadeAt.at (H : MadeAt ws l g i n gn sz) : atG (makeW ws l g i n) g = wordI ⟨1, i, n, sz⟩ := by
  have h1 := H.isin
  have h2 := H.gEq
  have h3 := H.s1
  unfold atG
  rw [H.words, show (2 * g).toNat = 2 * gn + 0 by omega, putW_getD _ _ _ _ (by omega) (by simp), encW_yes H.can]
  rfl
theorem MadeAt.dec (H : MadeAt ws l g i n gn sz) : hdE (makeW ws l g i n) g = 0 ∧ hdH (makeW ws l g i n) g = ⟨1, i, n, sz⟩ := by
  have h1 := H.isin
  have h2 := H.gEq
  have h3 := H.s1
  have hin : inG (makeW ws l g i n).length g 1 = true := (inG_iff _ _ _).2 ⟨by omega, by rw [H.len]; omega⟩
  have hd := dec_yes (isHead_word H.can)
  unfold hdE hdH
  rw [if_pos hin, if_pos hin, H.at, hd.1, hd.2, head_word H.can]
  exact ⟨rfl, rfl⟩
end
end Go.Proofs.YtoagghileebokaaGreatDoor.Sh

/-
  Cells in a row of words: which one may begin at a granule, rows of them that lie one directly behind the other, and what laying gaps between objects makes of them.
-/
namespace Go.Proofs.YtoagghileebokaaGreatDoor.Sp
open Go.RowKit Go.Proofs.YtoagghileebokaaGreatDoor.Ar Go.Proofs.YtoagghileebokaaGreatDoor.Sh
open Go.Proofs.YtoagghileebokaaGreatDoor.Hd (Hd encW fitL wordI isHead headI decE decH isHead_word isHead_iff dec_yes dec_no head_word encW_yes gapH gap_yes fitE)
open Go.Proofs.YtoagghileebokaaGreatDoor.Tb (Ty)
set_option linter.unusedVariables false

/-- A cell may begin there. -/
def cellB (ws : List Int) (l : List Ty) (g : Int) : Bool := decide (hdE ws g = 0 ∧ fitL l (hdH ws g) = 0 ∧ (hdH ws g).sz ≤ (ws.length : Int) / 2 - g)
def cellC (ws : List Int) (l : List Ty) (g : Int) : Cel := if cellB ws l g then ⟨g, hdH ws g⟩ else Cel.zero
theorem cellB_iff {ws : List Int} {l : List Ty} {g : Int} : cellB ws l g = true ↔ hdE ws g = 0 ∧ fitL l (hdH ws g) = 0 ∧ (hdH ws g).sz ≤ (ws.length : Int) / 2 - g := by unfold cellB; exact decide_eq_true_iff
theorem hdE_can {ws : List Int} {g : Int} (h : hdE ws g = 0) : 0 ≤ g ∧ g < (ws.length : Int) / 2 ∧ (hdH ws g).can := by
  unfold hdE at h
  unfold hdH
  cases hi : inG ws.length g 1 with
  | false => rw [hi] at h; simp at h
  | true =>
    obtain ⟨h0, h1⟩ := (inG_iff _ _ _).1 hi
    rw [hi] at h
    simp only [if_true] at h ⊢
    cases hh : isHead (atG ws g) with
    | false => rw [(dec_no hh).2] at h; exact absurd h (by decide)
    | true =>
      rw [(dec_yes hh).1]
      exact ⟨h0, by omega, (isHead_iff.1 hh).1⟩
theorem cellB_facts {ws : List Int} {l : List Ty} {g : Int} (h : cellB ws l g = true) : 0 ≤ g ∧ (hdH ws g).can ∧ 1 ≤ (hdH ws g).sz ∧ g + (hdH ws g).sz ≤ (ws.length : Int) / 2 := by
  obtain ⟨h1, h2, h3⟩ := cellB_iff.1 h
  obtain ⟨a, b, c⟩ := hdE_can h1
  exact ⟨a, c, c.1.1, by omega⟩
theorem cellB_out {ws : List Int} {l : List Ty} {g : Int} (h : (ws.length : Int) / 2 ≤ g) : cellB ws l g = false := by
  cases hc : cellB ws l g with
  | false => rfl
  | true => have := (hdE_can (cellB_iff.1 hc).1).2.1; omega
/-- What is gone over from a granule on. -/
def Scans (ws : List Int) (l : List Ty) : Int → List Cel → Prop
  | g, [] => cellB ws l g = false
  | g, c :: cs => cellB ws l g = true ∧ c = ⟨g, hdH ws g⟩ ∧ Scans ws l (g + c.h.sz) cs
theorem Scans.same {ws : List Int} {l : List Ty} : ∀ {a b : List Cel} {g : Int}, Scans ws l g a → Scans ws l g b → a = b
  | [], [], _, _, _ => rfl
  | [], c :: cs, g, h, k => by have := h.symm.trans k.1; cases this
  | c :: cs, [], g, h, k => by have := k.symm.trans h.1; cases this
  | c :: cs, d :: ds, g, h, k => by
    obtain ⟨h1, h2, h3⟩ := h
    obtain ⟨k1, k2, k3⟩ := k
    subst h2 k2
    rw [Scans.same h3 k3]
theorem Scans.mem {ws : List Int} {l : List Ty} : ∀ {cs : List Cel} {g : Int}, Scans ws l g cs → ∀ c ∈ cs, cellB ws l c.a = true ∧ c.h = hdH ws c.a
  | [], _, _, c, hc => by cases hc
  | d :: ds, g, h, c, hc => by
    obtain ⟨h1, h2, h3⟩ := h
    rcases List.mem_cons.1 hc with rfl | hc
    · subst h2; exact ⟨h1, rfl⟩
    · exact h3.mem c hc
theorem Scans.length {ws : List Int} {l : List Ty} : ∀ {cs : List Cel} {g : Int}, Scans ws l g cs → 0 ≤ g → (cs.length : Int) + g ≤ (ws.length : Int) / 2 ∨ cs = []
  | [], _, _, _ => .inr rfl
  | d :: ds, g, h, hg => by
    obtain ⟨h1, h2, h3⟩ := h
    have hf := cellB_facts h1
    subst h2
    simp only at h3
    left
    rcases h3.length (by omega) with k | rfl
    · rw [List.length_cons]; omega
    · simp; omega

/-- A gap is told as it must be. -/
def Neat (c : Cel) : Prop := c.h.tg ≠ 1 → (c.h.tg = 2 ↔ c.h.sz = 1)
/-- Cells one directly behind the other, from a granule to another one. -/
def Tiled (ws : List Int) (l : List Ty) : Int → List Cel → Int → Prop
  | f, [], e => f = e
  | f, c :: cs, e => c.a = f ∧ c.h.can ∧ atG ws f = wordI c.h ∧ fitL l c.h = 0 ∧ Tiled ws l (f + c.h.sz) cs e
theorem can_sz {h : Hd} (c : h.can) : 1 ≤ h.sz ∧ h.sz ≤ 16777215 := ⟨c.1.1, c.1.2.1⟩
theorem Tiled.le {ws : List Int} {l : List Ty} : ∀ {cs : List Cel} {f e : Int}, Tiled ws l f cs e → f ≤ e
  | [], _, _, h => Int.le_of_eq h
  | c :: cs, f, e, h => by
    have := Tiled.le h.2.2.2.2
    have := can_sz h.2.1
    omega
theorem Tiled.append {ws : List Int} {l : List Ty} : ∀ {a b : List Cel} {f m e : Int}, Tiled ws l f a m → Tiled ws l m b e → Tiled ws l f (a ++ b) e
  | [], b, f, m, e, h, k => by
    have h : f = m := h
    subst h
    exact k
  | c :: cs, b, f, m, e, h, k => ⟨h.1, h.2.1, h.2.2.1, h.2.2.2.1, Tiled.append h.2.2.2.2 k⟩
theorem Tiled.split {ws : List Int} {l : List Ty} : ∀ {a b : List Cel} {f e : Int}, Tiled ws l f (a ++ b) e → ∃ m, Tiled ws l f a m ∧ Tiled ws l m b e
  | [], b, f, e, h => ⟨f, rfl, h⟩
  | c :: cs, b, f, e, h => by
    obtain ⟨m, h1, h2⟩ := Tiled.split (a := cs) h.2.2.2.2
    exact ⟨m, ⟨h.1, h.2.1, h.2.2.1, h.2.2.2.1, h1⟩, h2⟩
theorem Tiled.mem {ws : List Int} {l : List Ty} : ∀ {cs : List Cel} {f e : Int}, Tiled ws l f cs e → ∀ c ∈ cs, f ≤ c.a ∧ c.a + c.h.sz ≤ e ∧ c.h.can ∧ atG ws c.a = wordI c.h ∧ fitL l c.h = 0
  | [], _, _, _, c, hc => by cases hc
  | d :: ds, f, e, h, c, hc => by
    have hs := can_sz h.2.1
    have hl := Tiled.le h.2.2.2.2
    have h1 := h.1
    rcases List.mem_cons.1 hc with rfl | hc
    · refine ⟨by omega, by omega, h.2.1, ?_, h.2.2.2.1⟩
      rw [h1]; exact h.2.2.1
    · obtain ⟨a, b⟩ := Tiled.mem h.2.2.2.2 c hc
      exact ⟨by omega, b⟩
theorem Tiled.keep {ws ws' : List Int} {l : List Ty} : ∀ {cs : List Cel} {f e : Int}, Tiled ws l f cs e → (∀ c ∈ cs, atG ws' c.a = atG ws c.a) → Tiled ws' l f cs e
  | [], _, _, h, _ => h
  | d :: ds, f, e, h, k => by
    refine ⟨h.1, h.2.1, ?_, h.2.2.2.1, h.2.2.2.2.keep fun c hc => k c (List.mem_cons_of_mem _ hc)⟩
    have := k d List.mem_cons_self
    rw [h.1] at this
    rw [this]; exact h.2.2.1
/-- What stands at the beginning of a cell. -/
theorem head_at {ws : List Int} {g : Int} {h : Hd} (hc : h.can) (hw : atG ws g = wordI h) (h0 : 0 ≤ g) (h1 : g < (ws.length : Int) / 2) : hdE ws g = 0 ∧ hdH ws g = h := by
  have hin : inG ws.length g 1 = true := (inG_iff _ _ _).2 ⟨h0, by omega⟩
  have hd := dec_yes (isHead_word hc)
  unfold hdE hdH
  rw [if_pos hin, if_pos hin, hw, hd.1, hd.2, head_word hc]
  exact ⟨rfl, rfl⟩
theorem Tiled.cell {ws : List Int} {l : List Ty} {cs : List Cel} {f e : Int} (h : Tiled ws l f cs e) (h0 : 0 ≤ f) (he : e ≤ (ws.length : Int) / 2) (c : Cel) (hc : c ∈ cs) : hdE ws c.a = 0 ∧ hdH ws c.a = c.h ∧ cellB ws l c.a = true := by
  obtain ⟨a1, a2, a3, a4, a5⟩ := h.mem c hc
  have hs := can_sz a3
  obtain ⟨b1, b2⟩ := head_at a3 a4 (by omega) (by omega)
  exact ⟨b1, b2, cellB_iff.2 ⟨b1, by rw [b2]; exact a5, by rw [b2]; omega⟩⟩
theorem Tiled.scans {ws : List Int} {l : List Ty} : ∀ {cs : List Cel} {f : Int}, Tiled ws l f cs ((ws.length : Int) / 2) → 0 ≤ f → Scans ws l f cs
  | [], f, h, _ => cellB_out (by have h : f = _ := h; omega)
  | c :: cs, f, h, h0 => by
    have hs := can_sz h.2.1
    obtain ⟨b1, b2, b3⟩ := Tiled.cell h h0 (Int.le_refl _) c List.mem_cons_self
    rw [h.1] at b1 b2 b3
    refine ⟨b3, ?_, Tiled.scans h.2.2.2.2 (by omega)⟩
    rw [b2]
    exact Cel.eq h.1 rfl
/-- The cell that has a granule. -/
theorem Tiled.find {ws : List Int} {l : List Ty} (g : Int) : ∀ {cs : List Cel} {f e : Int}, Tiled ws l f cs e → f ≤ g → g < e → ∃ A x B, cs = A ++ x :: B ∧ x.a ≤ g ∧ g < x.a + x.h.sz ∧ cs.find? (fun c => decide (g < c.a + c.h.sz)) = some x
  | [], f, e, h, h1, h2 => by have h : f = e := h; omega
  | c :: cs, f, e, h, h1, h2 => by
    have ha := h.1
    by_cases hc : g < c.a + c.h.sz
    · exact ⟨[], c, cs, rfl, by omega, hc, by rw [List.find?_cons_of_pos (by simpa using hc)]⟩
    · obtain ⟨A, x, B, e1, e2, e3, e4⟩ := Tiled.find g h.2.2.2.2 (by omega) h2
      exact ⟨c :: A, x, B, by rw [e1]; rfl, e2, e3, by rw [List.find?_cons_of_neg (by simpa using hc)]; exact e4⟩

/-! ### Laying gaps -/
def setG (ws : List Int) (g u : Int) : List Int := fillW ws (2 * g) 1 u
theorem setG_length (ws : List Int) (g u : Int) : (setG ws g u).length = ws.length := fillW_length _ _ _ _
theorem putW_set (ws : List Int) (i : Nat) (u : Int) (h : i < ws.length) : putW ws i [u] = ws.set i u := by
  unfold putW
  rw [List.set_eq_take_append_cons_drop, if_pos h]
  rfl
theorem atG_set (ws : List Int) (g u b : Int) (h0 : 0 ≤ g) (h1 : g < (ws.length : Int) / 2) (hb : 0 ≤ b) : atG (setG ws g u) b = if b = g then u else atG ws b := by
  have hw : Ar.within ws.length (2 * g) 1 = true := (Ar.within_iff _ _ _).2 ⟨by omega, by omega, by omega⟩
  unfold atG setG fillW
  rw [if_pos hw, show List.replicate (1 : Int).toNat u = [u] from rfl, putW_set _ _ _ (by omega), List.getD_eq_getElem?_getD, List.getElem?_set]
  by_cases e : b = g
  · subst e
    rw [if_pos rfl, if_pos rfl, if_pos (by omega)]
    rfl
  · rw [if_neg (by omega), if_neg e, List.getD_eq_getElem?_getD]
theorem setG_wm {ws : List Int} {g u : Int} (h : Wm ws) (hu : 0 ≤ u ∧ u < 18446744073709551616) : Wm (setG ws g u) := by
  unfold setG fillW
  split
  · exact h.put _ fun v hv => by rw [List.eq_of_mem_replicate hv]; exact hu
  · exact h
def gapHd (z : Int) : Hd := ⟨if z = 1 then 2 else 3, 0, 0, z⟩
def gapW (z : Int) : Int := encW (gapH (if z = 1 then 2 else 3) z)
theorem gapHd_can {z : Int} (h1 : 1 ≤ z) (h2 : z ≤ 16777215) : (gapHd z).can := by
  refine ⟨⟨h1, h2, (by decide : (0 : Int) ≤ 0), (by decide : (0 : Int) ≤ 16777215)⟩, .inr ⟨?_, rfl, rfl⟩⟩
  unfold gapHd
  by_cases e : z = 1
  · simp [e]
  · simp [e]
theorem gapW_eq {z : Int} (h1 : 1 ≤ z) (h2 : z ≤ 16777215) : gapW z = wordI (gapHd z) := by
  have hc := gapHd_can h1 h2
  unfold gapW
  unfold gapHd at hc ⊢
  rw [gap_yes hc, encW_yes hc]
theorem gapHd_tg (z : Int) : (gapHd z).tg ≠ 1 := by
  unfold gapHd
  by_cases e : z = 1 <;> simp [e]
theorem gapHd_neat (g z : Int) : Neat ⟨g, gapHd z⟩ := by
  intro _
  unfold gapHd
  by_cases e : z = 1 <;> simp [e]
theorem gap_fits (l : List Ty) {h : Hd} (hc : h.can) (ht : h.tg ≠ 1) : fitL l h = 0 := by
  unfold fitL fitE
  rw [if_neg (fun k => k hc), if_pos ht]
theorem encW_range (h : Hd) : 0 ≤ encW h ∧ encW h < 18446744073709551616 := by
  unfold encW
  split
  · rename_i hc
    have := Hd.word_range hc
    omega
  · decide
theorem gapW_range (z : Int) : 0 ≤ gapW z ∧ gapW z < 18446744073709551616 := encW_range _
def gapL (f e : Int) : List Cel := if f < e then [⟨f, gapHd (e - f)⟩] else []
def gapS (ws : List Int) (f e : Int) : List Int := if f < e then setG ws f (gapW (e - f)) else ws
theorem gapS_length (ws : List Int) (f e : Int) : (gapS ws f e).length = ws.length := by unfold gapS; split <;> first | exact setG_length _ _ _ | rfl
theorem gapS_at {ws : List Int} {f e b : Int} (h0 : 0 ≤ f) (he : e ≤ (ws.length : Int) / 2) (hb : 0 ≤ b) (hn : b ≠ f ∨ e ≤ f) : atG (gapS ws f e) b = atG ws b := by
  unfold gapS
  split
  · rw [atG_set _ _ _ _ h0 (by omega) hb, if_neg (by omega)]
  · rfl
theorem gap_tiled {ws : List Int} {l : List Ty} {f e : Int} (h0 : 0 ≤ f) (hf : f ≤ e) (he : e ≤ (ws.length : Int) / 2) (hs : ws.length ≤ 65536) : Tiled (gapS ws f e) l f (gapL f e) e := by
  unfold gapS gapL
  by_cases h : f < e
  · rw [if_pos h, if_pos h]
    refine ⟨rfl, gapHd_can (by omega) (by omega), ?_, gap_fits l (gapHd_can (by omega) (by omega)) (gapHd_tg _), ?_⟩
    · rw [atG_set _ _ _ _ h0 (by omega) h0, if_pos rfl, gapW_eq (by omega) (by omega)]
    · show f + (e - f) = e
      omega
  · rw [if_neg h, if_neg h]
    show f = e
    omega
/-- The objects stand there, in order. -/
def Standing (ws : List Int) (l : List Ty) : Int → List Cel → Int → Prop
  | f, [], e => f ≤ e
  | f, c :: cs, e => f ≤ c.a ∧ c.h.can ∧ atG ws c.a = wordI c.h ∧ fitL l c.h = 0 ∧ c.h.tg = 1 ∧ Standing ws l (c.a + c.h.sz) cs e
theorem Standing.le {ws : List Int} {l : List Ty} : ∀ {cs : List Cel} {f e : Int}, Standing ws l f cs e → f ≤ e
  | [], _, _, h => h
  | c :: cs, f, e, h => by
    have := Standing.le h.2.2.2.2.2
    have := can_sz h.2.1
    have := h.1
    omega
theorem Standing.mem {ws : List Int} {l : List Ty} : ∀ {cs : List Cel} {f e : Int}, Standing ws l f cs e → ∀ c ∈ cs, f ≤ c.a ∧ c.a + c.h.sz ≤ e ∧ c.h.can ∧ c.h.tg = 1
  | [], _, _, _, c, hc => by cases hc
  | d :: ds, f, e, h, c, hc => by
    have hs := can_sz h.2.1
    have hl := Standing.le h.2.2.2.2.2
    have h1 := h.1
    rcases List.mem_cons.1 hc with rfl | hc
    · exact ⟨by omega, by omega, h.2.1, h.2.2.2.2.1⟩
    · obtain ⟨a, b⟩ := Standing.mem h.2.2.2.2.2 c hc
      exact ⟨by omega, b⟩
theorem Standing.keep {ws ws' : List Int} {l : List Ty} : ∀ {cs : List Cel} {f e : Int}, Standing ws l f cs e → (∀ b, f ≤ b → atG ws' b = atG ws b) → Standing ws' l f cs e
  | [], _, _, h, _ => h
  | d :: ds, f, e, h, k => by
    have h1 := h.1
    have hs := can_sz h.2.1
    exact ⟨h.1, h.2.1, by rw [k _ h1]; exact h.2.2.1, h.2.2.2.1, h.2.2.2.2.1, h.2.2.2.2.2.keep fun b hb => k b (by omega)⟩
/-- The words behind the laying of gaps between objects; the cells. -/
def becomeW (ws : List Int) : Int → List Cel → Int → List Int
  | f, [], e => gapS ws f e
  | f, c :: cs, e => becomeW (gapS ws f c.a) (c.a + c.h.sz) cs e
def becomeL : Int → List Cel → Int → List Cel
  | f, [], e => gapL f e
  | f, c :: cs, e => gapL f c.a ++ c :: becomeL (c.a + c.h.sz) cs e
theorem becomeW_length : ∀ (cs : List Cel) (ws : List Int) (f e : Int), (becomeW ws f cs e).length = ws.length
  | [], ws, f, e => gapS_length _ _ _
  | c :: cs, ws, f, e => (becomeW_length cs _ _ _).trans (gapS_length _ _ _)
theorem become_tiled {l : List Ty} {e : Int} : ∀ (cs : List Cel) (ws : List Int) (f : Int), 0 ≤ f → e ≤ (ws.length : Int) / 2 → ws.length ≤ 65536 → Standing ws l f cs e →
    Tiled (becomeW ws f cs e) l f (becomeL f cs e) e ∧ ∀ b, 0 ≤ b → (b < f ∨ e ≤ b) → atG (becomeW ws f cs e) b = atG ws b
  | [], ws, f, h0, he, hs, h => ⟨gap_tiled h0 h he hs, fun b hb hn => gapS_at h0 he hb (by omega)⟩
  | c :: cs, ws, f, h0, he, hs, h => by
    have hsz := can_sz h.2.1
    have hle := Standing.le h.2.2.2.2.2
    have h1 := h.1
    have hlen := gapS_length ws f c.a
    have hk : ∀ b, f < b → atG (gapS ws f c.a) b = atG ws b := fun b hb => gapS_at h0 (by omega) (by omega) (by omega)
    obtain ⟨i1, i2⟩ := become_tiled cs (gapS ws f c.a) (c.a + c.h.sz) (by omega) (by rw [hlen]; exact he) (by rw [hlen]; exact hs) (h.2.2.2.2.2.keep fun b hb => hk b (by omega))
    constructor
    · show Tiled (becomeW (gapS ws f c.a) (c.a + c.h.sz) cs e) l f (gapL f c.a ++ c :: becomeL (c.a + c.h.sz) cs e) e
      have ht := gap_tiled (l := l) h0 h1 (show c.a ≤ (ws.length : Int) / 2 by omega) hs
      refine Tiled.append (m := c.a) (ht.keep fun x hx => ?_) ⟨rfl, h.2.1, ?_, h.2.2.2.1, i1⟩
      · obtain ⟨a1, a2, a3, _⟩ := ht.mem x hx
        have := can_sz a3
        exact i2 _ (by omega) (by omega)
      · rw [i2 _ (by omega) (by omega), gapS_at h0 (by omega) (by omega) (by omega)]
        exact h.2.2.1
    · intro b hb hn
      show atG (becomeW (gapS ws f c.a) (c.a + c.h.sz) cs e) b = _
      rw [i2 b hb (by omega), gapS_at h0 (by omega) hb (by omega)]

/-- The objects among cells. -/
def objs (cs : List Cel) : List Cel := cs.filter (fun c => decide (c.h.tg = 1))
theorem objs_append (a b : List Cel) : objs (a ++ b) = objs a ++ objs b := List.filter_append ..
theorem objs_mem {cs : List Cel} {c : Cel} : c ∈ objs cs ↔ c ∈ cs ∧ c.h.tg = 1 := by unfold objs; rw [List.mem_filter, decide_eq_true_iff]
theorem objs_gapL (f e : Int) : objs (gapL f e) = [] := by
  unfold gapL
  split
  · unfold objs
    rw [List.filter_cons_of_neg (by simpa using gapHd_tg _)]
    rfl
  · rfl
theorem objs_becomeL : ∀ (cs : List Cel) (f e : Int), (∀ c ∈ cs, c.h.tg = 1) → objs (becomeL f cs e) = cs
  | [], f, e, _ => objs_gapL f e
  | c :: cs, f, e, h => by
    show objs (gapL f c.a ++ c :: becomeL (c.a + c.h.sz) cs e) = _
    rw [objs_append, objs_gapL, List.nil_append]
    unfold objs
    rw [List.filter_cons_of_pos (by simpa using h c List.mem_cons_self)]
    exact congrArg _ (objs_becomeL cs _ _ fun x hx => h x (List.mem_cons_of_mem _ hx))
theorem neat_gapL (f e : Int) : ∀ c ∈ gapL f e, Neat c := by
  unfold gapL
  split
  · intro c hc
    rw [List.mem_singleton.1 hc]
    exact gapHd_neat _ _
  · intro c hc; cases hc
theorem neat_becomeL : ∀ (cs : List Cel) (f e : Int), (∀ c ∈ cs, c.h.tg = 1) → ∀ c ∈ becomeL f cs e, Neat c
  | [], f, e, _ => neat_gapL f e
  | d :: cs, f, e, h => by
    intro c hc
    rcases List.mem_append.1 hc with hc | hc
    · exact neat_gapL _ _ c hc
    · rcases List.mem_cons.1 hc with rfl | hc
      · intro hn; exact absurd (h c List.mem_cons_self) hn
      · exact neat_becomeL cs _ _ (fun x hx => h x (List.mem_cons_of_mem _ hx)) c hc
end Go.Proofs.YtoagghileebokaaGreatDoor.Sp

/-
  The bits that tell where objects begin: what setting and clearing makes of them, and what is found by them.
-/
namespace Go.Proofs.YtoagghileebokaaGreatDoor.Sp
open Go.RowKit Go.Proofs.YtoagghileebokaaGreatDoor.Ar Go.Proofs.YtoagghileebokaaGreatDoor.Sh
open Go.Proofs.YtoagghileebokaaGreatDoor.Hd (Hd)
open Go.Proofs.YtoagghileebokaaGreatDoor.Bt (bit laid laid_bit laid_length layB layB_length prevO nextO prevV prevV_hit prevV_none nextV nextV_hit nextV_none atI)
set_option linter.unusedVariables false

/-- The bits tell where these objects begin. -/
def Agree (bs : List Bool) (os : List Cel) : Prop := ∀ i : Nat, bit bs i = true ↔ ∃ c ∈ os, c.a = (i : Int)
theorem bit_lt {bs : List Bool} {i : Nat} (h : bit bs i = true) : i < bs.length := by
  rcases Nat.lt_or_ge i bs.length with k | k
  · exact k
  · rw [Bt.bit_out _ _ k] at h; cases h
theorem bit_none (n i : Nat) : bit (List.replicate n false) i = false := by
  unfold bit
  rw [List.getD, List.getElem?_replicate]
  split <;> rfl
theorem agree_none (n : Nat) : Agree (List.replicate n false) [] := fun i => by
  rw [bit_none]
  constructor
  · intro h; cases h
  · rintro ⟨c, hc, _⟩; cases hc
theorem layB_bit (bs : List Bool) (i n : Int) (st : Bool) (h0 : 0 ≤ i) (hn : 0 ≤ n) (h1 : i + n ≤ bs.length) (j : Nat) : bit (layB bs i n st) j = if i ≤ (j : Int) ∧ (j : Int) < i + n then st else bit bs j := by
  unfold layB
  rw [if_pos ((Bt.within_iff _ _ _).2 ⟨h0, hn, h1⟩)]
  by_cases hj : j < bs.length
  · rw [laid_bit _ _ _ _ _ hj]
    by_cases h : i ≤ (j : Int) ∧ (j : Int) < i + n
    · rw [if_pos h, if_pos (by omega)]
    · rw [if_neg h, if_neg (by omega)]
  · rw [Bt.bit_out _ _ (by rw [laid_length]; omega), Bt.bit_out _ _ (by omega), if_neg (by omega)]
/-- The bits behind clearing a range and setting where objects begin. -/
def setAll (bs : List Bool) (cs : List Cel) : List Bool := cs.foldl (fun b c => layB b c.a 1 true) bs
def becomeB (bs : List Bool) (f : Int) (cs : List Cel) (e : Int) : List Bool := setAll (layB bs f (e - f) false) cs
theorem setAll_snoc (bs : List Bool) (cs : List Cel) (c : Cel) : setAll bs (cs ++ [c]) = layB (setAll bs cs) c.a 1 true := by unfold setAll; rw [List.foldl_append]; rfl
theorem setAll_length : ∀ (cs : List Cel) (bs : List Bool), (setAll bs cs).length = bs.length
  | [], bs => rfl
  | c :: cs, bs => (setAll_length cs _).trans (layB_length _ _ _ _)
theorem becomeB_length (bs : List Bool) (f : Int) (cs : List Cel) (e : Int) : (becomeB bs f cs e).length = bs.length := (setAll_length _ _).trans (layB_length _ _ _ _)
theorem setAll_bit : ∀ (cs : List Cel) (bs : List Bool), (∀ c ∈ cs, 0 ≤ c.a ∧ c.a < (bs.length : Int)) → ∀ j : Nat, bit (setAll bs cs) j = true ↔ bit bs j = true ∨ ∃ c ∈ cs, c.a = (j : Int)
  | [], bs, _, j => by
    constructor
    · exact fun h => .inl h
    · rintro (h | ⟨c, hc, _⟩)
      · exact h
      · cases hc
  | c :: cs, bs, h, j => by
    have hc := h c List.mem_cons_self
    have ih := setAll_bit cs (layB bs c.a 1 true) (fun d hd => by rw [layB_length]; exact h d (List.mem_cons_of_mem _ hd)) j
    show bit (setAll (layB bs c.a 1 true) cs) j = true ↔ _
    rw [ih, layB_bit _ _ _ _ hc.1 (by omega) (by omega)]
    by_cases e : c.a ≤ (j : Int) ∧ (j : Int) < c.a + 1
    · rw [if_pos e]
      exact ⟨fun _ => .inr ⟨c, List.mem_cons_self, by omega⟩, fun _ => .inl rfl⟩
    · rw [if_neg e]
      constructor
      · rintro (k | ⟨d, hd, k⟩)
        · exact .inl k
        · exact .inr ⟨d, List.mem_cons_of_mem _ hd, k⟩
      · rintro (k | ⟨d, hd, k⟩)
        · exact .inl k
        · rcases List.mem_cons.1 hd with rfl | hd
          · omega
          · exact .inr ⟨d, hd, k⟩
theorem become_agree {bs : List Bool} {a m b cs : List Cel} {f e : Int} (h : Agree bs (a ++ m ++ b)) (h0 : 0 ≤ f) (hf : f ≤ e) (he : e ≤ (bs.length : Int)) (ha : ∀ c ∈ a, c.a < f) (hm : ∀ c ∈ m, f ≤ c.a ∧ c.a < e) (hb : ∀ c ∈ b, e ≤ c.a) (hc : ∀ c ∈ cs, f ≤ c.a ∧ c.a < e) : Agree (becomeB bs f cs e) (a ++ cs ++ b) := by
  intro j
  unfold becomeB
  rw [setAll_bit _ _ (fun c k => by rw [layB_length]; have := hc c k; omega), layB_bit _ _ _ _ h0 (by omega) (by omega)]
  by_cases k : f ≤ (j : Int) ∧ (j : Int) < f + (e - f)
  · rw [if_pos k]
    constructor
    · rintro (x | ⟨c, hx, hy⟩)
      · cases x
      · exact ⟨c, by simp [hx], hy⟩
    · rintro ⟨c, hx, hy⟩
      simp only [List.mem_append] at hx
      rcases hx with (hx | hx) | hx
      · have := ha c hx; omega
      · exact .inr ⟨c, hx, hy⟩
      · have := hb c hx; omega
  · rw [if_neg k, h j]
    constructor
    · rintro (⟨c, hx, hy⟩ | ⟨c, hx, hy⟩)
      · simp only [List.mem_append] at hx
        rcases hx with (hx | hx) | hx
        · exact ⟨c, by simp [hx], hy⟩
        · have := hm c hx; omega
        · exact ⟨c, by simp [hx], hy⟩
      · have := hc c hx; omega
    · rintro ⟨c, hx, hy⟩
      simp only [List.mem_append] at hx
      rcases hx with (hx | hx) | hx
      · exact .inl ⟨c, by simp [hx], hy⟩
      · have := hc c hx; omega
      · exact .inl ⟨c, by simp [hx], hy⟩

/-! ### What is found -/
theorem prevV_some {f : Nat → Bool} : ∀ {k x : Nat}, prevV f k = some x → x < k ∧ f x = true ∧ ∀ j, x < j → j < k → f j = false
  | 0, x, h => by cases h
  | k + 1, x, h => by
    have h' : (if f k then some k else prevV f k) = some x := h
    cases hs : f k with
    | true =>
      rw [hs, if_pos rfl] at h'
      injection h' with h'
      subst h'
      exact ⟨by omega, hs, fun j h1 h2 => by omega⟩
    | false =>
      rw [hs, if_neg (by decide)] at h'
      obtain ⟨a, b, c⟩ := prevV_some h'
      refine ⟨by omega, b, fun j h1 h2 => ?_⟩
      by_cases e : j = k
      · rw [e]; exact hs
      · exact c j h1 (by omega)
theorem prevV_no {f : Nat → Bool} : ∀ {k : Nat}, prevV f k = none → ∀ j, j < k → f j = false
  | 0, _, j, h => by omega
  | k + 1, h, j, hj => by
    have h' : (if f k then some k else prevV f k) = none := h
    cases hs : f k with
    | true => rw [hs, if_pos rfl] at h'; cases h'
    | false =>
      rw [hs, if_neg (by decide)] at h'
      by_cases e : j = k
      · rw [e]; exact hs
      · exact prevV_no h' j (by omega)
/-- The last object that begins at g or below: there is one, or none. -/
theorem prevO_some {bs : List Bool} {g : Int} {x : Nat} (h : prevO bs g = some x) : (x : Int) ≤ g ∧ bit bs x = true ∧ ∀ j : Nat, x < j → (j : Int) ≤ g → bit bs j = false := by
  unfold prevO at h
  obtain ⟨a, b, c⟩ := prevV_some h
  have := bit_lt b
  refine ⟨by omega, b, fun j h1 h2 => ?_⟩
  rcases Nat.lt_or_ge j bs.length with k | k
  · exact c j h1 (by omega)
  · exact Bt.bit_out _ _ k
theorem prevO_none {bs : List Bool} {g : Int} (h : prevO bs g = none) : ∀ j : Nat, (j : Int) ≤ g → bit bs j = false := by
  unfold prevO at h
  intro j hj
  rcases Nat.lt_or_ge j bs.length with k | k
  · exact prevV_no h j (by omega)
  · exact Bt.bit_out _ _ k
theorem nextO_some {bs : List Bool} {g : Int} {x : Nat} (h0 : 0 ≤ g) (h : nextO bs g true = some x) : g ≤ (x : Int) ∧ bit bs x = true ∧ ∀ j : Nat, g ≤ (j : Int) → j < x → bit bs j = false := by
  unfold nextO at h
  obtain ⟨a, b, c, d⟩ := Bt.nextV_some h
  refine ⟨by omega, by simpa using c, fun j h1 h2 => ?_⟩
  have := d j (by omega) h2
  simpa using this
theorem nextO_none {bs : List Bool} {g : Int} (h0 : 0 ≤ g) (h : nextO bs g true = none) : ∀ j : Nat, g ≤ (j : Int) → bit bs j = false := by
  unfold nextO at h
  intro j hj
  rcases Nat.lt_or_ge j bs.length with k | k
  · have := Bt.nextV_no h j (by omega) (by omega)
    simpa using this
  · exact Bt.bit_out _ _ k
theorem prevO_bound (bs : List Bool) (g : Int) : 0 ≤ atI (prevO bs g) ∧ atI (prevO bs g) ≤ bs.length := by
  cases h : prevO bs g with
  | none => exact ⟨Int.le_refl _, by show (0 : Int) ≤ _; omega⟩
  | some x =>
    have := bit_lt (prevO_some h).2.1
    show 0 ≤ ((x : Nat) : Int) ∧ ((x : Nat) : Int) ≤ _
    omega
end Go.Proofs.YtoagghileebokaaGreatDoor.Sp
