/-
  Several texts in one: SpKeep, SpGap, SpOps, SpPut.
-/
import Derived.Test.YtagmmbkgjomdlaaGreatDoorG21
import Derived.Test.YtagmmbkgjomdlaaGreatDoorG20
import Derived.Lib.QuietBelowIn
import Derived.Shelf.RegionOpen
import Derived.Sort.CutIn
import Derived.Test.YtagmmbkgjomdlaaGreatDoorG22
import Derived.Lib.QuietBelow
import Derived.Deep.RegionWith
/-
  What a space is, in numbers: cells one behind the other, starts that tell its objects; and that laying objects anew in a range of cells keeps it so.
-/
namespace Go.Proofs.YtagmmbkgjomdlaaGreatDoor.Sp
open Go.RowKit Go.Proofs.YtagmmbkgjomdlaaGreatDoor.Ar Go.Proofs.YtagmmbkgjomdlaaGreatDoor.Sh
open Go.Proofs.YtagmmbkgjomdlaaGreatDoor.Hd (Hd fitL wordI ofL of_facts can_obj encW_yes encW)
open Go.Proofs.YtagmmbkgjomdlaaGreatDoor.Tb (Ty sizeE)
open Go.Proofs.YtagmmbkgjomdlaaGreatDoor.Bt (bit atI prevO nextO hasV)
set_option linter.unusedVariables false

structure Snd (ws : List Int) (l : List Ty) (bs : List Bool) (cs : List Cel) : Prop where
  tiled : Tiled ws l 0 cs (gran ws)
  agree : Agree bs (objs cs)
  len : (bs.length : Int) = gran ws
  neat : ∀ c ∈ cs, Neat c
  short : ws.length ≤ 65536
theorem Snd.scans {ws : List Int} {l : List Ty} {bs : List Bool} {cs : List Cel} (h : Snd ws l bs cs) : Scans ws l 0 cs := h.tiled.scans (Int.le_refl _)
theorem gran_eq {ws ws' : List Int} (h : ws'.length = ws.length) : gran ws' = gran ws := by unfold gran; rw [h]
/-- A range of cells is laid anew. -/
theorem Snd.replace {ws ws1 : List Int} {l : List Ty} {bs : List Bool} {P M Q os : List Cel} {f e : Int} (h : Snd ws l bs (P ++ M ++ Q)) (hP : Tiled ws l 0 P f) (hM : Tiled ws l f M e) (hQ : Tiled ws l e Q (gran ws))
    (hlen : ws1.length = ws.length) (hk : ∀ b, 0 ≤ b → (b < f ∨ e ≤ b) → atG ws1 b = atG ws b) (hs : Standing ws1 l f os e) :
    Snd (becomeW ws1 f os e) l (becomeB bs f os e) (P ++ becomeL f os e ++ Q) := by
  have hf := hP.le
  have hfe := hM.le
  have he := hQ.le
  have hg1 : gran ws1 = gran ws := gran_eq hlen
  obtain ⟨t1, t2⟩ := become_tiled os ws1 f hf (show e ≤ gran ws1 by omega) (by rw [hlen]; exact h.short) hs
  have htg : ∀ c ∈ os, c.h.tg = 1 := fun c hc => (hs.mem c hc).2.2.2
  have hwl : (becomeW ws1 f os e).length = ws.length := (becomeW_length _ _ _ _).trans hlen
  refine ⟨?_, ?_, ?_, ?_, by rw [hwl]; exact h.short⟩
  · rw [gran_eq hwl]
    refine ((hP.keep fun c hc => ?_).append t1).append (hQ.keep fun c hc => ?_)
    · obtain ⟨a1, a2, a3, _⟩ := hP.mem c hc
      have := can_sz a3
      rw [t2 _ (by omega) (.inl (by omega)), hk _ (by omega) (.inl (by omega))]
    · obtain ⟨a1, a2, a3, _⟩ := hQ.mem c hc
      rw [t2 _ (by omega) (.inr (by omega)), hk _ (by omega) (.inr (by omega))]
  · rw [objs_append, objs_append, objs_becomeL _ _ _ htg]
    have ha := h.agree
    rw [objs_append, objs_append] at ha
    refine become_agree ha hf hfe (by have := h.len; omega) (fun c hc => ?_) (fun c hc => ?_) (fun c hc => ?_) (fun c hc => ?_)
    · obtain ⟨a1, a2, a3, _⟩ := hP.mem c (objs_mem.1 hc).1
      have := can_sz a3
      omega
    · obtain ⟨a1, a2, a3, _⟩ := hM.mem c (objs_mem.1 hc).1
      have := can_sz a3
      omega
    · exact (hQ.mem c (objs_mem.1 hc).1).1
    · obtain ⟨a1, a2, a3, _⟩ := hs.mem c hc
      have := can_sz a3
      omega
  · rw [becomeB_length, gran_eq hwl]; exact h.len
  · intro c hc
    rcases List.mem_append.1 hc with hc | hc
    · rcases List.mem_append.1 hc with hc | hc
      · exact h.neat c (by simp [hc])
      · exact neat_becomeL _ _ _ htg c hc
    · exact h.neat c (by simp [hc])
/-- Where a number begins an object of the space. -/
theorem Snd.at {ws : List Int} {l : List Ty} {bs : List Bool} {cs : List Cel} (h : Snd ws l bs cs) {i : Nat} (hi : bit bs i = true) : ∃ A c B, cs = A ++ c :: B ∧ c.a = (i : Int) ∧ c.h.tg = 1 ∧ Tiled ws l 0 A (i : Int) ∧ Tiled ws l (i : Int) (c :: B) (gran ws) := by
  obtain ⟨c, hc, hci⟩ := (h.agree i).1 hi
  obtain ⟨h1, h2⟩ := objs_mem.1 hc
  obtain ⟨A, B, rfl⟩ := List.append_of_mem h1
  obtain ⟨m, t1, t2⟩ := Tiled.split h.tiled
  have : m = (i : Int) := by rw [← hci]; exact t2.1.symm
  subst this
  exact ⟨A, c, B, rfl, hci, h2, t1, t2⟩
/-- The scan from the last object that begins at a granule or below it. -/
theorem Snd.from {ws : List Int} {l : List Ty} {bs : List Bool} {cs : List Cel} (h : Snd ws l bs cs) (g : Int) (g0 : 0 ≤ g) : ∃ A S, cs = A ++ S ∧ Tiled ws l (atI (prevO bs g)) S (gran ws) ∧ 0 ≤ atI (prevO bs g) ∧ atI (prevO bs g) ≤ g := by
  cases ho : prevO bs g with
  | none => exact ⟨[], cs, rfl, h.tiled, Int.le_refl _, g0⟩
  | some x =>
    obtain ⟨h1, h2, _⟩ := prevO_some ho
    obtain ⟨A, c, B, e1, _, _, _, e5⟩ := h.at h2
    exact ⟨A, c :: B, e1, e5, by show (0 : Int) ≤ ((x : Nat) : Int); omega, h1⟩
/-- The cell that gap finds. -/
theorem Snd.gap {ws : List Int} {l : List Ty} {bs : List Bool} {cs : List Cel} (h : Snd ws l bs cs) (g : Int) (g0 : 0 ≤ g) (g1 : g < gran ws) :
    ∃ S, Scans ws l (atI (prevO bs g)) S ∧ ∃ P x Q, cs = P ++ x :: Q ∧ x.a ≤ g ∧ g < x.a + x.h.sz ∧ S.find? (fun c => decide (g < c.a + c.h.sz)) = some x := by
  obtain ⟨A, S, e1, e2, e3, e4⟩ := h.from g g0
  obtain ⟨A', x, B, f1, f2, f3, f4⟩ := Tiled.find g e2 e4 g1
  exact ⟨S, e2.scans e3, A ++ A', x, B, by rw [e1, f1, List.append_assoc], f2, f3, f4⟩

/-! ### Drop -/
theorem split_left : ∀ (A : List Cel), ∃ A1 A2, A = A1 ++ A2 ∧ (∀ c ∈ A2, c.h.tg ≠ 1) ∧ (A1 = [] ∨ ∃ A0 p, A1 = A0 ++ [p] ∧ p.h.tg = 1)
  | [] => ⟨[], [], rfl, (fun c hc => by cases hc), .inl rfl⟩
  | a :: A => by
    obtain ⟨A1, A2, e, h1, h2⟩ := split_left A
    rcases h2 with rfl | ⟨A0, p, rfl, hp⟩
    · by_cases ha : a.h.tg = 1
      · exact ⟨[a], A2, by rw [e]; rfl, h1, .inr ⟨[], a, rfl, ha⟩⟩
      · refine ⟨[], a :: A2, by rw [e]; rfl, fun c hc => ?_, .inl rfl⟩
        rcases List.mem_cons.1 hc with rfl | hc
        · exact ha
        · exact h1 c hc
    · exact ⟨a :: (A0 ++ [p]), A2, by rw [e]; rfl, h1, .inr ⟨a :: A0, p, rfl, hp⟩⟩
theorem split_right : ∀ (B : List Cel), ∃ B1 B2, B = B1 ++ B2 ∧ (∀ c ∈ B1, c.h.tg ≠ 1) ∧ (B2 = [] ∨ ∃ p B0, B2 = p :: B0 ∧ p.h.tg = 1)
  | [] => ⟨[], [], rfl, (fun c hc => by cases hc), .inl rfl⟩
  | b :: B => by
    by_cases hb : b.h.tg = 1
    · exact ⟨[], b :: B, rfl, (fun c hc => by cases hc), .inr ⟨b, B, rfl, hb⟩⟩
    · obtain ⟨B1, B2, e, h1, h2⟩ := split_right B
      refine ⟨b :: B1, B2, by rw [e]; rfl, fun c hc => ?_, h2⟩
      rcases List.mem_cons.1 hc with rfl | hc
      · exact hb
      · exact h1 c hc
theorem objs_none {cs : List Cel} (h : ∀ c ∈ cs, c.h.tg ≠ 1) : objs cs = [] := by
  unfold objs
  rw [List.filter_eq_nil_iff]
  intro c hc
  simpa using h c hc
theorem objs_one {c : Cel} (h : c.h.tg = 1) : objs [c] = [c] := by unfold objs; rw [List.filter_cons_of_pos (by simpa using h)]; rfl
theorem Snd.drop {ws : List Int} {l : List Ty} {bs : List Bool} {cs : List Cel} (h : Snd ws l bs cs) {g : Nat} (hb : bit bs g = true) :
    ∃ P M Q c, cs = P ++ M ++ Q ∧ objs M = [c] ∧ c.a = (g : Int) ∧ Tiled ws l 0 P (prevEndV bs ws g) ∧ Tiled ws l (prevEndV bs ws g) M (nextStartV bs ws g) ∧ Tiled ws l (nextStartV bs ws g) Q (gran ws) := by
  obtain ⟨A, c, B, rfl, hc1, hc2, t1, t2⟩ := h.at hb
  obtain ⟨A1, A2, rfl, a1, a2⟩ := split_left A
  obtain ⟨B1, B2, rfl, b1, b2⟩ := split_right B
  have hcs := can_sz t2.2.1
  have t3 : Tiled ws l ((g : Int) + c.h.sz) (B1 ++ B2) (gran ws) := t2.2.2.2.2
  obtain ⟨m1, u1, u2⟩ := Tiled.split t1
  obtain ⟨m2, v1, v2⟩ := Tiled.split t3
  have hbl := bit_lt hb
  have hgl := h.len
  -- where objects begin
  have hobj : ∀ i : Nat, bit bs i = true ↔ ∃ d ∈ A1 ++ A2 ++ c :: (B1 ++ B2), d.h.tg = 1 ∧ d.a = (i : Int) := fun i => by
    rw [h.agree i]
    constructor
    · rintro ⟨d, hd, e⟩
      obtain ⟨x, y⟩ := objs_mem.1 hd
      exact ⟨d, x, y, e⟩
    · rintro ⟨d, hd, e, k⟩
      exact ⟨d, objs_mem.2 ⟨hd, e⟩, k⟩
  have hprev : prevEndV bs ws g = m1 := by
    unfold prevEndV
    rcases a2 with rfl | ⟨A0, p, rfl, hp⟩
    · have h0 : (0 : Int) = m1 := u1
      have hn : prevO bs ((g : Int) - 1) = none := by
        cases ho : prevO bs ((g : Int) - 1) with
        | none => rfl
        | some x =>
          exfalso
          obtain ⟨x1, x2, _⟩ := prevO_some ho
          obtain ⟨d, hd, d1, d2⟩ := (hobj x).1 x2
          simp only [List.nil_append, List.mem_append, List.mem_cons] at hd
          rcases hd with hd | rfl | hd | hd
          · exact a1 d hd d1
          · omega
          · have := (v1.mem d hd).1; omega
          · have := (v2.mem d hd).1; have := v1.le; omega
      rw [hn]
      exact h0
    · obtain ⟨m0, w1, w2⟩ := Tiled.split u1
      have hpa : p.a = m0 := w2.1
      have hps := can_sz w2.2.1
      have hpe : m0 + p.h.sz = m1 := w2.2.2.2.2
      have hu2 := u2.le
      have hm0 := w1.le
      have hpb : bit bs m0.toNat = true := (hobj m0.toNat).2 ⟨p, by simp, hp, by omega⟩
      have ho : prevO bs ((g : Int) - 1) = some m0.toNat := by
        cases ho : prevO bs ((g : Int) - 1) with
        | none => have := prevO_none ho m0.toNat (by omega); rw [this] at hpb; cases hpb
        | some x =>
          obtain ⟨x1, x2, x3⟩ := prevO_some ho
          obtain ⟨d, hd, d1, d2⟩ := (hobj x).1 x2
          have hge : m0.toNat ≤ x := by
            rcases Nat.lt_or_ge x m0.toNat with k | k
            · have := x3 m0.toNat k (by omega); rw [this] at hpb; cases hpb
            · exact k
          simp only [List.mem_append, List.mem_cons, List.not_mem_nil, or_false] at hd
          rcases hd with ((hd | rfl) | hd) | rfl | hd | hd
          · obtain ⟨y1, y2, y3, _⟩ := w1.mem d hd
            have := can_sz y3
            omega
          · rw [show m0.toNat = x by omega]
          · exact absurd d1 (a1 d hd)
          · omega
          · have := (v1.mem d hd).1; omega
          · have := (v2.mem d hd).1; have := v1.le; omega
      have hcell := (Tiled.cell u1 (Int.le_refl _) (show m1 ≤ (ws.length : Int) / 2 by have := u2.le; have : gran ws = (ws.length : Int) / 2 := rfl; omega) p (by simp)).2.1
      have hat : atI (some m0.toNat) = m0 := by show ((m0.toNat : Nat) : Int) = m0; omega
      rw [ho, hat, ← hpa, hcell, hpa]
      exact hpe
  have hnext : nextStartV bs ws g = m2 := by
    unfold nextStartV
    rcases b2 with rfl | ⟨p, B0, rfl, hp⟩
    · have h0 : m2 = gran ws := v2
      have hn : nextO bs ((g : Int) + 1) true = none := by
        cases ho : nextO bs ((g : Int) + 1) true with
        | none => rfl
        | some x =>
          exfalso
          obtain ⟨x1, x2, _⟩ := nextO_some (by omega) ho
          obtain ⟨d, hd, d1, d2⟩ := (hobj x).1 x2
          simp only [List.append_nil, List.mem_append, List.mem_cons] at hd
          rcases hd with (hd | hd) | rfl | hd
          · obtain ⟨y1, y2, y3, _⟩ := u1.mem d hd
            have := can_sz y3
            have := u2.le
            omega
          · obtain ⟨y1, y2, y3, _⟩ := u2.mem d hd
            have := can_sz y3
            omega
          · omega
          · exact b1 d hd d1
      rw [hn, h0]
      rfl
    · have hpa : p.a = m2 := v2.1
      have hps := can_sz v2.2.1
      have hv1 := v1.le
      have hpe := Tiled.le v2.2.2.2.2
      have hpb : bit bs m2.toNat = true := (hobj m2.toNat).2 ⟨p, by simp, hp, by omega⟩
      have ho : nextO bs ((g : Int) + 1) true = some m2.toNat := by
        cases ho : nextO bs ((g : Int) + 1) true with
        | none => have := nextO_none (by omega) ho m2.toNat (by omega); rw [this] at hpb; cases hpb
        | some x =>
          obtain ⟨x1, x2, x3⟩ := nextO_some (by omega) ho
          obtain ⟨d, hd, d1, d2⟩ := (hobj x).1 x2
          have hge : x ≤ m2.toNat := by
            rcases Nat.lt_or_ge m2.toNat x with k | k
            · have := x3 m2.toNat (by omega) k; rw [this] at hpb; cases hpb
            · exact k
          simp only [List.mem_append, List.mem_cons] at hd
          rcases hd with (hd | hd) | rfl | hd | rfl | hd
          · obtain ⟨y1, y2, y3, _⟩ := u1.mem d hd
            have := can_sz y3
            have := u2.le
            omega
          · obtain ⟨y1, y2, y3, _⟩ := u2.mem d hd
            have := can_sz y3
            omega
          · omega
          · exact absurd d1 (b1 d hd)
          · rw [show m2.toNat = x by omega]
          · have := (Tiled.mem v2.2.2.2.2 d hd).1
            omega
      have hat : atI (some m2.toNat) = m2 := by show ((m2.toNat : Nat) : Int) = m2; omega
      rw [ho]
      exact hat
  rw [hprev, hnext]
  refine ⟨A1, A2 ++ c :: B1, B2, c, by simp, ?_, hc1, u1, ?_, v2⟩
  · rw [objs_append, objs_none a1, List.nil_append, show c :: B1 = [c] ++ B1 from rfl, objs_append, objs_none b1, List.append_nil, objs_one hc2]
  · exact u2.append ⟨hc1, t2.2.1, t2.2.2.1, t2.2.2.2.1, v1⟩

/-! ### Put -/
theorem putW_other (ws : List Int) (i k : Nat) (u : List Int) (h : i + u.length ≤ ws.length) (hk : k < i ∨ i + u.length ≤ k) : (putW ws i u).getD k 0 = ws.getD k 0 := by
  have h1 : (ws.take i).length = i := by rw [List.length_take]; omega
  unfold putW
  rw [List.getD_eq_getElem?_getD, List.getD_eq_getElem?_getD]
  rcases hk with hk | hk
  · rw [List.getElem?_append_left (by omega), List.getElem?_take_of_lt hk]
  · rw [List.getElem?_append_right (by omega), h1, List.getElem?_append_right (by omega), List.getElem?_drop, show i + u.length + (k - i - u.length) = k by omega]
theorem make_zero {ws : List Int} {l : List Ty} {g i n : Int} (he : sizeE l i n = 0) (g0 : 0 ≤ g) (h : (ofL l i n).sz ≤ (ws.length : Int) / 2 - g) : makeE ws.length l g i n = 0 := by
  unfold makeE
  rw [if_neg (by simpa using he), (inG_iff _ _ _).2 ⟨g0, h⟩]
  rfl
theorem Snd.put {ws : List Int} {l : List Ty} {bs : List Bool} {P Q : List Cel} {x : Cel} (h : Snd ws l bs (P ++ x :: Q)) (hl : l.length ≤ 64) {g i n : Int} (he : sizeE l i n = 0) (hx : x.h.tg ≠ 1) (h1 : x.a ≤ g) (h2 : (ofL l i n).sz ≤ x.a + x.h.sz - g) :
    Snd (becomeW (makeW ws l g i n) x.a [⟨g, ofL l i n⟩] (x.a + x.h.sz)) l (becomeB bs x.a [⟨g, ofL l i n⟩] (x.a + x.h.sz)) (P ++ becomeL x.a [⟨g, ofL l i n⟩] (x.a + x.h.sz) ++ Q) := by
  obtain ⟨m, t1, t2⟩ := Tiled.split h.tiled
  have hm : x.a = m := t2.1
  subst hm
  have hP := t1.le
  have hQ := Tiled.le t2.2.2.2.2
  have hgr : gran ws = (ws.length : Int) / 2 := rfl
  have hmk := make_zero (ws := ws) (g := g) he (by omega) (by omega)
  obtain ⟨gn, sz, H⟩ := made_at hl hmk
  have hg := H.gEq
  have ho := H.head
  have hs1 := H.s1
  have hin := H.isin
  have hat := H.at
  have hcan := H.can
  rw [ho] at h2 ⊢
  simp only at h2
  have h0 : Snd ws l bs (P ++ [x] ++ Q) := by rw [List.append_assoc]; exact h
  refine h0.replace (ws1 := makeW ws l g i n) t1 ⟨rfl, t2.2.1, t2.2.2.1, t2.2.2.2.1, rfl⟩ t2.2.2.2.2 H.len (fun b hb hn => ?_) ⟨h1, hcan, hat, ?_, rfl, ?_⟩
  · unfold atG
    rw [H.words]
    refine putW_other _ _ _ _ ?_ ?_
    · simp only [List.length_cons, List.length_replicate]; omega
    · simp only [List.length_cons, List.length_replicate]; omega
  · exact Hd.fit_of ho he hcan
  · show g + sz ≤ x.a + x.h.sz
    omega
end Go.Proofs.YtagmmbkgjomdlaaGreatDoor.Sp

/-
  The contract of gap: the gap that has a granule, and whether there is one.
-/
namespace Go.Proofs.YtagmmbkgjomdlaaGreatDoor.Sp
open Go.RowKit Go.Proofs.YtagmmbkgjomdlaaGreatDoor.Ar Go.Proofs.YtagmmbkgjomdlaaGreatDoor.Sh Go.Proofs.YtagmmbkgjomdlaaGreatDoor.Lk Go.Shelf Go.Sort
open Go.Proofs.YtagmmbkgjomdlaaGreatDoor.Hd (Hd Fields)
open Go.Proofs.YtagmmbkgjomdlaaGreatDoor.Tb (Ty Tab)
open Go.Proofs.YtagmmbkgjomdlaaGreatDoor.Bt (Bv prevO prev_ok atI)
set_option linter.unusedVariables false
attribute [local go_sem] Oper.semAt_some

/-- What is found: the first cell that ends behind a granule. -/
def gapO (cs : List Cel) (g : Int) : Option Cel := cs.find? (fun c => decide (g < c.a + c.h.sz))
def gapC (o : Option Cel) : Cel := o.getD Cel.zero
def gapB (o : Option Cel) : Bool := match o with | some c => c.h.tg != 1 | none => false
theorem gapO_none {cs : List Cel} {g : Int} (h : ∀ c ∈ cs, ¬ g < c.a + c.h.sz) : gapO cs g = none := by
  unfold gapO
  rw [List.find?_eq_none]
  intro c hc
  simpa using h c hc
theorem gapO_some {ys rest : List Cel} {x : Cel} {g : Int} (h : ∀ c ∈ ys, ¬ g < c.a + c.h.sz) (hx : g < x.a + x.h.sz) : gapO (ys ++ [x] ++ rest) g = some x := by
  unfold gapO
  rw [List.append_assoc, List.find?_append, List.find?_eq_none.2 (fun c hc => by simpa using h c hc)]
  simp [hx]
/-- What the result's two boxes hold behind the stores. -/
theorem stored {W W6 : World} {b : Nat} {xa xt xy xl xz : Int} {ib : Bool} (h1 : Has W6 (b + 1) 78 [.int .i64 0, .int .u8 0, .int .i64 0, .int .i64 0, .int .i64 0]) (h2 : Has W6 (b + 1 + 1) 4 [.bool false]) (k : Kept [] W W6) :
    Has ((((((W6.setCell ⟨b + 1, 0, none⟩ (.int .i64 xa)).setCell ⟨b + 1, 1, none⟩ (.int .u8 xt)).setCell ⟨b + 1, 2, none⟩ (.int .i64 xy)).setCell ⟨b + 1, 3, none⟩ (.int .i64 xl)).setCell ⟨b + 1, 4, none⟩ (.int .i64 xz)).setCell ⟨b + 1 + 1, 0, none⟩ (.bool ib)).drew (b + 1) 78 [.int .i64 xa, .int .u8 xt, .int .i64 xy, .int .i64 xl, .int .i64 xz] ∧
    Has ((((((W6.setCell ⟨b + 1, 0, none⟩ (.int .i64 xa)).setCell ⟨b + 1, 1, none⟩ (.int .u8 xt)).setCell ⟨b + 1, 2, none⟩ (.int .i64 xy)).setCell ⟨b + 1, 3, none⟩ (.int .i64 xl)).setCell ⟨b + 1, 4, none⟩ (.int .i64 xz)).setCell ⟨b + 1 + 1, 0, none⟩ (.bool ib)).drew (b + 1 + 1) 4 [.bool ib] ∧
    Kept [b + 1, b + 1 + 1] W ((((((W6.setCell ⟨b + 1, 0, none⟩ (.int .i64 xa)).setCell ⟨b + 1, 1, none⟩ (.int .u8 xt)).setCell ⟨b + 1, 2, none⟩ (.int .i64 xy)).setCell ⟨b + 1, 3, none⟩ (.int .i64 xl)).setCell ⟨b + 1, 4, none⟩ (.int .i64 xz)).setCell ⟨b + 1 + 1, 0, none⟩ (.bool ib)).drew := by
  refine ⟨Has.drew ((put5_has h1 _ _ _ _ _).beside _ (by simp) _), Has.drew ?_, Kept.drew ((put5_kept (k.none _) (.inl (by simp)) _ _ _ _ _).setCell _ _ (.inl (by simp)))⟩
  exact Has.put (((((h2.beside _ (by simp) _).beside _ (by simp) _).beside _ (by simp) _).beside _ (by simp) _).beside _ (by simp) _) 0 _
set_option maxRecDepth 100000 in
set_option maxHeartbeats 4000000 in
theorem gap_ok {w : World} {s : Ids} {l : List Ty} {ws : List Int} {bs : List Bool} (hF : Fields w) (hS : Spc w s l ws bs) (g : Int) (g0 : -9223372036854775808 ≤ g) (g1 : g ≤ 9223372036854775807) (cs : List Cel) (hC : Scans ws l (atI (prevO bs g)) cs) :
    Calls Tryz.prog 71 #[.pointer (some ⟨s.sp, 0, none⟩), .int .i64 g] w fun e w' => e = .returned (.tuple #[(gapC (gapO cs g)).val, .bool (gapB (gapO cs g))]) ∧ Kept [] w w' := by
  have hpb := prevO_bound bs g
  have hfew := hS.few
  have hsh := hS.short
  have HF := Lib.hid hF
  have HS := Lib.hid hS
  have HC := Lib.hid hC
  have HP := Lib.hid (fun y (k : Kept [] w y) => prev_ok bs _ _ y (hS.keep0 k).bv g g0 g1)
  clear hF hS hC
  obtain ⟨a, ha⟩ : ∃ a, atI (prevO bs g) = a := ⟨_, rfl⟩
  rw [ha] at HC HP hpb
  clear ha
  generalize (prevO bs g).isSome = ib at *
  obtain ⟨o, ho⟩ : ∃ o, gapO cs g = o := ⟨_, rfl⟩
  rw [ho]
  have HO := Lib.hid ho
  clear ho
  refine (callsIn_wide (n := 5)).1 ?_
  refine callsIn_of_wp_marks Tryz.func71 rfl trivial ?_ rfl
  simp only [Tryz.ntmps71, List.size_toArray, List.length_cons, List.length_nil, Nat.reduceAdd, Nat.reduceSub, Array.replicate_succ, Array.replicate_zero, List.push_toArray, List.append_toArray, List.nil_append, List.cons_append]
  gi_wp2_with (fail)
  have hk3 : Kept [] w (((w.alloc (.cells #[.int .i64 g] 3)).alloc (.cells #[.int .i64 0, .int .u8 0, .int .i64 0, .int .i64 0, .int .i64 0] 78)).alloc (.cells #[.bool false] 4)) := (((Kept.refl [] w).alloc _).alloc _).alloc _
  have hc3 := ((Has.new w 3 [.int .i64 g]).alloc (.cells #[.int .i64 0, .int .u8 0, .int .i64 0, .int .i64 0, .int .i64 0] 78)).alloc (.cells #[.bool false] 4)
  have hc4 := (Has.new (w.alloc (.cells #[.int .i64 g] 3)) 78 [.int .i64 0, .int .u8 0, .int .i64 0, .int .i64 0, .int .i64 0]).alloc (.cells #[.bool false] 4)
  have hc5 := Has.new ((w.alloc (.cells #[.int .i64 g] 3)).alloc (.cells #[.int .i64 0, .int .u8 0, .int .i64 0, .int .i64 0, .int .i64 0] 78)) 4 [.bool false]
  simp only [World.size_alloc] at hc4 hc5
  have hz3 : (((w.alloc (.cells #[.int .i64 g] 3)).alloc (.cells #[.int .i64 0, .int .u8 0, .int .i64 0, .int .i64 0, .int .i64 0] 78)).alloc (.cells #[.bool false] 4)).heap.size = w.heap.size + 1 + 1 + 1 := by simp
  obtain ⟨w3, hw3⟩ : ∃ w3, (((w.alloc (.cells #[.int .i64 g] 3)).alloc (.cells #[.int .i64 0, .int .u8 0, .int .i64 0, .int .i64 0, .int .i64 0] 78)).alloc (.cells #[.bool false] 4)) = w3 := ⟨_, rfl⟩
  rw [hw3] at hk3 hz3 ⊢
  have hc3' : Has w3 w.heap.size 3 [.int .i64 g] := by rw [← hw3]; exact hc3
  have hc4' : Has w3 (w.heap.size + 1) 78 [.int .i64 0, .int .u8 0, .int .i64 0, .int .i64 0, .int .i64 0] := by rw [← hw3]; exact hc4
  have hc5' : Has w3 (w.heap.size + 1 + 1) 4 [.bool false] := by rw [← hw3]; exact hc5
  clear hc3 hc4 hc5 hw3
  have Hz3 := Lib.hid hz3
  have Hk3 := Lib.hid hk3
  have Hc3 := Lib.hid hc3'
  have Hc4 := Lib.hid hc4'
  have Hc5 := Lib.hid hc5'
  have q0 := cell_regrown (show w3.cell? ⟨w.heap.size, 0, none⟩ = some (.int .i64 g) from hc3'.cell 0)
  have q1 := cell_regrown (HS.out.keep0 hk3).cells.2.2
  have CP : Hid (∀ d os, CallsIn Fence.wide 4 Tryz.prog 114 #[.pointer (some ⟨s.bp, 0, none⟩), .int .i64 g] (grow (redrawn w3 d) os) fun e z => e = .returned (.tuple #[.int .i64 a, .bool ib]) ∧ ∃ p : Regrown, z = grow (redrawn w3 p.d) p.os) :=
    Lib.hid fun d os => CallsIn.regrown_of ((callsIn_wide.2 (HP.out _ (Hk3.out.trans (Kept.ofBelow (below_regrown w3 d os) [])))).mono fun _ _ ⟨he, hk⟩ => ⟨he, hk.below (Nat.le_refl _) (by simp)⟩)
  clear hz3 hk3 hc3' hc4' hc5' HP
  refine wpIn_region_quiet_below rfl (by kernel_rfl) (by kernel_rfl) ?_
  repeat (refine wpQuietIn_step (by first | (intros; trivial) | (go_simp; done) | (go_simp; trivial)) (fun K hK => ?_); go_simp; (first | (refine hK _ ?_; clear hK K) | (apply Exists.intro; refine ⟨fun _ => ?_, hK _ ?_⟩; exact CP.out _ _; clear hK K)))
  refine wpQuietIn_nil ?_
  rintro _ ⟨⟨dq, osq⟩, rfl⟩
  have hk4 := Kept.ofBelow (below_regrown w3 dq osq) []
  clear q0 q1 CP
  generalize grow (redrawn w3 dq) osq = w4 at hk4 ⊢
  have HLs := Lib.hid (fun y => cells_ok (some ⟨s.sp, 0, none⟩) a y)
  have Hk4 := Lib.hid (Hk3.out.trans hk4)
  have Hz4 := Lib.hid hk4.more
  have Hc34 := Lib.hid (Hc3.out.keep0 hk4)
  have Hc44 := Lib.hid (Hc4.out.keep0 hk4)
  have Hc54 := Lib.hid (Hc5.out.keep0 hk4)
  clear hk4 Hc3 Hc4 Hc5 Hk3
  gi_wp2_with (fail)
  refine ⟨trivial, (callsIn_wide.2 (HLs.out _)).mono ?_⟩
  rintro e5 w5 ⟨rfl, hw5⟩
  have hk5 : Kept [] w4 w5 := by rw [hw5]; exact ((Kept.refl [] w4).alloc _).alloc _
  have hb5 : Has w5 w4.heap.size 27 [.pointer (some ⟨s.sp, 0, none⟩)] := by rw [hw5]; exact (Has.new w4 _ _).alloc _
  have hg5 : Has w5 (w4.heap.size + 1) 3 [.int .i64 a] := by
    rw [hw5]
    have := Has.new (w4.alloc (.cells #[.pointer (some ⟨s.sp, 0, none⟩)] 27)) 3 [.int .i64 a]
    rwa [World.size_alloc] at this
  have Hk5 := Lib.hid (Hk4.out.trans hk5)
  have Hb5 := Lib.hid hb5
  have Hg5 := Lib.hid hg5
  have Hc35 := Lib.hid (Hc34.out.keep0 hk5)
  have Hc45 := Lib.hid (Hc44.out.keep0 hk5)
  have Hc55 := Lib.hid (Hc54.out.keep0 hk5)
  clear hk5 hb5 hg5 hw5 HLs Hc34 Hc44 Hc54
  generalize w4.heap.size = bb at *
  gi_wp2_with (fail)
  refine wpIn_rangeFunc_ownH rfl (by decide) (gf := 110) (lb := #[.pointer (some ⟨bb + 1, 0, none⟩), .pointer (some ⟨bb, 0, none⟩)]) rfl trivial (enters_of Tryz.func110 (by kernel_rfl) rfl)
    (cells_stops 4 (by decide) (w.heap.size + 1 + 1) (bb + 1) bb s l ws bs a cs w5 Hg5.out (by omega) (by omega) Hb5.out (HF.out.keep0 Hk5.out) (HS.out.keep0 Hk5.out) HC.out Hc55.out (by decide) (by decide) rfl)
    (fun h k => h.trans k) (fun W l o o' hl h hc _ => Kpw.put Hc55.out.lt W l o o' hl h hc) (Below.refl _ _) (fun _ => rfl)
    (fun pre W => (∀ c ∈ vals pre, ¬ g < c.a + c.h.sz) ∧ Has W w.heap.size 3 [.int .i64 g] ∧ Has W (w.heap.size + 1) 78 [.int .i64 0, .int .u8 0, .int .i64 0, .int .i64 0, .int .i64 0] ∧ Has W (w.heap.size + 1 + 1) 4 [.bool false] ∧ Kept [] w W)
    (fun c pre W => (c = .ret ∧ ∃ ys x, pre = ys ++ [x] ∧ (∀ c ∈ vals ys, ¬ g < c.a + c.h.sz) ∧ g < x.1.a + x.1.h.sz ∧ Has W (w.heap.size + 1) 78 [.int .i64 x.1.a, .int .u8 x.1.h.tg, .int .i64 x.1.h.ty, .int .i64 x.1.h.ln, .int .i64 x.1.h.sz] ∧ Has W (w.heap.size + 1 + 1) 4 [.bool (x.1.h.tg != 1)]) ∧ Kept [] w W)
    (OwnFrom.and (ownFrom_pure _ _) (OwnFrom.and own_has (OwnFrom.and own_has (OwnFrom.and own_has (own_kept Hk5.out.more)))))
    (fun c => OwnFrom.and (fun pre X Y row hs hg hr => by
      obtain ⟨hc, ys, x, h1, h2, h3, h4, h5⟩ := hs
      exact ⟨hc, ys, x, h1, h2, h3, own_has (β := Unit) (f := fun _ => [.int .i64 x.1.a, .int .u8 x.1.h.tg, .int .i64 x.1.h.ty, .int .i64 x.1.h.ln, .int .i64 x.1.h.sz]) () X Y row h4 hg hr, own_has (β := Unit) (f := fun _ => [.bool (x.1.h.tg != 1)]) () X Y row h5 hg hr⟩) (own_kept Hk5.out.more))
    ⟨(by simp [vals]), Hc35.out, Hc45.out, Hc55.out, Hk5.out⟩
    (fun x a' W => ∃ Bx, Has W Bx 78 [.int .i64 x.1.a, .int .u8 x.1.h.tg, .int .i64 x.1.h.ty, .int .i64 x.1.h.ln, .int .i64 x.1.h.sz] ∧ Bx ≠ w.heap.size + 1 ∧ a' = { tmps := #[.pointer (some ⟨s.sp, 0, none⟩), .int .i64 g, undef, .pointer (some ⟨w.heap.size, 0, none⟩), .pointer (some ⟨w.heap.size + 1, 0, none⟩), .pointer (some ⟨w.heap.size + 1 + 1, 0, none⟩), .int .i64 a, .bool ib, .pointer (some ⟨Bx, 0, none⟩), .tuple #[.int .i64 a, .bool ib], .pointer (some ⟨s.sp, 0, none⟩), .pointer (some ⟨s.sp, 0, none⟩), .pointer (some ⟨s.sp, 2, none⟩), .pointer (some ⟨s.bp, 0, none⟩), .int .i64 g, .tuple #[.int .i64 a, .bool ib], .int .i64 a, .bool ib, .pointer (some ⟨s.sp, 0, none⟩), .int .i64 a, .func (.func 110) #[] #[.pointer (some ⟨bb + 1, 0, none⟩), .pointer (some ⟨bb, 0, none⟩)], .agg #[.int .i64 x.1.a, .int .u8 x.1.h.tg, .int .i64 x.1.h.ty, .int .i64 x.1.h.ln, .int .i64 x.1.h.sz], undef, undef, undef, undef, undef, undef, undef, undef, undef, undef], defers := [] })
    (fun x a' _ X Y row hs hg hr => by
      obtain ⟨Bx, h2, h3, h4⟩ := hs
      exact ⟨Bx, own_has (β := Unit) (f := fun _ => [.int .i64 x.1.a, .int .u8 x.1.h.tg, .int .i64 x.1.h.ty, .int .i64 x.1.h.ln, .int .i64 x.1.h.sz]) () X Y row h2 hg hr, h3, h4⟩)
    ?assign ?body ?done ?stop
  case assign =>
    rintro l pre x W K ⟨h1, h2, h3, h4, h5⟩ hK
    unfold encs
    have HK := Lib.hid hK
    have H1 := Lib.hid h1
    have H2 := Lib.hid h2
    have H3 := Lib.hid h3
    have H4 := Lib.hid h4
    have H5 := Lib.hid h5
    clear h1 h2 h3 h4 h5 hK
    gi_wp2
    have hkn : Kept [] W (W.alloc (.cells #[.int .i64 x.1.a, .int .u8 x.1.h.tg, .int .i64 x.1.h.ty, .int .i64 x.1.h.ln, .int .i64 x.1.h.sz] 78)) := (Kept.refl [] W).alloc _
    exact HK.out _ _ (keepsFrom_of hkn (by simp)) (Kpw.ofKept hkn H4.out.lt) ⟨H1.out, H2.out.keep0 hkn, H3.out.keep0 hkn, H4.out.keep0 hkn, H5.out.trans hkn⟩ ⟨W.heap.size, Has.new W _ _, (by have := H3.out.lt; omega), rfl⟩
  case body =>
    rintro l0 pre x a' W _ _ ⟨h1, h2, h3, h4, h5⟩ ⟨Bx, hX, hBx, rfl⟩ hlen
    obtain ⟨hx1, hx2⟩ := HC.out.mem x.1 x.2
    have hfa := cellB_facts hx1
    rw [← hx2] at hfa
    have HBh := Lib.hid (fun X => behind_ok x.1 (by omega) (by omega) (by omega) (by omega) X)
    have hx : x.1.a + x.1.h.sz ≤ 32768 ∧ 0 ≤ x.1.a ∧ 1 ≤ x.1.h.sz := by omega
    clear hx1 hx2 hfa hlen
    obtain ⟨⟨xa, ⟨xt, xy, xl, xz⟩⟩, hmem⟩ := x
    simp only at *
    unfold Cel.val at HBh
    simp only at HBh
    have b0 := cell_regrown (show W.cell? ⟨w.heap.size, 0, none⟩ = some (.int .i64 g) from h2.cell 0)
    obtain ⟨p0, p1, p2, p3, p4⟩ := cells5 hX
    have d0 := cell_regrown p0
    have d1 := cell_regrown p1
    have d2 := cell_regrown p2
    have d3 := cell_regrown p3
    have d4 := cell_regrown p4
    have CB : Hid (∀ d os, Calls Tryz.prog 72 #[.agg #[.int .i64 xa, .int .u8 xt, .int .i64 xy, .int .i64 xl, .int .i64 xz]] (grow (redrawn W d) os) fun e z => e = .returned (.int .i64 (xa + xz)) ∧ ∃ p : Regrown, z = grow (redrawn W p.d) p.os) :=
      Lib.hid fun d os => Calls.regrown_of ((HBh.out _).mono fun _ _ ⟨he, hk⟩ => ⟨he, hk.below (Nat.le_refl _) (by simp)⟩)
    have H1 := Lib.hid h1
    have H2 := Lib.hid h2
    have H3 := Lib.hid h3
    have H4 := Lib.hid h4
    have H5 := Lib.hid h5
    have HX := Lib.hid hX
    have HBx := Lib.hid hBx
    clear p0 p1 p2 p3 p4 HBh h1 h2 h3 h4 h5 hX hBx
    have hmix : Tryz.prog.follows .mixedOrders = true := by kernel_rfl
    by_cases hlt : g < xa + xz
    · gi_wp2_with (fail)
      refine Rk.wpIn_head (r := some l0) (C := fun w' => ∃ p : Regrown, w' = grow (redrawn W p.d) p.os) 3 (by kernel_rfl) (by kernel_rfl) ⟨⟨W.drawn + 1, #[]⟩, by rw [grow_empty]; rfl⟩ ?_
      simp only [List.take_succ_cons, List.take_zero, List.drop_succ_cons, List.drop_zero]
      repeat (quiet_step (exact CB.out _ _))
      refine wpQuiet_nil ?_
      rintro _ ⟨⟨dq, osq⟩, rfl⟩
      rw [← Rk.fence_round]
      have hk6 := Kept.ofBelow (below_regrown W dq osq) []
      show wpListIn _ _ _ _ _ _ _ (grow (redrawn W dq) osq)
      clear b0 d0 d1 d2 d3 d4 CB
      generalize grow (redrawn W dq) osq = W6 at hk6 ⊢
      have X6 := Lib.hid (HX.out.keep0 hk6)
      have H36 := Lib.hid (H3.out.keep0 hk6)
      have H46 := Lib.hid (H4.out.keep0 hk6)
      have K6 := Lib.hid hk6
      obtain ⟨x0, x1, x2, x3, x4⟩ := cells5 X6.out
      obtain ⟨f0, f1, f2, f3, f4⟩ := free5 H36.out
      obtain ⟨d0, d1, d2, d3, d4⟩ := cells5 H36.out
      have e0 := H46.out.cell 0
      simp at e0
      have e1 := H46.out.free 0
      have hBx := HBx.out
      have hlx : Bx < W6.heap.size := X6.out.lt
      have P4 : Hid (∃ cs, Has W (w.heap.size + 1) 78 cs) := Lib.hid ⟨_, H3.out⟩
      have P5 : Hid (∃ cs, Has W (w.heap.size + 1 + 1) 4 cs) := Lib.hid ⟨_, H4.out⟩
      clear hk6 HX H3 H4
      gi_wp2_with (fail)
      gi_cut [] from 26 (fun wr => Hid (Has wr (w.heap.size + 1) 78 [.int .i64 xa, .int .u8 xt, .int .i64 xy, .int .i64 xl, .int .i64 xz] ∧ Has wr (w.heap.size + 1 + 1) 4 [.bool (xt != 1)] ∧ Kept [w.heap.size + 1, w.heap.size + 1 + 1] W wr))
      case first =>
        gi_region_with_o (fail)
        all_goals gi_wp2_with (fail)
        all_goals gi_meet
        all_goals exact Lib.hid (stored (b := w.heap.size) H36.out H46.out K6.out)
      case rest =>
        clear x0 x1 x2 x3 x4 f0 f1 f2 f3 f4 d0 d1 d2 d3 d4 e0 e1
        gi_wp2_with (fail)
        refine ⟨keepsFrom_of hcut.out.2.2 (fun b hb => ?_), ⟨rfl, pre, (⟨xa, ⟨xt, xy, xl, xz⟩⟩ : Cel), ⟨hmem, rfl⟩, H1.out, hlt, hcut.out.1, hcut.out.2.1⟩, H5.out.forget hcut.out.2.2 (by simp; omega)⟩
        rcases List.mem_cons.1 hb with rfl | hb
        · exact ⟨_, P4.out⟩
        · obtain rfl := List.mem_singleton.1 hb
          exact ⟨_, P5.out⟩
    · gi_wp2_with (fail)
      refine Rk.wpIn_head (r := some l0) (C := fun w' => ∃ p : Regrown, w' = grow (redrawn W p.d) p.os) 3 (by kernel_rfl) (by kernel_rfl) ⟨⟨W.drawn + 1, #[]⟩, by rw [grow_empty]; rfl⟩ ?_
      simp only [List.take_succ_cons, List.take_zero, List.drop_succ_cons, List.drop_zero]
      repeat (quiet_step (exact CB.out _ _))
      refine wpQuiet_nil ?_
      rintro _ ⟨⟨dq, osq⟩, rfl⟩
      rw [← Rk.fence_round]
      have hk6 := Kept.ofBelow (below_regrown W dq osq) []
      show wpListIn _ _ _ _ _ _ _ (grow (redrawn W dq) osq)
      clear b0 d0 d1 d2 d3 d4 CB
      generalize grow (redrawn W dq) osq = W6 at hk6 ⊢
      have K6 := Lib.hid hk6
      clear hk6
      gi_wp2_with (fail)
      refine ⟨keepsFrom_of K6.out (by simp), Kpw.ofKept K6.out H4.out.lt, ?_, H2.out.keep0 K6.out, H3.out.keep0 K6.out, H4.out.keep0 K6.out, H5.out.trans K6.out⟩
      intro c hc
      rw [vals_snoc] at hc
      rcases List.mem_append.1 hc with h | h
      · exact H1.out c h
      · rw [List.mem_singleton.1 h]; exact hlt
  case done =>
    rintro D xs W hD hx ⟨h1, h2, h3, h4, h5⟩ hK
    have hn : gapO cs g = none := (congrArg (fun z => gapO z g) hx.symm).trans (gapO_none h1)
    have hn : o = none := HO.out.symm.trans hn
    subst hn
    obtain ⟨f0, f1, f2, f3, f4⟩ := free5 h3
    obtain ⟨d0, d1, d2, d3, d4⟩ := cells5 h3
    have e0 := h4.cell 0
    simp at e0
    have e1 := h4.free 0
    have HKd := Lib.hid hK
    have H3 := Lib.hid h3
    have H4 := Lib.hid h4
    have H5 := Lib.hid h5
    clear hK h1 h2 h3 h4 h5 hx
    gi_wp2
    have hD1 : w.heap.size + 1 ≠ D := by have := Hc45.out.lt; omega
    have hD2 : w.heap.size + 1 + 1 ≠ D := by have := Hc55.out.lt; omega
    have h4 := (put5_has H3.out (.int .i64 0) (.int .u8 0) (.int .i64 0) (.int .i64 0) (.int .i64 0)).beside ⟨w.heap.size + 1 + 1, 0, none⟩ (by simp) (.bool false)
    have h5 : Has ((put5 (w.heap.size + 1) (.int .i64 0) (.int .u8 0) (.int .i64 0) (.int .i64 0) (.int .i64 0) W).setCell ⟨w.heap.size + 1 + 1, 0, none⟩ (.bool false)) (w.heap.size + 1 + 1) 4 [.bool false] :=
      Has.put (((((H4.out.beside _ (by simp) _).beside _ (by simp) _).beside _ (by simp) _).beside _ (by simp) _).beside _ (by simp) _) 0 _
    have hk7 : Kept [] w ((put5 (w.heap.size + 1) (.int .i64 0) (.int .u8 0) (.int .i64 0) (.int .i64 0) (.int .i64 0) W).setCell ⟨w.heap.size + 1 + 1, 0, none⟩ (.bool false)) :=
      (put5_kept H5.out (.inr (by simp)) _ _ _ _ _).setCell _ _ (.inr (by simp; omega))
    have hK2 : ((put5 (w.heap.size + 1) (.int .i64 0) (.int .u8 0) (.int .i64 0) (.int .i64 0) (.int .i64 0) W).setCell ⟨w.heap.size + 1 + 1, 0, none⟩ (.bool false)).heap[D]? = some (.deferred (some [])) := by
      unfold put5
      rw [put_other hD2, put_other hD1, put_other hD1, put_other hD1, put_other hD1, put_other hD1]
      exact HKd.out
    unfold put5 at h4 h5 hk7 hK2
    generalize ((((((W.setCell ⟨w.heap.size + 1, 0, none⟩ (.int .i64 0)).setCell ⟨w.heap.size + 1, 1, none⟩ (.int .u8 0)).setCell ⟨w.heap.size + 1, 2, none⟩ (.int .i64 0)).setCell ⟨w.heap.size + 1, 3, none⟩ (.int .i64 0)).setCell ⟨w.heap.size + 1, 4, none⟩ (.int .i64 0)).setCell ⟨w.heap.size + 1 + 1, 0, none⟩ (.bool false)) = W7 at *
    have h4' := has_put h4 D _ (.deferred none) hK2 rfl
    have h5' := (has_put h5 D _ (.deferred none) hK2 rfl).cell 0
    simp at h5'
    obtain ⟨z0, z1, z2, z3, z4⟩ := cells5 h4'
    refine ⟨by simp, .inl ⟨_, _, rfl, run_takeDeferred hK2, ?_⟩⟩
    refine ⟨.tuple #[.agg #[.int .i64 0, .int .u8 0, .int .i64 0, .int .i64 0, .int .i64 0], .bool false], ?_, rfl, kept_put hk7 D _ (Nat.le_trans Hk5.out.more hD)⟩
    simp [results, Tryz.results71, go_sem, z0, z1, z2, z3, z4, h5']
  case stop =>
    rintro D c pre W hD ⟨rest, hg⟩ ⟨⟨rfl, ys, x, rfl, h1, hx, h4, h5⟩, hk⟩ hK
    have hn : gapO cs g = some x.1 := by
      refine (congrArg (fun z => gapO z g) hg).trans ?_
      rw [vals_snoc]
      exact gapO_some h1 hx
    have hn : o = some x.1 := HO.out.symm.trans hn
    subst hn
    have HKd := Lib.hid hK
    have Hk := Lib.hid hk
    have H4 := Lib.hid h4
    have H5 := Lib.hid h5
    clear hK hk h1 h4 h5 hg hx
    gi_wp2
    have h4' := has_put H4.out D _ (.deferred none) HKd.out rfl
    have h5' := (has_put H5.out D _ (.deferred none) HKd.out rfl).cell 0
    simp only [List.getElem?_cons_zero] at h5'
    obtain ⟨z0, z1, z2, z3, z4⟩ := cells5 h4'
    refine ⟨by simp, .inl ⟨_, _, rfl, run_takeDeferred HKd.out, ?_⟩⟩
    refine ⟨.tuple #[x.1.val, .bool (x.1.h.tg != 1)], ?_, rfl, kept_put Hk.out D _ (Nat.le_trans Hk5.out.more hD)⟩
    unfold Cel.val
    simp [results, Tryz.results71, go_sem, z0, z1, z2, z3, z4, h5']
end Go.Proofs.YtagmmbkgjomdlaaGreatDoor.Sp

/-
  The contracts of New, Put and Drop.
-/
namespace Go.Proofs.YtagmmbkgjomdlaaGreatDoor.Sp
open Go.RowKit Go.Proofs.YtagmmbkgjomdlaaGreatDoor.Ar Go.Proofs.YtagmmbkgjomdlaaGreatDoor.Sh Go.Sort
open Go.Proofs.YtagmmbkgjomdlaaGreatDoor.Hd (Hd Fields cells4 free4 ofL of_tab)
open Go.Proofs.YtagmmbkgjomdlaaGreatDoor.Tb (Ty Tab blk cells3 sizeE)
open Go.Proofs.YtagmmbkgjomdlaaGreatDoor.Bt (Bv atI prevO nextO prev_ok next_ok has_ok hasV)
open Go.Proofs.YtagmmbkgjomdlaaGreatDoor.Wd (Table)
set_option linter.unusedVariables false

theorem near_nil : Near [] := fun c hc => by cases hc
set_option maxRecDepth 100000 in
theorem new_no (n : Int) (hn : mayB n = false) (tp : Nat) (w : World) : Calls Tryz.prog 38 #[.int .i64 n, .pointer (some ⟨tp, 0, none⟩)] w fun e w' => e = .returned (.tuple #[.pointer none, .int .i64 2]) ∧ w = w' := by
  have H := Lib.hid (new_bad n hn w)
  clear hn
  go_enter Tryz.func38, Tryz.ntmps38
  go_wp2_with fail
  refine H.out.mono ?_
  rintro e w1 ⟨rfl, rfl⟩
  go_wp2_with fail
  go_ret2
  exact ⟨rfl, rfl⟩
/-- The words and bits of a new space. -/
def newW (n : Nat) : List Int := becomeW (List.replicate n 0) 0 [] (gran (List.replicate n 0))
def newB (n : Nat) : List Bool := becomeB (List.replicate (gran (List.replicate n 0)).toNat false) 0 [] (gran (List.replicate n 0))
set_option maxRecDepth 100000 in
set_option maxHeartbeats 1000000 in
theorem new_yes (n : Nat) (hn : mayB (n : Int) = true) {w : World} {tp : Nat} {A : Option Addr} {c : Nat} {l : List Ty} (hF : Fields w) (hTb : Table w) (hT : Tab w tp A c l) :
    Calls Tryz.prog 38 #[.int .i64 (n : Int), .pointer (some ⟨tp, 0, none⟩)] w fun e w' => ∃ s : Ids, e = .returned (.tuple #[.pointer (some ⟨s.sp, 0, none⟩), .int .i64 0]) ∧ s.tp = tp ∧ Spc w' s l (newW n) (newB n) ∧ Kept [] w w' ∧ ∀ i ∈ s.turn, w.heap.size ≤ i := by
  have H := Lib.hid (new_ok n hn w)
  have HF := Lib.hid hF
  have HTb := Lib.hid hTb
  have HT := Lib.hid hT
  have HL : Hid ((List.replicate n (0 : Int)).length ≤ 65536) := Lib.hid (by have := ((mayB_iff _).1 hn).2.1; rw [List.length_replicate]; omega)
  clear hn hF hTb hT
  go_enter Tryz.func38, Tryz.ntmps38
  go_wp2_with fail
  refine H.out.mono ?_
  rintro e w1 ⟨p, q, rfl, hp, hq, ha, hk⟩
  have HB := Lib.hid (bare_ok ha (HT.out.keep0 hk) (Wm.zeros n))
  have HK := Lib.hid hk
  clear hk ha H
  go_wp2_with fail
  refine HB.out.mono ?_
  rintro e w2 ⟨sp, bp, bq, rfl, hS, hk2, hbq⟩
  have hk02 := HK.out.trans hk2
  have hturn : ∀ i ∈ Ids.turn ⟨sp, p, q, tp, A, c, bp, bq⟩, w.heap.size ≤ i := by
    intro i hi
    have := HK.out.more
    simp [Ids.turn] at hi
    omega
  have hG : Glob w2 ⟨sp, p, q, tp, A, c, bp, bq⟩ := by
    have hg0 : Table w2 := fun i hi => by
      have hc := HTb.out i hi
      have hlt : 1 < w.heap.size := by
        rcases Nat.lt_or_ge (1) w.heap.size with k | k
        · exact k
        · exfalso
          have hn : w.heap[1]? = none := Array.getElem?_eq_none k
          simp [World.cell?, hn] at hc
      rw [World.cell?_of_block (w := w) (hk02.old _ hlt (by simp))]
      exact hc
    refine ⟨HF.out.keep0 hk02, hg0, fun hm => ?_, fun hm => ?_⟩
    · have := hturn _ hm
      have := HF.out.lt
      omega
    · have h1 := hturn _ hm
      have hc := HTb.out 0 (by omega)
      have hn : w.heap[1]? = none := Array.getElem?_eq_none h1
      simp [World.cell?, hn] at hc
  have hgr : 0 ≤ gran (List.replicate n 0) ∧ gran (List.replicate n 0) ≤ 32768 := by have := HL.out; unfold gran; omega
  have HGr := Lib.hid (granules_ok hS)
  have HBe := Lib.hid (become_ok hG hS 0 (gran (List.replicate n 0)) (by omega) (by omega) hgr.1 (by omega) none 0 [] (Seen.nil _ _) (fun g o e => by cases e) near_nil (by simp))
  have HK2 := Lib.hid hk02
  have HTu := Lib.hid hturn
  clear hS hk2 hk02 hturn hG HB
  go_wp2_with fail
  refine HGr.out.mono ?_
  rintro e w3 ⟨rfl, rfl⟩
  go_wp2_with fail
  refine HBe.out.mono ?_
  rintro e w4 ⟨⟨v4, rfl⟩, hS4, hk4⟩
  have HS4 := Lib.hid hS4
  have HK4 := Lib.hid (HK2.out.forget hk4 HTu.out)
  clear hS4 hk4 HBe
  go_wp2_with fail
  go_ret2
  exact ⟨⟨sp, p, q, tp, A, c, bp, bq⟩, rfl, rfl, HS4.out, HK4.out, HTu.out⟩
section
variable {w : World} {s : Ids} {l : List Ty} {ws : List Int} {bs : List Bool}
/-- What Drop makes of words and bits. -/
def dropW (ws : List Int) (bs : List Bool) (g : Int) : List Int := becomeW ws (prevEndV bs ws g) [] (nextStartV bs ws g)
def dropB (ws : List Int) (bs : List Bool) (g : Int) : List Bool := becomeB bs (prevEndV bs ws g) [] (nextStartV bs ws g)
theorem prevEndV_bound (h : Spc w s l ws bs) (g : Int) : 0 ≤ prevEndV bs ws g ∧ prevEndV bs ws g ≤ 17000000 := by
  have hb := prevO_bound bs (g - 1)
  have hz := hdH_sz ws (atI (prevO bs (g - 1)))
  have := h.few
  unfold prevEndV
  split <;> omega
end
end Go.Proofs.YtagmmbkgjomdlaaGreatDoor.Sp

/-
  The contract of Put.
-/
namespace Go.Proofs.YtagmmbkgjomdlaaGreatDoor.Sp
open Go.RowKit Go.Proofs.YtagmmbkgjomdlaaGreatDoor.Ar Go.Proofs.YtagmmbkgjomdlaaGreatDoor.Sh Go.Sort
open Go.Proofs.YtagmmbkgjomdlaaGreatDoor.Hd (Hd Fields cells4 free4 ofL of_tab of_facts)
open Go.Proofs.YtagmmbkgjomdlaaGreatDoor.Tb (Ty Tab blk sizeE)
open Go.Proofs.YtagmmbkgjomdlaaGreatDoor.Bt (Bv atI prevO nextO)
open Go.Proofs.YtagmmbkgjomdlaaGreatDoor.Wd (Table)
set_option linter.unusedVariables false
section
variable {w : World} {s : Ids} {l : List Ty} {ws : List Int} {bs : List Bool}
set_option maxRecDepth 100000 in
theorem put_err (hG : Glob w s) (h : Spc w s l ws bs) (g i n : Int) (i0 : -9223372036854775808 ≤ i) (i1 : i ≤ 9223372036854775807) (he : sizeE l i n ≠ 0) :
    Calls Tryz.prog 34 #[.pointer (some ⟨s.sp, 0, none⟩), .int .i64 g, .int .i64 i, .int .i64 n] w fun e w' => e = .returned (.int .i64 (sizeE l i n)) ∧ Kept [] w w' := by
  obtain ⟨c0, c1, c2⟩ := h.cells
  have HO := Lib.hid (of_tab h.tab i n i0 i1)
  have hb : (sizeE l i n != 0) = true := by rw [bne_iff_ne]; exact he
  unfold Hd.val at HO
  clear h hG he
  generalize sizeE l i n = er at *
  generalize ofL l i n = x at *
  generalize x.tg = xg at *
  generalize x.ty = xt at *
  generalize x.ln = xn at *
  generalize x.sz = xs at *
  go_enter Tryz.func34, Tryz.ntmps34
  go_wp2_with fail
  refine HO.out.mono ?_
  rintro e w1 ⟨rfl, hk⟩
  have HK := Lib.hid (hk.alloc (.cells #[.int .u8 xg, .int .i64 xt, .int .i64 xn, .int .i64 xs] 76))
  clear hk HO
  go_wp2_with fail
  go_ret
  exact ⟨rfl, HK.out⟩
set_option maxRecDepth 100000 in
set_option maxHeartbeats 1000000 in
theorem put_out (hG : Glob w s) (h : Spc w s l ws bs) (g i n : Int) (g0 : -9223372036854775808 ≤ g) (g1 : g ≤ 9223372036854775807) (i0 : -9223372036854775808 ≤ i) (i1 : i ≤ 9223372036854775807) (he : sizeE l i n = 0) (ho : g < 0 ∨ gran ws ≤ g) :
    Calls Tryz.prog 34 #[.pointer (some ⟨s.sp, 0, none⟩), .int .i64 g, .int .i64 i, .int .i64 n] w fun e w' => e = .returned (.int .i64 2) ∧ Kept [] w w' := by
  obtain ⟨c0, c1, c2⟩ := h.cells
  have hsh := h.short
  have hgr : 0 ≤ gran ws ∧ gran ws ≤ 32768 := by unfold gran; omega
  have HO := Lib.hid (of_tab h.tab i n i0 i1)
  rw [he] at HO
  have HGr := Lib.hid (fun y (k : Kept [] w y) => granules_ok (h.keep0 k))
  unfold Hd.val at HO
  clear h hG he
  generalize gran ws = G at *
  generalize ofL l i n = x at *
  generalize x.tg = xg at *
  generalize x.ty = xt at *
  generalize x.ln = xn at *
  generalize x.sz = xs at *
  by_cases hg : g < 0
  · clear ho
    go_enter Tryz.func34, Tryz.ntmps34
    go_wp2_with fail
    refine HO.out.mono ?_
    rintro e w1 ⟨rfl, hk⟩
    have HK := Lib.hid (hk.alloc (.cells #[.int .u8 xg, .int .i64 xt, .int .i64 xn, .int .i64 xs] 76))
    clear hk HO
    go_wp2_with fail
    go_ret
    exact ⟨rfl, HK.out⟩
  · have hge : G ≤ g := by omega
    clear ho
    go_enter Tryz.func34, Tryz.ntmps34
    go_wp2_with fail
    refine HO.out.mono ?_
    rintro e w1 ⟨rfl, hk⟩
    have HK := Lib.hid (hk.alloc (.cells #[.int .u8 xg, .int .i64 xt, .int .i64 xn, .int .i64 xs] 76))
    clear hk HO
    go_wp2_with fail
    refine (HGr.out _ HK.out).mono ?_
    rintro e w2 ⟨rfl, rfl⟩
    go_wp2_with fail
    go_ret
    exact ⟨rfl, HK.out⟩
end
end Go.Proofs.YtagmmbkgjomdlaaGreatDoor.Sp
