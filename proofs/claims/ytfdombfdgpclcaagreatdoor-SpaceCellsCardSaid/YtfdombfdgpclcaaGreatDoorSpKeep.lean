/-
  What a space is, in numbers: cells one behind the other, starts that tell its objects; and that laying objects anew in a range of cells keeps it so.
-/
import Derived.Test.YtfdombfdgpclcaaGreatDoorSpEnds
namespace Go.Proofs.YtfdombfdgpclcaaGreatDoor.Sp
open Go.RowKit Go.Proofs.YtfdombfdgpclcaaGreatDoor.Ar Go.Proofs.YtfdombfdgpclcaaGreatDoor.Sh
open Go.Proofs.YtfdombfdgpclcaaGreatDoor.Hd (Hd fitL wordI ofL of_facts can_obj encW_yes encW)
open Go.Proofs.YtfdombfdgpclcaaGreatDoor.Tb (Ty sizeE)
open Go.Proofs.YtfdombfdgpclcaaGreatDoor.Bt (bit atI prevO nextO hasV)
set_option linter.unusedVariables false

structure Snd (ws : List Int) (l : List Ty) (bs : List Bool) (cs : List Cel) : Prop where
  tiled : Tiled ws l 0 cs (gran ws)
  agree : Agree bs (objs cs)
  len : (bs.length : Int) = gran ws
  neat : ∀ c ∈ cs, Neat c
  short : ws.length ≤ 65536
theorem Snd.scans {ws : List Int} {l : List Ty} {bs : List Bool} {cs : List Cel} (h : Snd ws l bs cs) : Scans ws l 0 cs := h.tiled.scans (Int.le_refl _)
theorem gran_eq {ws ws' : List Int} (h : ws'.length = ws.length) : gran ws' = gran ws := by unfold gran; rw [h]
/-- A range of cells is laid anew. -/
theorem Snd.replace {ws ws1 : List Int} {l : List Ty} {bs : List Bool} {P M Q os : List Cel} {f e : Int} (h : Snd ws l bs (P ++ M ++ Q)) (hP : Tiled ws l 0 P f) (hM : Tiled ws l f M e) (hQ : Tiled ws l e Q (gran ws))
    (hlen : ws1.length = ws.length) (hk : ∀ b, 0 ≤ b → (b < f ∨ e ≤ b) → atG ws1 b = atG ws b) (hs : Standing ws1 l f os e) :
    Snd (becomeW ws1 f os e) l (becomeB bs f os e) (P ++ becomeL f os e ++ Q) := by
  have hf := hP.le
  have hfe := hM.le
  have he := hQ.le
  have hg1 : gran ws1 = gran ws := gran_eq hlen
  obtain ⟨t1, t2⟩ := become_tiled os ws1 f hf (show e ≤ gran ws1 by omega) (by rw [hlen]; exact h.short) hs
  have htg : ∀ c ∈ os, c.h.tg = 1 := fun c hc => (hs.mem c hc).2.2.2
  have hwl : (becomeW ws1 f os e).length = ws.length := (becomeW_length _ _ _ _).trans hlen
  refine ⟨?_, ?_, ?_, ?_, by rw [hwl]; exact h.short⟩
  · rw [gran_eq hwl]
    refine ((hP.keep fun c hc => ?_).append t1).append (hQ.keep fun c hc => ?_)
    · obtain ⟨a1, a2, a3, _⟩ := hP.mem c hc
      have := can_sz a3
      rw [t2 _ (by omega) (.inl (by omega)), hk _ (by omega) (.inl (by omega))]
    · obtain ⟨a1, a2, a3, _⟩ := hQ.mem c hc
      rw [t2 _ (by omega) (.inr (by omega)), hk _ (by omega) (.inr (by omega))]
  · rw [objs_append, objs_append, objs_becomeL _ _ _ htg]
    have ha := h.agree
    rw [objs_append, objs_append] at ha
    refine become_agree ha hf hfe (by have := h.len; omega) (fun c hc => ?_) (fun c hc => ?_) (fun c hc => ?_) (fun c hc => ?_)
    · obtain ⟨a1, a2, a3, _⟩ := hP.mem c (objs_mem.1 hc).1
      have := can_sz a3
      omega
    · obtain ⟨a1, a2, a3, _⟩ := hM.mem c (objs_mem.1 hc).1
      have := can_sz a3
      omega
    · exact (hQ.mem c (objs_mem.1 hc).1).1
    · obtain ⟨a1, a2, a3, _⟩ := hs.mem c hc
      have := can_sz a3
      omega
  · rw [becomeB_length, gran_eq hwl]; exact h.len
  · intro c hc
    rcases List.mem_append.1 hc with hc | hc
    · rcases List.mem_append.1 hc with hc | hc
      · exact h.neat c (by simp [hc])
      · exact neat_becomeL _ _ _ htg c hc
    · exact h.neat c (by simp [hc])
/-- Where a number begins an object of the space. -/
theorem Snd.at {ws : List Int} {l : List Ty} {bs : List Bool} {cs : List Cel} (h : Snd ws l bs cs) {i : Nat} (hi : bit bs i = true) : ∃ A c B, cs = A ++ c :: B ∧ c.a = (i : Int) ∧ c.h.tg = 1 ∧ Tiled ws l 0 A (i : Int) ∧ Tiled ws l (i : Int) (c :: B) (gran ws) := by
  obtain ⟨c, hc, hci⟩ := (h.agree i).1 hi
  obtain ⟨h1, h2⟩ := objs_mem.1 hc
  obtain ⟨A, B, rfl⟩ := List.append_of_mem h1
  obtain ⟨m, t1, t2⟩ := Tiled.split h.tiled
  have : m = (i : Int) := by rw [← hci]; exact t2.1.symm
  subst this
  exact ⟨A, c, B, rfl, hci, h2, t1, t2⟩
/-- The scan from the last object that begins at a granule or below it. -/
theorem Snd.from {ws : List Int} {l : List Ty} {bs : List Bool} {cs : List Cel} (h : Snd ws l bs cs) (g : Int) (g0 : 0 ≤ g) : ∃ A S, cs = A ++ S ∧ Tiled ws l (atI (prevO bs g)) S (gran ws) ∧ 0 ≤ atI (prevO bs g) ∧ atI (prevO bs g) ≤ g := by
  cases ho : prevO bs g with
  | none => exact ⟨[], cs, rfl, h.tiled, Int.le_refl _, g0⟩
  | some x =>
    obtain ⟨h1, h2, _⟩ := prevO_some ho
    obtain ⟨A, c, B, e1, _, _, _, e5⟩ := h.at h2
    exact ⟨A, c :: B, e1, e5, by show (0 : Int) ≤ ((x : Nat) : Int); omega, h1⟩
/-- The cell that gap finds. -/
theorem Snd.gap {ws : List Int} {l : List Ty} {bs : List Bool} {cs : List Cel} (h : Snd ws l bs cs) (g : Int) (g0 : 0 ≤ g) (g1 : g < gran ws) :
    ∃ S, Scans ws l (atI (prevO bs g)) S ∧ ∃ P x Q, cs = P ++ x :: Q ∧ x.a ≤ g ∧ g < x.a + x.h.sz ∧ S.find? (fun c => decide (g < c.a + c.h.sz)) = some x := by
  obtain ⟨A, S, e1, e2, e3, e4⟩ := h.from g g0
  obtain ⟨A', x, B, f1, f2, f3, f4⟩ := Tiled.find g e2 e4 g1
  exact ⟨S, e2.scans e3, A ++ A', x, B, by rw [e1, f1, List.append_assoc], f2, f3, f4⟩

/-! ### Drop -/
theorem split_left : ∀ (A : List Cel), ∃ A1 A2, A = A1 ++ A2 ∧ (∀ c ∈ A2, c.h.tg ≠ 1) ∧ (A1 = [] ∨ ∃ A0 p, A1 = A0 ++ [p] ∧ p.h.tg = 1)
  | [] => ⟨[], [], rfl, (fun c hc => by cases hc), .inl rfl⟩
  | a :: A => by
    obtain ⟨A1, A2, e, h1, h2⟩ := split_left A
    rcases h2 with rfl | ⟨A0, p, rfl, hp⟩
    · by_cases ha : a.h.tg = 1
      · exact ⟨[a], A2, by rw [e]; rfl, h1, .inr ⟨[], a, rfl, ha⟩⟩
      · refine ⟨[], a :: A2, by rw [e]; rfl, fun c hc => ?_, .inl rfl⟩
        rcases List.mem_cons.1 hc with rfl | hc
        · exact ha
        · exact h1 c hc
    · exact ⟨a :: (A0 ++ [p]), A2, by rw [e]; rfl, h1, .inr ⟨a :: A0, p, rfl, hp⟩⟩
theorem split_right : ∀ (B : List Cel), ∃ B1 B2, B = B1 ++ B2 ∧ (∀ c ∈ B1, c.h.tg ≠ 1) ∧ (B2 = [] ∨ ∃ p B0, B2 = p :: B0 ∧ p.h.tg = 1)
  | [] => ⟨[], [], rfl, (fun c hc => by cases hc), .inl rfl⟩
  | b :: B => by
    by_cases hb : b.h.tg = 1
    · exact ⟨[], b :: B, rfl, (fun c hc => by cases hc), .inr ⟨b, B, rfl, hb⟩⟩
    · obtain ⟨B1, B2, e, h1, h2⟩ := split_right B
      refine ⟨b :: B1, B2, by rw [e]; rfl, fun c hc => ?_, h2⟩
      rcases List.mem_cons.1 hc with rfl | hc
      · exact hb
      · exact h1 c hc
theorem objs_none {cs : List Cel} (h : ∀ c ∈ cs, c.h.tg ≠ 1) : objs cs = [] := by
  unfold objs
  rw [List.filter_eq_nil_iff]
  intro c hc
  simpa using h c hc
theorem objs_one {c : Cel} (h : c.h.tg = 1) : objs [c] = [c] := by unfold objs; rw [List.filter_cons_of_pos (by simpa using h)]; rfl
theorem Snd.drop {ws : List Int} {l : List Ty} {bs : List Bool} {cs : List Cel} (h : Snd ws l bs cs) {g : Nat} (hb : bit bs g = true) :
    ∃ P M Q c, cs = P ++ M ++ Q ∧ objs M = [c] ∧ c.a = (g : Int) ∧ Tiled ws l 0 P (prevEndV bs ws g) ∧ Tiled ws l (prevEndV bs ws g) M (nextStartV bs ws g) ∧ Tiled ws l (nextStartV bs ws g) Q (gran ws) := by
  obtain ⟨A, c, B, rfl, hc1, hc2, t1, t2⟩ := h.at hb
  obtain ⟨A1, A2, rfl, a1, a2⟩ := split_left A
  obtain ⟨B1, B2, rfl, b1, b2⟩ := split_right B
  have hcs := can_sz t2.2.1
  have t3 : Tiled ws l ((g : Int) + c.h.sz) (B1 ++ B2) (gran ws) := t2.2.2.2.2
  obtain ⟨m1, u1, u2⟩ := Tiled.split t1
  obtain ⟨m2, v1, v2⟩ := Tiled.split t3
  have hbl := bit_lt hb
  have hgl := h.len
  -- where objects begin
  have hobj : ∀ i : Nat, bit bs i = true ↔ ∃ d ∈ A1 ++ A2 ++ c :: (B1 ++ B2), d.h.tg = 1 ∧ d.a = (i : Int) := fun i => by
    rw [h.agree i]
    constructor
    · rintro ⟨d, hd, e⟩
      obtain ⟨x, y⟩ := objs_mem.1 hd
      exact ⟨d, x, y, e⟩
    · rintro ⟨d, hd, e, k⟩
      exact ⟨d, objs_mem.2 ⟨hd, e⟩, k⟩
  have hprev : prevEndV bs ws g = m1 := by
    unfold prevEndV
    rcases a2 with rfl | ⟨A0, p, rfl, hp⟩
    · have h0 : (0 : Int) = m1 := u1
      have hn : prevO bs ((g : Int) - 1) = none := by
        cases ho : prevO bs ((g : Int) - 1) with
        | none => rfl
        | some x =>
          exfalso
          obtain ⟨x1, x2, _⟩ := prevO_some ho
          obtain ⟨d, hd, d1, d2⟩ := (hobj x).1 x2
          simp only [List.nil_append, List.mem_append, List.mem_cons] at hd
          rcases hd with hd | rfl | hd | hd
          · exact a1 d hd d1
          · omega
          · have := (v1.mem d hd).1; omega
          · have := (v2.mem d hd).1; have := v1.le; omega
      rw [hn]
      exact h0
    · obtain ⟨m0, w1, w2⟩ := Tiled.split u1
      have hpa : p.a = m0 := w2.1
      have hps := can_sz w2.2.1
      have hpe : m0 + p.h.sz = m1 := w2.2.2.2.2
      have hu2 := u2.le
      have hm0 := w1.le
      have hpb : bit bs m0.toNat = true := (hobj m0.toNat).2 ⟨p, by simp, hp, by omega⟩
      have ho : prevO bs ((g : Int) - 1) = some m0.toNat := by
        cases ho : prevO bs ((g : Int) - 1) with
        | none => have := prevO_none ho m0.toNat (by omega); rw [this] at hpb; cases hpb
        | some x =>
          obtain ⟨x1, x2, x3⟩ := prevO_some ho
          obtain ⟨d, hd, d1, d2⟩ := (hobj x).1 x2
          have hge : m0.toNat ≤ x := by
            rcases Nat.lt_or_ge x m0.toNat with k | k
            · have := x3 m0.toNat k (by omega); rw [this] at hpb; cases hpb
            · exact k
          simp only [List.mem_append, List.mem_cons, List.not_mem_nil, or_false] at hd
          rcases hd with ((hd | rfl) | hd) | rfl | hd | hd
          · obtain ⟨y1, y2, y3, _⟩ := w1.mem d hd
            have := can_sz y3
            omega
          · rw [show m0.toNat = x by omega]
          · exact absurd d1 (a1 d hd)
          · omega
          · have := (v1.mem d hd).1; omega
          · have := (v2.mem d hd).1; have := v1.le; omega
      have hcell := (Tiled.cell u1 (Int.le_refl _) (show m1 ≤ (ws.length : Int) / 2 by have := u2.le; have : gran ws = (ws.length : Int) / 2 := rfl; omega) p (by simp)).2.1
      have hat : atI (some m0.toNat) = m0 := by show ((m0.toNat : Nat) : Int) = m0; omega
      rw [ho, hat, ← hpa, hcell, hpa]
      exact hpe
  have hnext : nextStartV bs ws g = m2 := by
    unfold nextStartV
    rcases b2 with rfl | ⟨p, B0, rfl, hp⟩
    · have h0 : m2 = gran ws := v2
      have hn : nextO bs ((g : Int) + 1) true = none := by
        cases ho : nextO bs ((g : Int) + 1) true with
        | none => rfl
        | some x =>
          exfalso
          obtain ⟨x1, x2, _⟩ := nextO_some (by omega) ho
          obtain ⟨d, hd, d1, d2⟩ := (hobj x).1 x2
          simp only [List.append_nil, List.mem_append, List.mem_cons] at hd
          rcases hd with (hd | hd) | rfl | hd
          · obtain ⟨y1, y2, y3, _⟩ := u1.mem d hd
            have := can_sz y3
            have := u2.le
            omega
          · obtain ⟨y1, y2, y3, _⟩ := u2.mem d hd
            have := can_sz y3
            omega
          · omega
          · exact b1 d hd d1
      rw [hn, h0]
      rfl
    · have hpa : p.a = m2 := v2.1
      have hps := can_sz v2.2.1
      have hv1 := v1.le
      have hpe := Tiled.le v2.2.2.2.2
      have hpb : bit bs m2.toNat = true := (hobj m2.toNat).2 ⟨p, by simp, hp, by omega⟩
      have ho : nextO bs ((g : Int) + 1) true = some m2.toNat := by
        cases ho : nextO bs ((g : Int) + 1) true with
        | none => have := nextO_none (by omega) ho m2.toNat (by omega); rw [this] at hpb; cases hpb
        | some x =>
          obtain ⟨x1, x2, x3⟩ := nextO_some (by omega) ho
          obtain ⟨d, hd, d1, d2⟩ := (hobj x).1 x2
          have hge : x ≤ m2.toNat := by
            rcases Nat.lt_or_ge m2.toNat x with k | k
            · have := x3 m2.toNat (by omega) k; rw [this] at hpb; cases hpb
            · exact k
          simp only [List.mem_append, List.mem_cons] at hd
          rcases hd with (hd | hd) | rfl | hd | rfl | hd
          · obtain ⟨y1, y2, y3, _⟩ := u1.mem d hd
            have := can_sz y3
            have := u2.le
            omega
          · obtain ⟨y1, y2, y3, _⟩ := u2.mem d hd
            have := can_sz y3
            omega
          · omega
          · exact absurd d1 (b1 d hd)
          · rw [show m2.toNat = x by omega]
          · have := (Tiled.mem v2.2.2.2.2 d hd).1
            omega
      have hat : atI (some m2.toNat) = m2 := by show ((m2.toNat : Nat) : Int) = m2; omega
      rw [ho]
      exact hat
  rw [hprev, hnext]
  refine ⟨A1, A2 ++ c :: B1, B2, c, by simp, ?_, hc1, u1, ?_, v2⟩
  · rw [objs_append, objs_none a1, List.nil_append, show c :: B1 = [c] ++ B1 from rfl, objs_append, objs_none b1, List.append_nil, objs_one hc2]
  · exact u2.append ⟨hc1, t2.2.1, t2.2.2.1, t2.2.2.2.1, v1⟩

/-! ### Put -/
theorem putW_other (ws : List Int) (i k : Nat) (u : List Int) (h : i + u.length ≤ ws.length) (hk : k < i ∨ i + u.length ≤ k) : (putW ws i u).getD k 0 = ws.getD k 0 := by
  have h1 : (ws.take i).length = i := by rw [List.length_take]; omega
  unfold putW
  rw [List.getD_eq_getElem?_getD, List.getD_eq_getElem?_getD]
  rcases hk with hk | hk
  · rw [List.getElem?_append_left (by omega), List.getElem?_take_of_lt hk]
  · rw [List.getElem?_append_right (by omega), h1, List.getElem?_append_right (by omega), List.getElem?_drop, show i + u.length + (k - i - u.length) = k by omega]
theorem make_zero {ws : List Int} {l : List Ty} {g i n : Int} (he : sizeE l i n = 0) (g0 : 0 ≤ g) (h : (ofL l i n).sz ≤ (ws.length : Int) / 2 - g) : makeE ws.length l g i n = 0 := by
  unfold makeE
  rw [if_neg (by simpa using he), (inG_iff _ _ _).2 ⟨g0, h⟩]
  rfl
theorem Snd.put {ws : List Int} {l : List Ty} {bs : List Bool} {P Q : List Cel} {x : Cel} (h : Snd ws l bs (P ++ x :: Q)) (hl : l.length ≤ 64) {g i n : Int} (he : sizeE l i n = 0) (hx : x.h.tg ≠ 1) (h1 : x.a ≤ g) (h2 : (ofL l i n).sz ≤ x.a + x.h.sz - g) :
    Snd (becomeW (makeW ws l g i n) x.a [⟨g, ofL l i n⟩] (x.a + x.h.sz)) l (becomeB bs x.a [⟨g, ofL l i n⟩] (x.a + x.h.sz)) (P ++ becomeL x.a [⟨g, ofL l i n⟩] (x.a + x.h.sz) ++ Q) := by
  obtain ⟨m, t1, t2⟩ := Tiled.split h.tiled
  have hm : x.a = m := t2.1
  subst hm
  have hP := t1.le
  have hQ := Tiled.le t2.2.2.2.2
  have hgr : gran ws = (ws.length : Int) / 2 := rfl
  have hmk := make_zero (ws := ws) (g := g) he (by omega) (by omega)
  obtain ⟨gn, sz, H⟩ := made_at hl hmk
  have hg := H.gEq
  have ho := H.head
  have hs1 := H.s1
  have hin := H.isin
  have hat := H.at
  have hcan := H.can
  rw [ho] at h2 ⊢
  simp only at h2
  have h0 : Snd ws l bs (P ++ [x] ++ Q) := by rw [List.append_assoc]; exact h
  refine h0.replace (ws1 := makeW ws l g i n) t1 ⟨rfl, t2.2.1, t2.2.2.1, t2.2.2.2.1, rfl⟩ t2.2.2.2.2 H.len (fun b hb hn => ?_) ⟨h1, hcan, hat, ?_, rfl, ?_⟩
  · unfold atG
    rw [H.words]
    refine putW_other _ _ _ _ ?_ ?_
    · simp only [List.length_cons, List.length_replicate]; omega
    · simp only [List.length_cons, List.length_replicate]; omega
  · exact Hd.fit_of ho he hcan
  · show g + sz ≤ x.a + x.h.sz
    omega
theorem objs_put {P Q : List Cel} {x c : Cel} {e : Int} (hx : x.h.tg ≠ 1) (hc : c.h.tg = 1) : objs (P ++ x :: Q) = objs P ++ objs Q ∧ objs (P ++ becomeL x.a [c] e ++ Q) = objs P ++ c :: objs Q := by
  refine ⟨?_, ?_⟩
  · rw [objs_append]
    unfold objs
    rw [List.filter_cons_of_neg (by simpa using hx)]
  · rw [objs_append, objs_append, objs_becomeL _ _ _ (fun d hd => by rw [List.mem_singleton.1 hd]; exact hc), List.append_assoc]
    rfl
end Go.Proofs.YtfdombfdgpclcaaGreatDoor.Sp
