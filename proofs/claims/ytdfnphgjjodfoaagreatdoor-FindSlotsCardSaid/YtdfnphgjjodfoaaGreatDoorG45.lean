/-
  Several texts in one: SpObj, FdAll.
-/
import Derived.Test.YtdfnphgjjodfoaaGreatDoorG28
import Derived.Test.YtdfnphgjjodfoaaGreatDoorG35
import Derived.Test.YtdfnphgjjodfoaaGreatDoorG33
import Derived.Test.YtdfnphgjjodfoaaGreatDoorG41
/-
  What stands at a granule where an object begins; and what a slot's word becomes.
-/
namespace Go.Proofs.YtdfnphgjjodfoaaGreatDoor.Sp
open Go.RowKit Go.Proofs.YtdfnphgjjodfoaaGreatDoor.Ar Go.Proofs.YtdfnphgjjodfoaaGreatDoor.Sh
open Go.Proofs.YtdfnphgjjodfoaaGreatDoor.Hd (Hd Fields fitE ofL fitL wordI)
open Go.Proofs.YtdfnphgjjodfoaaGreatDoor.Tb (Ty sizeE sizeT getT hasT)
set_option linter.unusedVariables false
theorem facts_all {ws : List Int} {l : List Ty} {g : Int} (hT : ∀ x ∈ l, x.ok ∧ x.fit) (h : ofE ws l g = 0) : ∃ gn sl, Facts ws l g gn sl := by
  have S := stand_of h
  have hto : (ofT ws l g).ok := Tb.getT_ok hT (hdH ws g).ty
  obtain ⟨j0, j1⟩ := (inG_iff _ _ _).1 S.isin
  have hfit := S.fit
  unfold Hd.fitL fitE at hfit
  by_cases hc : (hdH ws g).can
  · rw [if_neg (by simpa using hc), if_neg (by simpa using S.tag)] at hfit
    have hne : ¬ (sizeE l (hdH ws g).ty (hdH ws g).ln ≠ 0 ∨ ofL l (hdH ws g).ty (hdH ws g).ln ≠ hdH ws g) := by
      intro hh
      rw [if_pos hh] at hfit
      cases hfit
    have he : sizeE l (hdH ws g).ty (hdH ws g).ln = 0 := Classical.byContradiction fun e => hne (.inl e)
    have ho : ofL l (hdH ws g).ty (hdH ws g).ln = hdH ws g := Classical.byContradiction fun e => hne (.inr e)
    have hhas : hasT l (hdH ws g).ty = true := by
      cases hx : hasT l (hdH ws g).ty with
      | true => rfl
      | false => unfold sizeE at he; rw [hx, if_neg (by decide)] at he; cases he
    have herr : Kd.err (ofT ws l g).k (ofT ws l g).wd (ofT ws l g).ms (hdH ws g).ln = 0 := by
      unfold sizeE at he
      rw [hhas] at he
      exact he
    obtain ⟨b0, b1⟩ := Kd.slots_bound herr
    have hsz : (hdH ws g).sz = Kd.sizeR (ofT ws l g).k (ofT ws l g).wd (ofT ws l g).ms (hdH ws g).ln := by
      rw [← ho]
      unfold Hd.ofL Hd.ofH
      rw [if_pos he]
      simp only
      unfold sizeT
      rw [hhas]
      rfl
    have hss : ofS ws l g = Kd.slots (ofT ws l g).k (ofT ws l g).wd (hdH ws g).ln := by unfold ofS Kd.slotsR; rw [if_pos herr]
    unfold Kd.sizeR at hsz
    rw [if_pos herr] at hsz
    refine ⟨g.toNat, (ofS ws l g).toNat, by omega, by rw [hss]; omega, hto.1, hto.2, herr, by rw [hss]; omega, ?_⟩
    rw [hss]
    omega
  · rw [if_pos hc] at hfit
    cases hfit

theorem obj_of {ws : List Int} {l : List Ty} {cs : List Cel} {f e : Int} (h : Tiled ws l f cs e) (h0 : 0 ≤ f) (he : e ≤ gran ws) {c : Cel} (hc : c ∈ cs) (ht : c.h.tg = 1) : ofE ws l c.a = 0 ∧ hdH ws c.a = c.h := by
  obtain ⟨k1, k2, k3⟩ := Tiled.cell h h0 he c hc
  obtain ⟨m1, m2, m3, m4, m5⟩ := h.mem c hc
  have hg : gran ws = (ws.length : Int) / 2 := rfl
  refine ⟨?_, k2⟩
  unfold ofE
  rw [if_neg (by simpa using k1), k2, if_neg]
  rintro (h1 | h1 | h1)
  · exact h1 ht
  · exact h1 m5
  · rw [(inG_iff _ _ _).2 ⟨by omega, by omega⟩] at h1
    cases h1
end Go.Proofs.YtdfnphgjjodfoaaGreatDoor.Sp

/-
  Stage 11, find: the objects that have one of many addresses: each once, rising; and that a rising row is told by what it has. Numbers only.
-/
namespace Go.Proofs.YtdfnphgjjodfoaaGreatDoor.Fd
open Go.RowKit Go.Proofs.YtdfnphgjjodfoaaGreatDoor.Ar Go.Proofs.YtdfnphgjjodfoaaGreatDoor.Sp
open Go.Proofs.YtdfnphgjjodfoaaGreatDoor.Hd (Hd fitL wordI)
open Go.Proofs.YtdfnphgjjodfoaaGreatDoor.Tb (Ty)
open Go.Proofs.YtdfnphgjjodfoaaGreatDoor.Sh (wordR wordB)
set_option linter.unusedVariables false

/-- Two rising rows that have the same are the same. -/
theorem rising_eq : ∀ {a b : List Int}, a.Pairwise (· < ·) → b.Pairwise (· < ·) → (∀ x, x ∈ a ↔ x ∈ b) → a = b
  | [], [], _, _, _ => rfl
  | [], y :: b, _, _, h => absurd ((h y).2 (by simp)) (by simp)
  | x :: a, [], _, _, h => absurd ((h x).1 (by simp)) (by simp)
  | x :: a, y :: b, ha, hb, h => by
    obtain ⟨ha1, ha2⟩ := List.pairwise_cons.1 ha
    obtain ⟨hb1, hb2⟩ := List.pairwise_cons.1 hb
    have hxy : x = y := by
      rcases List.mem_cons.1 ((h x).1 (by simp)) with e | e
      · exact e
      · rcases List.mem_cons.1 ((h y).2 (by simp)) with e' | e'
        · exact e'.symm
        · have h1 := hb1 x e
          have h2 := ha1 y e'
          omega
    subst hxy
    rw [rising_eq ha2 hb2 fun z => ⟨fun hz => ?_, fun hz => ?_⟩]
    · rcases List.mem_cons.1 ((h z).1 (List.mem_cons_of_mem _ hz)) with e | e
      · have := ha1 z hz
        omega
      · exact e
    · rcases List.mem_cons.1 ((h z).2 (List.mem_cons_of_mem _ hz)) with e | e
      · have := hb1 z hz
        omega
      · exact e
theorem starts_rise {ws : List Int} {l : List Ty} : ∀ {cs : List Cel} {f e : Int}, Tiled ws l f cs e → (cs.map (·.a)).Pairwise (· < ·)
  | [], _, _, _ => List.Pairwise.nil
  | c :: cs, f, e, h => by
    rw [List.map_cons, List.pairwise_cons]
    refine ⟨fun x hx => ?_, starts_rise h.2.2.2.2⟩
    obtain ⟨d, hd, rfl⟩ := List.mem_map.1 hx
    have h1 := (Tiled.mem h.2.2.2.2 d hd).1
    have h2 := can_sz h.2.1
    have h3 := h.1
    omega
theorem allA_rise {ws : List Int} {l : List Ty} {cs : List Cel} {f e : Int} (h : Tiled ws l f cs e) (us : List Int) : (allA cs us).Pairwise (· < ·) :=
  List.Pairwise.sublist (List.Sublist.map _ List.filter_sublist) (starts_rise h)
theorem mem_allA (cs : List Cel) (us : List Int) (g : Int) : g ∈ allA cs us ↔ ∃ u ∈ us, ofA cs u = some g := by
  unfold allA
  rw [List.mem_map]
  constructor
  · rintro ⟨c, hc, rfl⟩
    obtain ⟨u, hu, h⟩ := List.any_eq_true.1 (List.mem_filter.1 hc).2
    exact ⟨u, hu, beq_iff_eq.1 h⟩
  · rintro ⟨u, hu, h⟩
    obtain ⟨c, hc, _, rfl, _⟩ := ofA_mem h
    exact ⟨c, List.mem_filter.2 ⟨hc, List.any_eq_true.2 ⟨u, hu, beq_iff_eq.2 h⟩⟩, rfl⟩
/-- Whatever row rises and has just these is the one. -/
theorem allA_of {ws : List Int} {l : List Ty} {cs : List Cel} {f e : Int} (h : Tiled ws l f cs e) {us r : List Int} (hr : r.Pairwise (· < ·)) (hm : ∀ g, g ∈ r ↔ ∃ u ∈ us, ofA cs u = some g) : r = allA cs us :=
  rising_eq hr (allA_rise h us) fun g => (hm g).trans (mem_allA cs us g).symm
theorem allA_len (cs : List Cel) (us : List Int) : (allA cs us).length ≤ cs.length := by
  unfold allA
  rw [List.length_map]
  exact List.length_filter_le _ _
end Go.Proofs.YtdfnphgjjodfoaaGreatDoor.Fd
