/-
  An arena and a table that a law has made; the calls of shape on them.
-/
import Derived.Test.YtpnjblledbihcaaDoorShOf
import Derived.Test.YtpnjblledbihcaaDoorShMake
import Derived.Test.YtpnjblledbihcaaDoorShRefs
import Derived.Test.YtpnjblledbihcaaDoorGTb
namespace Go.Proofs.YtpnjblledbihcaaDoor.Sh
open Go.RowKit Go.Proofs.YtpnjblledbihcaaDoor.Ar
open Go.Proofs.YtpnjblledbihcaaDoor.Hd (Hd Fields encW ofL of_facts can_obj encW_yes word_range fitE)
open Go.Proofs.YtpnjblledbihcaaDoor.Tb (Ty Tab Made blk getT hasT sizeE sizeT own_blk blk_own)
set_option linter.unusedVariables false

theorem pairs_length (ws : List Int) (g : Int) (t : Ty) (sl : Nat) : (pairs ws g t sl).length ≤ sl := by
  unfold pairs
  rw [List.length_map]
  exact Kd.refsTo_length _ _ _ _
/-- All numbers of a row are words. -/
def Wm (ws : List Int) : Prop := ∀ v ∈ ws, 0 ≤ v ∧ v < 18446744073709551616
theorem Wm.wds {ws : List Int} (h : Wm ws) : Wds ws := wds_of h
theorem Wm.zeros (k : Nat) : Wm (List.replicate k 0) := fun v hv => by rw [List.eq_of_mem_replicate hv]; decide
theorem Wm.put {ws l : List Int} (i : Nat) (h : Wm ws) (hl : Wm l) : Wm (putW ws i l) := by
  intro v hv
  unfold putW at hv
  rcases List.mem_append.1 hv with hv | hv
  · exact h v (List.mem_of_mem_take hv)
  · rcases List.mem_append.1 hv with hv | hv
    · exact hl v hv
    · exact h v (List.mem_of_mem_drop hv)
theorem Wm.set {ws : List Int} (i : Nat) (u : Int) (h : Wm ws) (hu : 0 ≤ u ∧ u < 18446744073709551616) : Wm (ws.set i u) := by
  intro v hv
  rcases List.mem_or_eq_of_mem_set hv with hv | rfl
  · exact h v hv
  · exact hu
theorem Wm.make {ws : List Int} {l : List Ty} {g i n : Int} (h : Wm ws) (hl : l.length ≤ 64) : Wm (makeW ws l g i n) := by
  unfold makeW
  split
  · rename_i hm
    unfold layG
    refine h.put _ ?_
    intro v hv
    rcases List.mem_cons.1 hv with rfl | hv
    · have he : sizeE l i n = 0 := by
        unfold makeE at hm
        by_cases c : sizeE l i n = 0
        · exact c
        · rw [if_pos c] at hm; exact absurd hm c
      obtain ⟨sz, ho, s1, s2, i2, i3, n1, n2⟩ := of_facts he hl
      have hcan : (Hd.Hd.mk 1 i n sz).can := can_obj (by omega) (by omega) (by omega) (by omega) (by omega) (by omega)
      rw [ho, encW_yes hcan]
      have := word_range hcan
      omega
    · rw [List.eq_of_mem_replicate hv]; decide
  · exact h
theorem makeW_length {ws : List Int} {l : List Ty} {g i n : Int} (hl : l.length ≤ 64) : (makeW ws l g i n).length = ws.length := by
  unfold makeW
  split
  · rename_i hm
    unfold makeE at hm
    by_cases c : sizeE l i n = 0
    · rw [if_neg (by simpa using c)] at hm
      obtain ⟨sz, ho, s1, s2, i2, i3, n1, n2⟩ := of_facts c hl
      cases hi : inG ws.length g (ofL l i n).sz
      · rw [hi] at hm; simp at hm
      · obtain ⟨h0, h1⟩ := (inG_iff _ _ _).1 hi
        rw [ho] at h1 ⊢
        simp only at h1
        unfold layG
        refine putW_length _ _ _ ?_
        simp only [List.length_cons, List.length_replicate]
        omega
    · rw [if_pos c] at hm; exact absurd hm c
  · rfl

structure Both (w x : World) (p q tp : Nat) (A : Option Addr) (c : Nat) (l : List Ty) (ws : List Int) : Prop where
  kept : Kept [] w x
  ar : ∃ m, Arena x p q ws m
  tab : Tab x tp A c l
  hp : w.heap.size ≤ p
  hq : w.heap.size ≤ q
  np : tp ∉ [p, q]
  nb : ∀ g ∈ blk A, g ∉ [p, q]
  wm : Wm ws
namespace Both
variable {w x y : World} {p q tp : Nat} {A : Option Addr} {c : Nat} {l : List Ty} {ws ws' : List Int} {m : Int}
theorem keep0 (h : Both w x p q tp A c l ws) (k : Kept [] x y) : Both w y p q tp A c l ws := by
  obtain ⟨m, ha⟩ := h.ar
  exact ⟨h.kept.trans k, ⟨m, ha.keep0 k⟩, h.tab.keep0 k, h.hp, h.hq, h.np, h.nb, h.wm⟩
theorem wrote (h : Both w x p q tp A c l ws) (k : Kept [p, q] x y) (ha : ∃ m, Arena y p q ws' m) (hw : Wm ws') : Both w y p q tp A c l ws' := by
  refine ⟨h.kept.forget k ?_, ha, h.tab.kept k h.np ?_, h.hp, h.hq, h.np, h.nb, hw⟩
  · intro i hi
    have := h.hp
    have := h.hq
    simp at hi
    omega
  · intro g hg e
    exact h.nb g (blk_own e) hg
theorem fields (h : Both w x p q tp A c l ws) (hF : Fields w) : Fields x := hF.keep0 h.kept
end Both
theorem both_of {w x1 x2 : World} {p q tp : Nat} {A : Option Addr} {c : Nat} {l : List Ty} {ws : List Int} {m : Int} (k1 : Kept [] w x1) (ha : Arena x1 p q ws m) (hp : w.heap.size ≤ p) (hq : w.heap.size ≤ q) (hm : Made x1 x2 tp A c l) (hw : Wm ws) : Both w x2 p q tp A c l ws := by
  have h1 := ha.head.lt
  have h2 := ha.row.lt
  refine ⟨k1.trans hm.2.2.2, ⟨m, ha.keep0 hm.2.2.2⟩, hm.1, hp, hq, ?_, ?_, hw⟩
  · intro h
    have := hm.2.1
    simp at h
    omega
  · intro g hg h
    have := hm.2.2.1 g hg
    simp at h
    omega
section
variable {w x : World} {p q tp : Nat} {A : Option Addr} {c : Nat} {l : List Ty} {ws : List Int}
theorem both_make (hF : Fields w) (h : Both w x p q tp A c l ws) (g i n : Int) (g0 : -9223372036854775808 ≤ g) (g1 : g ≤ 9223372036854775807) (i0 : -9223372036854775808 ≤ i) (i1 : i ≤ 9223372036854775807) :
    Calls Tryd.prog 33 #[.pointer (some ⟨p, 0, none⟩), .pointer (some ⟨tp, 0, none⟩), .int .i64 g, .int .i64 i, .int .i64 n] x fun e y => e = .returned (.int .i64 (makeE ws.length l g i n)) ∧ Both w y p q tp A c l (makeW ws l g i n) ∧ Kept [p, q] x y := by
  obtain ⟨m, ha⟩ := h.ar
  refine (make_ok (h.fields hF) ha h.tab g i n g0 g1 i0 i1).mono ?_
  rintro e y ⟨he, ha', hk⟩
  exact ⟨he, h.wrote hk ha' (h.wm.make h.tab.len), hk⟩
/-- A view, with the arena and the table. -/
structure Vw (w x : World) (v p q tp : Nat) (A : Option Addr) (c : Nat) (l : List Ty) (ws : List Int) (g : Int) (h : Hd) (t : Ty) (sl : Int) : Prop where
  both : Both w x p q tp A c l ws
  view : View x v p g h t sl
  nv : v ∉ [p, q]
theorem Vw.keep0 {y : World} {v : Nat} {g : Int} {h : Hd} {t : Ty} {sl : Int} (H : Vw w x v p q tp A c l ws g h t sl) (k : Kept [] x y) : Vw w y v p q tp A c l ws g h t sl := ⟨H.both.keep0 k, H.view.keep0 k, H.nv⟩
theorem Vw.wrote {y : World} {v : Nat} {g : Int} {h : Hd} {t : Ty} {sl : Int} {ws' : List Int} (H : Vw w x v p q tp A c l ws g h t sl) (k : Kept [p, q] x y) (ha : ∃ m, Arena y p q ws' m) (hw : Wm ws') : Vw w y v p q tp A c l ws' g h t sl :=
  ⟨H.both.wrote k ha hw, H.view.kept k H.nv, H.nv⟩
/-- A block of another kind may turn. -/
theorem Vw.beside {y : World} {v b : Nat} {g : Int} {h : Hd} {t : Ty} {sl : Int} {cs : List Value} (H : Vw w x v p q tp A c l ws g h t sl) (hb : Has x b 37 cs) (hwb : w.heap.size ≤ b) (k : Kept [b] x y) : Vw w y v p q tp A c l ws g h t sl := by
  obtain ⟨m, ha⟩ := H.both.ar
  have n1 : p ∉ [b] := by simpa using Has.block_type ha.head hb (by decide)
  have n2 : q ∉ [b] := by simpa using Has.block_type ha.row hb (by decide)
  have n3 : tp ∉ [b] := by simpa using Has.block_type H.both.tab.head hb (by decide)
  have n4 : v ∉ [b] := by simpa using Has.block_type H.view.row hb (by decide)
  have n5 : ∀ g ∈ [b], (Value.slice A l.length c).ownBlock ≠ some g := by
    intro g hg e
    obtain rfl := List.mem_singleton.1 hg
    rcases H.both.tab.own.2 with ⟨h1, _⟩ | ⟨g', cap', cur, h1, _, hg', _⟩
    · injection h1 with h1
      subst h1
      cases e
    · injection h1 with h1
      subst h1
      have e' : g' = g := by injection e
      subst e'
      have e2 := hg'.symm.trans hb
      injection e2 with e2
      injection e2 with _ e2
      exact absurd e2 (by decide)
  refine ⟨⟨H.both.kept.forget k (by simpa using hwb), ⟨m, ha.kept k n1 n2⟩, H.both.tab.kept k n3 n5, H.both.hp, H.both.hq, H.both.np, H.both.nb, H.both.wm⟩, H.view.kept k n4, H.nv⟩
theorem Vw.besideT {y : World} {v b : Nat} {g : Int} {h : Hd} {t : Ty} {sl : Int} {cs : List Value} (H : Vw w x v p q tp A c l ws g h t sl) (hb : Has x b 55 cs) (hwb : w.heap.size ≤ b) (k : Kept [b] x y) (hbk : ∀ g ∈ blk A, g ≠ b) : Vw w y v p q tp A c l ws g h t sl := by
  obtain ⟨m, ha⟩ := H.both.ar
  have n1 : p ∉ [b] := by simpa using Has.block_type ha.head hb (by decide)
  have n2 : q ∉ [b] := by simpa using Has.block_type ha.row hb (by decide)
  have n3 : tp ∉ [b] := by simpa using Has.block_type H.both.tab.head hb (by decide)
  have n4 : v ∉ [b] := by simpa using Has.block_type H.view.row hb (by decide)
  have n5 : ∀ g ∈ [b], (Value.slice A l.length c).ownBlock ≠ some g := by
    intro g hg e
    obtain rfl := List.mem_singleton.1 hg
    exact hbk _ (blk_own e) rfl
  refine ⟨⟨H.both.kept.forget k (by simpa using hwb), ⟨m, ha.kept k n1 n2⟩, H.both.tab.kept k n3 n5, H.both.hp, H.both.hq, H.both.np, H.both.nb, H.both.wm⟩, H.view.kept k n4, H.nv⟩
theorem own_lt {w : World} {A : Option Addr} {n c : Nat} {l : List Ty} (h : Tb.Own w (.slice A n c) l) : ∀ g ∈ blk A, g < w.heap.size := by
  intro g hg
  rcases h.2 with ⟨h1, _⟩ | ⟨g', cap', cur, h1, _, hg', _⟩
  · injection h1 with h1
    subst h1
    cases hg
  · injection h1 with h1
    subst h1
    obtain rfl : g = g' := by simpa [blk] using hg
    exact (Array.getElem?_eq_some_iff.1 hg').1
theorem both_view (hF : Fields w) (h : Both w x p q tp A c l ws) (g : Int) (g0 : -9223372036854775808 ≤ g) (g1 : g ≤ 9223372036854775807) :
    Calls Tryd.prog 15 #[.pointer (some ⟨p, 0, none⟩), .pointer (some ⟨tp, 0, none⟩), .int .i64 g] x fun e y =>
      Kept [] x y ∧ ((ofE ws l g ≠ 0 ∧ e = .returned (.tuple #[.pointer none, .int .i64 (ofE ws l g)]) ∧ Both w y p q tp A c l ws) ∨
      (ofE ws l g = 0 ∧ ∃ v, e = .returned (.tuple #[.pointer (some ⟨v, 0, none⟩), .int .i64 0]) ∧ Vw w y v p q tp A c l ws g (hdH ws g) (ofT ws l g) (ofS ws l g))) := by
  obtain ⟨m, ha⟩ := h.ar
  have hlp := ha.head.lt
  have hlq := ha.row.lt
  refine (of_ok (h.fields hF) ha h.wm.wds h.tab g g0 g1).mono ?_
  rintro e y ⟨hk, ⟨h1, h2⟩ | ⟨h1, v, h2, h3, h4⟩⟩
  · exact ⟨hk, .inl ⟨h1, h2, h.keep0 hk⟩⟩
  · refine ⟨hk, .inr ⟨h1, v, h2, h.keep0 hk, h4, ?_⟩⟩
    intro hv
    simp at hv
    omega
/-- What is known of what stands there. -/
structure Facts (ws : List Int) (l : List Ty) (g : Int) (gn sl : Nat) : Prop where
  gEq : g = (gn : Int)
  slEq : ofS ws l g = (sl : Int)
  k : (ofT ws l g).k < 256
  ms : (ofT ws l g).ms < 18446744073709551616
  err : Kd.err (ofT ws l g).k (ofT ws l g).wd (ofT ws l g).ms (hdH ws g).ln = 0
  slots : Kd.slots (ofT ws l g).k (ofT ws l g).wd (hdH ws g).ln = (sl : Int)
  room : 2 * gn + 1 + sl ≤ ws.length
theorem facts_of {g : Int} (hT : Tab x tp A c l) (h : ofE ws l g = 0) : ∃ gn sl, Facts ws l g gn sl := by
  have S := stand_of h
  have hto := getT_ok hT (hdH ws g).ty
  obtain ⟨j0, j1⟩ := (inG_iff _ _ _).1 S.isin
  have hfit := S.fit
  unfold Hd.fitL fitE at hfit
  by_cases hc : (hdH ws g).can
  · rw [if_neg (by simpa using hc), if_neg (by simpa using S.tag)] at hfit
    have hne : ¬ (sizeE l (hdH ws g).ty (hdH ws g).ln ≠ 0 ∨ ofL l (hdH ws g).ty (hdH ws g).ln ≠ hdH ws g) := by
      intro hh
      rw [if_pos hh] at hfit
      cases hfit
    have he : sizeE l (hdH ws g).ty (hdH ws g).ln = 0 := Classical.byContradiction fun e => hne (.inl e)
    have ho : ofL l (hdH ws g).ty (hdH ws g).ln = hdH ws g := Classical.byContradiction fun e => hne (.inr e)
    have hhas : hasT l (hdH ws g).ty = true := by
      cases hx : hasT l (hdH ws g).ty with
      | true => rfl
      | false => unfold sizeE at he; rw [hx, if_neg (by decide)] at he; cases he
    have herr : Kd.err (ofT ws l g).k (ofT ws l g).wd (ofT ws l g).ms (hdH ws g).ln = 0 := by
      unfold sizeE at he
      rw [hhas] at he
      exact he
    obtain ⟨b0, b1⟩ := Kd.slots_bound herr
    have hsz : (hdH ws g).sz = Kd.sizeR (ofT ws l g).k (ofT ws l g).wd (ofT ws l g).ms (hdH ws g).ln := by
      rw [← ho]
      unfold Hd.ofL Hd.ofH
      rw [if_pos he]
      simp only
      unfold sizeT
      rw [hhas]
      rfl
    have hss : ofS ws l g = Kd.slots (ofT ws l g).k (ofT ws l g).wd (hdH ws g).ln := by unfold ofS Kd.slotsR; rw [if_pos herr]
    unfold Kd.sizeR at hsz
    rw [if_pos herr] at hsz
    refine ⟨g.toNat, (ofS ws l g).toNat, by omega, by rw [hss]; omega, hto.1, hto.2, herr, by rw [hss]; omega, ?_⟩
    rw [hss]
    omega
  · rw [if_pos hc] at hfit
    cases hfit
/-- What a view's Refs and Targets go over. -/
theorem src_of {v : Nat} {g : Int} {h : Hd} {t : Ty} {gn sl : Nat} (H : Vw w x v p q tp A c l ws g h t (sl : Int)) (hg : g = (gn : Int)) (hk : t.k < 256) (hm : t.ms < 18446744073709551616) (he : Kd.err t.k t.wd t.ms h.ln = 0) (hs : Kd.slots t.k t.wd h.ln = (sl : Int)) (hr : 2 * gn + 1 + sl ≤ ws.length) : Src x (some ⟨v, 0, none⟩) (pairs ws gn t sl) := by
  obtain ⟨m, ha⟩ := H.both.ar
  subst hg
  exact .inr ⟨v, p, q, m, gn, h, t, sl, ws, rfl, H.view, ha, hk, hm, he, hs, hr, rfl⟩
end
end Go.Proofs.YtpnjblledbihcaaDoor.Sh
