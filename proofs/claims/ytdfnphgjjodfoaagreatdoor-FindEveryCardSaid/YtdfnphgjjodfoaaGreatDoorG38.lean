/-
  Several texts in one: SpDocEnds, SpTwin.
-/
import Derived.Test.YtdfnphgjjodfoaaGreatDoorG22
import Derived.Test.YtdfnphgjjodfoaaGreatDoorG37
import Derived.Test.YtdfnphgjjodfoaaGreatDoorG28
import Derived.Test.YtdfnphgjjodfoaaGreatDoorG31
/-
  Where a Drop's gap begins and ends, by the starts and by the cells.
-/
namespace Go.Proofs.YtdfnphgjjodfoaaGreatDoor.Sp
open Go.RowKit Go.Proofs.YtdfnphgjjodfoaaGreatDoor.Ar Go.Proofs.YtdfnphgjjodfoaaGreatDoor.Sh
open Go.Proofs.YtdfnphgjjodfoaaGreatDoor.Hd (Hd fitL wordI ofL of_facts can_obj encW_yes encW)
open Go.Proofs.YtdfnphgjjodfoaaGreatDoor.Tb (Ty sizeE)
open Go.Proofs.YtdfnphgjjodfoaaGreatDoor.Bt (bit atI prevO nextO hasV)
set_option linter.unusedVariables false

theorem Snd.ends {ws : List Int} {l : List Ty} {bs : List Bool} {A B : List Cel} {c : Cel} {g : Nat} (h : Snd ws l bs (A ++ c :: B)) (hc1 : c.a = (g : Int)) (hc2 : c.h.tg = 1) :
    prevEndV bs ws g = fromR A.reverse g ∧ nextStartV bs ws g = toR B ((g : Int) + c.h.sz) := by
  have hb : bit bs g = true := (h.agree g).2 ⟨c, objs_mem.2 ⟨by simp, hc2⟩, hc1⟩
  obtain ⟨mm, t1, t2⟩ := Tiled.split h.tiled
  have hmm : mm = (g : Int) := by rw [← hc1]; exact t2.1.symm
  subst hmm
  have t3 : Tiled ws l ((g : Int) + c.h.sz) B (gran ws) := t2.2.2.2.2
  obtain ⟨A1, A2, m1, e1, a1, a2, u1, u2, e6⟩ := fromR_cut (A := A.reverse) (by rw [List.reverse_reverse]; exact t1)
  rw [List.reverse_reverse] at e1
  obtain ⟨B1, B2, m2, f1, b1, b2, v1, v2, f6⟩ := toR_cut t3
  rw [e6, f6]
  subst e1 f1
  have hcs := can_sz t2.2.1
  have hbl := bit_lt hb
  have hgl := h.len
  -- where objects begin
  have hobj : ∀ i : Nat, bit bs i = true ↔ ∃ d ∈ A1 ++ A2 ++ c :: (B1 ++ B2), d.h.tg = 1 ∧ d.a = (i : Int) := fun i => by
    rw [h.agree i]
    constructor
    · rintro ⟨d, hd, e⟩
      obtain ⟨x, y⟩ := objs_mem.1 hd
      exact ⟨d, x, y, e⟩
    · rintro ⟨d, hd, e, k⟩
      exact ⟨d, objs_mem.2 ⟨hd, e⟩, k⟩
  have hprev : prevEndV bs ws g = m1 := by
    unfold prevEndV
    rcases a2 with rfl | ⟨A0, p, rfl, hp⟩
    · have h0 : (0 : Int) = m1 := u1
      have hn : prevO bs ((g : Int) - 1) = none := by
        cases ho : prevO bs ((g : Int) - 1) with
        | none => rfl
        | some x =>
          exfalso
          obtain ⟨x1, x2, _⟩ := prevO_some ho
          obtain ⟨d, hd, d1, d2⟩ := (hobj x).1 x2
          simp only [List.nil_append, List.mem_append, List.mem_cons] at hd
          rcases hd with hd | rfl | hd | hd
          · exact a1 d hd d1
          · omega
          · have := (v1.mem d hd).1; omega
          · have := (v2.mem d hd).1; have := v1.le; omega
      rw [hn]
      exact h0
    · obtain ⟨m0, w1, w2⟩ := Tiled.split u1
      have hpa : p.a = m0 := w2.1
      have hps := can_sz w2.2.1
      have hpe : m0 + p.h.sz = m1 := w2.2.2.2.2
      have hu2 := u2.le
      have hm0 := w1.le
      have hpb : bit bs m0.toNat = true := (hobj m0.toNat).2 ⟨p, by simp, hp, by omega⟩
      have ho : prevO bs ((g : Int) - 1) = some m0.toNat := by
        cases ho : prevO bs ((g : Int) - 1) with
        | none => have := prevO_none ho m0.toNat (by omega); rw [this] at hpb; cases hpb
        | some x =>
          obtain ⟨x1, x2, x3⟩ := prevO_some ho
          obtain ⟨d, hd, d1, d2⟩ := (hobj x).1 x2
          have hge : m0.toNat ≤ x := by
            rcases Nat.lt_or_ge x m0.toNat with k | k
            · have := x3 m0.toNat k (by omega); rw [this] at hpb; cases hpb
            · exact k
          simp only [List.mem_append, List.mem_cons, List.not_mem_nil, or_false] at hd
          rcases hd with ((hd | rfl) | hd) | rfl | hd | hd
          · obtain ⟨y1, y2, y3, _⟩ := w1.mem d hd
            have := can_sz y3
            omega
          · rw [show m0.toNat = x by omega]
          · exact absurd d1 (a1 d hd)
          · omega
          · have := (v1.mem d hd).1; omega
          · have := (v2.mem d hd).1; have := v1.le; omega
      have hcell := (Tiled.cell u1 (Int.le_refl _) (show m1 ≤ (ws.length : Int) / 2 by have := u2.le; have : gran ws = (ws.length : Int) / 2 := rfl; omega) p (by simp)).2.1
      have hat : atI (some m0.toNat) = m0 := by show ((m0.toNat : Nat) : Int) = m0; omega
      rw [ho, hat, ← hpa, hcell, hpa]
      exact hpe
  have hnext : nextStartV bs ws g = m2 := by
    unfold nextStartV
    rcases b2 with rfl | ⟨p, B0, rfl, hp⟩
    · have h0 : m2 = gran ws := v2
      have hn : nextO bs ((g : Int) + 1) true = none := by
        cases ho : nextO bs ((g : Int) + 1) true with
        | none => rfl
        | some x =>
          exfalso
          obtain ⟨x1, x2, _⟩ := nextO_some (by omega) ho
          obtain ⟨d, hd, d1, d2⟩ := (hobj x).1 x2
          simp only [List.append_nil, List.mem_append, List.mem_cons] at hd
          rcases hd with (hd | hd) | rfl | hd
          · obtain ⟨y1, y2, y3, _⟩ := u1.mem d hd
            have := can_sz y3
            have := u2.le
            omega
          · obtain ⟨y1, y2, y3, _⟩ := u2.mem d hd
            have := can_sz y3
            omega
          · omega
          · exact b1 d hd d1
      rw [hn, h0]
      rfl
    · have hpa : p.a = m2 := v2.1
      have hps := can_sz v2.2.1
      have hv1 := v1.le
      have hpe := Tiled.le v2.2.2.2.2
      have hpb : bit bs m2.toNat = true := (hobj m2.toNat).2 ⟨p, by simp, hp, by omega⟩
      have ho : nextO bs ((g : Int) + 1) true = some m2.toNat := by
        cases ho : nextO bs ((g : Int) + 1) true with
        | none => have := nextO_none (by omega) ho m2.toNat (by omega); rw [this] at hpb; cases hpb
        | some x =>
          obtain ⟨x1, x2, x3⟩ := nextO_some (by omega) ho
          obtain ⟨d, hd, d1, d2⟩ := (hobj x).1 x2
          have hge : x ≤ m2.toNat := by
            rcases Nat.lt_or_ge m2.toNat x with k | k
            · have := x3 m2.toNat (by omega) k; rw [this] at hpb; cases hpb
            · exact k
          simp only [List.mem_append, List.mem_cons] at hd
          rcases hd with (hd | hd) | rfl | hd | rfl | hd
          · obtain ⟨y1, y2, y3, _⟩ := u1.mem d hd
            have := can_sz y3
            have := u2.le
            omega
          · obtain ⟨y1, y2, y3, _⟩ := u2.mem d hd
            have := can_sz y3
            omega
          · omega
          · exact absurd d1 (b1 d hd)
          · rw [show m2.toNat = x by omega]
          · have := (Tiled.mem v2.2.2.2.2 d hd).1
            omega
      have hat : atI (some m2.toNat) = m2 := by show ((m2.toNat : Nat) : Int) = m2; omega
      rw [ho]
      exact hat
  exact ⟨hprev, hnext⟩
end Go.Proofs.YtdfnphgjjodfoaaGreatDoor.Sp

/-
  A law's own space beside the document's: what Put, Drop and Settle make of each.
-/
namespace Go.Proofs.YtdfnphgjjodfoaaGreatDoor.Sp
open Go.RowKit Go.Proofs.YtdfnphgjjodfoaaGreatDoor.Ar Go.Proofs.YtdfnphgjjodfoaaGreatDoor.Sh
open Go.Proofs.YtdfnphgjjodfoaaGreatDoor.Hd (Hd Fields ofL of_facts)
open Go.Proofs.YtdfnphgjjodfoaaGreatDoor.Tb (Ty Tab sizeE)
open Go.Proofs.YtdfnphgjjodfoaaGreatDoor.Bt (Bv bit hasV)
open Go.Proofs.YtdfnphgjjodfoaaGreatDoor.Wd (Table)
set_option linter.unusedVariables false

/-- A space with the words wp, beside the document's with the words wd. -/
structure Duo (w x : World) (s : Ids) (r : Nat) (B : Option Addr) (d : Nat) (l : List Ty) (wp : List Int) (bs : List Bool) (cs : List Cel) (wd : List Int) : Prop where
  fields : Fields w
  table : Table w
  mine : Mine w x s l wp bs cs
  doc : ∃ q cap, DSp x r q cap B d l wd ∧ q ∉ s.turn
  fresh : w.heap.size ≤ r
  big : 8 ≤ bs.length
  size : bs.length = s.n
/-- What is known of the document's words. -/
theorem fit_of {w x : World} {s : Ids} {B : Option Addr} {l : List Ty} {ws : List Int} {bs : List Bool} {cs : List Cel} (h : Mine w x s l ws bs cs) (hT : Tb.Seen w B l) : Fit w B l ws cs :=
  ⟨h.spc.short, h.spc.wm, hT, h.spc.tab.all, h.spc.tab.len, h.snd.tiled⟩
section
variable {w x y : World} {s : Ids} {r : Nat} {B : Option Addr} {d : Nat} {l : List Ty} {wp wp' wd wd' : List Int} {bs bs' : List Bool} {cs cs' : List Cel}
theorem Duo.keep0 (h : Duo w x s r B d l wp bs cs wd) (k : Kept [] x y) : Duo w y s r B d l wp bs cs wd := by
  obtain ⟨q, cap, hd, hq⟩ := h.doc
  exact ⟨h.fields, h.table, h.mine.keep0 k, ⟨q, cap, hd.keep0 k, hq⟩, h.fresh, h.big, h.size⟩
theorem Duo.ours (h : Duo w x s r B d l wp bs cs wd) (k : Kept s.turn x y) (hm : Mine w y s l wp' bs' cs') : Duo w y s r B d l wp' bs' cs' wd := by
  obtain ⟨q, cap, hd, hq⟩ := h.doc
  have hb : bs'.length = bs.length := by
    obtain ⟨v1, a1, _⟩ := h.mine.spc.bv
    obtain ⟨v2, a2, _⟩ := hm.spc.bv
    have h1 := (a1.head.kept k (h.mine.spc.beside a1.head (by decide) (by decide) (by decide))).cell 0
    have h2 := a2.head.cell 0
    rw [h1] at h2
    simp at h2
    omega
  exact ⟨h.fields, h.table, hm, ⟨q, cap, hd.kept k (h.mine.spc.beside hd.head (by decide) (by decide) (by decide)) hq, hq⟩, h.fresh, by rw [hb]; exact h.big, by rw [hb]; exact h.size⟩
theorem Duo.theirs (h : Duo w x s r B d l wp bs cs wd) {q : Nat} (hq : q ∉ s.turn) (hD : Doc x y r q B d l wd') : Duo w y s r B d l wp bs cs wd' := by
  obtain ⟨q0, cap0, hd, _⟩ := h.doc
  obtain ⟨q', cap', h1, h2, k⟩ := hD
  have kw : Kept [] w y := h.mine.kept.forget k (fun i hi => by rw [List.mem_singleton.1 hi]; exact h.fresh)
  have hq' : q' ∉ s.turn := by
    rcases h2 with rfl | h2
    · exact hq
    · intro hm
      have := h.mine.spc.turn_lt _ hm
      omega
  refine ⟨h.fields, h.table, ⟨kw, h.mine.spc.moved fun i o ⟨t, c, ht, hh⟩ ho => ?_, ⟨h.fields.keep0 kw, table_keep0 h.table kw, h.mine.glob.nf, h.mine.glob.nt⟩, h.mine.snd, h.mine.fresh⟩, ⟨q', cap', h1, hq'⟩, h.fresh, h.big, h.size⟩
  have hi := (Array.getElem?_eq_some_iff.1 ho).1
  refine (k.old i hi ?_).trans ho
  have hne := Has.block_type hh hd.head (by rcases ht with rfl | rfl | rfl | rfl | rfl | rfl | rfl <;> decide)
  simpa using hne
end
section
variable {w x : World} {s : Ids} {r : Nat} {B : Option Addr} {d : Nat} {l : List Ty} {ws wd : List Int} {bs : List Bool} {cs : List Cel}
theorem up {S : List Nat} {a b : World} {r : Nat} (k : Kept S a b) : Kept (r :: S) a b := k.mono fun i hi => List.mem_cons_of_mem _ hi
theorem duo_put (h : Duo w x s r B d l ws bs cs wd) (g i n : Int) (g0 : -9223372036854775808 ≤ g) (g1 : g ≤ 9223372036854775807) (i0 : -9223372036854775808 ≤ i) (i1 : i ≤ 9223372036854775807) :
    Calls Tryz.prog 27 #[.pointer (some ⟨s.sp, 0, none⟩), .int .i64 g, .int .i64 i, .int .i64 n] x fun e y => e = .returned (.int .i64 (putE ws l cs g i n)) ∧ (∃ bs' cs', Duo w y s r B d l (putX ws l cs g i n) bs' cs' wd) ∧ Kept (r :: s.turn) x y := by
  have m := h.mine
  by_cases he : sizeE l i n = 0
  · by_cases hin : 0 ≤ g ∧ g < gran ws
    · obtain ⟨S, hS, P, c, Q, hcs, c1, c2, hf⟩ := m.snd.gap g hin.1 hin.2
      obtain ⟨sz, ho, s1, s2, j0, j1, n0, n1⟩ := of_facts he m.spc.tab.len
      have hsh := m.spc.short
      have hgr : gran ws ≤ 32768 := by unfold gran; omega
      obtain ⟨b1, b2, b3, b4, b5⟩ := m.snd.tiled.mem c (by rw [hcs]; simp)
      have hz := can_sz b3
      have hra := room_at (l := l) (g := g) (i := i) (n := n) (by have := m.snd.tiled; rw [hcs] at this; exact this) c1 c2
      rw [← hcs] at hra
      by_cases hx : RoomP l g i n c
      · rw [if_pos hx] at hra
        obtain ⟨e1, e2⟩ := putE_room (ws := ws) he hin hra
        have hN0 := m.snd
        rw [hcs] at hN0
        have hN := hN0.put m.spc.tab.len he hx.1 c1 hx.2.2.2
        refine (put_yes m.glob m.spc g i n i0 i1 he hin.1 hin.2 S hS c hf ⟨by omega, by omega⟩ ⟨by omega, by omega⟩ hx.1 hx.2.2.2 c1).mono ?_
        rintro e y ⟨he', hS', hk⟩
        rw [e1, e2]
        exact ⟨he', ⟨_, _, h.ours hk (m.turned hk hS' hN)⟩, up hk⟩
      · rw [if_neg hx] at hra
        obtain ⟨e1, e2⟩ := putE_full (ws := ws) he hin hra
        refine (put_none m.glob m.spc g i n i0 i1 he hin.1 hin.2 S hS c hf ⟨by omega, by omega⟩ ⟨by omega, by omega⟩ ?_).mono ?_
        · by_cases k1 : c.h.tg = 1
          · exact .inl k1
          · rcases Int.lt_or_le (c.a + c.h.sz - g) (ofL l i n).sz with k | k
            · exact .inr k
            · exact absurd ⟨k1, c1, c2, k⟩ hx
        · rintro e y ⟨he', hk⟩
          rw [e1, e2]
          exact ⟨he', ⟨bs, cs, h.keep0 hk⟩, hk.none _⟩
    · obtain ⟨e1, e2⟩ := putE_far (ws := ws) (cs := cs) (g := g) he (by omega)
      refine (put_out m.glob m.spc g i n g0 g1 i0 i1 he (by omega)).mono ?_
      rintro e y ⟨he', hk⟩
      rw [e1, e2]
      exact ⟨he', ⟨bs, cs, h.keep0 hk⟩, hk.none _⟩
  · obtain ⟨e1, e2⟩ := putE_err (ws := ws) (cs := cs) (g := g) he
    refine (put_err m.glob m.spc g i n i0 i1 he).mono ?_
    rintro e y ⟨he', hk⟩
    rw [e1, e2]
    exact ⟨he', ⟨bs, cs, h.keep0 hk⟩, hk.none _⟩
theorem duo_drop (h : Duo w x s r B d l ws bs cs wd) (g : Int) (g0 : -9223372036854775808 ≤ g) (g1 : g ≤ 9223372036854775807) :
    Calls Tryz.prog 60 #[.pointer (some ⟨s.sp, 0, none⟩), .int .i64 g] x fun e y => e = .returned (.int .i64 (dropE cs g)) ∧ (∃ bs' cs', Duo w y s r B d l (dropX ws cs g) bs' cs' wd) ∧ Kept (r :: s.turn) x y := by
  have m := h.mine
  cases hv : hasV bs g with
  | false =>
    have hn : objAt [] cs g = none := objAt_none fun c hc ht e => by
      have hcm := m.snd.tiled.mem c hc
      have hb : bit bs g.toNat = true := (m.snd.agree _).2 ⟨c, objs_mem.2 ⟨hc, ht⟩, by omega⟩
      unfold hasV at hv
      rw [hb, decide_eq_true (by omega)] at hv
      cases hv
    refine (drop_no m.glob m.spc g g0 g1 hv).mono ?_
    rintro e y ⟨he, hk⟩
    unfold dropE dropX
    rw [hn]
    exact ⟨he, ⟨bs, cs, h.keep0 hk⟩, hk.none _⟩
  | true =>
    have hv' := hv
    unfold hasV at hv'
    rw [Bool.and_eq_true, decide_eq_true_iff] at hv'
    obtain ⟨h0, hb⟩ := hv'
    have hbl := bit_lt hb
    have hfew := m.spc.few
    obtain ⟨A, c, Q, hcs, hc1, hc2, t1, t2⟩ := m.snd.at hb
    have hgn : ((g.toNat : Nat) : Int) = g := by omega
    have hSn := m.snd
    rw [hcs] at hSn
    obtain ⟨hpe, hne⟩ := hSn.ends hc1 hc2
    obtain ⟨P, M, Q', c', hcs', ho, hc', u1, u2, u3⟩ := m.snd.drop hb
    rw [hgn] at hc1 hpe hne hc' u1 u2 u3
    have hat : objAt [] cs g = some (A.reverse, c, Q) := by
      have h1 := m.snd.tiled
      rw [hcs] at h1
      have h2 := objAt_some (A := []) h1 hc1 hc2
      rw [List.append_nil] at h2
      rw [hcs]
      exact h2
    have hsh := m.spc.short
    have hgr : gran ws ≤ 32768 := by unfold gran; omega
    have hp := u1.le
    have hpn := u2.le
    have hng := u3.le
    refine (drop_yes m.glob m.spc g h0 (by omega) hv (by omega) ⟨by omega, by omega⟩).mono ?_
    rintro e y ⟨he, hS, hk⟩
    have hm := m.snd
    rw [hcs'] at hm
    have hN := hm.replace (ws1 := ws) (os := []) u1 u2 u3 rfl (fun _ _ _ => rfl) hpn
    have hX : dropX ws cs g = dropW ws bs g := by
      unfold dropX dropW
      rw [hat, hpe, hne]
      rfl
    unfold dropE
    rw [hat, hX]
    exact ⟨he, ⟨_, _, h.ours hk (m.turned hk hS hN)⟩, up hk⟩
theorem settle_snd {gs : List Int} {os : List Cel} (hS : Snd ws l bs cs) (hs : standL ws l 0 gs = some os) : Snd (becomeW ws 0 os (gran ws)) l (becomeB bs 0 os (gran ws)) (becomeL 0 os (gran ws)) := by
  have hg : 0 ≤ gran ws := by unfold gran; omega
  have h1 : Snd ws l bs ([] ++ cs ++ []) := by simpa using hS
  have h2 := h1.replace (ws1 := ws) (os := os) (f := 0) (e := gran ws) rfl hS.tiled rfl rfl (fun _ _ _ => rfl) (standing_of hs hg)
  simpa using h2
theorem duo_settle (h : Duo w x s r B d l ws bs cs wd) (A : Option Addr) (gs : List Int) (ca : Nat) (hS : Ir.Seen x A gs) (hI : ∀ g ∈ gs, -9223372036854775808 ≤ g ∧ g ≤ 9223372036854775807) (hlen : gs.length ≤ 100000) :
    Calls Tryz.prog 64 #[.pointer (some ⟨s.sp, 0, none⟩), .slice A gs.length ca] x fun e y => e = .returned (.int .i64 (settleE ws l gs)) ∧ (∃ bs' cs', Duo w y s r B d l (settleX ws l gs) bs' cs' wd) ∧ Kept (r :: s.turn) x y := by
  have m := h.mine
  refine (settle_ok m.glob m.spc A gs ca hS hI hlen).mono ?_
  rintro e y ⟨he, hk, ⟨z1, hs⟩ | ⟨os, z1, hs⟩⟩
  · have hX : settleX ws l gs = ws := by unfold settleX; rw [z1]
    rw [hX]
    exact ⟨he, ⟨bs, cs, h.ours hk (m.turned hk hs m.snd)⟩, up hk⟩
  · have hX : settleX ws l gs = becomeW ws 0 os (gran ws) := by unfold settleX; rw [z1]
    rw [hX]
    exact ⟨he, ⟨_, _, h.ours hk (m.turned hk hs (settle_snd m.snd z1))⟩, up hk⟩
/-! ### the document's -/
variable {wp : List Int} {bp : List Bool} {cp : List Cel}
theorem duo_sput (h : Duo w x s r B d l wp bp cp ws) (hf : Fit w B l ws cs) (g i n : Int) (g0 : -9223372036854775808 ≤ g) (g1 : g ≤ 9223372036854775807) (i0 : -9223372036854775808 ≤ i) (i1 : i ≤ 9223372036854775807) :
    Calls Tryz.prog 59 #[.pointer (some ⟨r, 0, none⟩), .int .i64 g, .int .i64 i, .int .i64 n] x fun e y => e = .returned (.int .i64 (putE ws l cs g i n)) ∧ Duo w y s r B d l wp bp cp (putX ws l cs g i n) ∧ Kept (r :: s.turn) x y := by
  obtain ⟨q, cap, hd, hq⟩ := h.doc
  exact (sput_ok hd (hf.keep0 h.mine.kept) g i n g0 g1 i0 i1).mono fun e y ⟨he, hD⟩ => ⟨he, h.theirs hq hD, let ⟨_, _, _, _, k⟩ := hD; k.mono (fun i hi => by rw [List.mem_singleton.1 hi]; exact List.mem_cons_self)⟩
theorem duo_sdrop (h : Duo w x s r B d l wp bp cp ws) (hf : Fit w B l ws cs) (g : Int) (g0 : -9223372036854775808 ≤ g) (g1 : g ≤ 9223372036854775807) :
    Calls Tryz.prog 61 #[.pointer (some ⟨r, 0, none⟩), .int .i64 g] x fun e y => e = .returned (.int .i64 (dropE cs g)) ∧ Duo w y s r B d l wp bp cp (dropX ws cs g) ∧ Kept (r :: s.turn) x y := by
  obtain ⟨q, cap, hd, hq⟩ := h.doc
  exact (sdrop_ok hd (hf.keep0 h.mine.kept) g g0 g1).mono fun e y ⟨he, hD⟩ => ⟨he, h.theirs hq hD, let ⟨_, _, _, _, k⟩ := hD; k.mono (fun i hi => by rw [List.mem_singleton.1 hi]; exact List.mem_cons_self)⟩
theorem duo_ssettle (h : Duo w x s r B d l wp bp cp ws) (hf : Fit w B l ws cs) (A : Option Addr) (gs : List Int) (ca : Nat) (hS : Ir.Seen x A gs) (hlen : gs.length ≤ 100000) :
    Calls Tryz.prog 65 #[.pointer (some ⟨r, 0, none⟩), .slice A gs.length ca] x fun e y => e = .returned (.int .i64 (settleE ws l gs)) ∧ Duo w y s r B d l wp bp cp (settleX ws l gs) ∧ Kept (r :: s.turn) x y := by
  obtain ⟨q, cap, hd, hq⟩ := h.doc
  exact (ssettle_ok hd (hf.keep0 h.mine.kept) A gs ca hS hlen).mono fun e y ⟨he, hD⟩ => ⟨he, h.theirs hq hD, let ⟨_, _, _, _, k⟩ := hD; k.mono (fun i hi => by rw [List.mem_singleton.1 hi]; exact List.mem_cons_self)⟩
end
end Go.Proofs.YtdfnphgjjodfoaaGreatDoor.Sp
