/-
  Several texts in one: SpDocEnds, SpTwin, SpStore, SpJoins.
-/
import Derived.Test.YtagmmbkgjomdlaaGreatDoorG24
import Derived.Test.YtagmmbkgjomdlaaGreatDoorG28
import Derived.Test.YtagmmbkgjomdlaaGreatDoorG31
import Derived.Test.YtagmmbkgjomdlaaGreatDoorG30
import Derived.Test.YtagmmbkgjomdlaaGreatDoorG33
import Derived.Test.YtagmmbkgjomdlaaGreatDoorG34
import Derived.Test.YtagmmbkgjomdlaaGreatDoorG27
/-
  Where a Drop's gap begins and ends, by the starts and by the cells.
-/
namespace Go.Proofs.YtagmmbkgjomdlaaGreatDoor.Sp
open Go.RowKit Go.Proofs.YtagmmbkgjomdlaaGreatDoor.Ar Go.Proofs.YtagmmbkgjomdlaaGreatDoor.Sh
open Go.Proofs.YtagmmbkgjomdlaaGreatDoor.Hd (Hd fitL wordI ofL of_facts can_obj encW_yes encW)
open Go.Proofs.YtagmmbkgjomdlaaGreatDoor.Tb (Ty sizeE)
open Go.Proofs.YtagmmbkgjomdlaaGreatDoor.Bt (bit atI prevO nextO hasV)
set_option linter.unusedVariables false

theorem Snd.ends {ws : List Int} {l : List Ty} {bs : List Bool} {A B : List Cel} {c : Cel} {g : Nat} (h : Snd ws l bs (A ++ c :: B)) (hc1 : c.a = (g : Int)) (hc2 : c.h.tg = 1) :
    prevEndV bs ws g = fromR A.reverse g ∧ nextStartV bs ws g = toR B ((g : Int) + c.h.sz) := by
  have hb : bit bs g = true := (h.agree g).2 ⟨c, objs_mem.2 ⟨by simp, hc2⟩, hc1⟩
  obtain ⟨mm, t1, t2⟩ := Tiled.split h.tiled
  have hmm : mm = (g : Int) := by rw [← hc1]; exact t2.1.symm
  subst hmm
  have t3 : Tiled ws l ((g : Int) + c.h.sz) B (gran ws) := t2.2.2.2.2
  obtain ⟨A1, A2, m1, e1, a1, a2, u1, u2, e6⟩ := fromR_cut (A := A.reverse) (by rw [List.reverse_reverse]; exact t1)
  rw [List.reverse_reverse] at e1
  obtain ⟨B1, B2, m2, f1, b1, b2, v1, v2, f6⟩ := toR_cut t3
  rw [e6, f6]
  subst e1 f1
  have hcs := can_sz t2.2.1
  have hbl := bit_lt hb
  have hgl := h.len
  -- where objects begin
  have hobj : ∀ i : Nat, bit bs i = true ↔ ∃ d ∈ A1 ++ A2 ++ c :: (B1 ++ B2), d.h.tg = 1 ∧ d.a = (i : Int) := fun i => by
    rw [h.agree i]
    constructor
    · rintro ⟨d, hd, e⟩
      obtain ⟨x, y⟩ := objs_mem.1 hd
      exact ⟨d, x, y, e⟩
    · rintro ⟨d, hd, e, k⟩
      exact ⟨d, objs_mem.2 ⟨hd, e⟩, k⟩
  have hprev : prevEndV bs ws g = m1 := by
    unfold prevEndV
    rcases a2 with rfl | ⟨A0, p, rfl, hp⟩
    · have h0 : (0 : Int) = m1 := u1
      have hn : prevO bs ((g : Int) - 1) = none := by
        cases ho : prevO bs ((g : Int) - 1) with
        | none => rfl
        | some x =>
          exfalso
          obtain ⟨x1, x2, _⟩ := prevO_some ho
          obtain ⟨d, hd, d1, d2⟩ := (hobj x).1 x2
          simp only [List.nil_append, List.mem_append, List.mem_cons] at hd
          rcases hd with hd | rfl | hd | hd
          · exact a1 d hd d1
          · omega
          · have := (v1.mem d hd).1; omega
          · have := (v2.mem d hd).1; have := v1.le; omega
      rw [hn]
      exact h0
    · obtain ⟨m0, w1, w2⟩ := Tiled.split u1
      have hpa : p.a = m0 := w2.1
      have hps := can_sz w2.2.1
      have hpe : m0 + p.h.sz = m1 := w2.2.2.2.2
      have hu2 := u2.le
      have hm0 := w1.le
      have hpb : bit bs m0.toNat = true := (hobj m0.toNat).2 ⟨p, by simp, hp, by omega⟩
      have ho : prevO bs ((g : Int) - 1) = some m0.toNat := by
        cases ho : prevO bs ((g : Int) - 1) with
        | none => have := prevO_none ho m0.toNat (by omega); rw [this] at hpb; cases hpb
        | some x =>
          obtain ⟨x1, x2, x3⟩ := prevO_some ho
          obtain ⟨d, hd, d1, d2⟩ := (hobj x).1 x2
          have hge : m0.toNat ≤ x := by
            rcases Nat.lt_or_ge x m0.toNat with k | k
            · have := x3 m0.toNat k (by omega); rw [this] at hpb; cases hpb
            · exact k
          simp only [List.mem_append, List.mem_cons, List.not_mem_nil, or_false] at hd
          rcases hd with ((hd | rfl) | hd) | rfl | hd | hd
          · obtain ⟨y1, y2, y3, _⟩ := w1.mem d hd
            have := can_sz y3
            omega
          · rw [show m0.toNat = x by omega]
          · exact absurd d1 (a1 d hd)
          · omega
          · have := (v1.mem d hd).1; omega
          · have := (v2.mem d hd).1; have := v1.le; omega
      have hcell := (Tiled.cell u1 (Int.le_refl _) (show m1 ≤ (ws.length : Int) / 2 by have := u2.le; have : gran ws = (ws.length : Int) / 2 := rfl; omega) p (by simp)).2.1
      have hat : atI (some m0.toNat) = m0 := by show ((m0.toNat : Nat) : Int) = m0; omega
      rw [ho, hat, ← hpa, hcell, hpa]
      exact hpe
  have hnext : nextStartV bs ws g = m2 := by
    unfold nextStartV
    rcases b2 with rfl | ⟨p, B0, rfl, hp⟩
    · have h0 : m2 = gran ws := v2
      have hn : nextO bs ((g : Int) + 1) true = none := by
        cases ho : nextO bs ((g : Int) + 1) true with
        | none => rfl
        | some x =>
          exfalso
          obtain ⟨x1, x2, _⟩ := nextO_some (by omega) ho
          obtain ⟨d, hd, d1, d2⟩ := (hobj x).1 x2
          simp only [List.append_nil, List.mem_append, List.mem_cons] at hd
          rcases hd with (hd | hd) | rfl | hd
          · obtain ⟨y1, y2, y3, _⟩ := u1.mem d hd
            have := can_sz y3
            have := u2.le
            omega
          · obtain ⟨y1, y2, y3, _⟩ := u2.mem d hd
            have := can_sz y3
            omega
          · omega
          · exact b1 d hd d1
      rw [hn, h0]
      rfl
    · have hpa : p.a = m2 := v2.1
      have hps := can_sz v2.2.1
      have hv1 := v1.le
      have hpe := Tiled.le v2.2.2.2.2
      have hpb : bit bs m2.toNat = true := (hobj m2.toNat).2 ⟨p, by simp, hp, by omega⟩
      have ho : nextO bs ((g : Int) + 1) true = some m2.toNat := by
        cases ho : nextO bs ((g : Int) + 1) true with
        | none => have := nextO_none (by omega) ho m2.toNat (by omega); rw [this] at hpb; cases hpb
        | some x =>
          obtain ⟨x1, x2, x3⟩ := nextO_some (by omega) ho
          obtain ⟨d, hd, d1, d2⟩ := (hobj x).1 x2
          have hge : x ≤ m2.toNat := by
            rcases Nat.lt_or_ge m2.toNat x with k | k
            · have := x3 m2.toNat (by omega) k; rw [this] at hpb; cases hpb
            · exact k
          simp only [List.mem_append, List.mem_cons] at hd
          rcases hd with (hd | hd) | rfl | hd | rfl | hd
          · obtain ⟨y1, y2, y3, _⟩ := u1.mem d hd
            have := can_sz y3
            have := u2.le
            omega
          · obtain ⟨y1, y2, y3, _⟩ := u2.mem d hd
            have := can_sz y3
            omega
          · omega
          · exact absurd d1 (b1 d hd)
          · rw [show m2.toNat = x by omega]
          · have := (Tiled.mem v2.2.2.2.2 d hd).1
            omega
      have hat : atI (some m2.toNat) = m2 := by show ((m2.toNat : Nat) : Int) = m2; omega
      rw [ho]
      exact hat
  exact ⟨hprev, hnext⟩
end Go.Proofs.YtagmmbkgjomdlaaGreatDoor.Sp

/-
  A law's own space beside the document's: what Put, Drop and Settle make of each.
-/
namespace Go.Proofs.YtagmmbkgjomdlaaGreatDoor.Sp
open Go.RowKit Go.Proofs.YtagmmbkgjomdlaaGreatDoor.Ar Go.Proofs.YtagmmbkgjomdlaaGreatDoor.Sh
open Go.Proofs.YtagmmbkgjomdlaaGreatDoor.Hd (Hd Fields ofL of_facts)
open Go.Proofs.YtagmmbkgjomdlaaGreatDoor.Tb (Ty Tab sizeE)
open Go.Proofs.YtagmmbkgjomdlaaGreatDoor.Bt (Bv bit hasV)
open Go.Proofs.YtagmmbkgjomdlaaGreatDoor.Wd (Table)
set_option linter.unusedVariables false

/-- A space with the words wp, beside the document's with the words wd. -/
structure Duo (w x : World) (s : Ids) (r : Nat) (B : Option Addr) (d : Nat) (l : List Ty) (wp : List Int) (bs : List Bool) (cs : List Cel) (wd : List Int) : Prop where
  fields : Fields w
  table : Table w
  mine : Mine w x s l wp bs cs
  doc : ∃ q cap, DSp x r q cap B d l wd ∧ q ∉ s.turn
  fresh : w.heap.size ≤ r
  big : 8 ≤ bs.length
/-- What is known of the document's words. -/
theorem fit_of {w x : World} {s : Ids} {B : Option Addr} {l : List Ty} {ws : List Int} {bs : List Bool} {cs : List Cel} (h : Mine w x s l ws bs cs) (hT : Tb.Seen w B l) : Fit w B l ws cs :=
  ⟨h.spc.short, h.spc.wm, hT, h.spc.tab.all, h.spc.tab.len, h.snd.tiled⟩
section
variable {w x y : World} {s : Ids} {r : Nat} {B : Option Addr} {d : Nat} {l : List Ty} {wp wp' wd wd' : List Int} {bs bs' : List Bool} {cs cs' : List Cel}
theorem Duo.keep0 (h : Duo w x s r B d l wp bs cs wd) (k : Kept [] x y) : Duo w y s r B d l wp bs cs wd := by
  obtain ⟨q, cap, hd, hq⟩ := h.doc
  exact ⟨h.fields, h.table, h.mine.keep0 k, ⟨q, cap, hd.keep0 k, hq⟩, h.fresh, h.big⟩
theorem Duo.ours (h : Duo w x s r B d l wp bs cs wd) (k : Kept s.turn x y) (hm : Mine w y s l wp' bs' cs') : Duo w y s r B d l wp' bs' cs' wd := by
  obtain ⟨q, cap, hd, hq⟩ := h.doc
  have hb : bs'.length = bs.length := by
    obtain ⟨v1, a1, _⟩ := h.mine.spc.bv
    obtain ⟨v2, a2, _⟩ := hm.spc.bv
    have h1 := (a1.head.kept k (h.mine.spc.beside a1.head (by decide) (by decide) (by decide))).cell 0
    have h2 := a2.head.cell 0
    rw [h1] at h2
    simp at h2
    omega
  exact ⟨h.fields, h.table, hm, ⟨q, cap, hd.kept k (h.mine.spc.beside hd.head (by decide) (by decide) (by decide)) hq, hq⟩, h.fresh, by rw [hb]; exact h.big⟩
theorem Duo.theirs (h : Duo w x s r B d l wp bs cs wd) {q : Nat} (hq : q ∉ s.turn) (hD : Doc x y r q B d l wd') : Duo w y s r B d l wp bs cs wd' := by
  obtain ⟨q0, cap0, hd, _⟩ := h.doc
  obtain ⟨q', cap', h1, h2, k⟩ := hD
  have kw : Kept [] w y := h.mine.kept.forget k (fun i hi => by rw [List.mem_singleton.1 hi]; exact h.fresh)
  have hq' : q' ∉ s.turn := by
    rcases h2 with rfl | h2
    · exact hq
    · intro hm
      have := h.mine.spc.turn_lt _ hm
      omega
  refine ⟨h.fields, h.table, ⟨kw, h.mine.spc.moved fun i o ⟨t, c, ht, hh⟩ ho => ?_, ⟨h.fields.keep0 kw, table_keep0 h.table kw, h.mine.glob.nf, h.mine.glob.nt⟩, h.mine.snd, h.mine.fresh⟩, ⟨q', cap', h1, hq'⟩, h.fresh, h.big⟩
  have hi := (Array.getElem?_eq_some_iff.1 ho).1
  refine (k.old i hi ?_).trans ho
  have hne := Has.block_type hh hd.head (by rcases ht with rfl | rfl | rfl | rfl | rfl | rfl | rfl <;> decide)
  simpa using hne
end
section
variable {w x : World} {s : Ids} {r : Nat} {B : Option Addr} {d : Nat} {l : List Ty} {ws wd : List Int} {bs : List Bool} {cs : List Cel}
theorem up {S : List Nat} {a b : World} {r : Nat} (k : Kept S a b) : Kept (r :: S) a b := k.mono fun i hi => List.mem_cons_of_mem _ hi
theorem duo_put (h : Duo w x s r B d l ws bs cs wd) (g i n : Int) (g0 : -9223372036854775808 ≤ g) (g1 : g ≤ 9223372036854775807) (i0 : -9223372036854775808 ≤ i) (i1 : i ≤ 9223372036854775807) :
    Calls Tryz.prog 34 #[.pointer (some ⟨s.sp, 0, none⟩), .int .i64 g, .int .i64 i, .int .i64 n] x fun e y => e = .returned (.int .i64 (putE ws l cs g i n)) ∧ (∃ bs' cs', Duo w y s r B d l (putX ws l cs g i n) bs' cs' wd) ∧ Kept (r :: s.turn) x y := by
  have m := h.mine
  by_cases he : sizeE l i n = 0
  · by_cases hin : 0 ≤ g ∧ g < gran ws
    · obtain ⟨S, hS, P, c, Q, hcs, c1, c2, hf⟩ := m.snd.gap g hin.1 hin.2
      obtain ⟨sz, ho, s1, s2, j0, j1, n0, n1⟩ := of_facts he m.spc.tab.len
      have hsh := m.spc.short
      have hgr : gran ws ≤ 32768 := by unfold gran; omega
      obtain ⟨b1, b2, b3, b4, b5⟩ := m.snd.tiled.mem c (by rw [hcs]; simp)
      have hz := can_sz b3
      have hra := room_at (l := l) (g := g) (i := i) (n := n) (by have := m.snd.tiled; rw [hcs] at this; exact this) c1 c2
      rw [← hcs] at hra
      by_cases hx : RoomP l g i n c
      · rw [if_pos hx] at hra
        obtain ⟨e1, e2⟩ := putE_room (ws := ws) he hin hra
        have hN0 := m.snd
        rw [hcs] at hN0
        have hN := hN0.put m.spc.tab.len he hx.1 c1 hx.2.2.2
        refine (put_yes m.glob m.spc g i n i0 i1 he hin.1 hin.2 S hS c hf ⟨by omega, by omega⟩ ⟨by omega, by omega⟩ hx.1 hx.2.2.2 c1).mono ?_
        rintro e y ⟨he', hS', hk⟩
        rw [e1, e2]
        exact ⟨he', ⟨_, _, h.ours hk (m.turned hk hS' hN)⟩, up hk⟩
      · rw [if_neg hx] at hra
        obtain ⟨e1, e2⟩ := putE_full (ws := ws) he hin hra
        refine (put_none m.glob m.spc g i n i0 i1 he hin.1 hin.2 S hS c hf ⟨by omega, by omega⟩ ⟨by omega, by omega⟩ ?_).mono ?_
        · by_cases k1 : c.h.tg = 1
          · exact .inl k1
          · rcases Int.lt_or_le (c.a + c.h.sz - g) (ofL l i n).sz with k | k
            · exact .inr k
            · exact absurd ⟨k1, c1, c2, k⟩ hx
        · rintro e y ⟨he', hk⟩
          rw [e1, e2]
          exact ⟨he', ⟨bs, cs, h.keep0 hk⟩, hk.none _⟩
    · obtain ⟨e1, e2⟩ := putE_far (ws := ws) (cs := cs) (g := g) he (by omega)
      refine (put_out m.glob m.spc g i n g0 g1 i0 i1 he (by omega)).mono ?_
      rintro e y ⟨he', hk⟩
      rw [e1, e2]
      exact ⟨he', ⟨bs, cs, h.keep0 hk⟩, hk.none _⟩
  · obtain ⟨e1, e2⟩ := putE_err (ws := ws) (cs := cs) (g := g) he
    refine (put_err m.glob m.spc g i n i0 i1 he).mono ?_
    rintro e y ⟨he', hk⟩
    rw [e1, e2]
    exact ⟨he', ⟨bs, cs, h.keep0 hk⟩, hk.none _⟩
theorem duo_drop (h : Duo w x s r B d l ws bs cs wd) (g : Int) (g0 : -9223372036854775808 ≤ g) (g1 : g ≤ 9223372036854775807) :
    Calls Tryz.prog 41 #[.pointer (some ⟨s.sp, 0, none⟩), .int .i64 g] x fun e y => e = .returned (.int .i64 (dropE cs g)) ∧ (∃ bs' cs', Duo w y s r B d l (dropX ws cs g) bs' cs' wd) ∧ Kept (r :: s.turn) x y := by
  have m := h.mine
  cases hv : hasV bs g with
  | false =>
    have hn : objAt [] cs g = none := objAt_none fun c hc ht e => by
      have hcm := m.snd.tiled.mem c hc
      have hb : bit bs g.toNat = true := (m.snd.agree _).2 ⟨c, objs_mem.2 ⟨hc, ht⟩, by omega⟩
      unfold hasV at hv
      rw [hb, decide_eq_true (by omega)] at hv
      cases hv
    refine (drop_no m.glob m.spc g g0 g1 hv).mono ?_
    rintro e y ⟨he, hk⟩
    unfold dropE dropX
    rw [hn]
    exact ⟨he, ⟨bs, cs, h.keep0 hk⟩, hk.none _⟩
  | true =>
    have hv' := hv
    unfold hasV at hv'
    rw [Bool.and_eq_true, decide_eq_true_iff] at hv'
    obtain ⟨h0, hb⟩ := hv'
    have hbl := bit_lt hb
    have hfew := m.spc.few
    obtain ⟨A, c, Q, hcs, hc1, hc2, t1, t2⟩ := m.snd.at hb
    have hgn : ((g.toNat : Nat) : Int) = g := by omega
    have hSn := m.snd
    rw [hcs] at hSn
    obtain ⟨hpe, hne⟩ := hSn.ends hc1 hc2
    obtain ⟨P, M, Q', c', hcs', ho, hc', u1, u2, u3⟩ := m.snd.drop hb
    rw [hgn] at hc1 hpe hne hc' u1 u2 u3
    have hat : objAt [] cs g = some (A.reverse, c, Q) := by
      have h1 := m.snd.tiled
      rw [hcs] at h1
      have h2 := objAt_some (A := []) h1 hc1 hc2
      rw [List.append_nil] at h2
      rw [hcs]
      exact h2
    have hsh := m.spc.short
    have hgr : gran ws ≤ 32768 := by unfold gran; omega
    have hp := u1.le
    have hpn := u2.le
    have hng := u3.le
    refine (drop_yes m.glob m.spc g h0 (by omega) hv (by omega) ⟨by omega, by omega⟩).mono ?_
    rintro e y ⟨he, hS, hk⟩
    have hm := m.snd
    rw [hcs'] at hm
    have hN := hm.replace (ws1 := ws) (os := []) u1 u2 u3 rfl (fun _ _ _ => rfl) hpn
    have hX : dropX ws cs g = dropW ws bs g := by
      unfold dropX dropW
      rw [hat, hpe, hne]
      rfl
    unfold dropE
    rw [hat, hX]
    exact ⟨he, ⟨_, _, h.ours hk (m.turned hk hS hN)⟩, up hk⟩
theorem settle_snd {gs : List Int} {os : List Cel} (hS : Snd ws l bs cs) (hs : standL ws l 0 gs = some os) : Snd (becomeW ws 0 os (gran ws)) l (becomeB bs 0 os (gran ws)) (becomeL 0 os (gran ws)) := by
  have hg : 0 ≤ gran ws := by unfold gran; omega
  have h1 : Snd ws l bs ([] ++ cs ++ []) := by simpa using hS
  have h2 := h1.replace (ws1 := ws) (os := os) (f := 0) (e := gran ws) rfl hS.tiled rfl rfl (fun _ _ _ => rfl) (standing_of hs hg)
  simpa using h2
theorem duo_settle (h : Duo w x s r B d l ws bs cs wd) (A : Option Addr) (gs : List Int) (ca : Nat) (hS : Ir.Seen x A gs) (hI : ∀ g ∈ gs, -9223372036854775808 ≤ g ∧ g ≤ 9223372036854775807) (hlen : gs.length ≤ 100000) :
    Calls Tryz.prog 44 #[.pointer (some ⟨s.sp, 0, none⟩), .slice A gs.length ca] x fun e y => e = .returned (.int .i64 (settleE ws l gs)) ∧ (∃ bs' cs', Duo w y s r B d l (settleX ws l gs) bs' cs' wd) ∧ Kept (r :: s.turn) x y := by
  have m := h.mine
  refine (settle_ok m.glob m.spc A gs ca hS hI hlen).mono ?_
  rintro e y ⟨he, hk, ⟨z1, hs⟩ | ⟨os, z1, hs⟩⟩
  · have hX : settleX ws l gs = ws := by unfold settleX; rw [z1]
    rw [hX]
    exact ⟨he, ⟨bs, cs, h.ours hk (m.turned hk hs m.snd)⟩, up hk⟩
  · have hX : settleX ws l gs = becomeW ws 0 os (gran ws) := by unfold settleX; rw [z1]
    rw [hX]
    exact ⟨he, ⟨_, _, h.ours hk (m.turned hk hs (settle_snd m.snd z1))⟩, up hk⟩
/-! ### the document's -/
variable {wp : List Int} {bp : List Bool} {cp : List Cel}
theorem duo_sput (h : Duo w x s r B d l wp bp cp ws) (hf : Fit w B l ws cs) (g i n : Int) (g0 : -9223372036854775808 ≤ g) (g1 : g ≤ 9223372036854775807) (i0 : -9223372036854775808 ≤ i) (i1 : i ≤ 9223372036854775807) :
    Calls Tryz.prog 40 #[.pointer (some ⟨r, 0, none⟩), .int .i64 g, .int .i64 i, .int .i64 n] x fun e y => e = .returned (.int .i64 (putE ws l cs g i n)) ∧ Duo w y s r B d l wp bp cp (putX ws l cs g i n) ∧ Kept (r :: s.turn) x y := by
  obtain ⟨q, cap, hd, hq⟩ := h.doc
  exact (sput_ok hd (hf.keep0 h.mine.kept) g i n g0 g1 i0 i1).mono fun e y ⟨he, hD⟩ => ⟨he, h.theirs hq hD, let ⟨_, _, _, _, k⟩ := hD; k.mono (fun i hi => by rw [List.mem_singleton.1 hi]; exact List.mem_cons_self)⟩
theorem duo_sdrop (h : Duo w x s r B d l wp bp cp ws) (hf : Fit w B l ws cs) (g : Int) (g0 : -9223372036854775808 ≤ g) (g1 : g ≤ 9223372036854775807) :
    Calls Tryz.prog 42 #[.pointer (some ⟨r, 0, none⟩), .int .i64 g] x fun e y => e = .returned (.int .i64 (dropE cs g)) ∧ Duo w y s r B d l wp bp cp (dropX ws cs g) ∧ Kept (r :: s.turn) x y := by
  obtain ⟨q, cap, hd, hq⟩ := h.doc
  exact (sdrop_ok hd (hf.keep0 h.mine.kept) g g0 g1).mono fun e y ⟨he, hD⟩ => ⟨he, h.theirs hq hD, let ⟨_, _, _, _, k⟩ := hD; k.mono (fun i hi => by rw [List.mem_singleton.1 hi]; exact List.mem_cons_self)⟩
theorem duo_ssettle (h : Duo w x s r B d l wp bp cp ws) (hf : Fit w B l ws cs) (A : Option Addr) (gs : List Int) (ca : Nat) (hS : Ir.Seen x A gs) (hlen : gs.length ≤ 100000) :
    Calls Tryz.prog 45 #[.pointer (some ⟨r, 0, none⟩), .slice A gs.length ca] x fun e y => e = .returned (.int .i64 (settleE ws l gs)) ∧ Duo w y s r B d l wp bp cp (settleX ws l gs) ∧ Kept (r :: s.turn) x y := by
  obtain ⟨q, cap, hd, hq⟩ := h.doc
  exact (ssettle_ok hd (hf.keep0 h.mine.kept) A gs ca hS hlen).mono fun e y ⟨he, hD⟩ => ⟨he, h.theirs hq hD, let ⟨_, _, _, _, k⟩ := hD; k.mono (fun i hi => by rw [List.mem_singleton.1 hi]; exact List.mem_cons_self)⟩
end
end Go.Proofs.YtagmmbkgjomdlaaGreatDoor.Sp

/-
  A word is laid into a slot: what becomes of a space; a view of one of its objects.
-/
namespace Go.Proofs.YtagmmbkgjomdlaaGreatDoor.Sp
open Go.RowKit Go.Proofs.YtagmmbkgjomdlaaGreatDoor.Ar Go.Proofs.YtagmmbkgjomdlaaGreatDoor.Sh
open Go.Proofs.YtagmmbkgjomdlaaGreatDoor.Hd (Hd Fields fitE ofL fitL wordI)
open Go.Proofs.YtagmmbkgjomdlaaGreatDoor.Tb (Ty sizeE sizeT getT hasT)
set_option linter.unusedVariables false
theorem facts_size {ws : List Int} {l : List Ty} {g : Int} (hT : ∀ x ∈ l, x.ok ∧ x.fit) (h : ofE ws l g = 0) : 0 ≤ g ∧ 0 ≤ ofS ws l g ∧ 2 * g + 1 + ofS ws l g ≤ 2 * (g + (hdH ws g).sz) ∧ g + (hdH ws g).sz ≤ (ws.length : Int) / 2 := by
  have S := stand_of h
  have hto : (ofT ws l g).ok := Tb.getT_ok hT (hdH ws g).ty
  obtain ⟨j0, j1⟩ := (inG_iff _ _ _).1 S.isin
  have hfit := S.fit
  unfold Hd.fitL fitE at hfit
  by_cases hc : (hdH ws g).can
  · rw [if_neg (by simpa using hc), if_neg (by simpa using S.tag)] at hfit
    have hne : ¬ (sizeE l (hdH ws g).ty (hdH ws g).ln ≠ 0 ∨ ofL l (hdH ws g).ty (hdH ws g).ln ≠ hdH ws g) := by
      intro hh
      rw [if_pos hh] at hfit
      cases hfit
    have he : sizeE l (hdH ws g).ty (hdH ws g).ln = 0 := Classical.byContradiction fun e => hne (.inl e)
    have ho : ofL l (hdH ws g).ty (hdH ws g).ln = hdH ws g := Classical.byContradiction fun e => hne (.inr e)
    have hhas : hasT l (hdH ws g).ty = true := by
      cases hx : hasT l (hdH ws g).ty with
      | true => rfl
      | false => unfold sizeE at he; rw [hx, if_neg (by decide)] at he; cases he
    have herr : Kd.err (ofT ws l g).k (ofT ws l g).wd (ofT ws l g).ms (hdH ws g).ln = 0 := by
      unfold sizeE at he
      rw [hhas] at he
      exact he
    obtain ⟨b0, b1⟩ := Kd.slots_bound herr
    have hsz : (hdH ws g).sz = Kd.sizeR (ofT ws l g).k (ofT ws l g).wd (ofT ws l g).ms (hdH ws g).ln := by
      rw [← ho]
      unfold Hd.ofL Hd.ofH
      rw [if_pos he]
      simp only
      unfold sizeT
      rw [hhas]
      rfl
    have hss : ofS ws l g = Kd.slots (ofT ws l g).k (ofT ws l g).wd (hdH ws g).ln := by unfold ofS Kd.slotsR; rw [if_pos herr]
    unfold Kd.sizeR at hsz
    rw [if_pos herr] at hsz
    rw [hss]
    omega
  · rw [if_pos hc] at hfit
    cases hfit


/-- The index of a slot's word. -/
def slotI (g n : Int) : Nat := (2 * g + 1 + n).toNat
theorem getD_set_ne (ws : List Int) (i k : Nat) (u : Int) (h : k ≠ i) : (ws.set i u).getD k 0 = ws.getD k 0 := by
  rw [List.getD_eq_getElem?_getD, List.getD_eq_getElem?_getD, List.getElem?_set_ne (fun e => h e.symm)]
theorem Snd.slot {ws : List Int} {l : List Ty} {bs : List Bool} {cs : List Cel} (h : Snd ws l bs cs) (hl : ∀ x ∈ l, x.ok ∧ x.fit) {c0 : Cel} (hc0 : c0 ∈ cs) (ht : c0.h.tg = 1) {n : Int} (n0 : 0 ≤ n) (n1 : n < ofS ws l c0.a) (u : Int) : Snd (ws.set (slotI c0.a n) u) l bs cs := by
  obtain ⟨hE, hH⟩ := obj_of h.tiled (Int.le_refl _) (Int.le_refl _) hc0 ht
  obtain ⟨f1, f2, f3, f4⟩ := facts_size hl hE
  rw [hH] at f3 f4
  have hlen : (ws.set (slotI c0.a n) u).length = ws.length := List.length_set ..
  refine ⟨?_, h.agree, by rw [gran_eq hlen]; exact h.len, h.neat, by rw [hlen]; exact h.short⟩
  rw [gran_eq hlen]
  refine h.tiled.keep fun c hc => ?_
  have hcb := h.tiled.mem c hc
  have hcs := can_sz hcb.2.2.1
  unfold atG
  refine getD_set_ne _ _ _ _ ?_
  unfold slotI
  intro e
  -- the cells begin at unlike granules
  obtain ⟨A, D, hAD⟩ := List.append_of_mem hc0
  have hT := h.tiled
  rw [hAD] at hT hc
  obtain ⟨m, t1, t2⟩ := Tiled.split hT
  have hm : c0.a = m := t2.1
  rcases List.mem_append.1 hc with hc | hc
  · obtain ⟨_, b2, _⟩ := t1.mem c hc
    omega
  · rcases List.mem_cons.1 hc with rfl | hc
    · omega
    · have := (Tiled.mem t2.2.2.2.2 c hc).1
      omega
section
variable {w x : World} {s : Ids} {r : Nat} {B : Option Addr} {d : Nat} {l : List Ty} {ws wd : List Int} {bs : List Bool} {cs : List Cel}
/-- A view of an object of the space. -/
theorem duo_view (h : Duo w x s r B d l ws bs cs wd) (g : Int) (g0 : -9223372036854775808 ≤ g) (g1 : g ≤ 9223372036854775807) (he : ofE ws l g = 0) :
    Calls Tryz.prog 35 #[.pointer (some ⟨s.ap, 0, none⟩), .pointer (some ⟨s.tp, 0, none⟩), .int .i64 g] x fun e y => ∃ v, e = .returned (.tuple #[.pointer (some ⟨v, 0, none⟩), .int .i64 0]) ∧ Sh.View y v s.ap g (hdH ws g) (ofT ws l g) (ofS ws l g) ∧ Kept [] x y := by
  obtain ⟨m, a⟩ := h.mine.spc.ar
  refine (of_ok h.mine.glob.f a h.mine.spc.wds h.mine.spc.tab g g0 g1).mono ?_
  rintro e y ⟨hk, ⟨h1, _⟩ | ⟨_, v, h2, h3, h4⟩⟩
  · exact absurd he h1
  · exact ⟨v, h2, h4, hk⟩
/-- A word is laid into a slot of an object of the space. -/
theorem duo_store (h : Duo w x s r B d l ws bs cs wd) {c : Cel} (hc : c ∈ cs) (ht : c.h.tg = 1) {v : Nat} (hv : Sh.View x v s.ap c.a (hdH ws c.a) (ofT ws l c.a) (ofS ws l c.a)) (n u : Int) (n0 : 0 ≤ n) (n1 : n < ofS ws l c.a) (u0 : 0 ≤ u) (u1 : u < 18446744073709551616) :
    Calls Tryz.prog 36 #[.pointer (some ⟨v, 0, none⟩), .int .i64 n, .int .u64 u] x fun e y => e = .returned (.int .i64 0) ∧ Duo w y s r B d l (ws.set (slotI c.a n) u) bs cs wd ∧ Kept (r :: s.turn) x y := by
  obtain ⟨m, a⟩ := h.mine.spc.ar
  have hall := h.mine.spc.tab.all
  obtain ⟨hE, hH⟩ := obj_of h.mine.snd.tiled (Int.le_refl _) (Int.le_refl _) hc ht
  obtain ⟨f1, f2, f3, f4⟩ := facts_size hall hE
  refine (vstore_ok hv a n u f1 f2 (by omega)).mono ?_
  rintro e y ⟨he, ha, hk⟩
  have hE2 : slotE (ofS ws l c.a) n = 0 := if_pos ⟨n0, n1⟩
  have hP : vput ws c.a (ofS ws l c.a) n u = ws.set (slotI c.a n) u := if_pos ⟨n0, n1⟩
  rw [hE2] at he
  rw [hP] at ha
  have hkt : Kept s.turn x y := hk.mono (fun i hi => by simp [Ids.turn] at hi ⊢; rcases hi with rfl | rfl <;> simp)
  refine ⟨he, h.ours hkt (h.mine.turned hkt (h.mine.spc.arena hk ha (h.mine.spc.wm.set _ u ⟨u0, u1⟩)) (h.mine.snd.slot hall hc ht n0 n1 u)), up hkt⟩
end
/-- A law's space and the document's, alike. -/
def Twin (w x : World) (s : Ids) (r : Nat) (B : Option Addr) (d : Nat) (l : List Ty) : Prop := ∃ ws bs cs, Duo w x s r B d l ws bs cs ws
theorem Twin.keep0 {w x y : World} {s : Ids} {r : Nat} {B : Option Addr} {d : Nat} {l : List Ty} (h : Twin w x s r B d l) (k : Kept [] x y) : Twin w y s r B d l := let ⟨ws, bs, cs, h⟩ := h; ⟨ws, bs, cs, h.keep0 k⟩
end Go.Proofs.YtagmmbkgjomdlaaGreatDoor.Sp

/-
  The contract of the law's joins: a reference is laid, of a space and of the document's.
-/
namespace Go.Proofs.YtagmmbkgjomdlaaGreatDoor.Sp
open Go.RowKit Go.Proofs.YtagmmbkgjomdlaaGreatDoor.Ar Go.Proofs.YtagmmbkgjomdlaaGreatDoor.Sh Go.Sort
open Go.Proofs.YtagmmbkgjomdlaaGreatDoor.Hd (Hd Fields cells4 free4 fitL)
open Go.Proofs.YtagmmbkgjomdlaaGreatDoor.Tb (Ty Tab cells3)
open Go.Proofs.YtagmmbkgjomdlaaGreatDoor.Kd (typV)
open Go.Proofs.YtagmmbkgjomdlaaGreatDoor.Wd (Table)
set_option linter.unusedVariables false
theorem and65535 (n : Int) : bits .and .i64 n 65535 = n % 65536 := Hd.and_mask n 65535 16 (by decide) (by decide) (by decide)
/-- Where objects begin. -/
def ats (cs : List Cel) : List Int := (objs cs).map (fun c => c.a)
theorem ats_length (cs : List Cel) : (ats cs).length ≤ cs.length := by unfold ats objs; rw [List.length_map]; exact List.length_filter_le _ _
theorem ats_snoc (cs : List Cel) (c : Cel) : ats (cs ++ [c]) = if c.h.tg = 1 then ats cs ++ [c.a] else ats cs := by
  unfold ats
  rw [objs_append]
  by_cases h : c.h.tg = 1
  · rw [if_pos h, objs_one h, List.map_append]; rfl
  · rw [if_neg h, objs_none (cs := [c]) (fun d hd => by rw [List.mem_singleton.1 hd]; exact h), List.append_nil]
theorem ats_get {cs : List Cel} {k : Nat} (h : k < (ats cs).length) : ∃ c ∈ cs, c.h.tg = 1 ∧ c.a = (ats cs).getD k 0 := by
  have hm : (ats cs).getD k 0 ∈ ats cs := by rw [List.getD_eq_getElem?_getD, List.getElem?_eq_getElem h]; exact List.getElem_mem h
  generalize (ats cs).getD k 0 = z at *
  unfold ats at hm
  obtain ⟨c, hc, e⟩ := List.mem_map.1 hm
  obtain ⟨h1, h2⟩ := objs_mem.1 hc
  exact ⟨c, h1, h2, e⟩
theorem pick_lt (n : Int) (L : Nat) (h : 0 < L) : ∃ (m : Int) (k : Nat), bits .and .i64 n 65535 = m ∧ k < L ∧ m.tmod (L : Int) = (k : Int) := by
  refine ⟨n % 65536, ?_⟩
  have h1 : 0 ≤ n % 65536 := Int.emod_nonneg _ (by decide)
  rw [Int.tmod_eq_emod_of_nonneg h1]
  have h2 := Int.emod_nonneg (n % 65536) (show (L : Int) ≠ 0 by omega)
  have h3 := Int.emod_lt_of_pos (n % 65536) (show (0 : Int) < L by omega)
  exact ⟨((n % 65536) % (L : Int)).toNat, and65535 n, by omega, by omega⟩
theorem addrR_range (g : Int) (h0 : 0 ≤ g) (h1 : g ≤ 32768) : 0 ≤ addrR g ∧ addrR g < 18446744073709551616 := by
  unfold addrR
  split <;> omega
theorem refs_get {k : Nat} {wd : Int} {mk sl j : Nat} (h : j < (Kd.refsTo k wd mk sl).length) : ∃ n : Nat, (Kd.refsTo k wd mk sl).getD j 0 = (n : Int) ∧ n < sl := by
  refine refsTo_mem (k := k) (wd := wd) (mk := mk) ?_
  rw [List.getD_eq_getElem?_getD, List.getElem?_eq_getElem h]
  exact List.getElem_mem h
section
variable {w x : World} {s : Ids} {r : Nat} {B : Option Addr} {d : Nat} {l : List Ty}
set_option maxRecDepth 100000 in
set_option maxHeartbeats 16000000 in
theorem joins_ok (h : Twin w x s r B d l) (hT : Tb.Seen w B l) (sd sg si sn su : Int) (sA : Option Addr) (slen scap : Nat) (g0 : -9223372036854775808 ≤ sg) (g1 : sg ≤ 9223372036854775807) (i0 : -9223372036854775808 ≤ si) (i1 : si ≤ 9223372036854775807) (n0 : -9223372036854775808 ≤ sn) (n1 : sn ≤ 9223372036854775807) :
    Calls Tryz.prog 46 #[.pointer (some ⟨s.sp, 0, none⟩), .pointer (some ⟨r, 0, none⟩), .agg #[.int .i64 sd, .int .i64 sg, .int .i64 si, .int .i64 sn, .int .u64 su, .slice sA slen scap]] x fun e y => e = .returned (.bool true) ∧ Twin w y s r B d l := by
  obtain ⟨ws, bs, cs, h0⟩ := h
  have hf := fit_of h0.mine hT
  have hmost := hf.most
  have hsh := hf.short
  have hgr : 0 ≤ gran ws ∧ gran ws ≤ 32768 := by unfold gran; omega
  have HF := Lib.hid hf
  have HT := Lib.hid h0.mine.snd.tiled
  have hb0 := Has.new x 35 [.int .i64 sd, .int .i64 sg, .int .i64 si, .int .i64 sn, .int .u64 su, .slice sA slen scap]
  have hk : Kept [] x (x.alloc (.cells #[.int .i64 sd, .int .i64 sg, .int .i64 si, .int .i64 sn, .int .u64 su, .slice sA slen scap] 35)) := (Kept.refl [] x).alloc _
  have h1 := h0.keep0 hk
  clear h0 hk hf hT
  obtain ⟨x1, hx1⟩ : ∃ x1, x.alloc (.cells #[.int .i64 sd, .int .i64 sg, .int .i64 si, .int .i64 sn, .int .u64 su, .slice sA slen scap] 35) = x1 := ⟨_, rfl⟩
  have hb1 : Has x1 x.heap.size 35 [.int .i64 sd, .int .i64 sg, .int .i64 si, .int .i64 sn, .int .u64 su, .slice sA slen scap] := by rw [← hx1]; exact hb0
  rw [hx1] at h1
  have HB := Lib.hid hb1
  have H0 := Lib.hid h1
  obtain ⟨q, cap, hd, hq⟩ := h1.doc
  have HAl := Lib.hid (all_ok hd (HF.out.keep0 h1.mine.kept))
  clear hb0 hb1 h1 hd hq
  go_enter Tryz.func46, Tryz.ntmps46
  go_wp2_with fail
  clear hx1
  generalize x.heap.size = b5 at *
  refine HAl.out.mono ?_
  rintro e x2 ⟨v, rfl, hO, hV, k2⟩
  obtain ⟨Av, cv, rfl, _⟩ := back_own (Kept.refl [] _) hO
  have HSn := Lib.hid hO.seen
  have H2 := Lib.hid (H0.out.keep0 k2)
  have B2 := Lib.hid (HB.out.keep0 k2)
  have HI0 : Hid (Ir.Own x2 (.slice none 0 0) (ats (cs.take 0)) ∧ Sh.FreshV x2 (.slice none 0 0) ∧ Kept [] x2 x2) := Lib.hid ⟨Ir.Own.nil _, .inl rfl, Kept.refl _ _⟩
  clear hO hV k2 HAl H0 HB
  go_wp2_with fail
  go_loopw [7, 9] (fun v t wr => ∃ j : Nat, t = .int .i64 (j : Int) ∧ j ≤ cs.length ∧ Hid (Ir.Own wr v (ats (cs.take j)) ∧ Sh.FreshV x2 v ∧ Kept [] x2 wr)) (fun _ t _ => cs.length - (intOf t).toNat)
  case atStart => exact ⟨0, rfl, Nat.zero_le _, HI0⟩
  case round =>
    clear HI0
    obtain ⟨j, rfl, hj, hr⟩ := hrel
    by_cases hlt : j < cs.length
    · obtain ⟨g9, o9, rfl, hg9, c0, c1, c2, c3, c4⟩ := (HSn.out.keep0 hr.out.2.2).at j hlt _ rfl
      have htk := cel_take hlt
      have hsn := ats_snoc (cs.take j) (cs.getD j Cel.zero)
      rw [← htk] at hsn
      have hal : (ats (cs.take j)).length ≤ 32768 := by have h1 := ats_length (cs.take j); have h2 := List.length_take_le j cs; omega
      have hO := hr.out.1
      have hV := hr.out.2.1
      have hK := hr.out.2.2
      clear htk hr
      generalize cs.getD j Cel.zero = c at *
      obtain ⟨xa, ⟨xt, xy, xl, xz⟩⟩ := c
      simp only at *
      by_cases ht : xt = 1
      · rw [if_pos ht] at hsn
        have HSn1 := Lib.hid hsn
        have HO := Lib.hid (hO.keep0 ((Kept.refl [] wr).alloc (.cells #[.int .i64 xa] 3)))
        have HV := Lib.hid hV
        have HK := Lib.hid (hK.alloc (.cells #[.int .i64 xa] 3))
        have HSx : Hid (Ir.Seen (wr.alloc (.cells #[.int .i64 xa] 3)) (some ⟨wr.heap.size, 0, none⟩) [xa]) := Lib.hid (Ir.Row.seen (Has.new wr 3 [.int .i64 xa]))
        clear hsn hO hV hK
        generalize ats (cs.take j) = az at *
        subst ht
        go_wp2_with (at_builtin; (refine Ir.append_numbers rfl (.tmp 36) (.tmp 42) rfl u7 az rfl HO.out (some ⟨wr.heap.size, 0, none⟩) 1 1 [xa] rfl rfl (fun h => by cases h) HSx.out (by omega) ?_))
        intro v' w5 o5 g5 b5'
        have HN : Hid (Ir.Own w5 v' (ats (cs.take (j + 1))) ∧ Sh.FreshV x2 v' ∧ Kept [] x2 w5) := Lib.hid ⟨by rw [HSn1.out]; exact o5, own_fresh (v' := v') HK.out HV.out (by rw [World.size_alloc]; exact b5'), own_grown HK.out HV.out g5⟩
        clear o5 g5 b5' HO HV HK HSx HSn1 c0 c1 c2 c3 c4
        go_wp2_with fail
        go_roundw
        case rel => exact ⟨j + 1, by go_num, by omega, HN⟩
        case measure => simp [intOf] <;> omega
      · rw [if_neg ht] at hsn
        have hb : (xt == 1) = false := by simpa using ht
        have HN : Hid (Ir.Own wr u7 (ats (cs.take (j + 1))) ∧ Sh.FreshV x2 u7 ∧ Kept [] x2 wr) := Lib.hid ⟨by rw [hsn]; exact hO, hV, hK⟩
        clear hsn hO hV hK ht
        go_wp2_with fail
        go_roundw
        case rel => exact ⟨j + 1, by go_num, by omega, HN⟩
        case measure => simp [intOf] <;> omega
    · obtain rfl : j = cs.length := by omega
      have hO := hr.out.1
      rw [List.take_length] at hO
      have HK := Lib.hid hr.out.2.2
      have hgt := fun (k : Nat) (hk : k < (ats cs).length) => ats_get hk
      have HGt := Lib.hid hgt
      obtain ⟨az, has⟩ : ∃ az, az = ats cs := ⟨_, rfl⟩
      rw [← has] at hO HGt
      clear hr hgt has
      obtain ⟨A7, c7, hu7, hbk⟩ := Ir.back_own (Kept.refl [] _) hO
      subst hu7
      have HS7 := Lib.hid hbk.2.1
      clear hbk hO
      by_cases hz : az.length = 0
      · go_wp2_with fail
        go_ret
        exact ⟨rfl, ws, bs, cs, H2.out.keep0 HK.out⟩
      · have hpos : 0 < az.length := by omega
        obtain ⟨x3, hx3⟩ : ∃ x3, x3 = wr := ⟨_, rfl⟩
        subst hx3
        have H3 := Lib.hid (H2.out.keep0 HK.out)
        have B3 := Lib.hid (B2.out.keep0 HK.out)
        obtain ⟨q1, q2, q3⟩ : x3.cell? ⟨b5, 1, none⟩ = some (.int .i64 sg) ∧ x3.cell? ⟨b5, 2, none⟩ = some (.int .i64 si) ∧ x3.cell? ⟨b5, 3, none⟩ = some (.int .i64 sn) := ⟨B3.out.cell 1, B3.out.cell 2, B3.out.cell 3⟩
        obtain ⟨mg, kg, hmg, hkg, hkg2⟩ := pick_lt sg az.length hpos
        obtain ⟨mi, ki, hmi, hki, hki2⟩ := pick_lt si az.length hpos
        obtain ⟨ga, fa, rfl, ha⟩ := HS7.out.cells (by rintro rfl; exact absurd hpos (by simp))
        have a1 := ha kg hkg
        have a2 := ha ki hki
        obtain ⟨c, hc, hct, hca⟩ := HGt.out kg hkg
        obtain ⟨c2, hc2, hct2, hca2⟩ := HGt.out ki hki
        rw [← hca] at a1
        rw [← hca2] at a2
        have hb1 := HT.out.mem c hc
        have hb2 := HT.out.mem c2 hc2
        have hob := obj_of HT.out (Int.le_refl _) (Int.le_refl _) hc hct
        have hz1 := can_sz hb1.2.2.1
        have hz2 := can_sz hb2.2.2.1
        have hu := addrR_range c2.a hb2.1 (by omega)
        have HAd := Lib.hid (fun y => daddr_ok (w := y) c2.a (by omega))
        have hce : c.a ≤ 32768 ∧ 0 ≤ c.a := by omega
        have HC := Lib.hid (And.intro hc (And.intro hct hob))
        clear ha H2 B2 HSn HS7 hca hca2 hct hct2 hc hc2 hb1 hb2 hz1 hz2 HGt hob
        generalize addrR c2.a = ua at *
        generalize c2.a = ca2 at *
        obtain ⟨ca, hca⟩ : ∃ ca, ca = c.a := ⟨_, rfl⟩
        rw [← hca] at a1 hce
        have HCA := Lib.hid hca
        clear hca
        go_upto_if 58 with fail
        go_cut [11] (fun vv wx => ∃ u, vv = .int .u64 u ∧ 0 ≤ u ∧ u < 18446744073709551616 ∧ wx = x3)
        case first =>
          by_cases hsi : si ≥ 0
          · go_wp2_with fail
            refine (HAd.out _).mono ?_
            rintro e x4 ⟨rfl, rfl⟩
            go_wp2_with fail
            go_meet
            case rel => exact ⟨_, rfl, hu.1, hu.2, rfl⟩
          · go_wp2_with fail
            go_meet
            case rel => exact ⟨0, rfl, by decide, by decide, rfl⟩
        case rest =>
          obtain ⟨uu, rfl, hu0, hu1, rfl⟩ := hcut
          obtain ⟨x3, hx3⟩ : ∃ x3, x3 = wc := ⟨_, rfl⟩
          subst hx3
          clear HAd hu a2 hmi hki hki2 hmg hkg2 hkg a1
          obtain ⟨hc, hct, hE, hH⟩ := HC.out
          rw [← HCA.out] at hE hH
          have hdt : docT ws l ca = ofT ws l ca := by unfold docT; rw [if_pos hE]
          have hdh : docH ws l ca = hdH ws ca := by unfold docH; rw [if_pos hE]
          obtain ⟨gn, sl, F⟩ := facts_all HF.out.ok hE
          have hfs := facts_size HF.out.ok hE
          obtain ⟨q, cap, hd, hq⟩ := H3.out.doc
          obtain ⟨d0, d1, f0⟩ := hd.cells
          have HOf := Lib.hid (fun y (k : Kept [] x3 y) => sof_ok (hd.keep0 k) (HF.out.keep0 (H3.out.mine.kept.trans k)) ca)
          rw [hdt, hdh, hE] at HOf
          have HRf : Hid (∀ y, Calls Tryz.prog 93 #[typV (ofT ws l ca).k (ofT ws l ca).wd (ofT ws l ca).ms, .int .i64 (hdH ws ca).ln] y fun e z => ∃ v, e = .returned (.tuple #[v, .int .i64 0]) ∧ Ir.Own z v (Kd.refsTo (ofT ws l ca).k (ofT ws l ca).wd (ofT ws l ca).ms sl) ∧ Kept [] y z) := Lib.hid fun y => by
            refine (Kd.refsDoc_ok (ofT ws l ca).k (ofT ws l ca).wd (ofT ws l ca).ms (hdH ws ca).ln F.ms y).mono ?_
            rintro e z ⟨v, he, ho, hk⟩
            have hr : Kd.refsR (ofT ws l ca).k (ofT ws l ca).wd (ofT ws l ca).ms (hdH ws ca).ln = Kd.refsTo (ofT ws l ca).k (ofT ws l ca).wd (ofT ws l ca).ms sl := by
              unfold Kd.refsR
              rw [if_pos F.err, F.slots]
              rfl
            rw [F.err] at he
            rw [hr] at ho
            exact ⟨v, he, ho, hk⟩
          have HRg := Lib.hid (fun (j : Nat) (h : j < (Kd.refsTo (ofT ws l ca).k (ofT ws l ca).wd (ofT ws l ca).ms sl).length) => refs_get h)
          have hgn : ca = (gn : Int) := F.gEq
          have hsl : ofS ws l ca = (sl : Int) := F.slEq
          rw [hsl] at hfs
          have hSl := Lib.hid hsl
          have HVw : Hid (∀ y, Kept [] x3 y → Calls Tryz.prog 35 #[.pointer (some ⟨s.ap, 0, none⟩), .pointer (some ⟨s.tp, 0, none⟩), .int .i64 ca] y fun e z => ∃ v, e = .returned (.tuple #[.pointer (some ⟨v, 0, none⟩), .int .i64 0]) ∧ Sh.View z v s.ap ca (hdH ws ca) (ofT ws l ca) (ofS ws l ca) ∧ Kept [] y z) := Lib.hid fun y k => duo_view (H3.out.keep0 k) ca (by omega) (by omega) hE
          have HSt : Hid (∀ z v (n : Int), Kept [] x3 z → Sh.View z v s.ap ca (hdH ws ca) (ofT ws l ca) (ofS ws l ca) → 0 ≤ n → n < (sl : Int) → Calls Tryz.prog 36 #[.pointer (some ⟨v, 0, none⟩), .int .i64 n, .int .u64 uu] z fun e y => e = .returned (.int .i64 0) ∧ Duo w y s r B d l (ws.set (slotI ca n) uu) bs cs ws ∧ Kept (r :: s.turn) z y) := Lib.hid fun z v n k hv m0 m1 => by
            rw [HCA.out] at hv hSl ⊢
            exact duo_store (H3.out.keep0 k) hc hct hv n uu m0 (by rw [hSl.out]; exact m1) hu0 hu1
          obtain ⟨L, hLL⟩ : ∃ L, L = ws.length := ⟨_, rfl⟩
          obtain ⟨M, hM⟩ : ∃ M, M = l.length := ⟨_, rfl⟩
          have hrd := hd.head.lt
          rw [← hLL] at d0
          rw [← hM] at d1
          rw [← hLL, ← hM] at HOf
          have HCl : Hid (∀ z, Kept [] x3 z → z.cell? ⟨r, 0, none⟩ = some (.slice (some ⟨q, 0, none⟩) L cap) ∧ z.cell? ⟨r, 1, none⟩ = some (.slice B M d)) := Lib.hid fun z k => ⟨by rw [hLL]; exact (hd.keep0 k).cells.1, by rw [hM]; exact (hd.keep0 k).cells.2.1⟩
          have HLL := Lib.hid hLL
          rw [← hLL] at hfs
          have HGN := Lib.hid hgn
          clear hdt hdh hE hH hd hq F hc hct hLL hM hsl hgn
          generalize ofS ws l ca = sv at *
          generalize ofT ws l ca = tv at *
          generalize hdH ws ca = hv at *
          obtain ⟨tk, tw, tm⟩ := tv
          obtain ⟨vt, vy, vl, vz⟩ := hv
          unfold Hd.val Tb.Ty.val at HOf
          unfold typV at HRf
          simp only at HOf HRf HRg hfs
          have HO2 : Hid (∀ y, Kept [] x3 y → Calls Tryz.prog 89 #[.slice (some ⟨q, 0, none⟩) L cap, .slice B M d, .int .i64 ca] y fun e z => e = .returned (.tuple #[.agg #[.int .u8 vt, .int .i64 vy, .int .i64 vl, .int .i64 vz], .agg #[.int .u8 (tk : Int), .int .i64 tw, .int .u64 (tm : Int)], .int .i64 0]) ∧ Kept [] y z ∧ z.cell? ⟨r, 0, none⟩ = some (.slice (some ⟨q, 0, none⟩) L cap) ∧ z.cell? ⟨r, 1, none⟩ = some (.slice B M d)) := Lib.hid fun y k => (HOf.out y k).mono fun e z ⟨he, hk⟩ => ⟨he, hk, (HCl.out z (k.trans hk)).1, (HCl.out z (k.trans hk)).2⟩
          have hx0 : Kept [] x3 x3 := Kept.refl _ _
          have n1 : x3.heap.size ≠ r := by omega
          have n2 : x3.heap.size + 1 ≠ r := by omega
          clear HOf HCl hrd
          go_upto_region 14 with fail
          go_cut [12, 13] (fun a b wx => ∃ b1 b2, a = .pointer (some ⟨b1, 0, none⟩) ∧ b = .pointer (some ⟨b2, 0, none⟩) ∧ Hid (Two x3 wx b1 b2 [.int .u8 vt, .int .i64 vy, .int .i64 vl, .int .i64 vz] [.int .u8 (tk : Int), .int .i64 tw, .int .u64 (tm : Int)]))
          case first =>
            go_region_held3 (fun y => y.cell? ⟨r, 0, none⟩ = some (.slice (some ⟨q, 0, none⟩) L cap) ∧ y.cell? ⟨r, 1, none⟩ = some (.slice B M d)) (go_keep)
              (first | (go_at_call 89; refine (HO2.out _ (by first | exact hx0.drew | exact (hx0.alloc _).drew | exact ((hx0.alloc _).alloc _).drew)).mono ?_; rintro e z1 ⟨rfl, hz1, r0, r1⟩; have n3 : z1.heap.size ≠ r := Nat.ne_of_gt (World.block_lt_of_cell? z1 _ r0); have n4 : z1.heap.size + 1 ≠ r := Nat.ne_of_gt (Nat.lt_succ_of_lt (World.block_lt_of_cell? z1 _ r0)); (first | (obtain ⟨hh, ht⟩ := box_ht hz1; obtain ⟨i0, i1, i2, i3⟩ := cells4 hh; obtain ⟨j0, j1, j2⟩ := cells3 ht; obtain ⟨fi0, fi1, fi2, fi3⟩ := free4 hh; obtain ⟨fj0, fj1, fj2⟩ := Tb.free3 ht; have kht := Lib.hid (And.intro hh (And.intro ht hz1)); clear hh ht hz1) | (obtain ⟨ht, hh⟩ := box_th hz1; obtain ⟨i0, i1, i2, i3⟩ := cells4 hh; obtain ⟨j0, j1, j2⟩ := cells3 ht; obtain ⟨fi0, fi1, fi2, fi3⟩ := free4 hh; obtain ⟨fj0, fj1, fj2⟩ := Tb.free3 ht; have kth := Lib.hid (And.intro hh (And.intro ht hz1)); clear hh ht hz1) | (obtain ⟨hh, hlt9⟩ := box_h hz1; obtain ⟨i0, i1, i2, i3⟩ := cells4 hh; obtain ⟨fi0, fi1, fi2, fi3⟩ := free4 hh; have kh := Lib.hid (And.intro hh hz1); clear hh hz1) | (obtain ⟨ht, hlt9⟩ := box_t hz1; obtain ⟨j0, j1, j2⟩ := cells3 ht; obtain ⟨fj0, fj1, fj2⟩ := Tb.free3 ht; have kt := Lib.hid (And.intro ht hz1); clear ht hz1) | (have k0 := Lib.hid hz1; clear hz1))))
            all_goals
              clear r0 r1 n3 n4 
              go_wp2_with fail
              go_meet
              case rel =>
                first
                | with_reducible exact ⟨_, _, rfl, rfl, Lib.hid (two4 rfl rfl kht.out.1 kht.out.2.1 kht.out.2.2)⟩
                | with_reducible exact ⟨_, _, rfl, rfl, Lib.hid (two6 rfl rfl kth.out.1 kth.out.2.1 kth.out.2.2)⟩
                | with_reducible exact ⟨_, _, rfl, rfl, Lib.hid (two3 rfl kh.out.1 kh.out.2)⟩
                | with_reducible exact ⟨_, _, rfl, rfl, Lib.hid (two5 rfl kt.out.1 kt.out.2)⟩
                | with_reducible exact ⟨_, _, rfl, rfl, Lib.hid (two1 k0.out)⟩
                | with_reducible exact ⟨_, _, rfl, rfl, Lib.hid (two2 k0.out)⟩
          case rest =>
            obtain ⟨b1, b2, rfl, rfl, hcc⟩ := hcut
            obtain ⟨hb1, hb2, hk4⟩ := hcc.out
            obtain ⟨j0, j1, j2⟩ := cells3 hb2
            obtain ⟨i0, i1, i2, i3⟩ := cells4 hb1
            have HK4 := Lib.hid hk4
            clear hcc hb1 hb2 hk4 HO2 hx0 n1 n2 d0 d1 f0 q1 q2 q3
            go_wp2_with fail
            refine (HRf.out _).mono ?_
            rintro e x5 ⟨v5, rfl, hO5, k5⟩
            have hk35 := HK4.out.trans k5
            obtain ⟨A5, c5, rfl, hbk5⟩ := Ir.back_own (Kept.refl [] _) hO5
            have HS5 := Lib.hid hbk5.2.1
            have H5 := Lib.hid (H3.out.keep0 hk35)
            have HK5 := Lib.hid hk35
            have q3 : x5.cell? ⟨b5, 3, none⟩ = some (.int .i64 sn) := (B3.out.keep0 hk35).cell 3
            clear hO5 k5 hk35 hbk5 j0 j1 j2 i0 i1 i2 i3 HRf B3 HK4
            generalize Kd.refsTo tk tw tm sl = rs at *
            by_cases hz2 : rs.length = 0
            · go_wp2_with fail
              go_ret
              exact ⟨rfl, ws, bs, cs, H5.out⟩
            · have hpos2 : 0 < rs.length := by omega
              obtain ⟨mn, kn, hmn, hkn, hkn2⟩ := pick_lt sn rs.length hpos2
              obtain ⟨g5, f5, rfl, ha5⟩ := HS5.out.cells (by rintro rfl; exact absurd hpos2 (by simp))
              have a5 := ha5 kn hkn
              obtain ⟨nn, hnn, hnl⟩ := HRg.out kn hkn
              rw [hnn] at a5
              have CAr := Lib.hid (arena_ok H5.out.mine.spc)
              have CTb := Lib.hid (table_ok H5.out.mine.spc)
              have CV := Lib.hid (HVw.out x5 HK5.out)
              clear ha5 hnn HRg HVw HS5
              go_wp2_with fail
              refine CAr.out.mono ?_
              rintro e x6 ⟨rfl, rfl⟩
              go_wp2_with fail
              refine CTb.out.mono ?_
              rintro e x6 ⟨rfl, rfl⟩
              go_wp2_with fail
              refine CV.out.mono ?_
              rintro e z1 ⟨v, rfl, hvw, kz⟩
              have HSz := Lib.hid (HSt.out z1 v (nn : Int) (HK5.out.trans kz) hvw (by omega) (by omega))
              have hI : Hid (slotI ca (nn : Int) = 2 * gn + 1 + nn) := Lib.hid (by have := HGN.out; unfold slotI; omega)
              have hIl : 2 * gn + 1 + nn < L := by have := HGN.out; omega
              have hL : L ≤ 65536 := by rw [HLL.out]; exact hsh
              clear hvw kz CAr CTb CV HSt q3 a5 hmn hkn2 hkn hfs hSl HC HCA hce
              generalize slotI ca (nn : Int) = I at *
              obtain rfl := HGN.out
              go_wp2_with fail
              refine HSz.out.mono ?_
              rintro e z2 ⟨rfl, hD, kd⟩
              obtain ⟨q2, cap2, hd2, hq2⟩ := hD.doc
              obtain ⟨c0, c1, f0⟩ := hd2.cells
              rw [← HLL.out] at c0
              have hne : ws ≠ [] := by rintro rfl; have := HLL.out; simp at this; omega
              have HS := Lib.hid hd2.row.seen
              have HDd := Lib.hid hd2
              have HDu := Lib.hid hD
              have HQ2 := Lib.hid hq2
              have HNe := Lib.hid hne
              clear kd hD hd2 hq2 hne HSz H5 H3 hsh
              go_wp2_with (at_builtin; (refine append_words rfl (.const (.slice none 0 0)) (.tmp 127) rfl (.slice none 0 0) [] rfl (Ar.Own.nil _) (some ⟨q2, 0, none⟩) L cap2 ws rfl HLL.out.symm (fun h => by cases h) HS.out (show 0 + L ≤ 1073741824 by omega) ?_))
              intro v2 x5 hO2 hG2 hB2
              have hK2 : Kept [] z2 x5 := own_grown (Kept.refl [] z2) (.inl rfl) hG2
              have hF2 := own_fresh (Kept.refl [] z2) (.inl rfl) hB2
              obtain ⟨gb, cap3, rfl, hcap, hlay2⟩ := lay_of_own hO2 HNe.out
              have hgb : z2.heap.size ≤ gb := by
                rcases hF2 with h | ⟨b, h, hle⟩
                · cases h
                · injection h with h
                  rw [show gb = b from h]; exact hle
              rw [← HLL.out] at hcap ⊢
              have hD5 := HDd.out.keep0 hK2
              have hrq : r ≠ gb := by have := HDd.out.head.lt; omega
              have hD6 := hD5.head.beside ⟨gb, 2 * gn + 1 + nn, none⟩ hrq (.int .u64 uu)
              have hc := hlay2.cell (2 * gn + 1 + nn) (by rw [← HLL.out]; omega)
              have hfz := hlay2.free (2 * gn + 1 + nn)
              clear c0 c1 f0
              have c0 := hD6.cell 0
              have f0 := hD6.free 0
              have HFin : Hid (Duo w ((x5.setCell ⟨gb, 2 * gn + 1 + nn, none⟩ (.int .u64 uu)).setCell ⟨r, 0, none⟩ (.slice (some ⟨gb, 0, none⟩) L cap3)) s r B d l (ws.set I uu) bs cs (ws.set I uu)) := Lib.hid (by
                refine HDu.out.theirs HQ2.out ⟨gb, cap3, ⟨?_, ?_, ?_⟩, .inr hgb, ((hK2.none _).setCell _ _ (.inr hgb)).setCell _ _ (.inl (by simp))⟩
                · rw [List.length_set, ← HLL.out]
                  exact hD6.put 0 _
                · rw [hI.out]
                  obtain ⟨rest, hr⟩ := hlay2.put (2 * gn + 1 + nn) uu (by rw [← HLL.out]; omega)
                  exact ⟨rest, hr.beside _ (Ne.symm hrq) _⟩
                · rw [List.length_set, ← HLL.out]; exact hcap)
              have hi0 : (0 : Int) ≤ 2 * (gn : Int) + 1 + (nn : Int) := by omega
              have hi1 : 2 * (gn : Int) + 1 + (nn : Int) < (L : Int) := by omega
              have hi2 : (2 * (gn : Int) + 1 + (nn : Int)).toNat = 2 * gn + 1 + nn := by omega
              clear hO2 hG2 hB2 hK2 hF2 hlay2 hgb hD5 hD6 hcap HS HDd HDu HQ2
              go_wp2_with fail
              go_ret
              exact ⟨rfl, _, bs, cs, HFin.out⟩
end
end Go.Proofs.YtagmmbkgjomdlaaGreatDoor.Sp
