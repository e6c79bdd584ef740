/-
  A space of a law's own making: its cells, its starts, Put and Drop on it.
-/
import Derived.Test.YtfdombfdgpclcaaGreatDoorSpDrop
import Derived.Test.YtfdombfdgpclcaaGreatDoorSpPutNo
import Derived.Test.YtfdombfdgpclcaaGreatDoorSpPutYes
import Derived.Test.YtfdombfdgpclcaaGreatDoorSpList
namespace Go.Proofs.YtfdombfdgpclcaaGreatDoor.Sp
open Go.RowKit Go.Proofs.YtfdombfdgpclcaaGreatDoor.Ar Go.Proofs.YtfdombfdgpclcaaGreatDoor.Sh
open Go.Proofs.YtfdombfdgpclcaaGreatDoor.Hd (Hd Fields ofL of_facts)
open Go.Proofs.YtfdombfdgpclcaaGreatDoor.Tb (Ty Tab blk sizeE sizeT)
open Go.Proofs.YtfdombfdgpclcaaGreatDoor.Bt (Bv bit atI prevO nextO hasV has_ok)
open Go.Proofs.YtfdombfdgpclcaaGreatDoor.Wd (Table)
set_option linter.unusedVariables false

structure Mine (w x : World) (s : Ids) (l : List Ty) (ws : List Int) (bs : List Bool) (cs : List Cel) : Prop where
  kept : Kept [] w x
  spc : Spc x s l ws bs
  glob : Glob x s
  snd : Snd ws l bs cs
  fresh : ∀ i ∈ s.turn, w.heap.size ≤ i
/-- There is such a space, with these cells. -/
def Has1 (w x : World) (s : Ids) (l : List Ty) (cs : List Cel) : Prop := ∃ ws bs, Mine w x s l ws bs cs
theorem Mine.keep0 {w x y : World} {s : Ids} {l : List Ty} {ws : List Int} {bs : List Bool} {cs : List Cel} (h : Mine w x s l ws bs cs) (k : Kept [] x y) : Mine w y s l ws bs cs :=
  ⟨h.kept.trans k, h.spc.keep0 k, h.glob.keep0 k, h.snd, h.fresh⟩
theorem Has1.keep0 {w x y : World} {s : Ids} {l : List Ty} {cs : List Cel} (h : Has1 w x s l cs) (k : Kept [] x y) : Has1 w y s l cs := let ⟨ws, bs, m⟩ := h; ⟨ws, bs, m.keep0 k⟩
theorem Has1.kept {w x : World} {s : Ids} {l : List Ty} {cs : List Cel} (h : Has1 w x s l cs) : Kept [] w x := let ⟨ws, bs, m⟩ := h; m.kept
theorem Mine.turned {w x y : World} {s : Ids} {l : List Ty} {ws ws' : List Int} {bs bs' : List Bool} {cs cs' : List Cel} (h : Mine w x s l ws bs cs) (k : Kept s.turn x y) (hS : Spc y s l ws' bs') (hN : Snd ws' l bs' cs') : Mine w y s l ws' bs' cs' :=
  ⟨h.kept.forget k h.fresh, hS, h.glob.kept k, hN, h.fresh⟩
/-- What Put makes of cells. -/
def PutR (l : List Ty) (cs : List Cel) (g i n er : Int) (cs' : List Cel) : Prop := (er ≠ 0 ∧ cs' = cs) ∨ (er = 0 ∧ sizeE l i n = 0 ∧ (objs cs').Perm (objs cs ++ [⟨g, ⟨1, i, n, sizeT l i n⟩⟩]))
def DropR (cs : List Cel) (g er : Int) (cs' : List Cel) : Prop := (er = 3 ∧ cs' = cs ∧ ∀ c ∈ objs cs, c.a ≠ g) ∨ (er = 0 ∧ ∃ c, c.a = g ∧ (objs cs).Perm (c :: objs cs'))
/-- All granules of cells. -/
def tot : List Cel → Int
  | [] => 0
  | c :: cs => c.h.sz + tot cs
theorem Tiled.sum {ws : List Int} {l : List Ty} : ∀ {cs : List Cel} {f e : Int}, Tiled ws l f cs e → f + tot cs = e
  | [], f, e, h => by
    have h : f = e := h
    show f + 0 = e
    omega
  | c :: cs, f, e, h => by
    have := Tiled.sum h.2.2.2.2
    show f + (c.h.sz + tot cs) = e
    omega
theorem tot_of {ws : List Int} {l : List Ty} {bs : List Bool} {cs : List Cel} (h : Snd ws l bs cs) : tot cs = gran ws := by
  have := h.tiled.sum
  omega
section
variable {w x : World} {s : Ids} {l : List Ty} {cs : List Cel}
theorem one_cells (h : Has1 w x s l cs) : Calls Tryz.prog 8 #[.pointer (some ⟨s.sp, 0, none⟩)] x fun e y => ∃ v, e = .returned v ∧ Own y v cs ∧ FreshV x v ∧ Kept [] x y := by
  obtain ⟨ws, bs, m⟩ := h
  exact allCells_ok m.glob.f m.spc cs m.snd.scans
theorem one_starts (h : Has1 w x s l cs) : Calls Tryz.prog 16 #[.pointer (some ⟨s.sp, 0, none⟩)] x fun e y => ∃ p q bs, e = .returned (.pointer (some ⟨p, 0, none⟩)) ∧ Bv y p q bs ∧ (∀ c ∈ cs, hasV bs c.a = decide (c.h.tg = 1)) ∧ Kept [] x y := by
  obtain ⟨ws, bs, m⟩ := h
  refine (starts_ok m.spc).mono ?_
  rintro e y ⟨he, hb, hk⟩
  refine ⟨_, _, bs, he, hb, fun c hc => ?_, hk⟩
  obtain ⟨a1, a2, a3, _⟩ := m.snd.tiled.mem c hc
  have hz := can_sz a3
  unfold hasV
  rw [decide_eq_true a1, Bool.true_and, Bool.eq_iff_iff, decide_eq_true_iff, m.snd.agree]
  constructor
  · rintro ⟨d, hd, e⟩
    obtain ⟨d1, d2⟩ := objs_mem.1 hd
    -- the cell at a granule is one
    obtain ⟨A, B, rfl⟩ := List.append_of_mem hc
    obtain ⟨m1, t1, t2⟩ := Tiled.split m.snd.tiled
    have hm : c.a = m1 := t2.1
    rcases List.mem_append.1 d1 with d1 | d1
    · obtain ⟨b1, b2, b3, _⟩ := t1.mem d d1
      have := can_sz b3
      omega
    · rcases List.mem_cons.1 d1 with rfl | d1
      · exact d2
      · have := (Tiled.mem t2.2.2.2.2 d d1).1
        omega
  · intro ht
    exact ⟨c, objs_mem.2 ⟨hc, ht⟩, by omega⟩
theorem one_drop (h : Has1 w x s l cs) (g : Int) (g0 : -9223372036854775808 ≤ g) (g1 : g ≤ 9223372036854775807) :
    Calls Tryz.prog 11 #[.pointer (some ⟨s.sp, 0, none⟩), .int .i64 g] x fun e y => ∃ er cs', e = .returned (.int .i64 er) ∧ Has1 w y s l cs' ∧ Kept s.turn x y ∧ DropR cs g er cs' ∧ tot cs' = tot cs := by
  obtain ⟨ws, bs, m⟩ := h
  cases hv : hasV bs g with
  | false =>
    refine (drop_no m.glob m.spc g g0 g1 hv).mono ?_
    rintro e y ⟨he, hk⟩
    refine ⟨3, cs, he, ⟨ws, bs, m.keep0 hk⟩, hk.none _, .inl ⟨rfl, rfl, fun c hc e => ?_⟩, rfl⟩
    have hcm := m.snd.tiled.mem c (objs_mem.1 hc).1
    have hb : bit bs g.toNat = true := (m.snd.agree _).2 ⟨c, hc, by omega⟩
    unfold hasV at hv
    rw [hb, decide_eq_true (by omega)] at hv
    cases hv
  | true =>
    have hv' := hv
    unfold hasV at hv'
    rw [Bool.and_eq_true, decide_eq_true_iff] at hv'
    obtain ⟨h0, hb⟩ := hv'
    have hbl := bit_lt hb
    have hfew := m.spc.few
    obtain ⟨P, M, Q, c, rfl, ho, hc, t1, t2, t3⟩ := m.snd.drop hb
    have hgn : ((g.toNat : Nat) : Int) = g := by omega
    rw [hgn] at hc t1 t2 t3
    have hsh := m.spc.short
    have hgr : gran ws ≤ 32768 := by unfold gran; omega
    have hp := t1.le
    have hpn := t2.le
    have hng := t3.le
    refine (drop_yes m.glob m.spc g h0 (by omega) hv (by omega) ⟨by omega, by omega⟩).mono ?_
    rintro e y ⟨he, hS, hk⟩
    have hN := m.snd.replace (ws1 := ws) (os := []) t1 t2 t3 rfl (fun _ _ _ => rfl) hpn
    refine ⟨0, _, he, ⟨_, _, m.turned hk hS hN⟩, hk, .inr ⟨rfl, c, hc, ?_⟩, by rw [tot_of hN, tot_of m.snd, gran_eq (becomeW_length _ _ _ _)]⟩
    rw [objs_append, objs_append, ho, objs_append, objs_append, objs_becomeL _ _ _ (fun _ h => by cases h), List.append_nil, List.append_assoc]
    exact List.perm_middle
theorem one_put (h : Has1 w x s l cs) (g i n : Int) (g0 : -9223372036854775808 ≤ g) (g1 : g ≤ 9223372036854775807) (i0 : -9223372036854775808 ≤ i) (i1 : i ≤ 9223372036854775807) :
    Calls Tryz.prog 9 #[.pointer (some ⟨s.sp, 0, none⟩), .int .i64 g, .int .i64 i, .int .i64 n] x fun e y => ∃ er cs', e = .returned (.int .i64 er) ∧ Has1 w y s l cs' ∧ Kept s.turn x y ∧ PutR l cs g i n er cs' ∧ tot cs' = tot cs := by
  obtain ⟨ws, bs, m⟩ := h
  by_cases he : sizeE l i n = 0
  · by_cases hin : 0 ≤ g ∧ g < gran ws
    · obtain ⟨S, hS, P, c, Q, hcs, c1, c2, hf⟩ := m.snd.gap g hin.1 hin.2
      obtain ⟨sz, ho, s1, s2, j0, j1, n0, n1⟩ := of_facts he m.spc.tab.len
      have hoT : ofL l i n = ⟨1, i, n, sizeT l i n⟩ := by unfold ofL Hd.ofH; rw [if_pos he]
      have hsh := m.spc.short
      have hgr : gran ws ≤ 32768 := by unfold gran; omega
      obtain ⟨b1, b2, b3, b4, b5⟩ := m.snd.tiled.mem c (by rw [hcs]; simp)
      have hz := can_sz b3
      by_cases hx : c.h.tg = 1 ∨ c.a + c.h.sz - g < (ofL l i n).sz
      · refine (put_none m.glob m.spc g i n i0 i1 he hin.1 hin.2 S hS c hf ⟨by omega, by omega⟩ ⟨by omega, by omega⟩ hx).mono ?_
        rintro e y ⟨he', hk⟩
        exact ⟨3, cs, he', ⟨ws, bs, m.keep0 hk⟩, hk.none _, .inl ⟨by decide, rfl⟩, rfl⟩
      · have hx1 : c.h.tg ≠ 1 := fun e => hx (.inl e)
        have hx2 : (ofL l i n).sz ≤ c.a + c.h.sz - g := by
          rcases Int.lt_or_le (c.a + c.h.sz - g) (ofL l i n).sz with k | k
          · exact absurd (.inr k) hx
          · exact k
        have hN0 := m.snd
        rw [hcs] at hN0
        have hN := hN0.put m.spc.tab.len he hx1 c1 hx2
        refine (put_yes m.glob m.spc g i n i0 i1 he hin.1 hin.2 S hS c hf ⟨by omega, by omega⟩ ⟨by omega, by omega⟩ hx1 hx2 c1).mono ?_
        rintro e y ⟨he', hS', hk⟩
        refine ⟨0, _, he', ⟨_, _, m.turned hk hS' hN⟩, hk, .inr ⟨rfl, he, ?_⟩, by rw [tot_of hN, tot_of m.snd, gran_eq ((becomeW_length _ _ _ _).trans (makeW_length m.spc.tab.len))]⟩
        obtain ⟨o1, o2⟩ := objs_put (P := P) (Q := Q) (x := c) (c := ⟨g, ofL l i n⟩) (e := c.a + c.h.sz) hx1 (by rw [ho])
        rw [o2, hcs, o1, hoT, List.append_assoc]
        exact List.Perm.append_left _ (List.perm_append_singleton _ _).symm
    · refine (put_out m.glob m.spc g i n g0 g1 i0 i1 he (by omega)).mono ?_
      rintro e y ⟨he', hk⟩
      exact ⟨2, cs, he', ⟨ws, bs, m.keep0 hk⟩, hk.none _, .inl ⟨by decide, rfl⟩, rfl⟩
  · refine (put_err m.glob m.spc g i n i0 i1 he).mono ?_
    rintro e y ⟨he', hk⟩
    exact ⟨_, cs, he', ⟨ws, bs, m.keep0 hk⟩, hk.none _, .inl ⟨he, rfl⟩, rfl⟩
end
end Go.Proofs.YtfdombfdgpclcaaGreatDoor.Sp
