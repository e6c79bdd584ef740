/-
  What the law carries: the space with its cells, the row of what is there; append at a step of a region that draws its order; and the row behind Put and Drop.
-/
import Derived.Test.YtfdombfdgpclcaaGreatDoorSpAliveWalk
import Derived.Test.YtfdombfdgpclcaaGreatDoorSpTold
import Derived.Deep.RegionLaw
namespace Go.Proofs.YtfdombfdgpclcaaGreatDoor.Sp
open Go.RowKit Go.Proofs.YtfdombfdgpclcaaGreatDoor.Ar Go.Proofs.YtfdombfdgpclcaaGreatDoor.Sh
open Go.Proofs.YtfdombfdgpclcaaGreatDoor.Hd (Hd Fields ofL)
open Go.Proofs.YtfdombfdgpclcaaGreatDoor.Tb (Ty Tab sizeE sizeT)
open Go.Proofs.YtfdombfdgpclcaaGreatDoor.Bt (Bv bit hasV)
open Go.Proofs.YtfdombfdgpclcaaGreatDoor.Wd (Table)
set_option linter.unusedVariables false

theorem step_append_cels {w : World} {ops : Array Oper} {o : Oper} {a : Act} {K : Act → World → Prop} {Q : Exit → Act → World → Prop} {E : Prop} (hgd : o.guard = none) (s x : Operand)
    (ho : o.op = .call { callee := .builtin .append, args := #[s, x], argTypes := #[33, 33] })
    (v : Value) (l : List Cel) (hs : a.eval s = v) (hown : Own w v l) (ad : Addr) (m c : Nat) (news : List Cel) (hx : a.eval x = .slice (some ad) m c) (hm : m = news.length) (hseen : Seen w (some ad) news)
    (hb : l.length + news.length ≤ 1073741824)
    (h : ∀ v' w', Own w' v' (l ++ news) → w.grownBy w' v.ownBlock → (v'.ownBlock = v.ownBlock ∨ v'.ownBlock = some w.heap.size) → K (a.put o.dst v') w') :
    if Region.wanted o (yielded ops a.tmps) = true then Oper.wp Tryz.prog o a w K Q else E := by
  have hw : Region.wanted o (yielded ops a.tmps) = true := by simp [Region.wanted, hgd]
  rw [if_pos hw]
  subst hm
  obtain ⟨i0, hi, hz0, hz1, hz2⟩ := info_parts info_cell
  obtain ⟨v', w', hr, h2, h3, h4, h5⟩ := run_append_own_at (P := Tryz.prog) w 0 33 o.type 45 i0 _ 5 40 Tryz.underlying33 hi hz0 hz1 hz2 rfl (by decide) v l.length (celCells l) hown ad news.length c (celCells news) (celCells_length news) (fun j u hu => by
    by_cases hne : news = []
    · subst hne; cases hu
    · obtain ⟨g, f, e, _, hc⟩ := hseen hne
      obtain rfl := Option.some.inj e
      rw [add_at]
      exact hc j u hu) (celCells_one news) (by unfold maxLen; omega) (by omega) (Nat.zero_le _)
  unfold Oper.wp execOp
  simp only [ho, resolve, invoke, builtin, Sem.run_bind, Sem.run_pure, Result.andThen_ok, List.map_toArray, List.map_cons, List.map_nil, hs, hx, hr]
  refine h v' w' ?_ h3 h5
  unfold Own
  rw [List.length_append, celCells_append]
  exact h2
/-- The space under growth of a row of cells that the law has made. -/
theorem Has1.grown {w x y : World} {s : Ids} {l : List Ty} {cs L : List Cel} {v : Value} (hF : Fields w) (hTb : Table w) (h : Has1 w x s l cs) (hO : Own x v L) (hv : FreshV w v) (hg : x.grownBy y v.ownBlock) : Has1 w y s l cs := by
  obtain ⟨ws, bs, m⟩ := h
  have hk : Kept [] w y := own_grown m.kept hv hg
  refine ⟨ws, bs, hk, m.spc.moved fun i o ⟨t, c, ht, hh⟩ ho => ?_, ⟨hF.keep0 hk, table_keep0 hTb hk, m.glob.nf, m.glob.nt⟩, m.snd, m.fresh⟩
  have hi := (Array.getElem?_eq_some_iff.1 ho).1
  refine (hg.block i hi fun e => ?_).trans ho
  exact Own.block_type hO hh (by rcases ht with rfl | rfl | rfl | rfl | rfl | rfl | rfl <;> decide) e.symm
/-- The row of what was put and not dropped. -/
structure Row (w x : World) (v : Value) (T cs : List Cel) : Prop where
  own : Own x v T
  fresh : FreshV w v
  perm : T.Perm (objs cs)
theorem Row.keep0 {w x y : World} {v : Value} {T cs : List Cel} (h : Row w x v T cs) (k : Kept [] x y) : Row w y v T cs := ⟨h.own.keep0 k, h.fresh, h.perm⟩
theorem fresh_own {w x : World} {v v' : Value} (k : Kept [] w x) (hv : FreshV w v) (h : v'.ownBlock = v.ownBlock ∨ v'.ownBlock = some x.heap.size) : FreshV w v' := own_fresh k hv h
/-- Objects of a space begin at unlike granules. -/
theorem apart {ws : List Int} {l : List Ty} {bs : List Bool} {cs : List Cel} (h : Snd ws l bs cs) {c d : Cel} (hc : c ∈ cs) (hd : d ∈ cs) (e : c.a = d.a) : c = d := by
  obtain ⟨A, B, rfl⟩ := List.append_of_mem hc
  obtain ⟨m, t1, t2⟩ := Tiled.split h.tiled
  have hm : c.a = m := t2.1
  have hz := can_sz t2.2.1
  rcases List.mem_append.1 hd with hd | hd
  · obtain ⟨b1, b2, b3, _⟩ := t1.mem d hd
    have := can_sz b3
    omega
  · rcases List.mem_cons.1 hd with rfl | hd
    · rfl
    · have := (Tiled.mem t2.2.2.2.2 d hd).1
      omega
theorem find_perm {ws : List Int} {l : List Ty} {bs : List Bool} {cs T : List Cel} (h : Snd ws l bs cs) (hT : T.Perm (objs cs)) {c : Cel} (hc : c ∈ objs cs) : ∃ k : Nat, k < T.length ∧ findV c.a T 0 = (k : Int) ∧ T.getD k Cel.zero = c := by
  rcases findV_cases c.a T 0 with ⟨h1, h2⟩ | ⟨k, h1, h2, h3⟩
  · exact absurd rfl (h2 c (hT.mem_iff.2 hc))
  · refine ⟨k, h1, by rw [h2]; congr 1; omega, ?_⟩
    have hm := hT.mem_iff.1 (cel_mem h1)
    exact apart h (objs_mem.1 hm).1 (objs_mem.1 hc).1 h3
theorem told_of {w x : World} {s : Ids} {l : List Ty} {cs T : List Cel} (h : Has1 w x s l cs) (hT : T.Perm (objs cs)) : Told cs T := by
  obtain ⟨ws, bs, m⟩ := h
  refine ⟨fun c hc => ?_, hT.length_eq.symm⟩
  obtain ⟨a1, a2, a3, _⟩ := m.snd.tiled.mem c hc
  by_cases ht : c.h.tg = 1
  · exact .inl ⟨ht, find_perm m.snd hT (objs_mem.2 ⟨hc, ht⟩)⟩
  · have hn := m.snd.neat c hc ht
    obtain ⟨hz, h1 | ⟨h2, h3, h4⟩⟩ := a3
    · exact absurd h1.1 ht
    · refine .inr ⟨?_, h3, h4⟩
      rcases h2 with h2 | h2
      · exact .inl ⟨h2, hn.1 h2⟩
      · refine .inr ⟨h2, fun e => ?_⟩
        have := hn.2 e
        omega
theorem tiled_of {w x : World} {s : Ids} {l : List Ty} {cs : List Cel} (h : Has1 w x s l cs) : ∃ ws, Tiled ws l 0 cs (gran ws) ∧ cs.length ≤ 32768 := by
  obtain ⟨ws, bs, m⟩ := h
  refine ⟨ws, m.snd.tiled, ?_⟩
  have hs := m.snd.short
  rcases m.snd.scans.length (Int.le_refl _) with h | h
  · omega
  · subst h; simp
theorem put_row {l : List Ty} {cs cs' T : List Cel} {g i n : Int} (hT : T.Perm (objs cs)) (h : PutR l cs g i n 0 cs') : (T ++ [(⟨g, ⟨1, i, n, sizeT l i n⟩⟩ : Cel)]).Perm (objs cs') := by
  rcases h with ⟨h, _⟩ | ⟨_, _, h⟩
  · exact absurd rfl h
  · exact (hT.append_right _).trans h.symm
theorem drop_none {w x : World} {s : Ids} {l : List Ty} {cs cs' T : List Cel} {g er : Int} (hT : T.Perm (objs cs)) (h : DropR cs g er cs') (he : er ≠ 0) : er = 3 ∧ cs' = cs ∧ findV g T 0 = -1 := by
  rcases h with ⟨h1, h2, h3⟩ | ⟨h1, _⟩
  · refine ⟨h1, h2, ?_⟩
    rcases findV_cases g T 0 with ⟨k, _⟩ | ⟨k, k1, _, k3⟩
    · exact k
    · exact absurd k3 (h3 _ (hT.mem_iff.1 (cel_mem k1)))
  · exact absurd h1 he
theorem drop_row {w x : World} {s : Ids} {l : List Ty} {cs cs' T : List Cel} {g : Int} (hH : Has1 w x s l cs) (hT : T.Perm (objs cs)) (h : DropR cs g 0 cs') : ∃ k : Nat, k < T.length ∧ findV g T 0 = (k : Int) ∧ (T.take k ++ T.drop (k + 1)).Perm (objs cs') := by
  obtain ⟨ws, bs, m⟩ := hH
  rcases h with ⟨h1, _⟩ | ⟨_, c, hc, hp⟩
  · exact absurd h1 (by decide)
  · have hcm : c ∈ objs cs := hp.mem_iff.2 List.mem_cons_self
    obtain ⟨k, k1, k2, k3⟩ := find_perm m.snd hT hcm
    refine ⟨k, k1, by rw [← hc]; exact k2, ?_⟩
    have e : T = T.take k ++ c :: T.drop (k + 1) := by
      rw [← k3]
      have := cel_drop k1
      rw [← this, List.take_append_drop]
    have h1 : (c :: (T.take k ++ T.drop (k + 1))).Perm T := by
      conv => rhs; rw [e]
      exact List.perm_middle.symm
    exact List.Perm.cons_inv ((h1.trans hT).trans hp)
end Go.Proofs.YtfdombfdgpclcaaGreatDoor.Sp
