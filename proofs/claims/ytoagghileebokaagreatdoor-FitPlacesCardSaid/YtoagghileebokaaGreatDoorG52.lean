/-
  Several texts in one: FtCtr, FtMade, FtAlive.
-/
import Derived.Test.YtoagghileebokaaGreatDoorG39
import Derived.Test.YtoagghileebokaaGreatDoorG38
import Derived.Test.YtoagghileebokaaGreatDoorG40
import Derived.Test.YtoagghileebokaaGreatDoorG47
import Derived.Test.YtoagghileebokaaGreatDoorG35
import Derived.Test.YtoagghileebokaaGreatDoorG29
import Derived.Test.YtoagghileebokaaGreatDoorG07
/-
  Stage 13, fit: what the laws ask of package fit, as a bundle of contracts; a list of black granules that may be none.
-/
namespace Go.Proofs.YtoagghileebokaaGreatDoor.Ft
open Go.RowKit Go.Proofs.YtoagghileebokaaGreatDoor.Ar
open Go.Proofs.YtoagghileebokaaGreatDoor.Sp (Cel tot Has0 Ids)
open Go.Proofs.YtoagghileebokaaGreatDoor.Hd (ofL)
open Go.Proofs.YtoagghileebokaaGreatDoor.Tb (Ty sizeT sizeE)
open Go.Proofs.YtoagghileebokaaGreatDoor.Bk (Pb hasL I64)
set_option linter.unusedVariables false

/-- vb is a list with N granules of which bl are black, in the blocks T; or none. -/
def LB (w x : World) (vb : Value) (N : Int) (bl : Nat → Bool) (T : List Nat) : Prop :=
  (vb = .pointer none ∧ bl = noB ∧ T = []) ∨ ∃ p ls, vb = .pointer (some ⟨p, 0, none⟩) ∧ Pb w x p T ls ∧ (ls.length : Int) = N ∧ bl = fun g : Nat => hasL ls (g : Int)
theorem LB.kept {w x y : World} {vb : Value} {N : Int} {bl : Nat → Bool} {T S : List Nat} (h : LB w x vb N bl T) (k : Kept S x y) (h1 : ∀ i ∈ T, i ∉ S) (h2 : ∀ i ∈ S, w.heap.size ≤ i) : LB w y vb N bl T := by
  rcases h with h | ⟨p, ls, e, hp, hl, hb⟩
  · exact .inl h
  · exact .inr ⟨p, ls, e, hp.kept k h1 h2, hl, hb⟩
theorem LB.keep0 {w x y : World} {vb : Value} {N : Int} {bl : Nat → Bool} {T : List Nat} (h : LB w x vb N bl T) (k : Kept [] x y) : LB w y vb N bl T := h.kept k (fun _ _ hi => by cases hi) (fun _ hi => by cases hi)
theorem LB.none {w x : World} {N : Int} : LB w x (.pointer none) N noB [] := .inl ⟨rfl, rfl, rfl⟩
theorem LB.has {w x : World} {vb : Value} {N : Int} {bl : Nat → Bool} {T : List Nat} (h : LB w x vb N bl T) (k : Nat) (hk : k ≤ 9223372036854775807) :
    Calls Tryz.prog 17 #[vb, .int .i64 (k : Int)] x fun e y => e = .returned (.bool (bl k)) ∧ Kept [] x y := by
  have hI : I64 (k : Int) := by unfold Bk.I64; omega
  rcases h with ⟨rfl, rfl, rfl⟩ | ⟨p, ls, rfl, hp, hl, rfl⟩
  · exact (Bk.has_none (k : Int)).mono fun e y ⟨he, hy⟩ => ⟨he, hy ▸ Kept.refl _ _⟩
  · exact Bk.pb_has (k : Int) hp hI
/-- The law's space and list; TB: what else stands from the start (the table of the lowest bits, if it is reached). -/
structure Both (TB : World → Prop) (w x : World) (s : Ids) (l : List Ty) (cs : List Cel) (vb : Value) (bl : Nat → Bool) (T : List Nat) : Prop where
  tb : TB w
  spc : Has0 w x s l cs
  lst : LB w x vb (tot cs) bl T
  apart : ∀ i ∈ T, i ∉ s.turn
theorem Both.keep0 {TB : World → Prop} {w x y : World} {s : Ids} {l : List Ty} {cs : List Cel} {vb : Value} {bl : Nat → Bool} {T : List Nat} (h : Both TB w x s l cs vb bl T) (k : Kept [] x y) : Both TB w y s l cs vb bl T := ⟨h.tb, h.spc.keep0 k, h.lst.keep0 k, h.apart⟩
theorem Both.bare {TB : World → Prop} {w x : World} {s : Ids} {l : List Ty} {cs : List Cel} (tb : TB w) (h : Has0 w x s l cs) : Both TB w x s l cs (.pointer none) noB [] := ⟨tb, h, LB.none, fun _ hi => by cases hi⟩
/-- The space has turned. -/
theorem Both.turned {TB : World → Prop} {w x y : World} {s : Ids} {l : List Ty} {cs cs' : List Cel} {vb : Value} {bl : Nat → Bool} {T : List Nat} (h : Both TB w x s l cs vb bl T) (k : Kept s.turn x y) (hs : Has0 w y s l cs') (ht : tot cs' = tot cs) : Both TB w y s l cs' vb bl T := by
  refine ⟨h.tb, hs, ?_, h.apart⟩
  rw [ht]
  obtain ⟨ws, bs, m⟩ := h.spc
  exact h.lst.kept k h.apart m.fresh
theorem turn_lt {w x : World} {s : Ids} {l : List Ty} {cs : List Cel} (h : Has0 w x s l cs) : ∀ i ∈ s.turn, i < x.heap.size := fun i hi => by
  obtain ⟨ws, bs, m⟩ := h
  obtain ⟨n, ha⟩ := m.spc.ar
  obtain ⟨v, hv, _⟩ := m.spc.bv
  unfold Sp.Ids.turn at hi
  simp only [List.mem_cons, List.not_mem_nil, or_false] at hi
  rcases hi with rfl | rfl | rfl
  · exact ha.head.lt
  · exact ha.row.lt
  · exact hv.row.lt
/-- What First tells. -/
def firstV (bl : Nat → Bool) (cs : List Cel) (n : Nat) : Value := .tuple #[.int .i64 (((firstF bl cs n).getD 0 : Nat) : Int), .int .i64 (if (firstF bl cs n).isSome = true then 0 else 4)]
structure FCtr (TB : World → Prop) : Prop where
  keep : ∀ {x y : World}, TB x → Kept [] x y → TB y
  first : ∀ {w x : World} {s : Ids} {l : List Ty} {cs : List Cel} {vb : Value} {bl : Nat → Bool} {T : List Nat} (n : Nat), Both TB w x s l cs vb bl T → 1 ≤ n → n ≤ 9223372036854775807 →
    Calls Tryz.prog 15 #[.pointer (some ⟨s.sp, 0, none⟩), vb, .int .i64 (n : Int)] x fun e y => e = .returned (firstV bl cs n) ∧ Kept [] x y
  bad : ∀ {w x : World} {s : Ids} {l : List Ty} {cs : List Cel} {vb : Value} {bl : Nat → Bool} {T : List Nat} (n : Int), Both TB w x s l cs vb bl T → I64 n → n < 1 →
    Calls Tryz.prog 15 #[.pointer (some ⟨s.sp, 0, none⟩), vb, .int .i64 n] x fun e y => e = .returned (.tuple #[.int .i64 0, .int .i64 2]) ∧ Kept [] x y
  most : ∀ {w x : World} {s : Ids} {l : List Ty} {cs : List Cel} {vb : Value} {bl : Nat → Bool} {T : List Nat}, Both TB w x s l cs vb bl T →
    Calls Tryz.prog 18 #[.pointer (some ⟨s.sp, 0, none⟩), vb] x fun e y => e = .returned (.tuple #[.int .i64 (mostF bl cs : Nat), .int .i64 0]) ∧ Kept [] x y
  free : ∀ {w x : World} {s : Ids} {l : List Ty} {cs : List Cel} {vb : Value} {bl : Nat → Bool} {T : List Nat}, Both TB w x s l cs vb bl T →
    Calls Tryz.prog 14 #[.pointer (some ⟨s.sp, 0, none⟩), vb] x fun e y => e = .returned (.tuple #[.int .i64 (freeF bl cs : Nat), .int .i64 0]) ∧ Kept [] x y
  place_err : ∀ {w x : World} {s : Ids} {l : List Ty} {cs : List Cel} {vb : Value} {bl : Nat → Bool} {T : List Nat} (i n : Int), Both TB w x s l cs vb bl T → I64 i → I64 n → sizeE l i n ≠ 0 →
    Calls Tryz.prog 11 #[.pointer (some ⟨s.sp, 0, none⟩), vb, .int .i64 i, .int .i64 n] x fun e y => e = .returned (.tuple #[.int .i64 0, .int .i64 (sizeE l i n)]) ∧ Kept [] x y
  place_full : ∀ {w x : World} {s : Ids} {l : List Ty} {cs : List Cel} {vb : Value} {bl : Nat → Bool} {T : List Nat} (i n : Int), Both TB w x s l cs vb bl T → I64 i → I64 n → sizeE l i n = 0 → firstF bl cs (sizeT l i n).toNat = none →
    Calls Tryz.prog 11 #[.pointer (some ⟨s.sp, 0, none⟩), vb, .int .i64 i, .int .i64 n] x fun e y => e = .returned (.tuple #[.int .i64 0, .int .i64 4]) ∧ Kept [] x y
  place_yes : ∀ {w x : World} {s : Ids} {l : List Ty} {cs : List Cel} {vb : Value} {bl : Nat → Bool} {T : List Nat} (i n : Int) (g : Nat), Both TB w x s l cs vb bl T → I64 i → I64 n → sizeE l i n = 0 → firstF bl cs (sizeT l i n).toNat = some g →
    Calls Tryz.prog 11 #[.pointer (some ⟨s.sp, 0, none⟩), vb, .int .i64 i, .int .i64 n] x fun e y => e = .returned (.tuple #[.int .i64 (g : Int), .int .i64 0]) ∧ Has0 w y s l (putF cs g (ofL l i n)) ∧ Kept s.turn x y ∧ tot (putF cs g (ofL l i n)) = tot cs
/-- .. and where there is no space, or a list of other granules. -/
structure FNil (TB : World → Prop) : Prop where
  first : ∀ {w x : World} {vb : Value} {N : Int} {bl : Nat → Bool} {T : List Nat} (n : Int), TB x → LB w x vb N bl T → I64 n → Calls Tryz.prog 15 #[.pointer none, vb, .int .i64 n] x fun e y => e = .returned (.tuple #[.int .i64 0, .int .i64 1]) ∧ Kept [] x y
  place : ∀ {x : World} (i n : Int), TB x → I64 i → I64 n → Calls Tryz.prog 11 #[.pointer none, .pointer none, .int .i64 i, .int .i64 n] x fun e y => e = .returned (.tuple #[.int .i64 0, .int .i64 1]) ∧ Kept [] x y
  most : ∀ {x : World}, TB x → Calls Tryz.prog 18 #[.pointer none, .pointer none] x fun e y => e = .returned (.tuple #[.int .i64 0, .int .i64 1]) ∧ Kept [] x y
  free : ∀ {x : World}, TB x → Calls Tryz.prog 14 #[.pointer none, .pointer none] x fun e y => e = .returned (.tuple #[.int .i64 0, .int .i64 1]) ∧ Kept [] x y
  first_other : ∀ {w x : World} {s : Ids} {l : List Ty} {cs : List Cel} {p : Nat} {T : List Nat} {ls : List Int} (n : Int), TB w → Has0 w x s l cs → Pb w x p T ls → (ls.length : Int) ≠ tot cs → I64 n →
    Calls Tryz.prog 15 #[.pointer (some ⟨s.sp, 0, none⟩), .pointer (some ⟨p, 0, none⟩), .int .i64 n] x fun e y => e = .returned (.tuple #[.int .i64 0, .int .i64 2]) ∧ Kept [] x y
  most_other : ∀ {w x : World} {s : Ids} {l : List Ty} {cs : List Cel} {p : Nat} {T : List Nat} {ls : List Int}, TB w → Has0 w x s l cs → Pb w x p T ls → (ls.length : Int) ≠ tot cs →
    Calls Tryz.prog 18 #[.pointer (some ⟨s.sp, 0, none⟩), .pointer (some ⟨p, 0, none⟩)] x fun e y => e = .returned (.tuple #[.int .i64 0, .int .i64 2]) ∧ Kept [] x y
  free_other : ∀ {w x : World} {s : Ids} {l : List Ty} {cs : List Cel} {p : Nat} {T : List Nat} {ls : List Int}, TB w → Has0 w x s l cs → Pb w x p T ls → (ls.length : Int) ≠ tot cs →
    Calls Tryz.prog 14 #[.pointer (some ⟨s.sp, 0, none⟩), .pointer (some ⟨p, 0, none⟩)] x fun e y => e = .returned (.tuple #[.int .i64 0, .int .i64 2]) ∧ Kept [] x y
  place_other : ∀ {w x : World} {s : Ids} {l : List Ty} {cs : List Cel} {p : Nat} {T : List Nat} {ls : List Int} (i n : Int), TB w → Has0 w x s l cs → Pb w x p T ls → (ls.length : Int) ≠ tot cs → I64 i → I64 n → sizeE l i n = 0 →
    Calls Tryz.prog 11 #[.pointer (some ⟨s.sp, 0, none⟩), .pointer (some ⟨p, 0, none⟩), .int .i64 i, .int .i64 n] x fun e y => e = .returned (.tuple #[.int .i64 0, .int .i64 2]) ∧ Kept [] x y
theorem FCtr.more {TB : World → Prop} (F : FCtr fun _ => True) (hk : ∀ {x y : World}, TB x → Kept [] x y → TB y) : FCtr TB where
  keep := hk
  first := fun n h => F.first n ⟨trivial, h.spc, h.lst, h.apart⟩
  bad := fun n h => F.bad n ⟨trivial, h.spc, h.lst, h.apart⟩
  most := fun h => F.most ⟨trivial, h.spc, h.lst, h.apart⟩
  free := fun h => F.free ⟨trivial, h.spc, h.lst, h.apart⟩
  place_err := fun i n h => F.place_err i n ⟨trivial, h.spc, h.lst, h.apart⟩
  place_full := fun i n h => F.place_full i n ⟨trivial, h.spc, h.lst, h.apart⟩
  place_yes := fun i n g h => F.place_yes i n g ⟨trivial, h.spc, h.lst, h.apart⟩
theorem FNil.more {TB : World → Prop} (F : FNil fun _ => True) : FNil TB where
  first := fun n _ h => F.first n trivial h
  place := fun i n _ => F.place i n trivial
  most := fun _ => F.most trivial
  free := fun _ => F.free trivial
  first_other := fun n _ h => F.first_other n trivial h
  most_other := fun _ h => F.most_other trivial h
  free_other := fun _ h => F.free_other trivial h
  place_other := fun i n _ h => F.place_other i n trivial h
end Go.Proofs.YtoagghileebokaaGreatDoor.Ft

/-
  Stage 13, fit: the laws' objects (how many granules of objects), and their made (a space, and a list or none).
-/
namespace Go.Proofs.YtoagghileebokaaGreatDoor.Ft
open Go.RowKit Go.Proofs.YtoagghileebokaaGreatDoor.Ar
open Go.Proofs.YtoagghileebokaaGreatDoor.Sp (Stp Light Cel objs tot Has0 Ids zero_cells Mine0 Duo tot_of back_own)
open Go.Proofs.YtoagghileebokaaGreatDoor.Tb (Ty)
open Go.Proofs.YtoagghileebokaaGreatDoor.Hd (Fields)
open Go.Proofs.YtoagghileebokaaGreatDoor.Bk (Pb I64)
open Go.Proofs.YtoagghileebokaaGreatDoor.Fd (played_ok PlayedPost)
set_option linter.unusedVariables false

theorem tot_bound {ws : List Int} {l : List Ty} : ∀ {cs : List Cel} {f N : Int}, Sp.Tiled ws l f cs N → 0 ≤ f → ∀ j, 0 ≤ tot (objs (cs.take j)) ∧ tot (objs (cs.take j)) ≤ N - f := fun {cs f N} h hf j => by
  obtain ⟨m, t1, t2⟩ := Sp.Tiled.split (a := cs.take j) (b := cs.drop j) (by rw [List.take_append_drop]; exact h)
  have h1 := t1.sum
  have h2 := t2.le
  have h3 : ∀ (a : List Cel) (g e : Int), Sp.Tiled ws l g a e → 0 ≤ tot (objs a) ∧ 0 ≤ gapSum a := fun a => by
    induction a with
    | nil => intro g e _; exact ⟨Int.le_refl _, Int.le_refl _⟩
    | cons c a ih =>
      intro g e ht
      have hs := Sp.can_sz ht.2.1
      obtain ⟨i1, i2⟩ := ih _ _ ht.2.2.2.2
      unfold Sp.objs at i1 ⊢
      by_cases hc : c.h.tg = 1
      · rw [List.filter_cons_of_pos (by simpa using hc)]
        refine ⟨?_, ?_⟩
        · show 0 ≤ c.h.sz + tot (List.filter _ a)
          omega
        · show 0 ≤ (if c.h.tg = 1 then 0 else c.h.sz) + gapSum a
          rw [if_pos hc]
          omega
      · rw [List.filter_cons_of_neg (by simpa using hc)]
        refine ⟨i1, ?_⟩
        show 0 ≤ (if c.h.tg = 1 then 0 else c.h.sz) + gapSum a
        rw [if_neg hc]
        omega
  have h4 := h3 _ _ _ t1
  have h5 := gap_obj (cs.take j)
  omega
theorem few_of {w x : World} {s : Ids} {l : List Ty} {cs : List Cel} (h : Has0 w x s l cs) : ∃ ws N, Sp.Tiled ws l 0 cs N ∧ N ≤ 32768 ∧ cs.length ≤ 32768 := by
  obtain ⟨ws, bs, m⟩ := h
  have hs := m.snd.short
  refine ⟨ws, _, m.snd.tiled, by unfold Sp.gran; omega, ?_⟩
  rcases m.snd.scans.length (Int.le_refl _) with h | h
  · omega
  · subst h; simp
theorem own_turn0 {w x : World} {s : Ids} {l : List Ty} {cs L : List Cel} {v : Value} (h : Has0 w x s l cs) (hO : Sp.Own x v L) : ∀ g ∈ s.turn, v.ownBlock ≠ some g := by
  obtain ⟨ws, bs, m⟩ := h
  obtain ⟨n, ha⟩ := m.spc.ar
  obtain ⟨vv, hv, _⟩ := m.spc.bv
  intro g hg
  unfold Sp.Ids.turn at hg
  simp only [List.mem_cons, List.not_mem_nil, or_false] at hg
  rcases hg with rfl | rfl | rfl
  · exact Sp.Own.block_type hO ha.head (by decide)
  · exact Sp.Own.block_type hO ha.row (by decide)
  · exact Sp.Own.block_type hO hv.row (by decide)
set_option maxRecDepth 100000 in
set_option maxHeartbeats 4000000 in
theorem objects_ok {w x : World} {s : Ids} {l : List Ty} {cs : List Cel} (h : Has0 w x s l cs) :
    Calls Tryz.prog 13 #[.pointer (some ⟨s.sp, 0, none⟩)] x fun e y => e = .returned (.int .i64 (tot (objs cs))) ∧ Kept [] x y := by
  have HC := Lib.hid (zero_cells h)
  obtain ⟨ws0, N, hT, hgr, hfew⟩ := few_of h
  have HB := Lib.hid (tot_bound hT (Int.le_refl _))
  have H0 : Hid (tot (objs (cs.take 0)) = 0) := Lib.hid rfl
  clear h hT
  go_enter Tryz.func13, Tryz.ntmps13
  go_wp2_with fail
  refine HC.out.mono ?_
  rintro e y ⟨v, rfl, ho, _, k⟩
  obtain ⟨A, cap, rfl, hb⟩ := back_own (Kept.refl [] y) ho
  have HS := Lib.hid hb.2.1
  have K := Lib.hid k
  clear ho hb k HC
  go_wp2_with fail
  go_loop [3, 5] (fun u t => ∃ j : Nat, t = .int .i64 (j : Int) ∧ u = .int .i64 (tot (objs (cs.take j))) ∧ j ≤ cs.length) (fun _ t => cs.length - (intOf t).toNat)
  case atStart => exact ⟨0, rfl, by rw [H0.out], Nat.zero_le _⟩
  case round =>
    obtain ⟨j, rfl, rfl, hj⟩ := hrel
    clear H0
    by_cases hlt : j < cs.length
    · obtain ⟨g, o, rfl, hg, c0, c1, c2, c3, c4⟩ := HS.out.at j hlt _ rfl
      have hb0 := HB.out j
      have hb1 := HB.out (j + 1)
      have hsn := objs_snoc (cs.take j) (cs.getD j Cel.zero)
      have htk : cs.take j ++ [cs.getD j Cel.zero] = cs.take (j + 1) := by
        rw [List.getD_eq_getElem?_getD, List.getElem?_eq_getElem hlt]
        exact (List.take_succ_eq_append_getElem hlt).symm
      rw [htk] at hsn
      generalize cs.getD j Cel.zero = x at *
      by_cases ht : x.h.tg = 1
      · rw [if_pos ht] at hsn
        have hts : tot (objs (cs.take (j + 1))) = tot (objs (cs.take j)) + x.h.sz := by rw [hsn, tot_snoc]
        have HN := Lib.hid hts
        rw [hts] at hb1
        generalize tot (objs (cs.take j)) = t0 at *
        obtain ⟨xa, ⟨xt, xy, xl, xz⟩⟩ := x
        simp only at *
        subst ht
        clear hsn htk hts
        go_wp2_with fail
        go_round
        case rel => exact ⟨j + 1, by go_num, by rw [HN.out], by omega⟩
        case measure => simp [intOf] <;> omega
      · rw [if_neg ht] at hsn
        have HN := Lib.hid (show tot (objs (cs.take (j + 1))) = tot (objs (cs.take j)) by rw [hsn])
        have hne : (x.h.tg == 1) = false := by simpa using ht
        generalize tot (objs (cs.take j)) = t0 at *
        obtain ⟨xa, ⟨xt, xy, xl, xz⟩⟩ := x
        simp only at *
        clear hsn htk hb1
        go_wp2_with fail
        go_round
        case rel => exact ⟨j + 1, by go_num, by rw [HN.out], by omega⟩
        case measure => simp [intOf] <;> omega
    · obtain rfl : j = cs.length := by omega
      have HN : Hid (tot (objs (cs.take cs.length)) = tot (objs cs)) := Lib.hid (by rw [List.take_length])
      go_wp2_with fail
      go_ret
      rw [← HN.out]
      exact ⟨rfl, K.out⟩
/-- What comes in with a case. -/
structure Cs.In (w : World) (c : Cs) : Prop where
  a : I64 c.a
  n1 : c.l.length ≤ maxLen
  s1 : Tb.Seen w c.A c.l
  o1 : ∀ t ∈ c.l, t.ok
  n2 : c.L.length ≤ maxLen
  s2 : Sp.Steps w c.A2 c.L
  o2 : ∀ s ∈ c.L, s.ok
  r2 : ∀ s ∈ c.L, Wk.Read w s
  n3 : c.gs.length ≤ maxLen
  s3 : Ir.Seen w c.A3 c.gs
  o3 : ∀ g ∈ c.gs, I64 g
theorem Cs.In.keep0 {w x : World} {c : Cs} (h : c.In w) (k : Kept [] w x) : c.In x :=
  ⟨h.a, h.n1, h.s1.keep0 k, h.o1, h.n2, h.s2.keep0 k, h.o2, fun s hs => (h.r2 s hs).keep0 k, h.n3, h.s3.keep0 k, h.o3⟩
theorem one_weaken {w w1 x : World} {s : Ids} {l : List Ty} {cs : List Cel} (h : Has0 w1 x s l cs) (k : Kept [] w w1) : Has0 w x s l cs := by
  obtain ⟨ws, bs, m⟩ := h
  exact ⟨ws, bs, k.trans m.kept, m.spc, m.glob, m.snd, fun i hi => Nat.le_trans k.more (m.fresh i hi)⟩
theorem results_tmp5 {fn : Func} {a b c d e : Tmp} (h : fn.results = #[.tmp a, .tmp b, .tmp c, .tmp d, .tmp e]) (tmps : Array Value) (P : Program) (w : World) :
    (results fn tmps).run P w = .ok (.tuple #[tmps.getD a undef, tmps.getD b undef, tmps.getD c undef, tmps.getD d undef, tmps.getD e undef]) w := by
  simp [results, h]
/-- What made answers. -/
def MadeP (w : World) (c : Cs) (e : Ending) (y : World) : Prop :=
  (e = .returned (.tuple #[.pointer none, .pointer none, .pointer none, .slice none 0 0, .bool true]) ∧ Kept [] w y) ∨
  ∃ (s : Ids) (r : Nat) (cs : List Cel) (vb : Value) (bl : Nat → Bool) (T : List Nat) (v : Value), e = .returned (.tuple #[.pointer (some ⟨s.sp, 0, none⟩), .pointer (some ⟨r, 0, none⟩), vb, v, .bool true]) ∧ Both Wd.Table w y s c.l cs vb bl T ∧ 2 * tot cs = c.a
theorem duo_one {w x : World} {s : Ids} {r : Nat} {B : Option Addr} {d : Nat} {l : List Ty} {wp wd : List Int} {bs : List Bool} {cs : List Cel} (h : Duo w x s r B d l wp bs cs wd) : Has0 w x s l cs ∧ tot cs = s.n ∧ 8 ≤ s.n ∧ s.n ≤ 32768 := by
  have h1 := h.size
  have h2 := h.big
  have h3 := h.mine.snd.len
  have h4 := tot_of h.mine.snd
  have h5 := h.mine.snd.short
  have h6 : Sp.gran wp ≤ 32768 := by unfold Sp.gran; omega
  exact ⟨⟨wp, bs, h.mine.zero⟩, by omega, by omega, by omega⟩
set_option maxRecDepth 100000 in
set_option maxHeartbeats 8000000 in
theorem made13_ok {w : World} (c : Cs) (hF : Fields w) (hTb : Wd.Table w) (hc : c.In w) (hlit : c.Lit) : Calls Tryz.prog 8 #[c.val] w (MadeP w c) := by
  obtain ⟨a, A, l, cc, A2, L, c2, A3, gs, c3, bare⟩ := c
  have k0 : Kept [] w (w.alloc (.cells #[.int .i64 a, .slice A l.length cc, .slice A2 L.length c2, .slice A3 gs.length c3, .bool bare] 26)) := (Kept.refl [] w).alloc _
  have hbx := Has.new w 26 [.int .i64 a, .slice A l.length cc, .slice A2 L.length c2, .slice A3 gs.length c3, .bool bare]
  unfold Cs.val
  simp only
  generalize hx0 : w.alloc (.cells #[.int .i64 a, .slice A l.length cc, .slice A2 L.length c2, .slice A3 gs.length c3, .bool bare] 26) = x0 at *
  have hc0 := hc.keep0 k0
  have HPl := Lib.hid (played_ok (w := x0) a hc0.a A l cc A2 L c2 (hF.keep0 k0) (Bt.tableKeep hTb k0) (by have := hlit.light.2.1; simp only at this; omega) (by have := hlit.light.2.2; simp only at this; omega) hc0.s1 hc0.o1 hc0.s2 hc0.o2 hc0.r2 hlit.each)
  have HBx := Lib.hid (fun y (k : Kept [] x0 y) => hbx.keep0 k)
  have HHt := Lib.hid (fun (y : World) (k : Kept [] x0 y) (n : Nat) (h1 : 1 ≤ n) (h2 : n ≤ 65536) => hits_ok (w := w) (x := y) (A := A3) (cap := c3) (k0.trans k) n h1 h2 gs (hc0.s3.keep0 k) hc0.o3 (by have := hlit.black; simp only at this; omega))
  have K0 := Lib.hid k0
  have HTb := Lib.hid hTb
  have q0 := hbx.cell 0
  have q1 := hbx.cell 1
  have q2 := hbx.cell 2
  simp only [List.getElem?_cons_zero, List.getElem?_cons_succ] at q0 q1 q2
  have ha := hc.a
  clear hF hTb hc hc0 hlit k0 hbx
  unfold Bk.I64 at ha
  go_enter Tryz.func8, Tryz.ntmps8
  go_wp2_with fail
  try simp only [hx0]
  refine HPl.out.mono ?_
  rintro e x1 (⟨rfl, k1⟩ | ⟨s, r, ws, bs, cs, rfl, hD, hn⟩)
  · have K1 := Lib.hid (K0.out.trans k1)
    clear k1 HPl
    go_wp2_with fail
    (try simp only [Exit.inBlock, Exit.then])
    refine bodyPost_ret (results_tmp5 rfl _ _ _) rfl ?_
    exact .inl ⟨rfl, K1.out⟩
  · obtain ⟨h1, h2, h3, h4⟩ := duo_one hD
    have hkx : Kept [] x0 x1 := h1.kept
    have hb1 := HBx.out x1 hkx
    have q4 := hb1.cell 4
    have q0 := hb1.cell 0
    have q3 := hb1.cell 3
    simp only [List.getElem?_cons_zero, List.getElem?_cons_succ] at q0 q3 q4
    have H1 := Lib.hid (one_weaken h1 K0.out)
    have HKX := Lib.hid hkx
    obtain ⟨n, hn'⟩ : ∃ n : Nat, n = s.n := ⟨_, rfl⟩
    rw [← hn'] at hn h2 h3 h4
    have HTo := Lib.hid h2
    subst hn
    clear hD h1 hkx hb1 HPl h2 hn'
    cases bare with
    | true =>
      go_wp2_with fail
      (try simp only [Exit.inBlock, Exit.then])
      refine bodyPost_ret (results_tmp5 rfl _ _ _) rfl ?_
      exact .inr ⟨s, r, cs, _, _, _, _, rfl, Both.bare HTb.out H1.out, by rw [HTo.out]⟩
    | false =>
      have hq : Int.tdiv (2 * (n : Int)) 2 = (n : Int) := Int.mul_tdiv_cancel_left (n : Int) (by decide)
      have HH := Lib.hid (HHt.out x1 HKX.out n (by omega) (by omega))
      clear HHt
      go_wp2_with fail
      refine HH.out.mono ?_
      rintro e x2 ⟨p, T, ls, v, rfl, hp, hl, hf, k2⟩
      have HFin : Hid (Both Wd.Table w x2 s l cs (.pointer (some ⟨p, 0, none⟩)) (fun g : Nat => Bk.hasL ls (g : Int)) T) := Lib.hid ⟨HTb.out, H1.out.keep0 k2, .inr ⟨p, ls, rfl, hp, by rw [hl, HTo.out], rfl⟩, fun i hi hm => by
        have := turn_lt H1.out i hm
        have := hf i hi
        omega⟩
      clear hp hl hf k2 HH H1 HKX q0 q3 q4
      go_wp2_with fail
      (try simp only [Exit.inBlock, Exit.then])
      refine bodyPost_ret (results_tmp5 rfl _ _ _) rfl ?_
      exact .inr ⟨s, r, cs, _, _, _, _, rfl, HFin.out, by rw [HTo.out]⟩
end Go.Proofs.YtoagghileebokaaGreatDoor.Ft

/-
  Stage 13, fit: the laws' alive: the chapter's example, out of the bundle.
-/
namespace Go.Proofs.YtoagghileebokaaGreatDoor.Ft
open Go.RowKit Go.Proofs.YtoagghileebokaaGreatDoor.Ar
open Go.Proofs.YtoagghileebokaaGreatDoor.Sp (Cel tot Has0 Ids exT exA ex_new ex_a ex_size zero_new newC)
open Go.Proofs.YtoagghileebokaaGreatDoor.Hd (ofL Fields)
open Go.Proofs.YtoagghileebokaaGreatDoor.Tb (Ty sizeT sizeE Made Tab newF)
open Go.Proofs.YtoagghileebokaaGreatDoor.Bk (Pb I64 hasL hitL hitE)
set_option linter.unusedVariables false

def exL : List Int := hitL (List.replicate 8 0) [2]
def exBl : Nat → Bool := fun g => hasL exL (g : Int)
def exP : List Cel := putF exA 0 (ofL exT 1 3)
theorem exl_len : exL.length = 8 := by decide +kernel
theorem exl_hit : hitE 8 [2] = 0 := by decide +kernel
theorem ex_first2 : firstF exBl exA 2 = some 0 := by decide +kernel
theorem ex_first3 : firstF exBl exA 3 = some 3 := by decide +kernel
theorem ex_most : mostF exBl exA = 5 := by decide +kernel
theorem ex_free : freeF exBl exA = 7 := by decide +kernel
theorem ex_szT : (sizeT exT 1 3).toNat = 2 := by decide +kernel
theorem ex_firstP : firstF exBl exP 2 = some 3 := by decide +kernel
theorem ex_tot : tot exA = 8 ∧ tot exP = 8 := by decide +kernel
theorem firstV_some {bl : Nat → Bool} {cs : List Cel} {n x : Nat} (h : firstF bl cs n = some x) : firstV bl cs n = .tuple #[.int .i64 (x : Int), .int .i64 0] := by
  unfold firstV
  rw [h]
  rfl
theorem firstV_none {bl : Nat → Bool} {cs : List Cel} {n : Nat} (h : firstF bl cs n = none) : firstV bl cs n = .tuple #[.int .i64 0, .int .i64 4] := by
  unfold firstV
  rw [h]
  rfl
/-- A table of one type, out of New. -/
theorem one_type {t : Ty} (hn : newF [] [t] = ([t], 0)) (hok : t.ok) (y : World) : Calls Tryz.prog 19 #[.slice (some ⟨y.heap.size, 0, none⟩) 1 1] (y.alloc (.cells #[.int .u8 (t.k : Int), .int .i64 t.wd, .int .u64 (t.ms : Int)] 57)) fun e x => ∃ p A c, e = .returned (.tuple #[.pointer (some ⟨p, 0, none⟩), .int .i64 0]) ∧ Tab x p A c [t] ∧ Kept [] y x := by
  have hs : Tb.Seen (y.alloc (.cells #[.int .u8 (t.k : Int), .int .i64 t.wd, .int .u64 (t.ms : Int)] 57)) (some ⟨y.heap.size, 0, none⟩) [t] := Tb.seen_one (x := t) (Has.new y 57 [.int .u8 (t.k : Int), .int .i64 t.wd, .int .u64 (t.ms : Int)])
  refine (Tb.new_ok (l := [t]) 1 hs (fun x hx => by rw [List.mem_singleton.1 hx]; exact hok) (by simp)).mono ?_
  rintro e x (⟨_, p, A, c, h1, h2⟩ | ⟨h0, _⟩)
  · rw [hn] at h2
    exact ⟨p, A, c, h1, h2.1, ((Kept.refl [] y).alloc _).trans h2.2.2.2⟩
  · rw [hn] at h0
    exact absurd rfl h0
set_option maxRecDepth 100000 in
set_option maxHeartbeats 16000000 in
theorem alive13_ok {TB : World → Prop} {w : World} (F : FCtr TB) (N : FNil TB) (hF : Fields w) (hTb : TB w) : Calls Tryz.prog 7 #[] w fun e w' => e = .returned (.bool true) ∧ Kept [] w w' := by
  have HFd := Lib.hid hF
  have HTb := Lib.hid hTb
  have HFc := Lib.hid F
  have HNi := Lib.hid N
  have HT := Lib.hid (one_type (t := ⟨2, 0, 0⟩) ex_new ⟨by decide, by decide⟩ w)
  clear hF hTb F N
  go_enter Tryz.func7, Tryz.ntmps7
  go_wp2_with fail
  refine (HT.out).mono ?_
  rintro e x1 ⟨tp, A, c, rfl, htab, k1⟩
  have HNw := Lib.hid (zero_new (w := w) 16 (by decide) (HFd.out.keep0 k1) htab k1)
  clear htab k1 HT
  go_wp2_with fail
  refine HNw.out.mono ?_
  rintro e x2 ⟨s, rfl, _, h2, _⟩
  rw [ex_a] at h2
  have h2 : Has0 w x2 s exT exA := h2
  have HB := Lib.hid (Bk.pb_new (w := w) (x := x2) 8 h2.kept (by decide))
  have H2 := Lib.hid h2
  clear h2 HNw
  go_wp2_with fail
  refine HB.out.mono ?_
  rintro e x3 ⟨p, T, rfl, hp, k3, hf⟩
  have hp4 := hp.keep0 ((Kept.refl [] x3).alloc (.cells #[.int .i64 2] 3))
  have hTl := fun i hi => (hp.fresh i hi).2
  have HH := Lib.hid (Bk.pb_hit (A := some ⟨x3.heap.size, 0, none⟩) (c := 1) [2] hp4 (fun y k => by
    have h0 : Has y x3.heap.size 3 [.int .i64 2] := (Has.new x3 3 [.int .i64 2]).kept k (fun hm => by have := hTl _ hm; omega)
    exact Ir.Row.seen (l := [2]) h0) (by decide) (fun g hg => by rw [List.mem_singleton.1 hg]; exact ⟨by decide, by decide⟩))
  rw [show (List.replicate 8 (0 : Int)).length = 8 from rfl, exl_hit] at HH
  have HF3 := Lib.hid hf
  have K3 := Lib.hid (k3.trans ((Kept.refl [] x3).alloc (.cells #[.int .i64 2] 3)))
  clear hp hp4 hTl k3 hf HB
  go_wp2_with fail
  refine HH.out.mono ?_
  rintro e x4 ⟨rfl, T', hp', k4, hT'⟩
  have hk24 : Kept [] x2 x4 := K3.out.forget k4 HF3.out
  have h4 := H2.out.keep0 hk24
  have hap : ∀ i ∈ T', x2.heap.size ≤ i := fun i hi => by
    rcases hT' i hi with h | h
    · exact HF3.out i h
    · have := K3.out.more
      omega
  have HBo : Hid (Both TB w x4 s exT exA (.pointer (some ⟨p, 0, none⟩)) exBl T') := Lib.hid ⟨HTb.out, h4, .inr ⟨p, exL, rfl, hp', by rw [exl_len, ex_tot.1]; rfl, rfl⟩, fun i hi hm => by
    have := turn_lt H2.out i hm
    have := hap i hi
    omega⟩
  clear hp' k4 hT' hk24 h4 hap HH HF3 K3 H2
  have C1 := Lib.hid (HFc.out.first 2 HBo.out (by decide) (by decide))
  rw [firstV_some ex_first2] at C1
  go_wp2_with fail
  refine C1.out.mono ?_
  rintro e x5 ⟨rfl, k5⟩
  have B5 := Lib.hid (HBo.out.keep0 k5)
  have C2 := Lib.hid (HFc.out.first 3 B5.out (by decide) (by decide))
  rw [firstV_some ex_first3] at C2
  clear k5 C1 HBo
  go_wp2_with fail
  refine C2.out.mono ?_
  rintro e x6 ⟨rfl, k6⟩
  have B6 := Lib.hid (B5.out.keep0 k6)
  have C3 := Lib.hid (HFc.out.most B6.out)
  rw [ex_most] at C3
  clear k6 C2 B5
  go_wp2_with fail
  refine C3.out.mono ?_
  rintro e x7 ⟨rfl, k7⟩
  have B7 := Lib.hid (B6.out.keep0 k7)
  have C4 := Lib.hid (HFc.out.free B7.out)
  rw [ex_free] at C4
  clear k7 C3 B6
  go_wp2_with fail
  refine C4.out.mono ?_
  rintro e x8 ⟨rfl, k8⟩
  have B8 := Lib.hid (B7.out.keep0 k8)
  have C5 := Lib.hid (HFc.out.place_yes 1 3 0 B8.out ⟨by decide, by decide⟩ ⟨by decide, by decide⟩ ex_size.1 (by rw [ex_szT]; exact ex_first2))
  clear k8 C4 B7
  go_wp2_with fail
  refine C5.out.mono ?_
  rintro e x9 ⟨rfl, h9, k9, _⟩
  have B9 : Hid (Both TB w x9 s exT exP (.pointer (some ⟨p, 0, none⟩)) exBl T') := Lib.hid (B8.out.turned k9 h9 (by rw [ex_tot.1]; exact ex_tot.2))
  have C6 := Lib.hid (HFc.out.first 2 B9.out (by decide) (by decide))
  rw [firstV_some ex_firstP] at C6
  clear h9 k9 C5 B8
  go_wp2_with fail
  refine C6.out.mono ?_
  rintro e x10 ⟨rfl, k10⟩
  have B10 := Lib.hid (B9.out.keep0 k10)
  have C7 := Lib.hid (HFc.out.bad 0 B10.out ⟨by decide, by decide⟩ (by decide))
  clear k10 C6 B9
  go_wp2_with fail
  refine C7.out.mono ?_
  rintro e x11 ⟨rfl, k11⟩
  have B11 := Lib.hid (B10.out.keep0 k11)
  have C8 := Lib.hid (HNi.out.first 1 (HFc.out.keep HTb.out B11.out.spc.kept) B11.out.lst ⟨by decide, by decide⟩)
  clear k11 C7 B10
  go_wp2_with fail
  refine C8.out.mono ?_
  rintro e x12 ⟨rfl, k12⟩
  have K12 := Lib.hid (B11.out.spc.kept.trans k12)
  clear k12 C8 B11
  go_wp2_with fail
  go_ret
  exact ⟨rfl, K12.out⟩
end Go.Proofs.YtoagghileebokaaGreatDoor.Ft
