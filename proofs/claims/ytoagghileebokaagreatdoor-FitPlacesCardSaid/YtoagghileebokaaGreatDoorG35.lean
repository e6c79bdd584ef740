/-
  Several texts in one: SpAliveWalk, SpLaw.
-/
import Derived.Test.YtoagghileebokaaGreatDoorG29
import Derived.Test.YtoagghileebokaaGreatDoorG34
import Derived.Deep.RegionLaw
/-
  The law's alive returns true.
-/
namespace Go.Proofs.YtoagghileebokaaGreatDoor.Sp
open Go.RowKit Go.Proofs.YtoagghileebokaaGreatDoor.Ar Go.Proofs.YtoagghileebokaaGreatDoor.Sh
open Go.Proofs.YtoagghileebokaaGreatDoor.Hd (Hd Fields ofL)
open Go.Proofs.YtoagghileebokaaGreatDoor.Tb (Ty Tab Made NewPost newF sizeE sizeT)
open Go.Proofs.YtoagghileebokaaGreatDoor.Wd (Table)
set_option linter.unusedVariables false

theorem table_keep0 {w w' : World} (h : Table w) (k : Kept [] w w') : Table w' := fun i hi => by
  have hc := h i hi
  have hlt : 1 < w.heap.size := by
    rcases Nat.lt_or_ge (1) w.heap.size with k | k
    · exact k
    · exfalso
      have hn : w.heap[1]? = none := Array.getElem?_eq_none k
      simp [World.cell?, hn] at hc
  rw [World.cell?_of_block (w := w) (k.old _ hlt (by simp))]
  exact hc
section
variable {w : World}
end
end Go.Proofs.YtoagghileebokaaGreatDoor.Sp

/-
  What the law carries: the space with its cells, the row of what is there; append at a step of a region that draws its order; and the row behind Put and Drop.
-/
namespace Go.Proofs.YtoagghileebokaaGreatDoor.Sp
open Go.RowKit Go.Proofs.YtoagghileebokaaGreatDoor.Ar Go.Proofs.YtoagghileebokaaGreatDoor.Sh
open Go.Proofs.YtoagghileebokaaGreatDoor.Hd (Hd Fields ofL)
open Go.Proofs.YtoagghileebokaaGreatDoor.Tb (Ty Tab sizeE sizeT)
open Go.Proofs.YtoagghileebokaaGreatDoor.Bt (Bv bit hasV)
open Go.Proofs.YtoagghileebokaaGreatDoor.Wd (Table)
set_option linter.unusedVariables false

/-- The space under growth of a row of cells that the law has made. -/
theorem Has1.grown {w x y : World} {s : Ids} {l : List Ty} {cs L : List Cel} {v : Value} (hF : Fields w) (hTb : Table w) (h : Has1 w x s l cs) (hO : Own x v L) (hv : FreshV w v) (hg : x.grownBy y v.ownBlock) : Has1 w y s l cs := by
  obtain ⟨ws, bs, m⟩ := h
  have hk : Kept [] w y := own_grown m.kept hv hg
  refine ⟨ws, bs, hk, m.spc.moved fun i o ⟨t, c, ht, hh⟩ ho => ?_, ⟨hF.keep0 hk, table_keep0 hTb hk, m.glob.nf, m.glob.nt⟩, m.snd, m.fresh⟩
  have hi := (Array.getElem?_eq_some_iff.1 ho).1
  refine (hg.block i hi fun e => ?_).trans ho
  exact Own.block_type hO hh (by rcases ht with rfl | rfl | rfl | rfl | rfl | rfl | rfl <;> decide) e.symm
/-- The row of what was put and not dropped. -/
structure Row (w x : World) (v : Value) (T cs : List Cel) : Prop where
  own : Own x v T
  fresh : FreshV w v
  perm : T.Perm (objs cs)
theorem Row.keep0 {w x y : World} {v : Value} {T cs : List Cel} (h : Row w x v T cs) (k : Kept [] x y) : Row w y v T cs := ⟨h.own.keep0 k, h.fresh, h.perm⟩
/-- Objects of a space begin at unlike granules. -/
theorem apart {ws : List Int} {l : List Ty} {bs : List Bool} {cs : List Cel} (h : Snd ws l bs cs) {c d : Cel} (hc : c ∈ cs) (hd : d ∈ cs) (e : c.a = d.a) : c = d := by
  obtain ⟨A, B, rfl⟩ := List.append_of_mem hc
  obtain ⟨m, t1, t2⟩ := Tiled.split h.tiled
  have hm : c.a = m := t2.1
  have hz := can_sz t2.2.1
  rcases List.mem_append.1 hd with hd | hd
  · obtain ⟨b1, b2, b3, _⟩ := t1.mem d hd
    have := can_sz b3
    omega
  · rcases List.mem_cons.1 hd with rfl | hd
    · rfl
    · have := (Tiled.mem t2.2.2.2.2 d hd).1
      omega
end Go.Proofs.YtoagghileebokaaGreatDoor.Sp
