/-
  Several texts in one: RunRow, BtRuns, BtCopy, SpMem.
-/
import Derived.Test.YtagmmbkgjomdlaaGreatDoorG01
import Derived.Test.YtagmmbkgjomdlaaGreatDoorG02
import Derived.Test.YtagmmbkgjomdlaaGreatDoorG18
import Derived.OwnWalk
import Derived.Laws.CopyOwn
import Derived.Deep.RegionHeld3
import Derived.Stop.RegionWithIn
import Derived.Test.YtagmmbkgjomdlaaGreatDoorG15
import Derived.Test.YtagmmbkgjomdlaaGreatDoorG13
/-
  Rows of runs ([]api.Run): as cells of a block, made by appends alone; append of one as a law. And the runs of a row of bools.
-/
namespace Go.Proofs.YtagmmbkgjomdlaaGreatDoor.Bt
open Go.RowKit Go.Proofs.YtagmmbkgjomdlaaGreatDoor.Ar
set_option linter.unusedVariables false

/-- A list of runs as cells: two each. -/
def runCells : List (Nat × Nat) → List Value
  | [] => []
  | r :: rs => .int .i64 (r.1 : Int) :: .int .i64 (r.2 : Int) :: runCells rs
/-- A slice value that was made by appends alone, with these runs. -/
def OwnR (w : World) (v : Value) (rs : List (Nat × Nat)) : Prop := w.ownsRow 0 92 2 v rs.length (runCells rs)
theorem OwnR.nil (w : World) : OwnR w (.slice none 0 0) [] := World.ownsRow_nil w 0 _ 2
theorem OwnR.form {w : World} {v : Value} {rs : List (Nat × Nat)} (h : OwnR w v rs) : (v = .slice none 0 0 ∧ rs = []) ∨ ∃ g cap, v = .slice (some ⟨g, 0, none⟩) rs.length cap ∧ g < w.heap.size ∧ rs.length ≤ cap := by
  rcases h.2 with ⟨rfl, h0⟩ | ⟨g, cap, cur, rfl, _, hg, hc, hm, _⟩
  · exact .inl ⟨rfl, List.eq_nil_of_length_eq_zero h0⟩
  · exact .inr ⟨g, cap, rfl, (Array.getElem?_eq_some_iff.1 hg).1, hc⟩
theorem OwnR.cell {w : World} {g n cap : Nat} {rs : List (Nat × Nat)} (h : OwnR w (.slice (some ⟨g, 0, none⟩) n cap) rs) : ∀ j v, (runCells rs)[j]? = some v → w.cell? ⟨g, j, none⟩ = some v := by
  intro j v hv
  rcases h.2 with ⟨h1, _⟩ | ⟨g', cap', cur, h1, _, hg, _, _, _, ht⟩
  · cases h1
  · injection h1 with h1 h2 h3
    injection h1 with h1
    injection h1 with h1
    subst h1
    rw [cell_of_row w g j cur _ (0, 0) hg, ← Array.getElem?_toList]
    rw [← ht, List.getElem?_take] at hv
    split at hv
    · exact hv
    · cases hv
theorem OwnR.keep {w w' : World} {v : Value} {rs : List (Nat × Nat)} {row : Option Nat} (h : OwnR w v rs) (hg : w.grownBy w' row) (hne : v.ownBlock = none ∨ v.ownBlock ≠ row) : OwnR w' v rs := World.ownsRow.kept h hg hne
theorem OwnR.kept {w w' : World} {v : Value} {rs : List (Nat × Nat)} {S : List Nat} (h : OwnR w v rs) (k : Kept S w w') (hS : ∀ g ∈ S, v.ownBlock ≠ some g) : OwnR w' v rs := by
  refine ⟨h.1, ?_⟩
  rcases h.2 with hn | ⟨g, cap, cur, rfl, hb, hg, rest⟩
  · exact .inl hn
  · refine .inr ⟨g, cap, cur, rfl, hb, ?_, rest⟩
    rw [k.old g (Array.getElem?_eq_some_iff.1 hg).1 fun hs => hS g hs rfl]
    exact hg
theorem OwnR.keep0 {w w' : World} {v : Value} {rs : List (Nat × Nat)} (h : OwnR w v rs) (k : Kept [] w w') : OwnR w' v rs := h.kept k fun _ hi => by cases hi
/-! ### The runs of a row -/
end Go.Proofs.YtagmmbkgjomdlaaGreatDoor.Bt

/-
  The contracts of runEnd and Runs.
-/
namespace Go.Proofs.YtagmmbkgjomdlaaGreatDoor.Bt
open Go.RowKit Go.Proofs.YtagmmbkgjomdlaaGreatDoor.Ar Go.Proofs.YtagmmbkgjomdlaaGreatDoor.Wd
set_option linter.unusedVariables false

theorem nextO_some {bs : List Bool} {i : Nat} {st : Bool} {x : Nat} (h : nextO bs i st = some x) : i ≤ x ∧ x < bs.length ∧ bit bs x = st ∧ ∀ j, i ≤ j → j < x → bit bs j = !st := by
  unfold nextO at h
  rw [Int.toNat_natCast] at h
  obtain ⟨a, b, c, d⟩ := nextV_some h
  refine ⟨a, by omega, by simpa using c, fun j h1 h2 => ?_⟩
  have := d j h1 h2
  cases hb : bit bs j <;> cases st <;> simp_all
theorem nextO_none {bs : List Bool} {i : Nat} {st : Bool} (h : nextO bs i st = none) : ∀ j, i ≤ j → j < bs.length → bit bs j = !st := by
  unfold nextO at h
  rw [Int.toNat_natCast] at h
  intro j h1 h2
  have := nextV_no h j h1 (by omega)
  cases hb : bit bs j <;> cases st <;> simp_all
/-- A slice value of the call's own. -/
def FreshV (w : World) (v : Value) : Prop := v.ownBlock = none ∨ ∃ b, v.ownBlock = some b ∧ w.heap.size ≤ b
end Go.Proofs.YtagmmbkgjomdlaaGreatDoor.Bt

/-
  The contract of Copy.
-/
namespace Go.Proofs.YtagmmbkgjomdlaaGreatDoor.Bt
open Go.RowKit Go.Proofs.YtagmmbkgjomdlaaGreatDoor.Ar Go.Proofs.YtagmmbkgjomdlaaGreatDoor.Wd
set_option linter.unusedVariables false

theorem Means.front' {bs : List Bool} {ws ws' : List Int} (h : Means bs ws) (k : Nat) (hk : (bs.length + 63) / 64 ≤ k) (e : ∀ j, j < k → ws'.getD j 0 = ws.getD j 0) : Means bs ws' := fun i hi => by
  rw [e (i / 64) (by omega)]
  exact h i hi
theorem wpIn_value2 {P : Program} {r : Option Nat} {m : Nat} {o : Oper} {a : Act} {K : Act → World → Prop} {Q : Exit → Act → World → Prop} {w w2 : World} {v : Value} (hp : Rk.plainB o = true) (hr : (execOp a.eval o).run P w = .ok (.value v) w2) (h : K (a.put o.dst v) w2) : o.wpIn (Rk.fence r) m P a w K Q := by
  refine ⟨fun _ _ => trivial, ?_⟩
  rw [Oper.semAt_eq _ _ _ (Rk.plainB_defer hp), hr]
  exact h
set_option maxHeartbeats 1000000 in
theorem copy_ok (bs : List Bool) (p q : Nat) (w : World) (hv : Bv w p q bs) :
    Calls Tryz.prog 59 #[.pointer (some ⟨p, 0, none⟩)] w fun e w' => e = .returned (.pointer (some ⟨w.heap.size + 1, 0, none⟩)) ∧ Bv w' (w.heap.size + 1) w.heap.size bs ∧ Kept [] w w' := by
  obtain ⟨ws, hV, hM⟩ := hv
  have hf := hV.few
  have hsz := hV.size
  have Hvec := Lib.hid (vector_ok bs.length hf w)
  have HV := Lib.hid hV
  have HM := Lib.hid hM
  clear hV hM
  go_enter Tryz.func59, Tryz.ntmps59
  go_wp2_with fail
  refine (Hvec.out).mono ?_
  rintro e w1 ⟨rfl, hV1, hk1⟩
  have c1 := hV1.slice
  have c2 := (HV.out.keep0 hk1).slice
  obtain ⟨nw, hnw⟩ : ∃ nw, nw = (bs.length + 63) / 64 := ⟨_, rfl⟩
  obtain ⟨zs, hzs⟩ : ∃ zs, zs = List.replicate 1024 (0 : Int) := ⟨_, rfl⟩
  rw [← hzs] at hV1
  clear hzs Hvec
  have hzl := hV1.len
  rw [← hnw] at c1 c2
  have hrow1 : w1.heap[w.heap.size]? = some (.cells (ints zs).toArray 217 (0, 0)) := hV1.row
  have hwsl := HV.out.len
  have hlen : ((ints ws).take nw).length = nw := by rw [List.length_take, ints_length, hwsl]; omega
  have hsrc : ∀ nq j v, ((ints ws).take nw)[j]? = some v → (w1.drewN nq).cell? ((⟨q, 0, none⟩ : Addr).add j) = some v := fun nq j v hj => by
    rw [add_at, Nat.zero_add]
    show w1.cell? ⟨q, j, none⟩ = some v
    rw [(HV.out.keep0 hk1).row.cell]
    rw [List.getElem?_take] at hj
    split at hj
    · exact hj
    · cases hj
  have hone : ∀ v ∈ (ints ws).take nw, v.oneCell' = true := fun v hv => ints_one ws v (List.mem_of_mem_take hv)
  have hrun := fun nq => run_copy_row (P := Tryz.prog) (w1.drewN nq) 49 49 3 32 w.heap.size 0 nw 1024 ⟨q, 0, none⟩ nw 1024 (ints zs).toArray 217 ((ints ws).take nw) Tryz.underlying49 size_u64 hrow1 (by rw [hlen]; exact (Nat.min_self _).symm) (hsrc nq) (by rw [hlen, List.size_toArray, ints_length, hzl]; omega) hone
  rw [hlen] at hrun
  have Hrun := Lib.hid hrun
  obtain ⟨R, hR⟩ : ∃ R, R = ws.take nw ++ zs.drop nw := ⟨_, rfl⟩
  have hRi : ints R = (ints ws).take nw ++ (ints zs).drop nw := by
    rw [hR]
    unfold ints
    rw [List.map_append, List.map_take, List.map_drop]
  have HR := Lib.hid hR
  have HRi := Lib.hid hRi
  have HV1 := Lib.hid hV1
  have Hk1 := Lib.hid hk1
  have Hnw := Lib.hid hnw
  clear hrow1 hlen hsrc hone hrun hR hRi hV1 hk1 hnw hwsl
  go_wp2_with fail
  refine (wpIn_wide (n := 5)).1 ?_
  refine Rk.wpIn_head (r := none) (C := fun w' => ∃ n, w' = w1.drewN n) 8 (by kernel_rfl) (by kernel_rfl) ⟨1, rfl⟩ ?_
  simp only [List.take_succ_cons, List.take_zero, List.drop_succ_cons, List.drop_zero]
  repeat (quiet_step (fail))
  refine wpQuiet_nil ?_
  rintro _ ⟨nq, rfl⟩
  unfold wpListIn
  rw [if_pos (Rk.wanted_of rfl _)]
  refine wpIn_value2 (v := .int .i64 (nw : Int)) (w2 := (w1.drewN nq).setRow w.heap.size (ints R).toArray) rfl (by
    have h := Hrun.out nq
    simp [go_sem, h]
    rw [HRi.out]) ?_
  show Exit.then _ _ _ _ _
  go_wp2_with fail
  go_ret
  have hg : ∀ j, R.getD j 0 = if j < nw then ws.getD j 0 else zs.getD j 0 := fun j => by
    have hw := HV.out.len
    have hz := HV1.out.len
    have hn := Hnw.out
    rw [HR.out, List.getD, List.getElem?_append, List.length_take, List.getElem?_take, List.getElem?_drop]
    by_cases hj : j < nw
    · rw [if_pos (by omega), if_pos hj, if_pos hj]
      rfl
    · rw [if_neg (by omega), if_neg hj, show nw + (j - min nw ws.length) = j by omega]
      rfl
  have hq := ((HV1.out.row.drewN nq).row (ints R))
  have hp := (HV1.out.head.drewN nq).otherRow w.heap.size (by omega) (ints R).toArray
  refine ⟨rfl, ⟨R, ⟨hp, hq, ?_, hf, fun j => ?_⟩, HM.out.front' nw (by rw [Hnw.out]; exact Nat.le_refl _) fun j hj => by rw [hg j, if_pos hj]⟩, (Hk1.out.drewN nq).setRow _ _ (.inr (Nat.le_refl _))⟩
  · have hw := HV.out.len
    have hn := Hnw.out
    rw [HR.out, List.length_append, List.length_take, List.length_drop]
    omega
  · rw [hg j]
    split
    · exact HV.out.word j
    · exact HV1.out.word j
end Go.Proofs.YtagmmbkgjomdlaaGreatDoor.Bt

/-
  A space in memory; what it tells of its arena, its granules and its starts; behind, gapWord.
-/
namespace Go.Proofs.YtagmmbkgjomdlaaGreatDoor.Sp
open Go.RowKit Go.Proofs.YtagmmbkgjomdlaaGreatDoor.Ar Go.Proofs.YtagmmbkgjomdlaaGreatDoor.Sh
open Go.Proofs.YtagmmbkgjomdlaaGreatDoor.Hd (Hd Fields encW gapH errH gap_ok encode_ok cells4 free4)
open Go.Proofs.YtagmmbkgjomdlaaGreatDoor.Tb (Ty Tab blk blk_own own_blk cells3)
open Go.Proofs.YtagmmbkgjomdlaaGreatDoor.Bt (Bv)
open Go.Proofs.YtagmmbkgjomdlaaGreatDoor.Wd (Table)
set_option linter.unusedVariables false

/-- The blocks of a space: its own, its arena's, its table's, its bits'. -/
structure Ids where
  sp : Nat
  ap : Nat
  aq : Nat
  tp : Nat
  A : Option Addr
  c : Nat
  bp : Nat
  bq : Nat
/-- A space, with its types, its words and its bits. -/
structure Spc (w : World) (s : Ids) (l : List Ty) (ws : List Int) (bs : List Bool) : Prop where
  head : Has w s.sp 124 [.pointer (some ⟨s.ap, 0, none⟩), .pointer (some ⟨s.tp, 0, none⟩), .pointer (some ⟨s.bp, 0, none⟩)]
  ar : ∃ m, Arena w s.ap s.aq ws m
  tab : Tab w s.tp s.A s.c l
  bv : Bv w s.bp s.bq bs
  wm : Wm ws
/-- The blocks that a call may turn. -/
def Ids.turn (s : Ids) : List Nat := [s.ap, s.aq, s.bq]
namespace Spc
variable {w w' : World} {s : Ids} {l : List Ty} {ws ws' : List Int} {bs bs' : List Bool}
theorem short (h : Spc w s l ws bs) : ws.length ≤ 65536 := let ⟨m, a⟩ := h.ar; a.short
theorem few (h : Spc w s l ws bs) : bs.length ≤ 65536 := let ⟨m, a, b⟩ := h.bv; a.few
theorem wds (h : Spc w s l ws bs) : Wds ws := wds_of h.wm
theorem keep0 (h : Spc w s l ws bs) (k : Kept [] w w') : Spc w' s l ws bs := by
  obtain ⟨m, ha⟩ := h.ar
  exact ⟨h.head.keep0 k, ⟨m, ha.keep0 k⟩, h.tab.keep0 k, h.bv.keep0 k, h.wm⟩
theorem drewN (h : Spc w s l ws bs) (n : Nat) : Spc (w.drewN n) s l ws bs := h.keep0 ((Kept.refl [] w).drewN n)
theorem tab_ne (h : Spc w s l ws bs) {b : Nat} {t : TypeId} {cs : List Value} (hb : Has w b t cs) (ht : t ≠ 84) : (Value.slice s.A l.length s.c).ownBlock ≠ some b := Tb.Own.block_type h.tab.own hb ht
/-- The arena alone has turned. -/
theorem arena (h : Spc w s l ws bs) (k : Kept [s.ap, s.aq] w w') (ha : ∃ m, Arena w' s.ap s.aq ws' m) (hw : Wm ws') : Spc w' s l ws' bs := by
  obtain ⟨m, a⟩ := h.ar
  obtain ⟨vs, bv, _⟩ := h.bv
  have n1 : s.sp ∉ [s.ap, s.aq] := by simpa using ⟨Has.block_type h.head a.head (by decide), Has.block_type h.head a.row (by decide)⟩
  have n2 : s.tp ∉ [s.ap, s.aq] := by simpa using ⟨Has.block_type h.tab.head a.head (by decide), Has.block_type h.tab.head a.row (by decide)⟩
  have n3 : s.bp ∉ [s.ap, s.aq] := by simpa using ⟨Has.block_type bv.head a.head (by decide), Has.block_type bv.head a.row (by decide)⟩
  have n4 : s.bq ∉ [s.ap, s.aq] := by simpa using ⟨Has.block_type bv.row a.head (by decide), Has.block_type bv.row a.row (by decide)⟩
  refine ⟨h.head.kept k n1, ha, h.tab.kept k n2 ?_, h.bv.kept k n3 n4, hw⟩
  intro g hg
  rcases List.mem_cons.1 hg with rfl | hg
  · exact h.tab_ne a.head (by decide)
  · rw [List.mem_singleton.1 hg]; exact h.tab_ne a.row (by decide)
/-- The bits alone have turned. -/
theorem bits (h : Spc w s l ws bs) (k : Kept [s.bq] w w') (hb : Bv w' s.bp s.bq bs') : Spc w' s l ws bs' := by
  obtain ⟨m, a⟩ := h.ar
  obtain ⟨vs, bv, _⟩ := h.bv
  have n1 : s.sp ∉ [s.bq] := by simpa using Has.block_type h.head bv.row (by decide)
  have n2 : s.tp ∉ [s.bq] := by simpa using Has.block_type h.tab.head bv.row (by decide)
  have n3 : s.ap ∉ [s.bq] := by simpa using Has.block_type a.head bv.row (by decide)
  have n4 : s.aq ∉ [s.bq] := by simpa using Has.block_type a.row bv.row (by decide)
  refine ⟨h.head.kept k n1, ⟨m, a.kept k n3 n4⟩, h.tab.kept k n2 ?_, hb, h.wm⟩
  intro g hg
  rw [List.mem_singleton.1 hg]; exact h.tab_ne bv.row (by decide)
theorem cells (h : Spc w s l ws bs) : w.cell? ⟨s.sp, 0, none⟩ = some (.pointer (some ⟨s.ap, 0, none⟩)) ∧ w.cell? ⟨s.sp, 1, none⟩ = some (.pointer (some ⟨s.tp, 0, none⟩)) ∧ w.cell? ⟨s.sp, 2, none⟩ = some (.pointer (some ⟨s.bp, 0, none⟩)) := cells3 h.head
/-- A block of another kind is none of those that may turn. -/
theorem beside (h : Spc w s l ws bs) {b : Nat} {t : TypeId} {cs : List Value} (hb : Has w b t cs) (h1 : t ≠ 185) (h2 : t ≠ 32) (h3 : t ≠ 217) : b ∉ s.turn := by
  obtain ⟨m, a⟩ := h.ar
  obtain ⟨vs, bv, _⟩ := h.bv
  simpa [Ids.turn] using ⟨Has.block_type hb a.head h1, Has.block_type hb a.row h2, Has.block_type hb bv.row h3⟩
theorem turn_lt (h : Spc w s l ws bs) : ∀ i ∈ s.turn, i < w.heap.size := by
  obtain ⟨m, a⟩ := h.ar
  obtain ⟨vs, bv, _⟩ := h.bv
  intro i hi
  simp [Ids.turn] at hi
  rcases hi with rfl | rfl | rfl
  · exact a.head.lt
  · exact a.row.lt
  · exact bv.row.lt
end Spc
/-- The granules. -/
def gran (ws : List Int) : Int := (ws.length : Int) / 2
section
variable {w : World} {s : Ids} {l : List Ty} {ws : List Int} {bs : List Bool}
theorem arena_ok (h : Spc w s l ws bs) : Calls Tryz.prog 23 #[.pointer (some ⟨s.sp, 0, none⟩)] w fun e w' => e = .returned (.pointer (some ⟨s.ap, 0, none⟩)) ∧ w = w' := by
  obtain ⟨c0, _, _⟩ := h.cells
  clear h
  generalize s.sp = b at *
  generalize s.ap = d at *
  go_enter Tryz.func23, Tryz.ntmps23
  go_wp2_with fail
  go_ret
  exact ⟨rfl, rfl⟩
set_option maxRecDepth 100000 in
theorem granules_ok (h : Spc w s l ws bs) : Calls Tryz.prog 26 #[.pointer (some ⟨s.sp, 0, none⟩)] w fun e w' => e = .returned (.int .i64 (gran ws)) ∧ w = w' := by
  obtain ⟨m, a⟩ := h.ar
  have hs := a.short
  have H1 := Lib.hid (arena_ok h)
  have H2 := Lib.hid (len_any a)
  have ed : (ws.length : Int).tdiv 2 = gran ws := Int.tdiv_eq_ediv_of_nonneg (by omega)
  have ED := Lib.hid ed
  clear h a ed
  generalize ws.length = L at *
  generalize gran ws = G at *
  go_enter Tryz.func26, Tryz.ntmps26
  go_wp2_with fail
  refine H1.out.mono ?_
  rintro e w1 ⟨rfl, rfl⟩
  go_wp2_with fail
  refine H2.out.mono ?_
  rintro e w1 ⟨rfl, rfl⟩
  go_wp2_with fail
  go_ret
  exact ⟨ret_int (by have := ED.out; rw [Int.tdiv_eq_ediv_of_nonneg (by omega)] at this; omega), rfl⟩
set_option maxRecDepth 100000 in
theorem starts_ok (h : Spc w s l ws bs) : Calls Tryz.prog 25 #[.pointer (some ⟨s.sp, 0, none⟩)] w fun e w' => e = .returned (.pointer (some ⟨w.heap.size + 1, 0, none⟩)) ∧ Bv w' (w.heap.size + 1) w.heap.size bs ∧ Kept [] w w' := by
  obtain ⟨_, _, c2⟩ := h.cells
  have H1 := Lib.hid (Bt.copy_ok bs _ _ w h.bv)
  clear h
  generalize s.sp = b at *
  generalize s.bp = d at *
  go_enter Tryz.func25, Tryz.ntmps25
  go_wp2_with fail
  refine H1.out.mono ?_
  rintro e w1 ⟨rfl, hb, hk⟩
  go_wp2_with fail
  go_ret
  exact ⟨rfl, hb, hk⟩
end
theorem cells5 {w : World} {b : Nat} {t : TypeId} {v0 v1 v2 v3 v4 : Value} (h : Has w b t [v0, v1, v2, v3, v4]) : w.cell? ⟨b, 0, none⟩ = some v0 ∧ w.cell? ⟨b, 1, none⟩ = some v1 ∧ w.cell? ⟨b, 2, none⟩ = some v2 ∧ w.cell? ⟨b, 3, none⟩ = some v3 ∧ w.cell? ⟨b, 4, none⟩ = some v4 :=
  ⟨h.cell 0, h.cell 1, h.cell 2, h.cell 3, h.cell 4⟩
theorem free5 {w : World} {b : Nat} {t : TypeId} {cs : List Value} (h : Has w b t cs) : w.frozen? ⟨b, 0, none⟩ = false ∧ w.frozen? ⟨b, 1, none⟩ = false ∧ w.frozen? ⟨b, 2, none⟩ = false ∧ w.frozen? ⟨b, 3, none⟩ = false ∧ w.frozen? ⟨b, 4, none⟩ = false :=
  ⟨h.free 0, h.free 1, h.free 2, h.free 3, h.free 4⟩
theorem behind_ok (c : Cel) (h0 : -1000000000000 ≤ c.a) (h1 : c.a ≤ 1000000000000) (h2 : -1000000000000 ≤ c.h.sz) (h3 : c.h.sz ≤ 1000000000000) (w : World) :
    Calls Tryz.prog 72 #[c.val] w fun e w' => e = .returned (.int .i64 (c.a + c.h.sz)) ∧ Kept [] w w' := by
  unfold Cel.val
  have hb := Has.new w 78 [.int .i64 c.a, .int .u8 c.h.tg, .int .i64 c.h.ty, .int .i64 c.h.ln, .int .i64 c.h.sz]
  obtain ⟨c0, c1, c2, c3, c4⟩ := cells5 hb
  have hk : Kept [] w (w.alloc (.cells #[.int .i64 c.a, .int .u8 c.h.tg, .int .i64 c.h.ty, .int .i64 c.h.ln, .int .i64 c.h.sz] 78)) := (Kept.refl [] w).alloc _
  have HK := Lib.hid hk
  clear hb hk
  generalize c.a = a at *
  generalize c.h.sz = z at *
  go_enter Tryz.func72, Tryz.ntmps72
  go_wp2_with fail
  go_ret
  exact ⟨rfl, HK.out⟩
set_option maxRecDepth 100000 in
set_option maxHeartbeats 1000000 in
theorem gapWord_ok {w : World} (hF : Fields w) (z : Int) (z0 : -9223372036854775808 ≤ z) (z1 : z ≤ 9223372036854775807) :
    Calls Tryz.prog 119 #[.int .i64 z] w fun e w' => e = .returned (.int .u64 (gapW z)) ∧ Kept [] w w' := by
  have HG := Lib.hid (fun g (g0 : 0 ≤ g) (g1 : g ≤ 255) => gap_ok hF g z g0 g1 z0 z1)
  have HE := Lib.hid (fun y (k : Kept [] w y) (x : Hd) (ok : x.ok) => encode_ok (hF.keep0 k) x ok)
  have HOK : Hid (∀ g : Int, 0 ≤ g → g ≤ 255 → (gapH g z).ok) := Lib.hid fun g g0 g1 => by
    unfold gapH
    split
    · constructor <;> simp <;> omega
    · exact Hd.zero_ok
  unfold gapW
  clear hF
  by_cases e1 : z = 1
  · rw [if_pos e1]
    have hok := Lib.hid (HOK.out 2 (by omega) (by omega))
    have hg := Lib.hid (HG.out 2 (by omega) (by omega))
    have he1 : (z == 1) = true := by simpa using e1
    clear HOK HG e1
    generalize errH ⟨2, 0, 0, z⟩ = er at *
    generalize gapH 2 z = x at *
    have HX := Lib.hid (fun y (k : Kept [] w y) => HE.out y k x hok.out)
    clear HE
    generalize encW x = u at *
    generalize errH x = er2 at *
    unfold Hd.val at *
    generalize x.tg = xg at *
    generalize x.ty = xt at *
    generalize x.ln = xn at *
    generalize x.sz = xs at *
    go_enter Tryz.func119, Tryz.ntmps119
    go_wp2_with fail
    refine hg.out.mono ?_
    rintro e w1 ⟨rfl, hk⟩
    have hb := Has.new w1 76 [.int .u8 xg, .int .i64 xt, .int .i64 xn, .int .i64 xs]
    obtain ⟨c0, c1, c2, c3⟩ := cells4 hb
    have HK := Lib.hid (hk.alloc (.cells #[.int .u8 xg, .int .i64 xt, .int .i64 xn, .int .i64 xs] 76))
    clear hb hk hg
    go_wp2_with fail
    refine (HX.out _ HK.out).mono ?_
    rintro e w2 ⟨rfl, hk⟩
    go_wp2_with fail
    go_ret
    exact ⟨rfl, HK.out.trans hk⟩
  · rw [if_neg e1]
    have hok := Lib.hid (HOK.out 3 (by omega) (by omega))
    have hg := Lib.hid (HG.out 3 (by omega) (by omega))
    have he1 : (z == 1) = false := by simpa using e1
    clear HOK HG e1
    generalize errH ⟨3, 0, 0, z⟩ = er at *
    generalize gapH 3 z = x at *
    have HX := Lib.hid (fun y (k : Kept [] w y) => HE.out y k x hok.out)
    clear HE
    generalize encW x = u at *
    generalize errH x = er2 at *
    unfold Hd.val at *
    generalize x.tg = xg at *
    generalize x.ty = xt at *
    generalize x.ln = xn at *
    generalize x.sz = xs at *
    go_enter Tryz.func119, Tryz.ntmps119
    go_wp2_with fail
    refine hg.out.mono ?_
    rintro e w1 ⟨rfl, hk⟩
    have hb := Has.new w1 76 [.int .u8 xg, .int .i64 xt, .int .i64 xn, .int .i64 xs]
    obtain ⟨c0, c1, c2, c3⟩ := cells4 hb
    have HK := Lib.hid (hk.alloc (.cells #[.int .u8 xg, .int .i64 xt, .int .i64 xn, .int .i64 xs] 76))
    clear hb hk hg
    go_wp2_with fail
    refine (HX.out _ HK.out).mono ?_
    rintro e w2 ⟨rfl, hk⟩
    go_wp2_with fail
    go_ret
    exact ⟨rfl, HK.out.trans hk⟩
end Go.Proofs.YtagmmbkgjomdlaaGreatDoor.Sp
