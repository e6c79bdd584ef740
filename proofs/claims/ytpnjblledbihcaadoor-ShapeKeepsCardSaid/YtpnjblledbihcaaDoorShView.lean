/-
  A view in memory; plain functions: what Of answers.
-/
import Derived.Test.YtpnjblledbihcaaDoorShHead
import Derived.Test.YtpnjblledbihcaaDoorHdOfLaw
import Derived.Test.YtpnjblledbihcaaDoorHdFitLaw
import Derived.Test.YtpnjblledbihcaaDoorGKd
namespace Go.Proofs.YtpnjblledbihcaaDoor.Sh
open Go.RowKit Go.Proofs.YtpnjblledbihcaaDoor.Ar
open Go.Proofs.YtpnjblledbihcaaDoor.Hd (Hd Fields decE decH isHead headI head_ok fitL ofL)
open Go.Proofs.YtpnjblledbihcaaDoor.Tb (Ty Tab getT hasT sizeE sizeT)
set_option linter.unusedVariables false

/-- A view of the object at the granule g: its block, the arena's block, header, type, number of slots. -/
structure View (w : World) (v p : Nat) (g : Int) (h : Hd) (t : Ty) (sl : Int) : Prop where
  row : Has w v 80 [.pointer (some ⟨p, 0, none⟩), .int .i64 g, .int .u8 h.tg, .int .i64 h.ty, .int .i64 h.ln, .int .i64 h.sz, .int .u8 (t.k : Int), .int .i64 t.wd, .int .u64 (t.ms : Int), .int .i64 sl]
namespace View
variable {w w' : World} {v p : Nat} {g : Int} {h : Hd} {t : Ty} {sl : Int}
theorem kept {S : List Nat} (H : View w v p g h t sl) (k : Kept S w w') (hv : v ∉ S) : View w' v p g h t sl := ⟨H.row.kept k hv⟩
theorem keep0 (H : View w v p g h t sl) (k : Kept [] w w') : View w' v p g h t sl := H.kept k (by simp)
theorem drewN (H : View w v p g h t sl) (n : Nat) : View (w.drewN n) v p g h t sl := ⟨H.row⟩
theorem cells (H : View w v p g h t sl) : w.cell? ⟨v, 0, none⟩ = some (.pointer (some ⟨p, 0, none⟩)) ∧ w.cell? ⟨v, 1, none⟩ = some (.int .i64 g) ∧ w.cell? ⟨v, 2, none⟩ = some (.int .u8 h.tg) ∧ w.cell? ⟨v, 3, none⟩ = some (.int .i64 h.ty) ∧ w.cell? ⟨v, 4, none⟩ = some (.int .i64 h.ln) ∧ w.cell? ⟨v, 5, none⟩ = some (.int .i64 h.sz)
    ∧ w.cell? ⟨v, 6, none⟩ = some (.int .u8 (t.k : Int)) ∧ w.cell? ⟨v, 7, none⟩ = some (.int .i64 t.wd) ∧ w.cell? ⟨v, 8, none⟩ = some (.int .u64 (t.ms : Int)) ∧ w.cell? ⟨v, 9, none⟩ = some (.int .i64 sl) :=
  ⟨H.row.cell 0, H.row.cell 1, H.row.cell 2, H.row.cell 3, H.row.cell 4, H.row.cell 5, H.row.cell 6, H.row.cell 7, H.row.cell 8, H.row.cell 9⟩
end View
/-- The error of Of. -/
def ofE (ws : List Int) (l : List Ty) (g : Int) : Int :=
  if hdE ws g ≠ 0 then hdE ws g else if (hdH ws g).tg ≠ 1 ∨ fitL l (hdH ws g) ≠ 0 ∨ inG ws.length g (hdH ws g).sz = false then 8 else 0
def ofT (ws : List Int) (l : List Ty) (g : Int) : Ty := getT l (hdH ws g).ty
def ofS (ws : List Int) (l : List Ty) (g : Int) : Int := Kd.slotsR (ofT ws l g).k (ofT ws l g).wd (ofT ws l g).ms (hdH ws g).ln
theorem hdH_ok {ws : List Int} {g : Int} (hW : Wds ws) : (hdH ws g).ok := by
  unfold hdH decH
  cases inG ws.length g 1
  · exact Hd.Hd.zero_ok
  · cases isHead (atG ws g)
    · exact Hd.Hd.zero_ok
    · exact head_ok (hW _).1 (hW _).2
/-- What stands there, if Of answers a view. -/
structure Stand (ws : List Int) (l : List Ty) (g : Int) : Prop where
  he : hdE ws g = 0
  tag : (hdH ws g).tg = 1
  fit : fitL l (hdH ws g) = 0
  isin : inG ws.length g (hdH ws g).sz = true
theorem stand_of {ws : List Int} {l : List Ty} {g : Int} (h : ofE ws l g = 0) : Stand ws l g := by
  unfold ofE at h
  by_cases c : hdE ws g = 0
  · rw [if_neg (by simpa using c)] at h
    by_cases d : (hdH ws g).tg ≠ 1 ∨ fitL l (hdH ws g) ≠ 0 ∨ inG ws.length g (hdH ws g).sz = false
    · rw [if_pos d] at h; cases h
    · refine ⟨c, ?_, ?_, ?_⟩
      · exact Classical.byContradiction fun e => d (.inl e)
      · exact Classical.byContradiction fun e => d (.inr (.inl e))
      · cases e : inG ws.length g (hdH ws g).sz with
        | true => rfl
        | false => exact absurd (.inr (.inr e)) d
  · rw [if_pos c] at h
    exact absurd h c
end Go.Proofs.YtpnjblledbihcaaDoor.Sh
