/-
  Rows of runs ([]api.Run): as cells of a block, made by appends alone; append of one as a law. And the runs of a row of bools.
-/
import Derived.Test.YtijlaganpnoefaaDoorOwnRow
import Derived.Test.YtijlaganpnoefaaDoorBtMath
namespace Go.Proofs.YtijlaganpnoefaaDoor.Bt
open Go.RowKit Go.Proofs.YtijlaganpnoefaaDoor.Ar
set_option linter.unusedVariables false

/-- A list of runs as cells: two each. -/
def runCells : List (Nat × Nat) → List Value
  | [] => []
  | r :: rs => .int .i64 (r.1 : Int) :: .int .i64 (r.2 : Int) :: runCells rs
theorem runCells_length : ∀ rs : List (Nat × Nat), (runCells rs).length = rs.length * 2
  | [] => rfl
  | r :: rs => by
    show (runCells rs).length + 1 + 1 = (rs.length + 1) * 2
    rw [runCells_length rs]
    omega
theorem runCells_append : ∀ (a b : List (Nat × Nat)), runCells (a ++ b) = runCells a ++ runCells b
  | [], b => rfl
  | r :: rs, b => by
    show _ :: _ :: runCells (rs ++ b) = _ :: _ :: (runCells rs ++ runCells b)
    rw [runCells_append rs b]
theorem runCells_get : ∀ (rs : List (Nat × Nat)) (i : Nat), i < rs.length → (runCells rs)[2 * i]? = some (.int .i64 ((rs.getD i (0, 0)).1 : Int)) ∧ (runCells rs)[2 * i + 1]? = some (.int .i64 ((rs.getD i (0, 0)).2 : Int))
  | [], i, h => absurd h (by simp)
  | r :: rs, 0, _ => ⟨rfl, rfl⟩
  | r :: rs, i + 1, h => by
    have := runCells_get rs i (by simpa using h)
    rw [show 2 * (i + 1) = 2 * i + 1 + 1 by omega]
    exact this
theorem runCells_one (rs : List (Nat × Nat)) : ∀ v ∈ runCells rs, v.oneCell' = true := by
  induction rs with
  | nil => intro v hv; cases hv
  | cons r rs ih =>
    intro v hv
    rcases List.mem_cons.1 hv with rfl | hv
    · rfl
    · rcases List.mem_cons.1 hv with rfl | hv
      · rfl
      · exact ih v hv
theorem info_run : (Tryd.prog.info? 64).map (fun i => (i.zero, i.size, i.bytes)) = some (some (.agg #[.int .i64 0, .int .i64 0]), 2, 16) := by kernel_rfl
/-- A slice value that was made by appends alone, with these runs. -/
def OwnR (w : World) (v : Value) (rs : List (Nat × Nat)) : Prop := w.ownsRow 0 64 2 v rs.length (runCells rs)
theorem OwnR.nil (w : World) : OwnR w (.slice none 0 0) [] := World.ownsRow_nil w 0 _ 2
theorem OwnR.form {w : World} {v : Value} {rs : List (Nat × Nat)} (h : OwnR w v rs) : (v = .slice none 0 0 ∧ rs = []) ∨ ∃ g cap, v = .slice (some ⟨g, 0, none⟩) rs.length cap ∧ g < w.heap.size ∧ rs.length ≤ cap := by
  rcases h.2 with ⟨rfl, h0⟩ | ⟨g, cap, cur, rfl, _, hg, hc, hm, _⟩
  · exact .inl ⟨rfl, List.eq_nil_of_length_eq_zero h0⟩
  · exact .inr ⟨g, cap, rfl, (Array.getElem?_eq_some_iff.1 hg).1, hc⟩
theorem OwnR.cell {w : World} {g n cap : Nat} {rs : List (Nat × Nat)} (h : OwnR w (.slice (some ⟨g, 0, none⟩) n cap) rs) : ∀ j v, (runCells rs)[j]? = some v → w.cell? ⟨g, j, none⟩ = some v := by
  intro j v hv
  rcases h.2 with ⟨h1, _⟩ | ⟨g', cap', cur, h1, _, hg, _, _, _, ht⟩
  · cases h1
  · injection h1 with h1 h2 h3
    injection h1 with h1
    injection h1 with h1
    subst h1
    rw [cell_of_row w g j cur _ (0, 0) hg, ← Array.getElem?_toList]
    rw [← ht, List.getElem?_take] at hv
    split at hv
    · exact hv
    · cases hv
theorem OwnR.keep {w w' : World} {v : Value} {rs : List (Nat × Nat)} {row : Option Nat} (h : OwnR w v rs) (hg : w.grownBy w' row) (hne : v.ownBlock = none ∨ v.ownBlock ≠ row) : OwnR w' v rs := World.ownsRow.kept h hg hne
theorem OwnR.kept {w w' : World} {v : Value} {rs : List (Nat × Nat)} {S : List Nat} (h : OwnR w v rs) (k : Kept S w w') (hS : ∀ g ∈ S, v.ownBlock ≠ some g) : OwnR w' v rs := by
  refine ⟨h.1, ?_⟩
  rcases h.2 with hn | ⟨g, cap, cur, rfl, hb, hg, rest⟩
  · exact .inl hn
  · refine .inr ⟨g, cap, cur, rfl, hb, ?_, rest⟩
    rw [k.old g (Array.getElem?_eq_some_iff.1 hg).1 fun hs => hS g hs rfl]
    exact hg
theorem OwnR.keep0 {w w' : World} {v : Value} {rs : List (Nat × Nat)} (h : OwnR w v rs) (k : Kept [] w w') : OwnR w' v rs := h.kept k fun _ hi => by cases hi
theorem append_run {w : World} {ops : Array Oper} {rest : List Oper} {o : Oper} {a : Act} {Q : Exit → Act → World → Prop} (hgd : o.guard = none) (s x : Operand)
    (ho : o.op = .call { callee := .builtin .append, args := #[s, x], argTypes := #[61, 61] })
    (v : Value) (rs : List (Nat × Nat)) (hs : a.eval s = v) (hown : OwnR w v rs) (g c : Nat) (r : Nat × Nat) (hx : a.eval x = .slice (some ⟨g, 0, none⟩) 1 c)
    (h0 : w.cell? ⟨g, 0, none⟩ = some (.int .i64 (r.1 : Int))) (h1 : w.cell? ⟨g, 1, none⟩ = some (.int .i64 (r.2 : Int))) (hb : rs.length ≤ 1073741824)
    (h : ∀ v' w', OwnR w' v' (rs ++ [r]) → w.grownBy w' v.ownBlock → (v'.ownBlock = v.ownBlock ∨ v'.ownBlock = some w.heap.size) → wpList Tryd.prog ops Q rest (a.put o.dst v') w') : wpList Tryd.prog ops Q (o :: rest) a w := by
  obtain ⟨i0, hi, hz0, hz1, hz2⟩ := info_parts info_run
  refine wpList_append_own_at w hgd s x 61 ho 0 64 i0 _ 2 16 Tryd.underlying61 hi hz0 hz1 hz2 rfl (by decide) v rs.length (runCells rs) hs hown ⟨g, 0, none⟩ 1 c (runCells [r]) hx rfl ?_ (runCells_one _) (by unfold maxLen; omega) (by omega) (Nat.zero_le _) ?_
  · intro j u hu
    rw [add_at, Nat.zero_add]
    match j, hu with
    | 0, hu => rw [← Option.some.inj (show some _ = some u from hu)]; exact h0
    | 1, hu => rw [← Option.some.inj (show some _ = some u from hu)]; exact h1
  · intro v' w' h1 h2 _ h4
    refine h v' w' ?_ h2 h4
    unfold OwnR
    rw [List.length_append, runCells_append]
    exact h1
theorem ownR_grown {w w1 w2 : World} {v : Value} (hk : Kept [] w w1) (hv : v.ownBlock = none ∨ ∃ b, v.ownBlock = some b ∧ w.heap.size ≤ b) (hg : w1.grownBy w2 v.ownBlock) : Kept [] w w2 := own_grown hk hv hg

/-! ### The runs of a row -/
def lastUp (l : List (Nat × Nat)) : List (Nat × Nat) := l.dropLast ++ [((l.getLast?.getD (0, 0)).1, (l.getLast?.getD (0, 0)).2 + 1)]
def runsTo (bs : List Bool) : Nat → List (Nat × Nat)
  | 0 => []
  | i + 1 => if bit bs i then (if 0 < i ∧ bit bs (i - 1) = true then lastUp (runsTo bs i) else runsTo bs i ++ [(i, 1)]) else runsTo bs i
def runsV (bs : List Bool) : List (Nat × Nat) := runsTo bs bs.length
theorem runsTo_clear {bs : List Bool} {e a : Nat} (h : e ≤ a) (hc : ∀ j, e ≤ j → j < a → bit bs j = false) : runsTo bs a = runsTo bs e := by
  induction a with
  | zero => rw [show e = 0 by omega]
  | succ a ih =>
    by_cases he : e = a + 1
    · rw [he]
    · show (if bit bs a then _ else runsTo bs a) = _
      rw [hc a (by omega) (by omega), if_neg (by decide)]
      exact ih (by omega) fun j h1 h2 => hc j h1 (by omega)
theorem lastUp_snoc (l : List (Nat × Nat)) (r : Nat × Nat) : lastUp (l ++ [r]) = l ++ [(r.1, r.2 + 1)] := by
  unfold lastUp
  rw [List.dropLast_concat, List.getLast?_concat]
  rfl
theorem runsTo_set {bs : List Bool} {a b : Nat} (h : a < b) (ha : a = 0 ∨ bit bs (a - 1) = false) (hs : ∀ j, a ≤ j → j < b → bit bs j = true) : runsTo bs b = runsTo bs a ++ [(a, b - a)] := by
  induction b with
  | zero => omega
  | succ b ih =>
    by_cases he : a = b
    · subst he
      show (if bit bs a then (if 0 < a ∧ bit bs (a - 1) = true then _ else runsTo bs a ++ [(a, 1)]) else _) = _
      rw [hs a (Nat.le_refl _) h, if_pos rfl, if_neg (by
        rintro ⟨h0, h1⟩
        rcases ha with ha | ha
        · omega
        · rw [ha] at h1; cases h1), show a + 1 - a = 1 by omega]
    · show (if bit bs b then (if 0 < b ∧ bit bs (b - 1) = true then lastUp (runsTo bs b) else _) else _) = _
      rw [hs b (by omega) (by omega), if_pos rfl, if_pos ⟨by omega, hs (b - 1) (by omega) (by omega)⟩, ih (by omega) fun j h1 h2 => hs j h1 (by omega), lastUp_snoc, show b + 1 - a = b - a + 1 by omega]
theorem runsTo_length (bs : List Bool) : ∀ i, (runsTo bs i).length ≤ i
  | 0 => Nat.le_refl _
  | i + 1 => by
    have ih := runsTo_length bs i
    show (if bit bs i then (if 0 < i ∧ bit bs (i - 1) = true then lastUp (runsTo bs i) else runsTo bs i ++ [(i, 1)]) else runsTo bs i).length ≤ i + 1
    split
    · split
      · rename_i _ h2
        unfold lastUp
        rw [List.length_append, List.length_dropLast, List.length_singleton]
        omega
      · rw [List.length_append, List.length_singleton]
        omega
    · omega
end Go.Proofs.YtijlaganpnoefaaDoor.Bt
