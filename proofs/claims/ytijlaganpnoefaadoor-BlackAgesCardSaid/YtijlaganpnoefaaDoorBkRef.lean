/-
  Stage 12, black: the document's list, by ages, as an object in memory: New, Hit, Turn, Has, List.
-/
import Derived.Test.YtijlaganpnoefaaDoorIntRow
import Derived.Laws.Rows
import Derived.Deep.QuietTactic
import Derived.BigQuiet
import Derived.Lib.QuietBelow
import Derived.RegionTactic
namespace Go.Proofs.YtijlaganpnoefaaDoor.Bk
open Go.RowKit Go.Proofs.YtijlaganpnoefaaDoor.Ar
set_option linter.unusedVariables false

/-! ### ages, in numbers -/
/-- All are granules. -/
def inAll (n : Nat) (gs : List Int) : Bool := gs.all fun g => decide (0 ≤ g ∧ g < (n : Int))
def hitAll (ls : List Int) (gs : List Int) : List Int := gs.foldl (fun l g => l.set g.toNat 2) ls
def hitL (ls gs : List Int) : List Int := if inAll ls.length gs = true then hitAll ls gs else ls
def hitE (n : Nat) (gs : List Int) : Int := if inAll n gs = true then 0 else 2
def dec (x : Int) : Int := max (x - 1) 0
def turnL (ls : List Int) : List Int := ls.map dec
def ones (ls : List Int) : Int := ((ls.filter fun x => decide (x = 1)).length : Nat)
def hasL (ls : List Int) (g : Int) : Bool := decide (0 ≤ g ∧ g < (ls.length : Int) ∧ 0 < ls.getD g.toNat 0)
/-- The black ones from granule i on. -/
def listFrom : Nat → List Int → List Int
  | _, [] => []
  | i, x :: ls => if 0 < x then (i : Int) :: listFrom (i + 1) ls else listFrom (i + 1) ls
def listL (ls : List Int) : List Int := listFrom 0 ls
theorem hitAll_length : ∀ (gs ls : List Int), (hitAll ls gs).length = ls.length
  | [], _ => rfl
  | g :: gs, ls => (hitAll_length gs (ls.set g.toNat 2)).trans (List.length_set ..)
theorem hitAll_snoc (ls gs : List Int) (g : Int) : hitAll ls (gs ++ [g]) = (hitAll ls gs).set g.toNat 2 := by
  unfold hitAll
  rw [List.foldl_append]
  rfl
theorem hitL_length (ls gs : List Int) : (hitL ls gs).length = ls.length := by
  unfold hitL
  split
  · exact hitAll_length _ _
  · rfl
theorem listFrom_append : ∀ (i : Nat) (a b : List Int), listFrom i (a ++ b) = listFrom i a ++ listFrom (i + a.length) b
  | i, [], b => by simp [listFrom]
  | i, x :: a, b => by
    show (if 0 < x then (i : Int) :: listFrom (i + 1) (a ++ b) else listFrom (i + 1) (a ++ b)) = (if 0 < x then (i : Int) :: listFrom (i + 1) a else listFrom (i + 1) a) ++ listFrom (i + (a.length + 1)) b
    rw [listFrom_append (i + 1) a b, show i + 1 + a.length = i + (a.length + 1) by omega]
    split <;> rfl
theorem listFrom_len : ∀ (i : Nat) (ls : List Int), (listFrom i ls).length ≤ ls.length
  | _, [] => Nat.le_refl _
  | i, x :: ls => by
    have := listFrom_len (i + 1) ls
    show (if 0 < x then (i : Int) :: listFrom (i + 1) ls else listFrom (i + 1) ls).length ≤ ls.length + 1
    split
    · rw [List.length_cons]; omega
    · omega
/-- Each age is 0, 1 or 2. -/
def Aged (ls : List Int) : Prop := ∀ x ∈ ls, 0 ≤ x ∧ x ≤ 2
theorem Aged.get {ls : List Int} (h : Aged ls) (j : Nat) : 0 ≤ ls.getD j 0 ∧ ls.getD j 0 ≤ 2 := by
  rcases Nat.lt_or_ge j ls.length with hl | hl
  · rw [List.getD_eq_getElem?_getD, List.getElem?_eq_getElem hl]
    exact h _ (List.getElem_mem hl)
  · rw [List.getD_eq_getElem?_getD, List.getElem?_eq_none hl]
    decide
theorem Aged.set {ls : List Int} (h : Aged ls) (j : Nat) {v : Int} (hv : 0 ≤ v ∧ v ≤ 2) : Aged (ls.set j v) := fun x hx => by
  rcases List.mem_or_eq_of_mem_set hx with h1 | rfl
  · exact h x h1
  · exact hv
theorem Aged.hit : ∀ {gs ls : List Int}, Aged ls → Aged (hitAll ls gs)
  | [], _, h => h
  | g :: gs, ls, h => Aged.hit (gs := gs) (h.set g.toNat (by decide))
theorem Aged.hitL {ls gs : List Int} (h : Aged ls) : Aged (hitL ls gs) := by
  unfold Bk.hitL
  split
  · exact h.hit
  · exact h
theorem dec_of {x : Int} (h : 0 ≤ x ∧ x ≤ 2) : (x = 0 ∧ dec x = 0) ∨ (x = 1 ∧ dec x = 0) ∨ (x = 2 ∧ dec x = 1) := by
  rcases (show x = 0 ∨ x = 1 ∨ x = 2 by omega) with rfl | rfl | rfl
  · exact .inl ⟨rfl, by decide⟩
  · exact .inr (.inl ⟨rfl, by decide⟩)
  · exact .inr (.inr ⟨rfl, by decide⟩)
theorem Aged.turn {ls : List Int} (h : Aged ls) : Aged (turnL ls) := fun x hx => by
  obtain ⟨y, hy, rfl⟩ := List.mem_map.1 hx
  rcases dec_of (h y hy) with ⟨_, e⟩ | ⟨_, e⟩ | ⟨_, e⟩ <;> rw [e] <;> decide
/-- The row with the first j turned. -/
def turnTo (ls : List Int) (j : Nat) : List Int := turnL (ls.take j) ++ ls.drop j
theorem turnTo_length (ls : List Int) (j : Nat) : (turnTo ls j).length = ls.length := by
  unfold turnTo turnL
  rw [List.length_append, List.length_map, List.length_take, List.length_drop]
  omega
theorem take_snoc {ls : List Int} {j : Nat} (hj : j < ls.length) : ls.take (j + 1) = ls.take j ++ [ls.getD j 0] := by
  rw [List.take_add_one, List.getElem?_eq_getElem hj, List.getD_eq_getElem?_getD, List.getElem?_eq_getElem hj]
  rfl
theorem drop_cons {ls : List Int} {j : Nat} (hj : j < ls.length) : ls.drop j = ls.getD j 0 :: ls.drop (j + 1) := by
  rw [List.getD_eq_getElem?_getD, List.getElem?_eq_getElem hj]
  exact List.drop_eq_getElem_cons hj
theorem turnTo_get {ls : List Int} {j : Nat} (hj : j < ls.length) : (turnTo ls j).getD j 0 = ls.getD j 0 := by
  unfold turnTo turnL
  rw [List.getD_eq_getElem?_getD, List.getElem?_append_right (by rw [List.length_map, List.length_take]; omega), List.length_map, List.length_take, Nat.min_eq_left (by omega), Nat.sub_self, drop_cons hj]
  rfl
theorem turnTo_step {ls : List Int} {j : Nat} (hj : j < ls.length) : (turnTo ls j).set j (dec (ls.getD j 0)) = turnTo ls (j + 1) := by
  have hl : (turnL (ls.take j)).length = j := by unfold turnL; rw [List.length_map, List.length_take]; omega
  have e : turnTo ls j = turnL (ls.take j) ++ ls.getD j 0 :: ls.drop (j + 1) := by unfold turnTo; rw [drop_cons hj]
  rw [e, List.set_append_right _ _ (by omega), hl, Nat.sub_self, List.set_cons_zero]
  unfold turnTo
  rw [take_snoc hj]
  unfold turnL
  rw [List.map_append, List.append_assoc]
  rfl
theorem ones_snoc (ls : List Int) (x : Int) : ones (ls ++ [x]) = ones ls + if x = 1 then 1 else 0 := by
  unfold ones
  rw [List.filter_append, List.length_append]
  by_cases h : x = 1 <;> simp [h]
theorem ones_bound (ls : List Int) : 0 ≤ ones ls ∧ ones ls ≤ ls.length := by
  unfold ones
  have := List.length_filter_le (fun x : Int => decide (x = 1)) ls
  omega
/-! ### in memory -/
theorem made_ints (c : Nat) : (madeCells (Value.int .i64 0).cells c) = (Ir.ints (List.replicate c 0)).toArray := by
  apply Array.ext
  · simp [madeCells, Ir.ints]
  · intro i h1 h2
    simp [madeCells, Ir.ints, Value.cells, Nat.mod_one]
theorem run_make_ints (c : Nat) (hc : c ≤ 65536) (w : World) :
    (Instr.makeSlice 32 (.int .i64 (c : Int)) (.int .i64 (c : Int))).run Tryd.prog w = .ok (.slice (some ⟨w.heap.size, 0, none⟩) c c) (w.alloc (.cells (Ir.ints (List.replicate c 0)).toArray 3)) := by
  obtain ⟨i0, hi, hz0, hz1, hz2⟩ := info_parts Ir.info_i64
  have h := run_make (P := Tryd.prog) w 32 3 i0 (.int .i64 0) Tryd.underlying32 hi hz0 .i64 .i64 c c (by omega) (by omega) (by rw [hz2]; omega) (by omega)
  rw [Int.toNat_natCast, hz1, Nat.mul_one, made_ints] at h
  exact h
/-- The document's list at p, its ages at q. -/
structure Bl (w : World) (p q : Nat) (ls : List Int) : Prop where
  head : Has w p 54 [.slice (some ⟨q, 0, none⟩) ls.length ls.length]
  row : Has w q 3 (Ir.ints ls)
  few : ls.length ≤ 65536
  aged : Aged ls
namespace Bl
variable {w w' : World} {p q : Nat} {ls ls' : List Int}
theorem ne (h : Bl w p q ls) : p ≠ q := Has.block_type h.head h.row (by decide)
theorem kept {S : List Nat} (h : Bl w p q ls) (k : Kept S w w') (hp : p ∉ S) (hq : q ∉ S) : Bl w' p q ls := ⟨h.head.kept k hp, h.row.kept k hq, h.few, h.aged⟩
theorem keep0 (h : Bl w p q ls) (k : Kept [] w w') : Bl w' p q ls := h.kept k (by simp) (by simp)
theorem c0 (h : Bl w p q ls) : w.cell? ⟨p, 0, none⟩ = some (.slice (some ⟨q, 0, none⟩) ls.length ls.length) := h.head.cell 0
theorem cell (h : Bl w p q ls) (j : Nat) (hj : j < ls.length) : w.cell? ⟨q, j, none⟩ = some (.int .i64 (ls.getD j 0)) := by rw [h.row.cell, Ir.ints_get ls j hj]
/-- One age is laid. -/
theorem put (h : Bl w p q ls) (j : Nat) {v : Int} (hv : 0 ≤ v ∧ v ≤ 2) : Bl (w.setCell ⟨q, j, none⟩ (.int .i64 v)) p q (ls.set j v) := by
  have h1 := h.row.put j (.int .i64 v)
  rw [Ir.ints_set] at h1
  refine ⟨?_, h1, by rw [List.length_set]; exact h.few, h.aged.set j hv⟩
  rw [List.length_set]
  exact h.head.beside _ h.ne _
end Bl
theorem bnew_ok (n : Nat) (hn : n ≤ 65536) (w : World) : Calls Tryd.prog 11 #[.int .i64 n] w fun e w' => e = .returned (.pointer (some ⟨w.heap.size + 1, 0, none⟩)) ∧ Bl w' (w.heap.size + 1) w.heap.size (List.replicate n 0) ∧ Kept [] w w' := by
  have hm := run_make_ints n hn
  have hl : (List.replicate n (0 : Int)).length = n := List.length_replicate
  have ha : Aged (List.replicate n (0 : Int)) := fun x hx => by rw [List.eq_of_mem_replicate hx]; decide
  generalize List.replicate n (0 : Int) = ls at *
  go_enter Tryd.func11, Tryd.ntmps11
  go_wp2_with fail
  go_ret
  have h1 : Has (w.alloc (.cells (Ir.ints ls).toArray 3)) w.heap.size 3 (Ir.ints ls) := Has.new w _ _
  have h2 := Has.new (w.alloc (.cells (Ir.ints ls).toArray 3)) 54 [.slice (some ⟨w.heap.size, 0, none⟩) n n]
  rw [World.size_alloc] at h2
  exact ⟨rfl, ⟨by rw [hl]; exact h2, h1.alloc _, by rw [hl]; exact hn, ha⟩, ((Kept.refl [] w).alloc _).alloc _⟩
section
variable {w : World} {p q : Nat} {ls : List Int}
set_option maxRecDepth 100000 in
set_option maxHeartbeats 4000000 in
theorem bhas_ok (h : Bl w p q ls) (g : Int) : Calls Tryd.prog 20 #[.pointer (some ⟨p, 0, none⟩), .int .i64 g] w fun e y => e = .returned (.bool (hasL ls g)) ∧ w = y := by
  have c0 := h.c0
  have hf := h.few
  unfold hasL
  by_cases h0 : 0 ≤ g
  · obtain ⟨k, rfl⟩ := Int.eq_ofNat_of_zero_le h0
    by_cases h1 : k < ls.length
    · have cq := h.cell k h1
      have ha := h.aged.get k
      rw [Int.toNat_natCast]
      clear h
      generalize ls.getD k 0 = x at *
      generalize ls.length = n at *
      by_cases hx : 0 < x
      · rw [decide_eq_true (show 0 ≤ (k : Int) ∧ (k : Int) < (n : Int) ∧ 0 < x from ⟨h0, by omega, hx⟩)]
        go_enter Tryd.func20, Tryd.ntmps20
        go_wp2_with fail
        go_ret
        exact ⟨rfl, rfl⟩
      · obtain rfl : x = 0 := by omega
        rw [decide_eq_false (show ¬ (0 ≤ (k : Int) ∧ (k : Int) < (n : Int) ∧ (0 : Int) < 0) by omega)]
        clear hx ha
        go_enter Tryd.func20, Tryd.ntmps20
        go_wp2_with fail
        go_ret
        exact ⟨rfl, rfl⟩
    · rw [decide_eq_false (show ¬ (0 ≤ (k : Int) ∧ (k : Int) < (ls.length : Int) ∧ 0 < ls.getD (k : Int).toNat 0) by omega)]
      clear h
      generalize ls.length = n at *
      go_enter Tryd.func20, Tryd.ntmps20
      go_wp2_with fail
      go_ret
      exact ⟨rfl, rfl⟩
  · rw [decide_eq_false (show ¬ (0 ≤ g ∧ g < (ls.length : Int) ∧ 0 < ls.getD g.toNat 0) by omega)]
    clear h
    go_enter Tryd.func20, Tryd.ntmps20
    go_wp2_with fail
    go_ret
    exact ⟨rfl, rfl⟩
end
end Go.Proofs.YtijlaganpnoefaaDoor.Bk
