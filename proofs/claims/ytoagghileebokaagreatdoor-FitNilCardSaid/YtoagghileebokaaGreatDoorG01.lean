/-
  Several texts in one: Mem, OwnRow, KdMath, KdOps.
-/
import Derived.WalkKit
import Derived.Lib.Hide
import Derived.Laws.OwnMore
import Derived.Laws.Rows
import Derived.Deep.Draws
import Derived.Test.YtoagghileebokaaGreatDoorProg
import Derived.Laws.MakeOwn
import Derived.Maps.AppendAt
import Derived.Laws.AppendOwnNone
import Derived.OwnWalk
import Derived.RowKit
import Derived.RegionTactic
import Derived.Outline
import Derived.IntWalk
import Derived.Deep.QuietTactic
import Derived.BigQuiet
/-
  Memory told by blocks: which blocks may have turned, what a block holds; and small plain facts.
-/
namespace Go.Proofs.YtoagghileebokaaGreatDoor.Ar
open Go.RowKit

/-- Of what w had, only the blocks in S may hold something else in w'. -/
structure Kept (S : List Nat) (w w' : World) : Prop where
  os : w'.os = w.os
  tape : w'.tape = w.tape
  out : w'.output = w.output
  more : w.heap.size ≤ w'.heap.size
  old : ∀ i, i < w.heap.size → i ∉ S → w'.heap[i]? = w.heap[i]?
namespace Kept
theorem refl (S : List Nat) (w : World) : Kept S w w := ⟨rfl, rfl, rfl, Nat.le_refl _, fun _ _ _ => rfl⟩
theorem trans {S : List Nat} {a b c : World} (h : Kept S a b) (k : Kept S b c) : Kept S a c :=
  ⟨k.os.trans h.os, k.tape.trans h.tape, k.out.trans h.out, Nat.le_trans h.more k.more,
    fun i hi hS => (k.old i (Nat.lt_of_lt_of_le hi h.more) hS).trans (h.old i hi hS)⟩
theorem mono {S T : List Nat} {a b : World} (h : Kept S a b) (hS : ∀ i ∈ S, i ∈ T) : Kept T a b :=
  ⟨h.os, h.tape, h.out, h.more, fun i hi hT => h.old i hi fun hs => hT (hS i hs)⟩
theorem none {a b : World} (h : Kept [] a b) (T : List Nat) : Kept T a b := h.mono fun _ hi => by cases hi
theorem drewN {S : List Nat} {a b : World} (h : Kept S a b) (n : Nat) : Kept S a (b.drewN n) := ⟨h.os, h.tape, h.out, h.more, h.old⟩
theorem drew {S : List Nat} {a b : World} (h : Kept S a b) : Kept S a b.drew := ⟨h.os, h.tape, h.out, h.more, h.old⟩
theorem alloc {S : List Nat} {a b : World} (h : Kept S a b) (o : Obj) : Kept S a (b.alloc o) :=
  h.trans ⟨rfl, rfl, rfl, by simp, fun i hi _ => heap_alloc_old b o hi⟩
theorem setCell {S : List Nat} {a b : World} (h : Kept S a b) (p : Addr) (u : Value) (hp : p.block ∈ S ∨ a.heap.size ≤ p.block) : Kept S a (b.setCell p u) := by
  refine ⟨h.os, h.tape, h.out, by simpa [World.setCell] using h.more, fun i hi hS => ?_⟩
  rw [heap_setCell_other b p i u (by
    rintro rfl
    rcases hp with hp | hp
    · exact hS hp
    · omega)]
  exact h.old i hi hS
theorem setRow {S : List Nat} {a b : World} (h : Kept S a b) (g : Nat) (cs : Array Value) (hp : g ∈ S ∨ a.heap.size ≤ g) : Kept S a (b.setRow g cs) := by
  refine ⟨h.os, h.tape, h.out, by simpa using h.more, fun i hi hS => ?_⟩
  rw [setRow_other b g i cs (by
    rintro rfl
    rcases hp with hp | hp
    · exact hS hp
    · omega)]
  exact h.old i hi hS
theorem grown {S : List Nat} {a b c : World} {row : Option Nat} (h : Kept S a b) (hg : b.grownBy c row) (hr : ∀ g, row = some g → g ∈ S ∨ a.heap.size ≤ g) : Kept S a c := by
  refine ⟨hg.os.trans h.os, hg.tape.trans h.tape, hg.output.trans h.out, Nat.le_trans h.more hg.size, fun i hi hS => ?_⟩
  refine (hg.block i (Nat.lt_of_lt_of_le hi h.more) fun e => ?_).trans (h.old i hi hS)
  rcases hr i e.symm with hp | hp
  · exact hS hp
  · omega
theorem below {S : List Nat} {a b : World} (h : Kept S a b) {B : Nat} (hB : B ≤ a.heap.size) (hS : ∀ i ∈ S, B ≤ i) : Below B a b :=
  ⟨h.os, h.tape, h.out, h.more, fun i hi => h.old i (by omega) fun hs => by have := hS i hs; omega⟩
theorem ofBelow {a b : World} (h : Below a.heap.size a b) (S : List Nat) : Kept S a b := ⟨h.os, h.tape, h.output, h.size, fun i hi _ => h.block i hi⟩
end Kept
/-- What is told of the blocks that a call made itself is nothing to its caller. -/
theorem Kept.forget {S : List Nat} {a b c : World} (h : Kept [] a b) (k : Kept S b c) (hS : ∀ i ∈ S, a.heap.size ≤ i) : Kept [] a c :=
  ⟨k.os.trans h.os, k.tape.trans h.tape, k.out.trans h.out, Nat.le_trans h.more k.more,
    fun i hi _ => (k.old i (Nat.lt_of_lt_of_le hi h.more) fun hs => by have := hS i hs; omega).trans (h.old i hi (by simp))⟩
/-- Block b holds just these cells, of elements of type t; none is frozen. -/
def Has (w : World) (b : Nat) (t : TypeId) (cs : List Value) : Prop := w.heap[b]? = some (.cells cs.toArray t (0, 0))
namespace Has
variable {w w' : World} {b : Nat} {t : TypeId} {cs : List Value}
theorem lt (h : Has w b t cs) : b < w.heap.size := by
  rcases Nat.lt_or_ge b w.heap.size with hlt | hge
  · exact hlt
  · unfold Has at h
    rw [Array.getElem?_eq_none hge] at h
    cases h
theorem cell (h : Has w b t cs) (i : Nat) : w.cell? ⟨b, i, none⟩ = cs[i]? := by
  rw [cell_of_row w b i cs.toArray t (0, 0) h, List.getElem?_toArray]
theorem free (h : Has w b t cs) (i : Nat) : w.frozen? ⟨b, i, none⟩ = false := frozen_of_row w b i cs.toArray t h
theorem new (w : World) (t : TypeId) (cs : List Value) : Has (w.alloc (.cells cs.toArray t)) w.heap.size t cs := heap_alloc_new w _
theorem kept {S : List Nat} (h : Has w b t cs) (k : Kept S w w') (hb : b ∉ S) : Has w' b t cs := (k.old b h.lt hb).trans h
theorem keep0 (h : Has w b t cs) (k : Kept [] w w') : Has w' b t cs := h.kept k (by simp)
theorem drew (h : Has w b t cs) : Has w.drew b t cs := h
theorem drewN (h : Has w b t cs) (n : Nat) : Has (w.drewN n) b t cs := h
theorem alloc (h : Has w b t cs) (o : Obj) : Has (w.alloc o) b t cs := h.keep0 ((Kept.refl [] w).alloc o)
theorem put (h : Has w b t cs) (i : Nat) (u : Value) : Has (w.setCell ⟨b, i, none⟩ u) b t (cs.set i u) := by
  have e := heap_setCell_same w b i cs.toArray t u h
  unfold Has
  rw [e]
  simp
theorem beside (h : Has w b t cs) (p : Addr) (hp : b ≠ p.block) (u : Value) : Has (w.setCell p u) b t cs := (heap_setCell_other w p b u hp).trans h
theorem row (h : Has w b t cs) (ds : List Value) : Has (w.setRow b ds.toArray) b t ds := setRow_heap w b cs.toArray ds.toArray t (0, 0) h
theorem otherRow (h : Has w b t cs) (g : Nat) (hp : b ≠ g) (ds : Array Value) : Has (w.setRow g ds) b t cs := (setRow_other w g b ds hp).trans h
end Has
theorem Has.block_type {w : World} {b b' : Nat} {t t' : TypeId} {cs cs' : List Value} (h : Has w b t cs) (h' : Has w b' t' cs') (ht : t ≠ t') : b ≠ b' := by
  rintro rfl
  have e := h.symm.trans h'
  injection e with e
  injection e with _ e
  exact ht e
theorem add_at (q f j : Nat) : (⟨q, f, none⟩ : Addr).add j = ⟨q, f + j, none⟩ := by
  unfold Addr.add
  by_cases h : j = 0
  · subst h; simp
  · simp [h]
theorem ret_bool {a b : Bool} (h : a = b) : Ending.returned (.bool a) = .returned (.bool b) := by rw [h]
theorem ret_int {k : IntKind} {a b : Int} (h : a = b) : Ending.returned (.int k a) = .returned (.int k b) := by rw [h]
/-- The sum of two counts, as a uint64 has it. -/
def addU (n k : Int) : Int := IntKind.u64.wrap (n + k)
end Go.Proofs.YtoagghileebokaaGreatDoor.Ar

/-
  A slice of the call's own that grows: what its owner keeps.
-/
namespace Go.Proofs.YtoagghileebokaaGreatDoor.Ar
open Go.RowKit

theorem own_grown {w w1 w2 : World} {v : Value} (hk : Kept [] w w1) (hv : v.ownBlock = none ∨ ∃ b, v.ownBlock = some b ∧ w.heap.size ≤ b) (hg : w1.grownBy w2 v.ownBlock) : Kept [] w w2 :=
  hk.grown hg fun b hb => .inr (by
    rcases hv with h | ⟨b', h, hle⟩
    · rw [h] at hb; cases hb
    · rw [h] at hb; injection hb with hb; subst hb; exact hle)
theorem own_fresh {w w1 : World} {v v' : Value} (hk : Kept [] w w1) (hv : v.ownBlock = none ∨ ∃ b, v.ownBlock = some b ∧ w.heap.size ≤ b) (h : v'.ownBlock = v.ownBlock ∨ v'.ownBlock = some w1.heap.size) : v'.ownBlock = none ∨ ∃ b, v'.ownBlock = some b ∧ w.heap.size ≤ b := by
  rcases h with h | h
  · rw [h]; exact hv
  · exact .inr ⟨_, h, hk.more⟩
end Go.Proofs.YtoagghileebokaaGreatDoor.Ar

/-
  What a type's objects are, as plain functions of numbers: which types may be, how many slots, which are references.
-/
namespace Go.Proofs.YtoagghileebokaaGreatDoor.Kd
open Go.RowKit
set_option linter.unusedVariables false

/-- May a type be: kind k, words wd, mask mk? -/
def may (k : Nat) (wd : Int) (mk : Nat) : Prop :=
  ((k = 1 ∧ 0 ≤ wd ∧ wd ≤ 64) ∨ (k = 3 ∧ 1 ≤ wd ∧ wd ≤ 16) ∨ ((k = 2 ∨ k = 4) ∧ wd = 0)) ∧ mk / 2 ^ wd.toNat = 0
instance (k : Nat) (wd : Int) (mk : Nat) : Decidable (may k wd mk) := by unfold may; infer_instance
/-- The error of an object of a type, with a length. -/
def err (k : Nat) (wd : Int) (mk : Nat) (n : Int) : Int :=
  if ¬ may k wd mk ∨ n < 0 ∨ (0 < n ∧ k = 1) then 2 else if 4096 < n then 5 else 0
/-- How many slots. -/
def slots (k : Nat) (wd n : Int) : Int := if k = 1 then wd else if k = 3 then n * wd else n
/-- Is that slot a reference? -/
def isRef (k : Nat) (wd : Int) (mk : Nat) (s : Nat) : Bool :=
  if k = 1 ∨ k = 3 then decide (mk / 2 ^ (s % wd.toNat) % 2 = 1) else decide (k = 2)
/-- The slots below m that are references, rising. -/
def refsTo (k : Nat) (wd : Int) (mk : Nat) (m : Nat) : List Int := ((List.range m).filter (isRef k wd mk)).map Int.ofNat
end Go.Proofs.YtoagghileebokaaGreatDoor.Kd

/-
  The contracts of a layout's methods: each is what a function of its cells says.
-/
namespace Go.Proofs.YtoagghileebokaaGreatDoor.Kd
open Go.RowKit Go.Proofs.YtoagghileebokaaGreatDoor.Ar
set_option linter.unusedVariables false

/-- A layout's cells. -/
def layV (k : Nat) (wd : Int) (mk : Nat) (n mn mx : Int) (hl : Bool) (f g : Value) : Value :=
  .agg #[.int .u8 (k : Int), .int .i64 wd, .int .u64 (mk : Int), .int .i64 n, .int .i64 mn, .int .i64 mx, .bool hl, f, g]
set_option maxRecDepth 100000 in
theorem words_ok (k : Nat) (wd : Int) (mk : Nat) (n mn mx : Int) (hl : Bool) (f g : Value) (w : World) :
    Calls Tryz.prog 146 #[layV k wd mk n mn mx hl f g] w fun e w' => e = .returned (.int .i64 wd) ∧ Kept [] w w' := by
  unfold layV
  go_enter Tryz.func146, Tryz.ntmps146
  go_wp2_with fail
  go_ret
  exact ⟨rfl, (Kept.refl [] w).alloc _⟩
theorem length_ok (k : Nat) (wd : Int) (mk : Nat) (n mn mx : Int) (hl : Bool) (f g : Value) (w : World) :
    Calls Tryz.prog 148 #[layV k wd mk n mn mx hl f g] w fun e w' => e = .returned (.int .i64 n) ∧ Kept [] w w' := by
  unfold layV
  go_enter Tryz.func148, Tryz.ntmps148
  go_wp2_with fail
  go_ret
  exact ⟨rfl, (Kept.refl [] w).alloc _⟩
theorem elements_ok (k : Nat) (wd : Int) (mk : Nat) (n mn mx : Int) (hl : Bool) (f g : Value) (w : World) (h0 : -9223372036854775808 ≤ n * wd) (h1 : n * wd ≤ 9223372036854775807) :
    Calls Tryz.prog 150 #[layV k wd mk n mn mx hl f g] w fun e w' => e = .returned (.int .i64 (n * wd)) ∧ Kept [] w w' := by
  unfold layV
  go_enter Tryz.func150, Tryz.ntmps150
  go_wp2_with fail
  go_ret
  refine ⟨ret_int ?_, (Kept.refl [] w).alloc _⟩
  first | rfl | (rw [IntKind.wrap_i64]; omega)
theorem always_ok (k : Nat) (wd : Int) (mk : Nat) (n mn mx : Int) (hl : Bool) (f g : Value) (s : Int) (w : World) :
    Calls Tryz.prog 149 #[layV k wd mk n mn mx hl f g, .int .i64 s] w fun e w' => e = .returned (.bool true) ∧ Kept [] w w' := by
  unfold layV
  go_enter Tryz.func149, Tryz.ntmps149
  go_wp2_with fail
  go_ret
  exact ⟨rfl, (Kept.refl [] w).alloc _⟩
theorem never_ok (k : Nat) (wd : Int) (mk : Nat) (n mn mx : Int) (hl : Bool) (f g : Value) (s : Int) (w : World) :
    Calls Tryz.prog 151 #[layV k wd mk n mn mx hl f g, .int .i64 s] w fun e w' => e = .returned (.bool false) ∧ Kept [] w w' := by
  unfold layV
  go_enter Tryz.func151, Tryz.ntmps151
  go_wp2_with fail
  go_ret
  exact ⟨rfl, (Kept.refl [] w).alloc _⟩
/-- Is that slot's bit set? -/
def maskB (wd mk s : Nat) : Bool := decide (mk / 2 ^ (s % wd) % 2 = 1)
theorem masked_ok (k wd : Nat) (mk : Nat) (n mn mx : Int) (hl : Bool) (f g : Value) (s : Nat) (w : World) (h0 : 1 ≤ wd) (h1 : wd ≤ 64) (hs : s ≤ 65536) (hm : mk < 18446744073709551616) :
    Calls Tryz.prog 147 #[layV k wd mk n mn mx hl f g, .int .i64 (s : Int)] w fun e w' => e = .returned (.bool (maskB wd mk s)) ∧ Kept [] w w' := by
  unfold layV
  have hw : ¬ ((wd : Int) = 0) := by omega
  obtain ⟨r, hr⟩ : ∃ r, r = s % wd := ⟨_, rfl⟩
  have hrl : r < 64 := by have := Nat.mod_lt s (show 0 < wd by omega); omega
  have ht : IntKind.i64.wrap ((s : Int).tmod (wd : Int)) = (r : Int) := by
    rw [Int.tmod_eq_emod_of_nonneg (by omega), hr, IntKind.wrap_i64]
    omega
  go_enter Tryz.func147, Tryz.ntmps147
  go_wp2_with fail
  go_quiet (fail)
  go_wp2_with fail
  go_ret
  refine ⟨ret_bool ?_, ((Kept.refl [] w).alloc _).drewN _⟩
  rw [show ((mk : Int) / 2 ^ (s % wd)) = ((mk / 2 ^ (s % wd) : Nat) : Int) by rw [Int.natCast_ediv, Int.natCast_pow]; rfl, show (1 : Int) = ((1 : Nat) : Int) from rfl, u64_and_nat _ _ (Nat.lt_of_le_of_lt (Nat.div_le_self _ _) hm) (by decide), Nat.and_one_is_mod]
  unfold maskB
  by_cases h : mk / 2 ^ (s % wd) % 2 = 1
  · rw [h]; rfl
  · rw [decide_eq_false h, beq_eq_false_iff_ne]
    omega
theorem valid_ok (k : Nat) (wd : Int) (mk : Nat) (n mn mx : Int) (hl : Bool) (f g : Value) (w : World) (h0 : 0 ≤ mn) (hx : mx ≤ 64) (hm : mk < 18446744073709551616) :
    Calls Tryz.prog 119 #[layV k wd mk n mn mx hl f g] w fun e w' => e = .returned (.bool (decide (mn ≤ wd ∧ wd ≤ mx ∧ mk / 2 ^ wd.toNat = 0))) ∧ Kept [] w w' := by
  unfold layV
  by_cases c1 : mn ≤ wd
  · by_cases c2 : wd ≤ mx
    · have c0 : 0 ≤ wd := by omega
      go_enter Tryz.func119, Tryz.ntmps119
      go_wp2_with fail
      go_ret
      refine ⟨ret_bool ?_, (Kept.refl [] w).alloc _⟩
      rw [show ((mk : Int) / 2 ^ wd.toNat) = ((mk / 2 ^ wd.toNat : Nat) : Int) by rw [Int.natCast_ediv, Int.natCast_pow]; rfl]
      by_cases h : mk / 2 ^ wd.toNat = 0
      · rw [h, decide_eq_true ⟨c1, c2, rfl⟩]; rfl
      · rw [decide_eq_false (fun e => h e.2.2), beq_eq_false_iff_ne]
        omega
    · rw [decide_eq_false (fun h => c2 h.2.1)]
      go_enter Tryz.func119, Tryz.ntmps119
      go_wp2_with fail
      go_ret
      exact ⟨rfl, (Kept.refl [] w).alloc _⟩
  · rw [decide_eq_false (fun h => c1 h.1)]
    go_enter Tryz.func119, Tryz.ntmps119
    go_wp2_with fail
    go_ret
    exact ⟨rfl, (Kept.refl [] w).alloc _⟩
end Go.Proofs.YtoagghileebokaaGreatDoor.Kd
