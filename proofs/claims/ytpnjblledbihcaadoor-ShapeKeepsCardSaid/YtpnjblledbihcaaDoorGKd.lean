/-
  Several texts in one: KdMath, KdOps, KdTraits, KdLay, KdSlots, KdSize, KdMay, KdDoc, KdDocSize, IntRow, KdRef, KdRefs, KdDocRefs, KdSame.
-/
import Derived.RowKit
import Derived.Test.YtpnjblledbihcaaDoorProg
import Derived.Test.YtpnjblledbihcaaDoorMem
import Derived.WalkKit
import Derived.RegionTactic
import Derived.Outline
import Derived.IntWalk
import Derived.Deep.QuietTactic
import Derived.BigQuiet
import Derived.Lib.Hide
import Derived.Maps.OwnSet
import Derived.Laws.EntriesVeiled
import Derived.Test.YtpnjblledbihcaaDoorOwnRow
import Derived.Laws.MakeOwn
import Derived.Maps.AppendAt
import Derived.Laws.AppendOwnNone
import Derived.OwnWalk
/-
  What a type's objects are, as plain functions of numbers: which types may be, how many slots, which are references.
-/
namespace Go.Proofs.YtpnjblledbihcaaDoor.Kd
open Go.RowKit
set_option linter.unusedVariables false

/-- May a type be: kind k, words wd, mask mk? -/
def may (k : Nat) (wd : Int) (mk : Nat) : Prop :=
  ((k = 1 ∧ 0 ≤ wd ∧ wd ≤ 64) ∨ (k = 3 ∧ 1 ≤ wd ∧ wd ≤ 16) ∨ ((k = 2 ∨ k = 4) ∧ wd = 0)) ∧ mk / 2 ^ wd.toNat = 0
instance (k : Nat) (wd : Int) (mk : Nat) : Decidable (may k wd mk) := by unfold may; infer_instance
/-- The error of an object of a type, with a length. -/
def err (k : Nat) (wd : Int) (mk : Nat) (n : Int) : Int :=
  if ¬ may k wd mk ∨ n < 0 ∨ (0 < n ∧ k = 1) then 2 else if 4096 < n then 5 else 0
/-- How many slots. -/
def slots (k : Nat) (wd n : Int) : Int := if k = 1 then wd else if k = 3 then n * wd else n
/-- Is that slot a reference? -/
def isRef (k : Nat) (wd : Int) (mk : Nat) (s : Nat) : Bool :=
  if k = 1 ∨ k = 3 then decide (mk / 2 ^ (s % wd.toNat) % 2 = 1) else decide (k = 2)
/-- The slots below m that are references, rising. -/
def refsTo (k : Nat) (wd : Int) (mk : Nat) (m : Nat) : List Int := ((List.range m).filter (isRef k wd mk)).map Int.ofNat
end Go.Proofs.YtpnjblledbihcaaDoor.Kd

/-
  The contracts of a layout's methods: each is what a function of its cells says.
-/
namespace Go.Proofs.YtpnjblledbihcaaDoor.Kd
open Go.RowKit Go.Proofs.YtpnjblledbihcaaDoor.Ar
set_option linter.unusedVariables false

/-- A layout's cells. -/
def layV (k : Nat) (wd : Int) (mk : Nat) (n mn mx : Int) (hl : Bool) (f g : Value) : Value :=
  .agg #[.int .u8 (k : Int), .int .i64 wd, .int .u64 (mk : Int), .int .i64 n, .int .i64 mn, .int .i64 mx, .bool hl, f, g]
set_option maxRecDepth 100000 in
theorem words_ok (k : Nat) (wd : Int) (mk : Nat) (n mn mx : Int) (hl : Bool) (f g : Value) (w : World) :
    Calls Tryd.prog 84 #[layV k wd mk n mn mx hl f g] w fun e w' => e = .returned (.int .i64 wd) ∧ Kept [] w w' := by
  unfold layV
  go_enter Tryd.func84, Tryd.ntmps84
  go_wp2_with fail
  go_ret
  exact ⟨rfl, (Kept.refl [] w).alloc _⟩
theorem length_ok (k : Nat) (wd : Int) (mk : Nat) (n mn mx : Int) (hl : Bool) (f g : Value) (w : World) :
    Calls Tryd.prog 86 #[layV k wd mk n mn mx hl f g] w fun e w' => e = .returned (.int .i64 n) ∧ Kept [] w w' := by
  unfold layV
  go_enter Tryd.func86, Tryd.ntmps86
  go_wp2_with fail
  go_ret
  exact ⟨rfl, (Kept.refl [] w).alloc _⟩
theorem elements_ok (k : Nat) (wd : Int) (mk : Nat) (n mn mx : Int) (hl : Bool) (f g : Value) (w : World) (h0 : -9223372036854775808 ≤ n * wd) (h1 : n * wd ≤ 9223372036854775807) :
    Calls Tryd.prog 88 #[layV k wd mk n mn mx hl f g] w fun e w' => e = .returned (.int .i64 (n * wd)) ∧ Kept [] w w' := by
  unfold layV
  go_enter Tryd.func88, Tryd.ntmps88
  go_wp2_with fail
  go_ret
  refine ⟨ret_int ?_, (Kept.refl [] w).alloc _⟩
  first | rfl | (rw [IntKind.wrap_i64]; omega)
theorem always_ok (k : Nat) (wd : Int) (mk : Nat) (n mn mx : Int) (hl : Bool) (f g : Value) (s : Int) (w : World) :
    Calls Tryd.prog 87 #[layV k wd mk n mn mx hl f g, .int .i64 s] w fun e w' => e = .returned (.bool true) ∧ Kept [] w w' := by
  unfold layV
  go_enter Tryd.func87, Tryd.ntmps87
  go_wp2_with fail
  go_ret
  exact ⟨rfl, (Kept.refl [] w).alloc _⟩
theorem never_ok (k : Nat) (wd : Int) (mk : Nat) (n mn mx : Int) (hl : Bool) (f g : Value) (s : Int) (w : World) :
    Calls Tryd.prog 89 #[layV k wd mk n mn mx hl f g, .int .i64 s] w fun e w' => e = .returned (.bool false) ∧ Kept [] w w' := by
  unfold layV
  go_enter Tryd.func89, Tryd.ntmps89
  go_wp2_with fail
  go_ret
  exact ⟨rfl, (Kept.refl [] w).alloc _⟩
/-- Is that slot's bit set? -/
def maskB (wd mk s : Nat) : Bool := decide (mk / 2 ^ (s % wd) % 2 = 1)
theorem masked_ok (k wd : Nat) (mk : Nat) (n mn mx : Int) (hl : Bool) (f g : Value) (s : Nat) (w : World) (h0 : 1 ≤ wd) (h1 : wd ≤ 64) (hs : s ≤ 65536) (hm : mk < 18446744073709551616) :
    Calls Tryd.prog 85 #[layV k wd mk n mn mx hl f g, .int .i64 (s : Int)] w fun e w' => e = .returned (.bool (maskB wd mk s)) ∧ Kept [] w w' := by
  unfold layV
  have hw : ¬ ((wd : Int) = 0) := by omega
  obtain ⟨r, hr⟩ : ∃ r, r = s % wd := ⟨_, rfl⟩
  have hrl : r < 64 := by have := Nat.mod_lt s (show 0 < wd by omega); omega
  have ht : IntKind.i64.wrap ((s : Int).tmod (wd : Int)) = (r : Int) := by
    rw [Int.tmod_eq_emod_of_nonneg (by omega), hr, IntKind.wrap_i64]
    omega
  go_enter Tryd.func85, Tryd.ntmps85
  go_wp2_with fail
  go_quiet (fail)
  go_wp2_with fail
  go_ret
  refine ⟨ret_bool ?_, ((Kept.refl [] w).alloc _).drewN _⟩
  rw [show ((mk : Int) / 2 ^ (s % wd)) = ((mk / 2 ^ (s % wd) : Nat) : Int) by rw [Int.natCast_ediv, Int.natCast_pow]; rfl, show (1 : Int) = ((1 : Nat) : Int) from rfl, u64_and_nat _ _ (Nat.lt_of_le_of_lt (Nat.div_le_self _ _) hm) (by decide), Nat.and_one_is_mod]
  unfold maskB
  by_cases h : mk / 2 ^ (s % wd) % 2 = 1
  · rw [h]; rfl
  · rw [decide_eq_false h, beq_eq_false_iff_ne]
    omega
theorem valid_ok (k : Nat) (wd : Int) (mk : Nat) (n mn mx : Int) (hl : Bool) (f g : Value) (w : World) (h0 : 0 ≤ mn) (hx : mx ≤ 64) (hm : mk < 18446744073709551616) :
    Calls Tryd.prog 77 #[layV k wd mk n mn mx hl f g] w fun e w' => e = .returned (.bool (decide (mn ≤ wd ∧ wd ≤ mx ∧ mk / 2 ^ wd.toNat = 0))) ∧ Kept [] w w' := by
  unfold layV
  by_cases c1 : mn ≤ wd
  · by_cases c2 : wd ≤ mx
    · have c0 : 0 ≤ wd := by omega
      go_enter Tryd.func77, Tryd.ntmps77
      go_wp2_with fail
      go_ret
      refine ⟨ret_bool ?_, (Kept.refl [] w).alloc _⟩
      rw [show ((mk : Int) / 2 ^ wd.toNat) = ((mk / 2 ^ wd.toNat : Nat) : Int) by rw [Int.natCast_ediv, Int.natCast_pow]; rfl]
      by_cases h : mk / 2 ^ wd.toNat = 0
      · rw [h, decide_eq_true ⟨c1, c2, rfl⟩]; rfl
      · rw [decide_eq_false (fun e => h e.2.2), beq_eq_false_iff_ne]
        omega
    · rw [decide_eq_false (fun h => c2 h.2.1)]
      go_enter Tryd.func77, Tryd.ntmps77
      go_wp2_with fail
      go_ret
      exact ⟨rfl, (Kept.refl [] w).alloc _⟩
  · rw [decide_eq_false (fun h => c1 h.1)]
    go_enter Tryd.func77, Tryd.ntmps77
    go_wp2_with fail
    go_ret
    exact ⟨rfl, (Kept.refl [] w).alloc _⟩
end Go.Proofs.YtpnjblledbihcaaDoor.Kd

/-
  What a kind has, out of a map that the call makes: the contract of traitsOf.
-/
namespace Go.Proofs.YtpnjblledbihcaaDoor.Kd
open Go.RowKit Go.Proofs.YtpnjblledbihcaaDoor.Ar Go.Maps
set_option linter.unusedVariables false

def fn (i : Nat) : Value := .func (.func i) #[] #[]
/-- What the kinds have. -/
def tr1 : Value := .agg #[.int .i64 0, .int .i64 64, .bool false, fn 84, fn 85]
def tr2 : Value := .agg #[.int .i64 0, .int .i64 0, .bool true, fn 86, fn 87]
def tr3 : Value := .agg #[.int .i64 1, .int .i64 16, .bool true, fn 88, fn 85]
def tr4 : Value := .agg #[.int .i64 0, .int .i64 0, .bool true, fn 86, fn 89]
def tr0 : Value := .agg #[.int .i64 0, .int .i64 0, .bool false, .nilFunc, .nilFunc]
def mn (k : Nat) : Int := if k = 3 then 1 else 0
def mx (k : Nat) : Int := if k = 1 then 64 else if k = 3 then 16 else 0
def hl (k : Nat) : Bool := decide (k = 2 ∨ k = 3 ∨ k = 4)
def slF (k : Nat) : Value := if k = 1 then fn 84 else if k = 3 then fn 88 else if k = 2 ∨ k = 4 then fn 86 else .nilFunc
def rfF (k : Nat) : Value := if k = 1 ∨ k = 3 then fn 85 else if k = 2 then fn 87 else if k = 4 then fn 89 else .nilFunc
def trV (k : Nat) : Value := .agg #[.int .i64 (mn k), .int .i64 (mx k), .bool (hl k), slF k, rfF k]
theorem tr_no (k : Nat) (c1 : ¬ k = 1) (c2 : ¬ k = 2) (c3 : ¬ k = 3) (c4 : ¬ k = 4) : trV k = tr0 := by
  unfold trV mn mx hl slF rfF tr0
  simp [c1, c2, c3, c4]
def isKind (k : Nat) : Bool := decide (k = 1 ∨ k = 2 ∨ k = 3 ∨ k = 4)
def key (k : Nat) : Value := .int .u8 (k : Int)
/-- Entries of a map of kinds. -/
def ent (k : Nat) (v : Value) (i : Nat) : MapEntry := ⟨key k, v, i⟩

theorem keyed : Keyed Tryd.prog 5 := int_keyed Tryd.underlying5
theorem keyOf_key (k : Nat) (h : k < 256) : keyOf Tryd.prog 5 (key k) = some (.int .u8 (k : Int)) :=
  keyOf_int_mk Tryd.underlying5 (by simp [Lit.wf, IntKind.min, IntKind.max, IntKind.signed, IntKind.bits]; omega)
theorem zeroT (w : World) : (zeroValue 107).run Tryd.prog w = .ok tr0 w := by kernel_rfl
theorem find_none (k : Nat) (es : List MapEntry) (h : ∀ e ∈ es, ∃ j : Nat, e.key = key j ∧ j ≠ k) : ∀ i, Instr.findNow (.int .u8) (key k) es i = some none := by
  induction es with
  | nil => intro i; rfl
  | cons e es ih =>
    intro i
    obtain ⟨j, hj, hne⟩ := h e (by simp)
    have := ih (fun x hx => h x (by simp [hx])) (i + 1)
    unfold Instr.findNow
    rw [hj]
    simp only [key, Instr.sameNow, if_true]
    rw [show ((k : Int) == (j : Int)) = false by rw [beq_eq_false_iff_ne]; omega]
    exact this
theorem run_insert (w : World) (b : Nat) (es : Array MapEntry) (clock k : Nat) (v : Value) (hk : k < 256) (hb : w.heap[b]? = some (.map es clock)) (h : ∀ e ∈ es.toList, ∃ j : Nat, e.key = key j ∧ j ≠ k) :
    (Instr.mapUpdate 132 (.map (some b)) (key k) v).run Tryd.prog w = .ok () (ChangeMaps.setBlock w b (.map (es.push (ent k v clock)) (clock + 1))) := by
  have hf : (Instr.findKey 5 (key k) es.toList).run Tryd.prog w = .ok none w := by
    simp [Instr.findKey, run_underlying Tryd.underlying5, find_none k es.toList h 0, Result.andThen]
  simp [Instr.mapUpdate, run_underlying Tryd.underlying132, MapKept.run_getObj_map hb, keyed.check w false (keyOf_key k hk), hf, MapKept.run_setObj_map _ hb, Result.andThen, ChangeMaps.setBlock, ent]
/-- 'm[k] = v' in a map's literal, at the operation. -/
theorem insert_at {w : World} {ops : Array Oper} {rest : List Oper} {o : Oper} {a : Act} {Q : Exit → Act → World → Prop} (hg : o.guard = none) (m x v : Operand)
    (hop : o.op = Op.insert 132 m x v) (b k : Nat) (es : Array MapEntry) (clock : Nat) (val : Value) (hm : a.eval m = .map (some b)) (hx : a.eval x = key k) (hv : a.eval v = val) (hk : k < 256)
    (hb : w.heap[b]? = some (.map es clock)) (h : ∀ e ∈ es.toList, ∃ j : Nat, e.key = key j ∧ j ≠ k)
    (hK : ∀ w', w'.heap[b]? = some (.map (es.push (ent k val clock)) (clock + 1)) → Kept [b] w w' → wpList Tryd.prog ops Q rest (a.put o.dst undef) w') : wpList Tryd.prog ops Q (o :: rest) a w := by
  refine wpList_plain hg fun K' hK' => ?_
  unfold Oper.wp
  simp [execOp, hop, hm, hx, hv, run_insert w b es clock k val hk hb h, Result.andThen]
  refine hK' _ _ (hK _ (ChangeMaps.heap_setBlock_same hb _) ⟨rfl, rfl, rfl, by simp [ChangeMaps.setBlock], fun i _ hi => ChangeMaps.heap_setBlock_other hb _ (fun e => hi (by simp [e]))⟩)
/-- The map of all kinds. -/
def all4 : Array MapEntry := #[ent 1 tr1 0, ent 2 tr2 1, ent 3 tr3 2, ent 4 tr4 3]
theorem run_look (w : World) (b k c : Nat) (hk : k < 256) (hb : w.heap[b]? = some (.map all4 c)) :
    (Instr.lookup 132 (.map (some b)) (key k) true).run Tryd.prog w = .ok (.tuple #[trV k, .bool (isKind k)]) w := by
  have hf : Instr.findNow (.int .u8) (key k) all4.toList 0 = some (if k = 1 then some (0, tr1) else if k = 2 then some (1, tr2) else if k = 3 then some (2, tr3) else if k = 4 then some (3, tr4) else none) := by
    by_cases c1 : k = 1
    · subst c1; rfl
    by_cases c2 : k = 2
    · subst c2; rfl
    by_cases c3 : k = 3
    · subst c3; rfl
    by_cases c4 : k = 4
    · subst c4; rfl
    rw [if_neg c1, if_neg c2, if_neg c3, if_neg c4]
    refine find_none k _ (fun e he => ?_) 0
    simp only [all4, List.mem_cons, List.not_mem_nil, or_false] at he
    rcases he with rfl | rfl | rfl | rfl
    · exact ⟨1, rfl, fun h => c1 h.symm⟩
    · exact ⟨2, rfl, fun h => c2 h.symm⟩
    · exact ⟨3, rfl, fun h => c3 h.symm⟩
    · exact ⟨4, rfl, fun h => c4 h.symm⟩
  have hr : (Instr.findKey 5 (key k) all4.toList).run Tryd.prog w = .ok (if k = 1 then some (0, tr1) else if k = 2 then some (1, tr2) else if k = 3 then some (2, tr3) else if k = 4 then some (3, tr4) else none) w := by
    simp [Instr.findKey, run_underlying Tryd.underlying5, hf, Result.andThen]
  have hc := keyed.check w all4.isEmpty (keyOf_key k hk)
  have hz := zeroT w
  by_cases c1 : k = 1
  · subst c1
    simp [Instr.lookup, run_underlying Tryd.underlying132, MapKept.run_getObj_map hb, hc, hr, Result.andThen, isKind]
    rfl
  by_cases c2 : k = 2
  · subst c2
    simp [Instr.lookup, run_underlying Tryd.underlying132, MapKept.run_getObj_map hb, hc, hr, Result.andThen, isKind]
    rfl
  by_cases c3 : k = 3
  · subst c3
    simp [Instr.lookup, run_underlying Tryd.underlying132, MapKept.run_getObj_map hb, hc, hr, Result.andThen, isKind]
    rfl
  by_cases c4 : k = 4
  · subst c4
    simp [Instr.lookup, run_underlying Tryd.underlying132, MapKept.run_getObj_map hb, hc, hr, Result.andThen, isKind]
    rfl
  simp [Instr.lookup, run_underlying Tryd.underlying132, MapKept.run_getObj_map hb, hc, hr, hz, Result.andThen, tr_no k c1 c2 c3 c4, isKind, c1, c2, c3, c4]
theorem fns_yes (k : Nat) (h : isKind k = true) : ∃ F G, slF k = .func F #[] #[] ∧ rfF k = .func G #[] #[] := by
  unfold isKind at h
  rw [decide_eq_true_iff] at h
  rcases h with rfl | rfl | rfl | rfl <;> exact ⟨_, _, rfl, rfl⟩
theorem fns_no (k : Nat) (h : isKind k = false) : slF k = .nilFunc ∧ rfF k = .nilFunc := by
  unfold isKind at h
  rw [decide_eq_false_iff_not] at h
  unfold slF rfF
  exact ⟨by rw [if_neg (by omega), if_neg (by omega), if_neg (by omega)], by rw [if_neg (by omega), if_neg (by omega), if_neg (by omega)]⟩
theorem may_iff (k : Nat) (wd : Int) (mk : Nat) : may k wd mk ↔ isKind k = true ∧ (mn k ≤ wd ∧ wd ≤ mx k ∧ mk / 2 ^ wd.toNat = 0) := by
  unfold may isKind mn mx
  rw [decide_eq_true_iff]
  by_cases c1 : k = 1
  · subst c1; simp
    exact ⟨fun h => ⟨h.1.1, h.1.2, h.2⟩, fun h => ⟨⟨h.1, h.2.1⟩, h.2.2⟩⟩
  by_cases c3 : k = 3
  · subst c3; simp
    exact ⟨fun h => ⟨h.1.1, h.1.2, h.2⟩, fun h => ⟨⟨h.1, h.2.1⟩, h.2.2⟩⟩
  rw [if_neg c3, if_neg c1, if_neg c3]
  constructor
  · rintro ⟨h, hm⟩
    exact ⟨by omega, by omega, by omega, hm⟩
  · rintro ⟨h, h1, h2, hm⟩
    exact ⟨by omega, hm⟩

def es1 : Array MapEntry := #[ent 1 tr1 0]
def es2 : Array MapEntry := #[ent 1 tr1 0, ent 2 tr2 1]
def es3 : Array MapEntry := #[ent 1 tr1 0, ent 2 tr2 1, ent 3 tr3 2]
theorem far1 : ∀ e ∈ es1.toList, ∃ j : Nat, e.key = key j ∧ j ≠ 2 := by
  intro e he
  simp only [es1, List.mem_cons, List.not_mem_nil, or_false] at he
  subst he
  exact ⟨1, rfl, by decide⟩
theorem far2 : ∀ e ∈ es2.toList, ∃ j : Nat, e.key = key j ∧ j ≠ 3 := by
  intro e he
  simp only [es2, List.mem_cons, List.not_mem_nil, or_false] at he
  rcases he with rfl | rfl
  · exact ⟨1, rfl, by decide⟩
  · exact ⟨2, rfl, by decide⟩
theorem far3 : ∀ e ∈ es3.toList, ∃ j : Nat, e.key = key j ∧ j ≠ 4 := by
  intro e he
  simp only [es3, List.mem_cons, List.not_mem_nil, or_false] at he
  rcases he with rfl | rfl | rfl
  · exact ⟨1, rfl, by decide⟩
  · exact ⟨2, rfl, by decide⟩
  · exact ⟨3, rfl, by decide⟩
/-- A result that lies in memory, and one that does not. -/
theorem ret_row {P : Program} {f : Func} {p u : Tmp} {ty : TypeId} (h : f.results = #[.cell p ty, .tmp u]) {a : Act} {X : World} {g n : Nat} {cs : List Value} (d : TypeDesc) (hp : a.tmps.getD p undef = .pointer (some ⟨g, 0, none⟩)) (hH : Has X g ty cs) (hn : cs.length = n)
    (hu : P.underlying ty = some d) (hd : (match d with | .struct _ | .array _ _ => true | _ => false) = true) (hi : (P.info? ty).map (·.size) = some n) (hdf : a.defers = []) {R : Ending → World → Prop} (hR : R (.returned (.tuple #[.agg cs.toArray, a.tmps.getD u undef])) X) : bodyPost P f R .ret a X := by
  refine bodyPost_ret ?_ hdf hR
  rw [results_cell_tmp h, hp]
  have e := run_loadVar_row X g ty ty cs.toArray (0, 0) d hH hu hd (by rw [hi, ← hn]; simp)
  simp [asAddr, e, Result.andThen]
theorem size_traits : (Tryd.prog.info? 107).map (·.size) = some 5 := by kernel_rfl
theorem after (w w4 : World) (cs : List Value) (h : Kept [w.heap.size + 1] ((w.alloc (.cells cs.toArray 107)).alloc (.map #[] 0)) w4) : Kept [] w w4 ∧ Has w4 w.heap.size 107 cs := by
  refine ⟨(((Kept.refl [] w).alloc _).alloc _).forget h (fun i hi => ?_), ((Has.new w _ _).alloc _).kept h (by simp)⟩
  simp at hi
  omega
set_option maxRecDepth 100000 in
theorem traitsOf_ok (k : Nat) (hk : k < 256) (w : World) :
    Calls Tryd.prog 76 #[key k] w fun e w' => e = .returned (.tuple #[trV k, .bool (isKind k)]) ∧ Kept [] w w' := by
  have hmm := @run_makeMap Tryd.prog
  have HL := Lib.hid (fun (x : World) (b c : Nat) hb => run_look x b k c hk hb)
  clear hk
  generalize key k = kv at *
  unfold trV at *
  have hY := fns_yes k
  have hN := fns_no k
  generalize mn k = a1 at *
  generalize mx k = a2 at *
  generalize hl k = a3 at *
  generalize slF k = a4 at *
  generalize rfF k = a5 at *
  generalize isKind k = i at *
  have h0 : ∀ o, ((w.alloc o).alloc (.map #[] 0)).heap[w.heap.size + 1]? = some (.map #[] 0) := fun o => by
    rw [show w.heap.size + 1 = (w.alloc o).heap.size by simp]
    exact heap_alloc_new _ _
  cases i with
  | true =>
    obtain ⟨F, G, rfl, rfl⟩ := hY rfl
    clear hY hN
    go_enter Tryd.func76, Tryd.ntmps76
    go_wp2_with (first
      | (refine insert_at rfl _ _ _ rfl (w.heap.size + 1) 4 es3 3 tr4 rfl rfl rfl (by decide) hb3.out far3 ?_; intro w4 hb4 hk4; have hlk := HL.out w4 _ _ hb4
         obtain ⟨hK4, hH⟩ := after w w4 [.int .i64 0, .int .i64 0, .bool false, .nilFunc, .nilFunc] (((hk1.out.trans hk2.out).trans hk3.out).trans hk4)
         have c0 := fun o => (hH.alloc o).cell 0
         have c1 := fun o => (hH.alloc o).cell 1
         have c2 := fun o => (hH.alloc o).cell 2
         have c3 := fun o => (hH.alloc o).cell 3
         have c4 := fun o => (hH.alloc o).cell 4
         have f0 := fun o => (hH.alloc o).free 0
         have f1 := fun o => (hH.alloc o).free 1
         have f2 := fun o => (hH.alloc o).free 2
         have f3 := fun o => (hH.alloc o).free 3
         have f4 := fun o => (hH.alloc o).free 4
         simp at c0 c1 c2 c3 c4
         replace hK4 := Lib.hid hK4
         replace hH := Lib.hid hH
         clear hb4 hk4 hb3 hk3 hb2 hk2 hb1 hk1 h0 hmm)
      | (refine insert_at rfl _ _ _ rfl (w.heap.size + 1) 3 es2 2 tr3 rfl rfl rfl (by decide) hb2.out far2 ?_; intro w3 hb3 hk3; replace hb3 := Lib.hid hb3; replace hk3 := Lib.hid hk3)
      | (refine insert_at rfl _ _ _ rfl (w.heap.size + 1) 2 es1 1 tr2 rfl rfl rfl (by decide) hb1.out far1 ?_; intro w2 hb2 hk2; replace hb2 := Lib.hid hb2; replace hk2 := Lib.hid hk2)
      | (refine insert_at rfl _ _ _ rfl (w.heap.size + 1) 1 #[] 0 tr1 rfl rfl rfl (by decide) (h0 _) (by intro e he; cases he) ?_; intro w1 hb1 hk1; replace hb1 := Lib.hid hb1; replace hk1 := Lib.hid hk1))
    (try simp only [Exit.inBlock, Exit.then])
    refine ret_row rfl _ rfl ((((((hH.out.alloc _).put 0 _).put 1 _).put 2 _).put 3 _).put 4 _) rfl Tryd.underlying107 rfl size_traits rfl ?_
    have kk := fun o u0 u1 u2 u3 u4 => (((((hK4.out.alloc o).setCell ⟨w.heap.size, 0, none⟩ u0 (.inr (Nat.le_refl _))).setCell ⟨w.heap.size, 1, none⟩ u1 (.inr (Nat.le_refl _))).setCell ⟨w.heap.size, 2, none⟩ u2 (.inr (Nat.le_refl _))).setCell ⟨w.heap.size, 3, none⟩ u3 (.inr (Nat.le_refl _))).setCell ⟨w.heap.size, 4, none⟩ u4 (.inr (Nat.le_refl _))
    exact ⟨rfl, kk _ _ _ _ _ _⟩
  | false =>
    obtain ⟨rfl, rfl⟩ := hN rfl
    clear hY hN
    go_enter Tryd.func76, Tryd.ntmps76
    go_wp2_with (first
      | (refine insert_at rfl _ _ _ rfl (w.heap.size + 1) 4 es3 3 tr4 rfl rfl rfl (by decide) hb3.out far3 ?_; intro w4 hb4 hk4; have hlk := HL.out w4 _ _ hb4
         obtain ⟨hK4, hH⟩ := after w w4 [.int .i64 0, .int .i64 0, .bool false, .nilFunc, .nilFunc] (((hk1.out.trans hk2.out).trans hk3.out).trans hk4)
         have c0 := fun o => (hH.alloc o).cell 0
         have c1 := fun o => (hH.alloc o).cell 1
         have c2 := fun o => (hH.alloc o).cell 2
         have c3 := fun o => (hH.alloc o).cell 3
         have c4 := fun o => (hH.alloc o).cell 4
         have f0 := fun o => (hH.alloc o).free 0
         have f1 := fun o => (hH.alloc o).free 1
         have f2 := fun o => (hH.alloc o).free 2
         have f3 := fun o => (hH.alloc o).free 3
         have f4 := fun o => (hH.alloc o).free 4
         simp at c0 c1 c2 c3 c4
         replace hK4 := Lib.hid hK4
         replace hH := Lib.hid hH
         clear hb4 hk4 hb3 hk3 hb2 hk2 hb1 hk1 h0 hmm)
      | (refine insert_at rfl _ _ _ rfl (w.heap.size + 1) 3 es2 2 tr3 rfl rfl rfl (by decide) hb2.out far2 ?_; intro w3 hb3 hk3; replace hb3 := Lib.hid hb3; replace hk3 := Lib.hid hk3)
      | (refine insert_at rfl _ _ _ rfl (w.heap.size + 1) 2 es1 1 tr2 rfl rfl rfl (by decide) hb1.out far1 ?_; intro w2 hb2 hk2; replace hb2 := Lib.hid hb2; replace hk2 := Lib.hid hk2)
      | (refine insert_at rfl _ _ _ rfl (w.heap.size + 1) 1 #[] 0 tr1 rfl rfl rfl (by decide) (h0 _) (by intro e he; cases he) ?_; intro w1 hb1 hk1; replace hb1 := Lib.hid hb1; replace hk1 := Lib.hid hk1))
    (try simp only [Exit.inBlock, Exit.then])
    refine ret_row rfl _ rfl ((((((hH.out.alloc _).put 0 _).put 1 _).put 2 _).put 3 _).put 4 _) rfl Tryd.underlying107 rfl size_traits rfl ?_
    have kk := fun o u0 u1 u2 u3 u4 => (((((hK4.out.alloc o).setCell ⟨w.heap.size, 0, none⟩ u0 (.inr (Nat.le_refl _))).setCell ⟨w.heap.size, 1, none⟩ u1 (.inr (Nat.le_refl _))).setCell ⟨w.heap.size, 2, none⟩ u2 (.inr (Nat.le_refl _))).setCell ⟨w.heap.size, 3, none⟩ u3 (.inr (Nat.le_refl _))).setCell ⟨w.heap.size, 4, none⟩ u4 (.inr (Nat.le_refl _))
    exact ⟨rfl, kk _ _ _ _ _ _⟩
end Go.Proofs.YtpnjblledbihcaaDoor.Kd

/-
  The contract of layoutOf: the layout of an object of a type with a length, or why there is none.
-/
namespace Go.Proofs.YtpnjblledbihcaaDoor.Kd
open Go.RowKit Go.Proofs.YtpnjblledbihcaaDoor.Ar Go.Maps
set_option linter.unusedVariables false

def typL (k : Nat) (wd : Int) (mk : Nat) : List Value := [.int .u8 (k : Int), .int .i64 wd, .int .u64 (mk : Int)]
def typV (k : Nat) (wd : Int) (mk : Nat) : Value := .agg #[.int .u8 (k : Int), .int .i64 wd, .int .u64 (mk : Int)]
def layL (k : Nat) (wd : Int) (mk : Nat) (n mn mx : Int) (hl : Bool) (f g : Value) : List Value := [.int .u8 (k : Int), .int .i64 wd, .int .u64 (mk : Int), .int .i64 n, .int .i64 mn, .int .i64 mx, .bool hl, f, g]
/-- The layout of an object that may be. -/
def layT (k : Nat) (wd : Int) (mk : Nat) (n : Int) : Value := layV k wd mk n (mn k) (mx k) (hl k) (slF k) (rfF k)
/-- No layout. -/
def lay0 : Value := .agg #[.int .u8 0, .int .i64 0, .int .u64 0, .int .i64 0, .int .i64 0, .int .i64 0, .bool false, .nilFunc, .nilFunc]
theorem size_layout : (Tryd.prog.info? 109).map (·.size) = some 9 := by kernel_rfl
theorem err_kind {k : Nat} {wd : Int} {mk : Nat} {n : Int} (h : isKind k = false) : err k wd mk n = 2 := by
  unfold err
  rw [if_pos (.inl fun hm => by rw [may_iff, h] at hm; cases hm.1)]
theorem err_valid {k : Nat} {wd : Int} {mk : Nat} {n : Int} (h : decide (mn k ≤ wd ∧ wd ≤ mx k ∧ mk / 2 ^ wd.toNat = 0) = false) : err k wd mk n = 2 := by
  rw [decide_eq_false_iff_not] at h
  unfold err
  rw [if_pos (.inl fun hm => h ((may_iff k wd mk).1 hm).2)]
theorem err_neg {k : Nat} {wd : Int} {mk : Nat} {n : Int} (h : n < 0) : err k wd mk n = 2 := by
  unfold err
  rw [if_pos (.inr (.inl h))]
theorem hl_iff (k : Nat) (h : isKind k = true) : hl k = false ↔ k = 1 := by
  unfold isKind at h
  rw [decide_eq_true_iff] at h
  unfold hl
  rw [decide_eq_false_iff_not]
  omega
theorem err_len {k : Nat} {wd : Int} {mk : Nat} {n : Int} (hi : isKind k = true) (h : 0 < n) (hl : hl k = false) : err k wd mk n = 2 := by
  unfold err
  rw [if_pos (.inr (.inr ⟨h, (hl_iff k hi).1 hl⟩))]
theorem err_rest {k : Nat} {wd : Int} {mk : Nat} {n : Int} (hi : isKind k = true) (hv : decide (mn k ≤ wd ∧ wd ≤ mx k ∧ mk / 2 ^ wd.toNat = 0) = true) (h0 : ¬ n < 0) (h1 : ¬ (0 < n ∧ hl k = false)) :
    err k wd mk n = if 4096 < n then 5 else 0 := by
  unfold err
  rw [if_neg]
  rintro (h | h | ⟨h2, h3⟩)
  · exact h ((may_iff k wd mk).2 ⟨hi, of_decide_eq_true hv⟩)
  · exact h0 h
  · exact h1 ⟨h2, (hl_iff k hi).2 h3⟩
def put9 (b : Nat) (v0 v1 v2 v3 v4 v5 v6 v7 v8 : Value) (w : World) : World :=
  ((((((((w.setCell ⟨b, 0, none⟩ v0).setCell ⟨b, 1, none⟩ v1).setCell ⟨b, 2, none⟩ v2).setCell ⟨b, 3, none⟩ v3).setCell ⟨b, 4, none⟩ v4).setCell ⟨b, 5, none⟩ v5).setCell ⟨b, 6, none⟩ v6).setCell ⟨b, 7, none⟩ v7).setCell ⟨b, 8, none⟩ v8
theorem put9_has {b : Nat} {t : TypeId} {w : World} {a0 a1 a2 a3 a4 a5 a6 a7 a8 : Value} (h : Has w b t [a0, a1, a2, a3, a4, a5, a6, a7, a8]) (v0 v1 v2 v3 v4 v5 v6 v7 v8 : Value) : Has (put9 b v0 v1 v2 v3 v4 v5 v6 v7 v8 w) b t [v0, v1, v2, v3, v4, v5, v6, v7, v8] :=
  (((((((((h.put 0 v0).put 1 v1).put 2 v2).put 3 v3).put 4 v4).put 5 v5).put 6 v6).put 7 v7).put 8 v8)
theorem put9_kept {b : Nat} {w0 w : World} (h : Kept [] w0 w) (hb : w0.heap.size ≤ b) (v0 v1 v2 v3 v4 v5 v6 v7 v8 : Value) : Kept [] w0 (put9 b v0 v1 v2 v3 v4 v5 v6 v7 v8 w) :=
  ((((((((h.setCell ⟨b, 0, none⟩ v0 (.inr hb)).setCell ⟨b, 1, none⟩ v1 (.inr hb)).setCell ⟨b, 2, none⟩ v2 (.inr hb)).setCell ⟨b, 3, none⟩ v3 (.inr hb)).setCell ⟨b, 4, none⟩ v4 (.inr hb)).setCell ⟨b, 5, none⟩ v5 (.inr hb)).setCell ⟨b, 6, none⟩ v6 (.inr hb)).setCell ⟨b, 7, none⟩ v7 (.inr hb)).setCell ⟨b, 8, none⟩ v8 (.inr hb)
/-- The end of layoutOf: the result lies in block b of nine cells. -/
theorem ret_lay {P : Program} {f : Func} {p u : Tmp} {ty : TypeId} (h : f.results = #[.cell p ty, .tmp u]) {a : Act} {w0 w : World} {g : Nat} {a0 a1 a2 a3 a4 a5 a6 a7 a8 : Value} {v0 v1 v2 v3 v4 v5 v6 v7 v8 : Value} (d : TypeDesc) (hp : a.tmps.getD p undef = .pointer (some ⟨g, 0, none⟩)) (hH : Has w g ty [a0, a1, a2, a3, a4, a5, a6, a7, a8]) (hk : Kept [] w0 w) (hg : w0.heap.size ≤ g)
    (hu : P.underlying ty = some d) (hd : (match d with | .struct _ | .array _ _ => true | _ => false) = true) (hi : (P.info? ty).map (·.size) = some 9) (hdf : a.defers = []) {E : Value} (hE : a.tmps.getD u undef = E) {R : Ending → World → Prop}
    (hR : ∀ X, Kept [] w0 X → R (.returned (.tuple #[.agg #[v0, v1, v2, v3, v4, v5, v6, v7, v8], E])) X) : bodyPost P f R .ret a (put9 g v0 v1 v2 v3 v4 v5 v6 v7 v8 w) := by
  refine ret_row h d hp (put9_has hH v0 v1 v2 v3 v4 v5 v6 v7 v8) rfl hu hd hi hdf ?_
  rw [hE]
  exact hR _ (put9_kept hk hg _ _ _ _ _ _ _ _ _)

theorem cells9 {w : World} {b : Nat} {t : TypeId} {v0 v1 v2 v3 v4 v5 v6 v7 v8 : Value} (h : Has w b t [v0, v1, v2, v3, v4, v5, v6, v7, v8]) :
    w.cell? ⟨b, 0, none⟩ = some v0 ∧ w.cell? ⟨b, 1, none⟩ = some v1 ∧ w.cell? ⟨b, 2, none⟩ = some v2 ∧ w.cell? ⟨b, 3, none⟩ = some v3 ∧ w.cell? ⟨b, 4, none⟩ = some v4 ∧ w.cell? ⟨b, 5, none⟩ = some v5 ∧ w.cell? ⟨b, 6, none⟩ = some v6 ∧ w.cell? ⟨b, 7, none⟩ = some v7 ∧ w.cell? ⟨b, 8, none⟩ = some v8 :=
  ⟨h.cell 0, h.cell 1, h.cell 2, h.cell 3, h.cell 4, h.cell 5, h.cell 6, h.cell 7, h.cell 8⟩
theorem free9 {w : World} {b : Nat} {t : TypeId} {cs : List Value} (h : Has w b t cs) :
    w.frozen? ⟨b, 0, none⟩ = false ∧ w.frozen? ⟨b, 1, none⟩ = false ∧ w.frozen? ⟨b, 2, none⟩ = false ∧ w.frozen? ⟨b, 3, none⟩ = false ∧ w.frozen? ⟨b, 4, none⟩ = false ∧ w.frozen? ⟨b, 5, none⟩ = false ∧ w.frozen? ⟨b, 6, none⟩ = false ∧ w.frozen? ⟨b, 7, none⟩ = false ∧ w.frozen? ⟨b, 8, none⟩ = false :=
  ⟨h.free 0, h.free 1, h.free 2, h.free 3, h.free 4, h.free 5, h.free 6, h.free 7, h.free 8⟩
theorem after_lay {W W2 : World} {o : Obj} {t : TypeId} (cs : List Value) (h : Kept [] ((W.alloc o).alloc (.cells cs.toArray t)) W2) : Has W2 (W.heap.size + 1) t cs := by
  have := (Has.new (W.alloc o) t cs).keep0 h
  rwa [show (W.alloc o).heap.size = W.heap.size + 1 by simp] at this
theorem cells3 {w : World} {b : Nat} {t : TypeId} {v0 v1 v2 : Value} (h : Has w b t [v0, v1, v2]) : w.cell? ⟨b, 0, none⟩ = some v0 ∧ w.cell? ⟨b, 1, none⟩ = some v1 ∧ w.cell? ⟨b, 2, none⟩ = some v2 :=
  ⟨h.cell 0, h.cell 1, h.cell 2⟩

set_option maxRecDepth 100000 in
set_option maxHeartbeats 4000000 in
theorem layoutOf_ok (k : Nat) (wd : Int) (mk : Nat) (n : Int) (hk : k < 256) (hm : mk < 18446744073709551616) (w : World) :
    Calls Tryd.prog 61 #[typV k wd mk, .int .i64 n] w fun e w' => e = .returned (.tuple #[if err k wd mk n = 0 then layT k wd mk n else lay0, .int .i64 (err k wd mk n)]) ∧ Kept [] w w' := by
  have HT := Lib.hid (fun x => traitsOf_ok k hk x)
  have HV := Lib.hid (fun x => valid_ok k wd mk n (mn k) (mx k) (hl k) (slF k) (rfF k) x (by unfold mn; split <;> decide) (by unfold mx; split <;> (try split) <;> decide) hm)
  unfold trV key at HT
  unfold layV at HV
  unfold typV layT layV lay0
  have hk0 : ∀ o o', Kept [] w ((w.alloc o).alloc o') := fun o o' => ((Kept.refl [] w).alloc o).alloc o'
  have hb0 : ∀ o, Has ((w.alloc (.cells #[.int .u8 (k : Int), .int .i64 wd, .int .u64 (mk : Int)] 55)).alloc o) w.heap.size 55 (typL k wd mk) := fun o => (Has.new w _ _).alloc o
  have hz0 : ∀ o, Has ((w.alloc o).alloc (.cells #[.int .u8 0, .int .i64 0, .int .u64 0, .int .i64 0, .int .i64 0, .int .i64 0, .bool false, .nilFunc, .nilFunc] 109)) (w.heap.size + 1) 109 [.int .u8 0, .int .i64 0, .int .u64 0, .int .i64 0, .int .i64 0, .int .i64 0, .bool false, .nilFunc, .nilFunc] := fun o => by
    have := Has.new (w.alloc o) 109 [.int .u8 0, .int .i64 0, .int .u64 0, .int .i64 0, .int .i64 0, .int .i64 0, .bool false, .nilFunc, .nilFunc]
    rwa [show (w.alloc o).heap.size = w.heap.size + 1 by simp] at this
  have HE : Hid (w.heap.size ≤ w.heap.size + 1) := Lib.hid (Nat.le_succ _)
  cases hi : isKind k with
  | false =>
    rw [err_kind hi, if_neg (by decide)]
    obtain ⟨e1, e2⟩ := fns_no k hi
    rw [hi, e1, e2] at HT
    clear HV e1 e2 hi
    generalize mn k = a1 at *
    generalize mx k = a2 at *
    generalize hl k = a3 at *
    go_enter Tryd.func61, Tryd.ntmps61
    go_wp2_with fail
    refine (HT.out _).mono ?_
    rintro e W1 ⟨rfl, hk1⟩
    have hb := (hb0 _).keep0 hk1
    have hz := (hz0 _).keep0 hk1
    have hkw := (hk0 _ _).trans hk1
    have HB : Hid (w.heap.size ≤ w.heap.size + 1) := Lib.hid (Nat.le_succ _)
    generalize w.heap.size + 1 = B4 at *
    generalize hB0 : w.heap.size = B0 at *
    have b0 := fun o => (cells3 (hb.alloc o)).1
    have b1 := fun o => (cells3 (hb.alloc o)).2.1
    have b2 := fun o => (cells3 (hb.alloc o)).2.2
    have z0 := fun o o' => (cells9 ((hz.alloc o).alloc o')).1
    have z1 := fun o o' => (cells9 ((hz.alloc o).alloc o')).2.1
    have z2 := fun o o' => (cells9 ((hz.alloc o).alloc o')).2.2.1
    have z3 := fun o o' => (cells9 ((hz.alloc o).alloc o')).2.2.2.1
    have z4 := fun o o' => (cells9 ((hz.alloc o).alloc o')).2.2.2.2.1
    have z5 := fun o o' => (cells9 ((hz.alloc o).alloc o')).2.2.2.2.2.1
    have z6 := fun o o' => (cells9 ((hz.alloc o).alloc o')).2.2.2.2.2.2.1
    have z7 := fun o o' => (cells9 ((hz.alloc o).alloc o')).2.2.2.2.2.2.2.1
    have z8 := fun o o' => (cells9 ((hz.alloc o).alloc o')).2.2.2.2.2.2.2.2
    have y0 := fun o o' => (free9 ((hz.alloc o).alloc o')).1
    have y1 := fun o o' => (free9 ((hz.alloc o).alloc o')).2.1
    have y2 := fun o o' => (free9 ((hz.alloc o).alloc o')).2.2.1
    have y3 := fun o o' => (free9 ((hz.alloc o).alloc o')).2.2.2.1
    have y4 := fun o o' => (free9 ((hz.alloc o).alloc o')).2.2.2.2.1
    have y5 := fun o o' => (free9 ((hz.alloc o).alloc o')).2.2.2.2.2.1
    have y6 := fun o o' => (free9 ((hz.alloc o).alloc o')).2.2.2.2.2.2.1
    have y7 := fun o o' => (free9 ((hz.alloc o).alloc o')).2.2.2.2.2.2.2.1
    have y8 := fun o o' => (free9 ((hz.alloc o).alloc o')).2.2.2.2.2.2.2.2
    have Hz := Lib.hid hz
    have Hkw := Lib.hid hkw
    clear hz hkw hk1 hb hb0 hz0 hk0 HE
    go_wp2_with fail
    (try simp only [Exit.inBlock, Exit.then])
    refine ret_lay (w0 := w) (w := (W1.alloc _).alloc _) rfl _ rfl ((Hz.out.alloc _).alloc _) ((Hkw.out.alloc _).alloc _) (hB0 ▸ HB.out) Tryd.underlying109 rfl size_layout rfl rfl ?_
    intro X hX
    exact ⟨rfl, hX⟩
  | true =>
    obtain ⟨F, G, e1, e2⟩ := fns_yes k hi
    have hE1 := err_valid (k := k) (wd := wd) (mk := mk) (n := n)
    have hE2 := err_rest (k := k) (wd := wd) (mk := mk) (n := n) hi
    have hE3 := err_len (k := k) (wd := wd) (mk := mk) (n := n) hi
    have hE4 := err_neg (k := k) (wd := wd) (mk := mk) (n := n)
    rw [hi, e1, e2] at HT
    rw [e1, e2] at HV
    rw [e1, e2]
    clear hi e1 e2
    generalize decide (mn k ≤ wd ∧ wd ≤ mx k ∧ mk / 2 ^ wd.toNat = 0) = v at *
    generalize mn k = a1 at *
    generalize mx k = a2 at *
    generalize hl k = a3 at *
    generalize err k wd mk n = er at *
    have HR : Hid (er = if v = false ∨ n < 0 ∨ (0 < n ∧ a3 = false) then 2 else if 4096 < n then 5 else 0) := Lib.hid (by
      cases v with
      | false => rw [hE1 rfl, if_pos (.inl rfl)]
      | true =>
        by_cases h1 : n < 0
        · rw [hE4 h1, if_pos (.inr (.inl h1))]
        · by_cases h2 : 0 < n ∧ a3 = false
          · rw [hE3 h2.1 h2.2, if_pos (.inr (.inr h2))]
          · rw [hE2 rfl h1 h2]
            refine (if_neg ?_).symm
            rintro (h | h | h)
            · cases h
            · exact h1 h
            · exact h2 h)
    clear hE1 hE2 hE3 hE4
    go_enter Tryd.func61, Tryd.ntmps61
    go_wp2_with fail
    refine (HT.out _).mono ?_
    rintro e W1 ⟨rfl, hk1⟩
    have hb := (hb0 _).keep0 hk1
    have hz := (hz0 _).keep0 hk1
    have hkw := (hk0 _ _).trans hk1
    have HB : Hid (w.heap.size ≤ w.heap.size + 1) := Lib.hid (Nat.le_succ _)
    generalize w.heap.size + 1 = B4 at *
    generalize hB0 : w.heap.size = B0 at *
    have b0 := fun o => (cells3 (hb.alloc o)).1
    have b1 := fun o => (cells3 (hb.alloc o)).2.1
    have b2 := fun o => (cells3 (hb.alloc o)).2.2
    have Hz := Lib.hid hz
    have Hkw := Lib.hid hkw
    have Hb := Lib.hid hb
    clear hz hkw hk1 hb hb0 hz0 hk0 HE
    go_wp2_with fail
    refine (HV.out _).mono ?_
    rintro e W2 ⟨rfl, hk2⟩
    have hl := after_lay _ hk2
    have hz := ((Hz.out.alloc _).alloc _).keep0 hk2
    have hkw := ((Hkw.out.alloc _).alloc _).trans hk2
    clear hk2 Hz Hkw Hb b0 b1 b2
    generalize W1.heap.size + 1 = B8 at *
    obtain ⟨x0, x1, x2, x3, x4, x5, x6, x7, x8⟩ := cells9 hl
    obtain ⟨z0, z1, z2, z3, z4, z5, z6, z7, z8⟩ := cells9 hz
    obtain ⟨y0, y1, y2, y3, y4, y5, y6, y7, y8⟩ := free9 hz
    have Hz := Lib.hid hz
    have Hkw := Lib.hid hkw
    clear hz hkw hl HT HV
    cases v with
    | false =>
      obtain rfl : er = 2 := HR.out.trans (if_pos (.inl rfl))
      clear HR
      go_wp2_with fail
      (try simp only [Exit.inBlock, Exit.then])
      refine ret_lay (w0 := w) (w := W2) rfl _ rfl Hz.out Hkw.out (hB0 ▸ HB.out) Tryd.underlying109 rfl size_layout rfl rfl ?_
      intro X hX
      exact ⟨rfl, hX⟩
    | true =>
      by_cases h1 : n < 0
      · obtain rfl : er = 2 := HR.out.trans (if_pos (.inr (.inl h1)))
        clear HR
        go_wp2_with fail
        (try simp only [Exit.inBlock, Exit.then])
        refine ret_lay (w0 := w) (w := W2) rfl _ rfl Hz.out Hkw.out (hB0 ▸ HB.out) Tryd.underlying109 rfl size_layout rfl rfl ?_
        intro X hX
        exact ⟨rfl, hX⟩
      · by_cases h2 : 0 < n
        · cases a3 with
          | false =>
            obtain rfl : er = 2 := HR.out.trans (if_pos (.inr (.inr ⟨h2, rfl⟩)))
            clear HR
            go_wp2_with fail
            (try simp only [Exit.inBlock, Exit.then])
            refine ret_lay (w0 := w) (w := W2) rfl _ rfl Hz.out Hkw.out (hB0 ▸ HB.out) Tryd.underlying109 rfl size_layout rfl rfl ?_
            intro X hX
            exact ⟨rfl, hX⟩
          | true =>
            by_cases h3 : 4096 < n
            · obtain rfl : er = 5 := HR.out.trans ((if_neg (by rintro (h | h | h); cases h; exact h1 h; cases h.2)).trans (if_pos h3))
              clear HR
              go_wp2_with fail
              (try simp only [Exit.inBlock, Exit.then])
              refine ret_lay (w0 := w) (w := W2) rfl _ rfl Hz.out Hkw.out (hB0 ▸ HB.out) Tryd.underlying109 rfl size_layout rfl rfl ?_
              intro X hX
              exact ⟨rfl, hX⟩
            · obtain rfl : er = 0 := HR.out.trans ((if_neg (by rintro (h | h | h); cases h; exact h1 h; cases h.2)).trans (if_neg h3))
              clear HR
              go_wp2_with fail
              (try simp only [Exit.inBlock, Exit.then])
              refine ret_lay (w0 := w) (w := W2) rfl _ rfl Hz.out Hkw.out (hB0 ▸ HB.out) Tryd.underlying109 rfl size_layout rfl rfl ?_
              intro X hX
              exact ⟨rfl, hX⟩
        · have h3 : ¬ 4096 < n := by omega
          obtain rfl : er = 0 := HR.out.trans ((if_neg (by rintro (h | h | h); cases h; exact h1 h; exact h2 h.1)).trans (if_neg h3))
          clear HR
          go_wp2_with fail
          (try simp only [Exit.inBlock, Exit.then])
          refine ret_lay (w0 := w) (w := W2) rfl _ rfl Hz.out Hkw.out (hB0 ▸ HB.out) Tryd.underlying109 rfl size_layout rfl rfl ?_
          intro X hX
          exact ⟨rfl, hX⟩
end Go.Proofs.YtpnjblledbihcaaDoor.Kd

/-
  The contracts of Check and Slots; what a layout's functions answer.
-/
namespace Go.Proofs.YtpnjblledbihcaaDoor.Kd
open Go.RowKit Go.Proofs.YtpnjblledbihcaaDoor.Ar Go.Maps
set_option linter.unusedVariables false

theorem err_zero {k : Nat} {wd : Int} {mk : Nat} {n : Int} (h : err k wd mk n = 0) : may k wd mk ∧ 0 ≤ n ∧ n ≤ 4096 ∧ (k = 1 → n = 0) := by
  unfold err at h
  by_cases c : ¬ may k wd mk ∨ n < 0 ∨ (0 < n ∧ k = 1)
  · rw [if_pos c] at h; cases h
  · rw [if_neg c] at h
    by_cases c2 : 4096 < n
    · rw [if_pos c2] at h; cases h
    · by_cases hm : may k wd mk
      · exact ⟨hm, by omega, by omega, by omega⟩
      · exact absurd (.inl hm) c
theorem may_kind {k : Nat} {wd : Int} {mk : Nat} (h : may k wd mk) : isKind k = true ∧ 0 ≤ wd ∧ wd ≤ 64 ∧ (k = 1 ∨ k = 2 ∨ k = 3 ∨ k = 4) ∧ (k = 3 → 1 ≤ wd ∧ wd ≤ 16) := by
  have hi := ((may_iff k wd mk).1 h).1
  have h1 := h.1
  have h4 : k = 1 ∨ k = 2 ∨ k = 3 ∨ k = 4 := of_decide_eq_true hi
  exact ⟨hi, by omega, by omega, h4, fun e => by omega⟩
theorem mul_bound {a b A B : Int} (h0 : 0 ≤ a) (h1 : a ≤ A) (h2 : 0 ≤ b) (h3 : b ≤ B) : 0 ≤ a * b ∧ a * b ≤ A * B :=
  ⟨Int.mul_nonneg h0 h2, Int.mul_le_mul h1 h3 h2 (by omega)⟩
theorem slots_bound {k : Nat} {wd : Int} {mk : Nat} {n : Int} (h : err k wd mk n = 0) : 0 ≤ slots k wd n ∧ slots k wd n ≤ 65536 := by
  obtain ⟨hm, h0, h1, _⟩ := err_zero h
  obtain ⟨_, w0, w1, _, w3⟩ := may_kind hm
  unfold slots
  by_cases c1 : k = 1
  · rw [if_pos c1]; omega
  · rw [if_neg c1]
    by_cases c3 : k = 3
    · rw [if_pos c3]
      exact mul_bound h0 h1 (by omega) (w3 c3).2
    · rw [if_neg c3]; omega
/-- What a layout's two functions are, and answer. -/
structure Fns (k : Nat) (wd : Int) (mk : Nat) (n : Int) (i j : Nat) : Prop where
  sl : slF k = fn i
  rf : rfF k = fn j
  inSl : ∀ args x, (callFunc i args).run Tryd.prog x = .ok (.enter i args) x
  inRf : ∀ args x, (callFunc j args).run Tryd.prog x = .ok (.enter j args) x
  doSl : ∀ x, Calls Tryd.prog i #[layV k wd mk n (mn k) (mx k) (hl k) (fn i) (fn j)] x fun e w' => e = .returned (.int .i64 (slots k wd n)) ∧ Kept [] x w'
  doRf : ∀ (s : Nat) x, (s : Int) < slots k wd n → Calls Tryd.prog j #[layV k wd mk n (mn k) (mx k) (hl k) (fn i) (fn j), .int .i64 (s : Int)] x fun e w' => e = .returned (.bool (isRef k wd mk s)) ∧ Kept [] x w'
theorem fns {k : Nat} {wd : Int} {mk : Nat} {n : Int} (h : err k wd mk n = 0) (hm : mk < 18446744073709551616) : ∃ i j, Fns k wd mk n i j := by
  have hb := slots_bound h
  obtain ⟨hy, h0, h1, _⟩ := err_zero h
  obtain ⟨_, w0, w1, hk, w3⟩ := may_kind hy
  rcases hk with rfl | rfl | rfl | rfl
  · refine ⟨_, _, rfl, rfl, fun _ _ => by kernel_rfl, fun _ _ => by kernel_rfl, fun x => words_ok _ _ _ _ _ _ _ _ _ x, fun s x hs => ?_⟩
    have hs' : (s : Int) < wd := hs
    have := masked_ok 1 wd.toNat mk n (mn 1) (mx 1) (hl 1) (fn 84) (fn 85) s x (by omega) (by omega) (by omega) hm
    rwa [Int.toNat_of_nonneg w0] at this
  · exact ⟨_, _, rfl, rfl, fun _ _ => by kernel_rfl, fun _ _ => by kernel_rfl, fun x => length_ok _ _ _ _ _ _ _ _ _ x, fun s x hs => always_ok _ _ _ _ _ _ _ _ _ _ x⟩
  · refine ⟨_, _, rfl, rfl, fun _ _ => by kernel_rfl, fun _ _ => by kernel_rfl, fun x => elements_ok _ _ _ _ _ _ _ _ _ x (by have : slots 3 wd n = n * wd := rfl; omega) (by have : slots 3 wd n = n * wd := rfl; omega), fun s x hs => ?_⟩
    have := masked_ok 3 wd.toNat mk n (mn 3) (mx 3) (hl 3) (fn 88) (fn 85) s x (by have := w3 rfl; omega) (by omega) (by omega) hm
    rwa [Int.toNat_of_nonneg w0] at this
  · exact ⟨_, _, rfl, rfl, fun _ _ => by kernel_rfl, fun _ _ => by kernel_rfl, fun x => length_ok _ _ _ _ _ _ _ _ _ x, fun s x hs => never_ok _ _ _ _ _ _ _ _ _ _ x⟩

set_option maxRecDepth 100000 in
theorem check_ok (k : Nat) (wd : Int) (mk : Nat) (hk : k < 256) (hm : mk < 18446744073709551616) (w : World) :
    Calls Tryd.prog 67 #[typV k wd mk] w fun e w' => e = .returned (.int .i64 (err k wd mk 0)) ∧ Kept [] w w' := by
  have HL := Lib.hid (fun x => layoutOf_ok k wd mk 0 hk hm x)
  have hka : ∀ (x : World) (o : Obj), Kept [] x (x.alloc o) := fun x o => (Kept.refl [] x).alloc o
  unfold typV layT layV lay0 at *
  by_cases h : err k wd mk 0 = 0
  · obtain ⟨F, G, e1, e2⟩ := fns_yes k (may_kind (err_zero h).1).1
    simp only [h, if_true, e1, e2] at HL ⊢
    clear h e1 e2
    generalize mn k = a1 at *
    generalize mx k = a2 at *
    generalize hl k = a3 at *
    go_enter Tryd.func67, Tryd.ntmps67
    go_wp2_with fail
    refine (HL.out _).mono ?_
    rintro e W1 ⟨rfl, hk1⟩
    have hk2 := Lib.hid ((hka w _).trans hk1)
    clear hk1
    go_wp2_with fail
    go_ret
    exact ⟨rfl, hk2.out.alloc _⟩
  · simp only [h, if_false] at HL
    generalize err k wd mk 0 = er at *
    go_enter Tryd.func67, Tryd.ntmps67
    go_wp2_with fail
    refine (HL.out _).mono ?_
    rintro e W1 ⟨rfl, hk1⟩
    have hk2 := Lib.hid ((hka w _).trans hk1)
    clear hk1
    go_wp2_with fail
    go_ret
    exact ⟨rfl, hk2.out.alloc _⟩
/-- What Slots answers. -/
def slotsR (k : Nat) (wd : Int) (mk : Nat) (n : Int) : Int := if err k wd mk n = 0 then slots k wd n else 0
set_option maxRecDepth 100000 in
theorem slots_ok (k : Nat) (wd : Int) (mk : Nat) (n : Int) (hk : k < 256) (hm : mk < 18446744073709551616) (w : World) :
    Calls Tryd.prog 45 #[typV k wd mk, .int .i64 n] w fun e w' => e = .returned (.tuple #[.int .i64 (slotsR k wd mk n), .int .i64 (err k wd mk n)]) ∧ Kept [] w w' := by
  have HL := Lib.hid (fun x => layoutOf_ok k wd mk n hk hm x)
  have hka : ∀ (x : World) (o : Obj), Kept [] x (x.alloc o) := fun x o => (Kept.refl [] x).alloc o
  unfold slotsR typV layT lay0 at *
  by_cases h : err k wd mk n = 0
  · obtain ⟨i, j, hF⟩ := fns h hm
    have HS := Lib.hid hF.doSl
    have e1 := hF.sl
    have e2 := hF.rf
    have cs := hF.inSl
    unfold fn layV at *
    simp only [h, if_true, e1, e2] at HL ⊢
    clear h hF e1 e2
    generalize mn k = a1 at *
    generalize mx k = a2 at *
    generalize hl k = a3 at *
    generalize slots k wd n = sl at *
    go_enter Tryd.func45, Tryd.ntmps45
    go_wp2_with fail
    refine (HL.out _).mono ?_
    rintro e W1 ⟨rfl, hk1⟩
    have hk2 := Lib.hid ((hka w _).trans hk1)
    clear hk1
    go_wp2_with fail
    refine (HS.out _).mono ?_
    rintro e W2 ⟨rfl, hk3⟩
    go_wp2_with fail
    go_ret2
    exact ⟨rfl, (hk2.out.alloc _).trans hk3⟩
  · simp only [h, if_false] at HL ⊢
    have he : (err k wd mk n != 0) = true := by rw [bne_iff_ne]; exact h
    generalize err k wd mk n = er at *
    go_enter Tryd.func45, Tryd.ntmps45
    go_wp2_with fail
    refine (HL.out _).mono ?_
    rintro e W1 ⟨rfl, hk1⟩
    have hk2 := Lib.hid ((hka w _).trans hk1)
    clear hk1
    go_wp2_with fail
    go_ret2
    exact ⟨rfl, hk2.out.alloc _⟩
end Go.Proofs.YtpnjblledbihcaaDoor.Kd

/-
  The contract of Size.
-/
namespace Go.Proofs.YtpnjblledbihcaaDoor.Kd
open Go.RowKit Go.Proofs.YtpnjblledbihcaaDoor.Ar Go.Maps
set_option linter.unusedVariables false

/-- What Size answers. -/
def sizeR (k : Nat) (wd : Int) (mk : Nat) (n : Int) : Int := if err k wd mk n = 0 then (slots k wd n + 2) / 2 else 0
set_option maxRecDepth 100000 in
theorem size_ok (k : Nat) (wd : Int) (mk : Nat) (n : Int) (hk : k < 256) (hm : mk < 18446744073709551616) (w : World) :
    Calls Tryd.prog 81 #[typV k wd mk, .int .i64 n] w fun e w' => e = .returned (.tuple #[.int .i64 (sizeR k wd mk n), .int .i64 (err k wd mk n)]) ∧ Kept [] w w' := by
  have HL := Lib.hid (fun x => slots_ok k wd mk n hk hm x)
  have hka : ∀ (x : World) (o : Obj), Kept [] x (x.alloc o) := fun x o => (Kept.refl [] x).alloc o
  unfold sizeR slotsR typV at *
  by_cases h : err k wd mk n = 0
  · obtain ⟨b0, b1⟩ := slots_bound h
    simp only [h, if_true] at HL ⊢
    clear h
    generalize slots k wd n = sl at *
    go_enter Tryd.func81, Tryd.ntmps81
    go_wp2_with fail
    refine (HL.out _).mono ?_
    rintro e W1 ⟨rfl, hk1⟩
    have hk2 := Lib.hid ((hka w _).trans hk1)
    clear hk1
    go_wp2_with fail
    go_ret2
    refine ⟨?_, hk2.out⟩
    show Ending.returned (.tuple #[.int .i64 _, _]) = _
    congr 5
    try omega
  · simp only [h, if_false] at HL ⊢
    have he : (err k wd mk n != 0) = true := by rw [bne_iff_ne]; exact h
    generalize err k wd mk n = er at *
    go_enter Tryd.func81, Tryd.ntmps81
    go_wp2_with fail
    refine (HL.out _).mono ?_
    rintro e W1 ⟨rfl, hk1⟩
    have hk2 := Lib.hid ((hka w _).trans hk1)
    clear hk1
    go_wp2_with fail
    go_ret2
    exact ⟨rfl, hk2.out⟩
end Go.Proofs.YtpnjblledbihcaaDoor.Kd

/-
  The document's May: which types may be.
-/
namespace Go.Proofs.YtpnjblledbihcaaDoor.Kd
open Go.RowKit Go.Proofs.YtpnjblledbihcaaDoor.Ar Go.Maps
set_option linter.unusedVariables false

theorem bits_zero {mk wd : Nat} (hm : mk < 18446744073709551616) (h : ∀ j, wd ≤ j → j < 64 → ¬ mk / 2 ^ j % 2 = 1) : mk / 2 ^ wd = 0 := by
  refine Nat.eq_of_testBit_eq fun i => ?_
  rw [Nat.zero_testBit, Nat.testBit_div_two_pow]
  by_cases c : i + wd < 64
  · rw [Nat.testBit_eq_decide_div_mod_eq]
    exact decide_eq_false (h (i + wd) (by omega) c)
  · refine Nat.testBit_lt_two_pow (Nat.lt_of_lt_of_le hm ?_)
    exact Nat.pow_le_pow_right (n := 2) (by decide) (show 64 ≤ i + wd by omega)
theorem bits_some {mk wd j : Nat} (hj : wd ≤ j) (h : mk / 2 ^ j % 2 = 1) : ¬ mk / 2 ^ wd = 0 := by
  intro h0
  have : mk / 2 ^ j = 0 := by
    rw [show j = wd + (j - wd) by omega, Nat.pow_add, ← Nat.div_div_eq_div_mul, h0, Nat.zero_div]
  rw [this] at h
  cases h
theorem bit_int (mk j : Nat) : ((mk : Int) / 2 ^ j) = ((mk / 2 ^ j : Nat) : Int) := by rw [Int.natCast_ediv, Int.natCast_pow]; rfl
theorem bit_test (mk j : Nat) : (((mk : Int) / 2 ^ j).tmod 2 == 1) = decide (mk / 2 ^ j % 2 = 1) := by
  rw [bit_int, Int.tmod_eq_emod_of_nonneg (Int.natCast_nonneg _)]
  generalize mk / 2 ^ j = x
  by_cases h : x % 2 = 1
  · rw [decide_eq_true h, beq_iff_eq]
    omega
  · rw [decide_eq_false h, beq_eq_false_iff_ne]
    omega
set_option maxRecDepth 100000 in
set_option maxHeartbeats 4000000 in
theorem may_in1 (wd mk : Nat) (hw : wd ≤ 64)  (hm : mk < 18446744073709551616) (w : World) :
    Calls Tryd.prog 51 #[.agg #[.int .u8 1, .int .i64 (wd : Int), .int .u64 (mk : Int)]] w fun e w' => e = .returned (.bool (decide (mk / 2 ^ wd = 0))) ∧ Kept [] w w' := by
  have hH : Has (w.alloc (.cells #[.int .u8 1, .int .i64 (wd : Int), .int .u64 (mk : Int)] 55)) w.heap.size 55 [.int .u8 1, .int .i64 (wd : Int), .int .u64 (mk : Int)] := Has.new w _ _
  have hK : Kept [] w (w.alloc (.cells #[.int .u8 1, .int .i64 (wd : Int), .int .u64 (mk : Int)] 55)) := (Kept.refl [] w).alloc _
  go_enter Tryd.func51, Tryd.ntmps51
  go_wp2_with fail
  generalize w.alloc (.cells #[.int .u8 1, .int .i64 (wd : Int), .int .u64 (mk : Int)] 55) = W at *
  generalize w.heap.size = B at *
  obtain ⟨c0, c1, c2⟩ := cells3 hH
  have HK := Lib.hid hK
  clear hH hK
  go_loopw [4] (fun t wr => ∃ j : Nat, t = .int .i64 (j : Int) ∧ wd ≤ j ∧ j ≤ 64 ∧ Hid (∀ i, wd ≤ i → i < j → ¬ mk / 2 ^ i % 2 = 1) ∧ wr = W) (fun t _ => 64 - (intOf t).toNat)
  case atStart => exact ⟨wd, rfl, Nat.le_refl _, hw, Lib.hid (fun i h1 h2 => by omega), rfl⟩
  case round =>
    obtain ⟨j, rfl, hj, hj2, hr, rfl⟩ := hrel
    by_cases hlt : j < 64
    · have ht := bit_test mk j
      cases hb : decide (mk / 2 ^ j % 2 = 1) with
      | true =>
        rw [hb] at ht
        have HS := Lib.hid (bits_some hj (of_decide_eq_true hb))
        clear hb hr
        go_wp2_with fail
        go_ret
        exact ⟨by rw [decide_eq_false HS.out]; rfl, HK.out⟩
      | false =>
        rw [hb] at ht
        have HN : Hid (∀ i, wd ≤ i → i < j + 1 → ¬ mk / 2 ^ i % 2 = 1) := Lib.hid (fun i h1 h2 => by
          by_cases e : i = j
          · subst e; exact of_decide_eq_false hb
          · exact hr.out i h1 (by omega))
        clear hb hr
        go_wp2_with fail
        go_roundw
        case rel => exact ⟨j + 1, by go_num, by omega, by omega, HN, trivial⟩
        case measure => simp [intOf] <;> omega
    · obtain rfl : j = 64 := by omega
      have HZ := Lib.hid (bits_zero hm hr.out)
      clear hr
      go_wp2_with fail
      go_ret
      exact ⟨by rw [decide_eq_true HZ.out]; rfl, HK.out⟩
set_option maxRecDepth 100000 in
set_option maxHeartbeats 4000000 in
theorem may_in3 (wd mk : Nat) (hw : wd ≤ 64) (hw1 : 1 ≤ wd) (hw2 : wd ≤ 16) (hm : mk < 18446744073709551616) (w : World) :
    Calls Tryd.prog 51 #[.agg #[.int .u8 3, .int .i64 (wd : Int), .int .u64 (mk : Int)]] w fun e w' => e = .returned (.bool (decide (mk / 2 ^ wd = 0))) ∧ Kept [] w w' := by
  have hH : Has (w.alloc (.cells #[.int .u8 3, .int .i64 (wd : Int), .int .u64 (mk : Int)] 55)) w.heap.size 55 [.int .u8 3, .int .i64 (wd : Int), .int .u64 (mk : Int)] := Has.new w _ _
  have hK : Kept [] w (w.alloc (.cells #[.int .u8 3, .int .i64 (wd : Int), .int .u64 (mk : Int)] 55)) := (Kept.refl [] w).alloc _
  go_enter Tryd.func51, Tryd.ntmps51
  go_wp2_with fail
  generalize w.alloc (.cells #[.int .u8 3, .int .i64 (wd : Int), .int .u64 (mk : Int)] 55) = W at *
  generalize w.heap.size = B at *
  obtain ⟨c0, c1, c2⟩ := cells3 hH
  have HK := Lib.hid hK
  clear hH hK
  go_loopw [4] (fun t wr => ∃ j : Nat, t = .int .i64 (j : Int) ∧ wd ≤ j ∧ j ≤ 64 ∧ Hid (∀ i, wd ≤ i → i < j → ¬ mk / 2 ^ i % 2 = 1) ∧ wr = W) (fun t _ => 64 - (intOf t).toNat)
  case atStart => exact ⟨wd, rfl, Nat.le_refl _, hw, Lib.hid (fun i h1 h2 => by omega), rfl⟩
  case round =>
    obtain ⟨j, rfl, hj, hj2, hr, rfl⟩ := hrel
    by_cases hlt : j < 64
    · have ht := bit_test mk j
      cases hb : decide (mk / 2 ^ j % 2 = 1) with
      | true =>
        rw [hb] at ht
        have HS := Lib.hid (bits_some hj (of_decide_eq_true hb))
        clear hb hr
        go_wp2_with fail
        go_ret
        exact ⟨by rw [decide_eq_false HS.out]; rfl, HK.out⟩
      | false =>
        rw [hb] at ht
        have HN : Hid (∀ i, wd ≤ i → i < j + 1 → ¬ mk / 2 ^ i % 2 = 1) := Lib.hid (fun i h1 h2 => by
          by_cases e : i = j
          · subst e; exact of_decide_eq_false hb
          · exact hr.out i h1 (by omega))
        clear hb hr
        go_wp2_with fail
        go_roundw
        case rel => exact ⟨j + 1, by go_num, by omega, by omega, HN, trivial⟩
        case measure => simp [intOf] <;> omega
    · obtain rfl : j = 64 := by omega
      have HZ := Lib.hid (bits_zero hm hr.out)
      clear hr
      go_wp2_with fail
      go_ret
      exact ⟨by rw [decide_eq_true HZ.out]; rfl, HK.out⟩
set_option maxRecDepth 100000 in
set_option maxHeartbeats 4000000 in
theorem may_in2 (wd mk : Nat) (hw : wd ≤ 64) (hw0 : wd = 0) (hm : mk < 18446744073709551616) (w : World) :
    Calls Tryd.prog 51 #[.agg #[.int .u8 2, .int .i64 (wd : Int), .int .u64 (mk : Int)]] w fun e w' => e = .returned (.bool (decide (mk / 2 ^ wd = 0))) ∧ Kept [] w w' := by
  have hH : Has (w.alloc (.cells #[.int .u8 2, .int .i64 (wd : Int), .int .u64 (mk : Int)] 55)) w.heap.size 55 [.int .u8 2, .int .i64 (wd : Int), .int .u64 (mk : Int)] := Has.new w _ _
  have hK : Kept [] w (w.alloc (.cells #[.int .u8 2, .int .i64 (wd : Int), .int .u64 (mk : Int)] 55)) := (Kept.refl [] w).alloc _
  have hz : ((wd : Int) != 0) = false := by rw [hw0]; rfl
  clear hw0
  go_enter Tryd.func51, Tryd.ntmps51
  go_wp2_with fail
  generalize w.alloc (.cells #[.int .u8 2, .int .i64 (wd : Int), .int .u64 (mk : Int)] 55) = W at *
  generalize w.heap.size = B at *
  obtain ⟨c0, c1, c2⟩ := cells3 hH
  have HK := Lib.hid hK
  clear hH hK
  go_loopw [4] (fun t wr => ∃ j : Nat, t = .int .i64 (j : Int) ∧ wd ≤ j ∧ j ≤ 64 ∧ Hid (∀ i, wd ≤ i → i < j → ¬ mk / 2 ^ i % 2 = 1) ∧ wr = W) (fun t _ => 64 - (intOf t).toNat)
  case atStart => exact ⟨wd, rfl, Nat.le_refl _, hw, Lib.hid (fun i h1 h2 => by omega), rfl⟩
  case round =>
    obtain ⟨j, rfl, hj, hj2, hr, rfl⟩ := hrel
    by_cases hlt : j < 64
    · have ht := bit_test mk j
      cases hb : decide (mk / 2 ^ j % 2 = 1) with
      | true =>
        rw [hb] at ht
        have HS := Lib.hid (bits_some hj (of_decide_eq_true hb))
        clear hb hr
        go_wp2_with fail
        go_ret
        exact ⟨by rw [decide_eq_false HS.out]; rfl, HK.out⟩
      | false =>
        rw [hb] at ht
        have HN : Hid (∀ i, wd ≤ i → i < j + 1 → ¬ mk / 2 ^ i % 2 = 1) := Lib.hid (fun i h1 h2 => by
          by_cases e : i = j
          · subst e; exact of_decide_eq_false hb
          · exact hr.out i h1 (by omega))
        clear hb hr
        go_wp2_with fail
        go_roundw
        case rel => exact ⟨j + 1, by go_num, by omega, by omega, HN, trivial⟩
        case measure => simp [intOf] <;> omega
    · obtain rfl : j = 64 := by omega
      have HZ := Lib.hid (bits_zero hm hr.out)
      clear hr
      go_wp2_with fail
      go_ret
      exact ⟨by rw [decide_eq_true HZ.out]; rfl, HK.out⟩
set_option maxRecDepth 100000 in
set_option maxHeartbeats 4000000 in
theorem may_in4 (wd mk : Nat) (hw : wd ≤ 64) (hw0 : wd = 0) (hm : mk < 18446744073709551616) (w : World) :
    Calls Tryd.prog 51 #[.agg #[.int .u8 4, .int .i64 (wd : Int), .int .u64 (mk : Int)]] w fun e w' => e = .returned (.bool (decide (mk / 2 ^ wd = 0))) ∧ Kept [] w w' := by
  have hH : Has (w.alloc (.cells #[.int .u8 4, .int .i64 (wd : Int), .int .u64 (mk : Int)] 55)) w.heap.size 55 [.int .u8 4, .int .i64 (wd : Int), .int .u64 (mk : Int)] := Has.new w _ _
  have hK : Kept [] w (w.alloc (.cells #[.int .u8 4, .int .i64 (wd : Int), .int .u64 (mk : Int)] 55)) := (Kept.refl [] w).alloc _
  have hz : ((wd : Int) != 0) = false := by rw [hw0]; rfl
  clear hw0
  go_enter Tryd.func51, Tryd.ntmps51
  go_wp2_with fail
  generalize w.alloc (.cells #[.int .u8 4, .int .i64 (wd : Int), .int .u64 (mk : Int)] 55) = W at *
  generalize w.heap.size = B at *
  obtain ⟨c0, c1, c2⟩ := cells3 hH
  have HK := Lib.hid hK
  clear hH hK
  go_loopw [4] (fun t wr => ∃ j : Nat, t = .int .i64 (j : Int) ∧ wd ≤ j ∧ j ≤ 64 ∧ Hid (∀ i, wd ≤ i → i < j → ¬ mk / 2 ^ i % 2 = 1) ∧ wr = W) (fun t _ => 64 - (intOf t).toNat)
  case atStart => exact ⟨wd, rfl, Nat.le_refl _, hw, Lib.hid (fun i h1 h2 => by omega), rfl⟩
  case round =>
    obtain ⟨j, rfl, hj, hj2, hr, rfl⟩ := hrel
    by_cases hlt : j < 64
    · have ht := bit_test mk j
      cases hb : decide (mk / 2 ^ j % 2 = 1) with
      | true =>
        rw [hb] at ht
        have HS := Lib.hid (bits_some hj (of_decide_eq_true hb))
        clear hb hr
        go_wp2_with fail
        go_ret
        exact ⟨by rw [decide_eq_false HS.out]; rfl, HK.out⟩
      | false =>
        rw [hb] at ht
        have HN : Hid (∀ i, wd ≤ i → i < j + 1 → ¬ mk / 2 ^ i % 2 = 1) := Lib.hid (fun i h1 h2 => by
          by_cases e : i = j
          · subst e; exact of_decide_eq_false hb
          · exact hr.out i h1 (by omega))
        clear hb hr
        go_wp2_with fail
        go_roundw
        case rel => exact ⟨j + 1, by go_num, by omega, by omega, HN, trivial⟩
        case measure => simp [intOf] <;> omega
    · obtain rfl : j = 64 := by omega
      have HZ := Lib.hid (bits_zero hm hr.out)
      clear hr
      go_wp2_with fail
      go_ret
      exact ⟨by rw [decide_eq_true HZ.out]; rfl, HK.out⟩
set_option maxRecDepth 100000 in
theorem may_out1a (wd : Int) (mk : Nat) (h : wd < 0) (w : World) :
    Calls Tryd.prog 51 #[.agg #[.int .u8 1, .int .i64 wd, .int .u64 (mk : Int)]] w fun e w' => e = .returned (.bool false) ∧ Kept [] w w' := by
  go_enter Tryd.func51, Tryd.ntmps51
  go_wp2_with fail
  go_ret
  exact ⟨rfl, (Kept.refl [] w).alloc _⟩
set_option maxRecDepth 100000 in
theorem may_out1b (wd : Int) (mk : Nat) (h0 : ¬ wd < 0) (h : 64 < wd) (w : World) :
    Calls Tryd.prog 51 #[.agg #[.int .u8 1, .int .i64 wd, .int .u64 (mk : Int)]] w fun e w' => e = .returned (.bool false) ∧ Kept [] w w' := by
  go_enter Tryd.func51, Tryd.ntmps51
  go_wp2_with fail
  go_ret
  exact ⟨rfl, (Kept.refl [] w).alloc _⟩
set_option maxRecDepth 100000 in
theorem may_out3a (wd : Int) (mk : Nat) (h : wd < 1) (w : World) :
    Calls Tryd.prog 51 #[.agg #[.int .u8 3, .int .i64 wd, .int .u64 (mk : Int)]] w fun e w' => e = .returned (.bool false) ∧ Kept [] w w' := by
  go_enter Tryd.func51, Tryd.ntmps51
  go_wp2_with fail
  go_ret
  exact ⟨rfl, (Kept.refl [] w).alloc _⟩
set_option maxRecDepth 100000 in
theorem may_out3b (wd : Int) (mk : Nat) (h0 : ¬ wd < 1) (h : 16 < wd) (w : World) :
    Calls Tryd.prog 51 #[.agg #[.int .u8 3, .int .i64 wd, .int .u64 (mk : Int)]] w fun e w' => e = .returned (.bool false) ∧ Kept [] w w' := by
  go_enter Tryd.func51, Tryd.ntmps51
  go_wp2_with fail
  go_ret
  exact ⟨rfl, (Kept.refl [] w).alloc _⟩
set_option maxRecDepth 100000 in
theorem may_out2 (wd : Int) (mk : Nat) (h : ¬ wd = 0) (w : World) :
    Calls Tryd.prog 51 #[.agg #[.int .u8 2, .int .i64 wd, .int .u64 (mk : Int)]] w fun e w' => e = .returned (.bool false) ∧ Kept [] w w' := by
  have hz : (wd != 0) = true := by rw [bne_iff_ne]; exact h
  go_enter Tryd.func51, Tryd.ntmps51
  go_wp2_with fail
  go_ret
  exact ⟨rfl, (Kept.refl [] w).alloc _⟩
set_option maxRecDepth 100000 in
theorem may_out4 (wd : Int) (mk : Nat) (h : ¬ wd = 0) (w : World) :
    Calls Tryd.prog 51 #[.agg #[.int .u8 4, .int .i64 wd, .int .u64 (mk : Int)]] w fun e w' => e = .returned (.bool false) ∧ Kept [] w w' := by
  have hz : (wd != 0) = true := by rw [bne_iff_ne]; exact h
  go_enter Tryd.func51, Tryd.ntmps51
  go_wp2_with fail
  go_ret
  exact ⟨rfl, (Kept.refl [] w).alloc _⟩
set_option maxRecDepth 100000 in
theorem may_out0 (wd : Int) (mk : Nat) (k : Nat) (c1 : ¬ k = 1) (c2 : ¬ k = 2) (c3 : ¬ k = 3) (c4 : ¬ k = 4) (w : World) :
    Calls Tryd.prog 51 #[.agg #[.int .u8 (k : Int), .int .i64 wd, .int .u64 (mk : Int)]] w fun e w' => e = .returned (.bool false) ∧ Kept [] w w' := by
  have e1 : ((k : Int) == 1) = false := by rw [beq_eq_false_iff_ne]; omega
  have e2 : ((k : Int) == 2) = false := by rw [beq_eq_false_iff_ne]; omega
  have e3 : ((k : Int) == 3) = false := by rw [beq_eq_false_iff_ne]; omega
  have e4 : ((k : Int) == 4) = false := by rw [beq_eq_false_iff_ne]; omega
  clear c1 c2 c3 c4
  go_enter Tryd.func51, Tryd.ntmps51
  go_wp2_with fail
  go_ret
  exact ⟨rfl, (Kept.refl [] w).alloc _⟩
theorem may_ok (k : Nat) (wd : Int) (mk : Nat) (hm : mk < 18446744073709551616) (w : World) :
    Calls Tryd.prog 51 #[typV k wd mk] w fun e w' => e = .returned (.bool (decide (may k wd mk))) ∧ Kept [] w w' := by
  unfold typV
  by_cases c1 : k = 1
  · subst c1
    by_cases h0 : wd < 0
    · rw [decide_eq_false (fun h => by have := h.1; omega)]; exact may_out1a wd mk h0 w
    · by_cases h1 : 64 < wd
      · rw [decide_eq_false (fun h => by have := h.1; omega)]; exact may_out1b wd mk h0 h1 w
      · obtain ⟨v, rfl⟩ := Int.eq_ofNat_of_zero_le (show 0 ≤ wd by omega)
        rw [show decide (may 1 (v : Int) mk) = decide (mk / 2 ^ v = 0) from decide_eq_decide.2 ⟨fun h => h.2, fun h => ⟨by omega, h⟩⟩]
        exact may_in1 v mk (by omega) hm w
  by_cases c3 : k = 3
  · subst c3
    by_cases h0 : wd < 1
    · rw [decide_eq_false (fun h => by have := h.1; omega)]; exact may_out3a wd mk h0 w
    · by_cases h1 : 16 < wd
      · rw [decide_eq_false (fun h => by have := h.1; omega)]; exact may_out3b wd mk h0 h1 w
      · obtain ⟨v, rfl⟩ := Int.eq_ofNat_of_zero_le (show 0 ≤ wd by omega)
        rw [show decide (may 3 (v : Int) mk) = decide (mk / 2 ^ v = 0) from decide_eq_decide.2 ⟨fun h => h.2, fun h => ⟨by omega, h⟩⟩]
        exact may_in3 v mk (by omega) (by omega) (by omega) hm w
  by_cases c2 : k = 2
  · subst c2
    by_cases h0 : wd = 0
    · subst h0
      rw [show decide (may 2 0 mk) = decide (mk / 2 ^ 0 = 0) from decide_eq_decide.2 ⟨fun h => h.2, fun h => ⟨by omega, h⟩⟩]
      exact may_in2 0 mk (by omega) rfl hm w
    · rw [decide_eq_false (fun h => by have := h.1; omega)]; exact may_out2 wd mk h0 w
  by_cases c4 : k = 4
  · subst c4
    by_cases h0 : wd = 0
    · subst h0
      rw [show decide (may 4 0 mk) = decide (mk / 2 ^ 0 = 0) from decide_eq_decide.2 ⟨fun h => h.2, fun h => ⟨by omega, h⟩⟩]
      exact may_in4 0 mk (by omega) rfl hm w
    · rw [decide_eq_false (fun h => by have := h.1; omega)]; exact may_out4 wd mk h0 w
  rw [decide_eq_false (fun h => by have := h.1; omega)]
  exact may_out0 wd mk k c1 c2 c3 c4 w
end Go.Proofs.YtpnjblledbihcaaDoor.Kd

/-
  The document's Slots.
-/
namespace Go.Proofs.YtpnjblledbihcaaDoor.Kd
open Go.RowKit Go.Proofs.YtpnjblledbihcaaDoor.Ar Go.Maps
set_option linter.unusedVariables false

set_option maxRecDepth 100000 in
set_option maxHeartbeats 4000000 in
theorem slotsDoc_ok (k : Nat) (wd : Int) (mk : Nat) (n : Int) (hm : mk < 18446744073709551616) (w : World) :
    Calls Tryd.prog 26 #[typV k wd mk, .int .i64 n] w fun e w' => e = .returned (.tuple #[.int .i64 (slotsR k wd mk n), .int .i64 (err k wd mk n)]) ∧ Kept [] w w' := by
  have HM := Lib.hid (fun x => may_ok k wd mk hm x)
  have hka : ∀ (x : World) (o : Obj), Kept [] x (x.alloc o) := fun x o => (Kept.refl [] x).alloc o
  have hH : Has (w.alloc (.cells #[.int .u8 (k : Int), .int .i64 wd, .int .u64 (mk : Int)] 55)) w.heap.size 55 [.int .u8 (k : Int), .int .i64 wd, .int .u64 (mk : Int)] := Has.new w _ _
  unfold typV at *
  by_cases c1 : may k wd mk
  · rw [decide_eq_true c1] at HM
    obtain ⟨_, w0, w1, hk, w3⟩ := may_kind c1
    by_cases c2 : n < 0
    · have hE := err_neg (k := k) (wd := wd) (mk := mk) c2
      rw [show slotsR k wd mk n = 0 from if_neg (by rw [hE]; decide), hE]
      clear hE
      go_enter Tryd.func26, Tryd.ntmps26
      go_wp2_with fail
      refine (HM.out _).mono ?_
      rintro e W1 ⟨rfl, hk1⟩
      have hk2 := Lib.hid ((hka w _).trans hk1)
      obtain ⟨b0, b1, b2⟩ := cells3 (hH.keep0 hk1)
      clear hk1
      go_wp2_with fail
      go_ret2
      exact ⟨rfl, hk2.out⟩
    · by_cases c3 : k = 1 ∧ 0 < n
      · have hE : err k wd mk n = 2 := by unfold err; rw [if_pos (.inr (.inr ⟨c3.2, c3.1⟩))]
        rw [show slotsR k wd mk n = 0 from if_neg (by rw [hE]; decide), hE]
        obtain ⟨rfl, c4⟩ := c3
        have hn0 : (n != 0) = true := by rw [bne_iff_ne]; omega
        clear hE
        go_enter Tryd.func26, Tryd.ntmps26
        go_wp2_with fail
        refine (HM.out _).mono ?_
        rintro e W1 ⟨rfl, hk1⟩
        have hk2 := Lib.hid ((hka w _).trans hk1)
        obtain ⟨b0, b1, b2⟩ := cells3 (hH.keep0 hk1)
        clear hk1
        go_wp2_with fail
        go_ret2
        exact ⟨rfl, hk2.out⟩
      · have hE : err k wd mk n = if 4096 < n then 5 else 0 := by
          unfold err
          rw [if_neg]
          rintro (h | h | h)
          · exact h c1
          · exact c2 h
          · exact c3 ⟨h.2, h.1⟩
        by_cases c4 : 4096 < n
        · rw [if_pos c4] at hE
          rw [show slotsR k wd mk n = 0 from if_neg (by rw [hE]; decide), hE]
          clear hE
          by_cases c5 : k = 1
          · omega
          · have e1 : ((k : Int) == 1) = false := by rw [beq_eq_false_iff_ne]; omega
            go_enter Tryd.func26, Tryd.ntmps26
            go_wp2_with fail
            refine (HM.out _).mono ?_
            rintro e W1 ⟨rfl, hk1⟩
            have hk2 := Lib.hid ((hka w _).trans hk1)
            obtain ⟨b0, b1, b2⟩ := cells3 (hH.keep0 hk1)
            clear hk1
            go_wp2_with fail
            go_ret2
            exact ⟨rfl, hk2.out⟩
        · rw [if_neg c4] at hE
          obtain ⟨sb0, sb1⟩ := slots_bound hE
          rw [show slotsR k wd mk n = slots k wd n from if_pos hE, hE]
          clear hE
          rcases hk with rfl | rfl | rfl | rfl
          · obtain rfl : n = 0 := by omega
            clear hm c3 c1
            unfold slots
            rw [if_pos rfl]
            go_enter Tryd.func26, Tryd.ntmps26
            go_wp2_with fail
            refine (HM.out _).mono ?_
            rintro e W1 ⟨rfl, hk1⟩
            have hk2 := Lib.hid ((hka w _).trans hk1)
            obtain ⟨b0, b1, b2⟩ := cells3 (hH.keep0 hk1)
            clear hk1
            go_wp2_with fail
            go_ret2
            exact ⟨rfl, hk2.out⟩
          · clear hm c3 c1
            rw [show slots 2 wd n = n from rfl] at *
            go_enter Tryd.func26, Tryd.ntmps26
            go_wp2_with fail
            refine (HM.out _).mono ?_
            rintro e W1 ⟨rfl, hk1⟩
            have hk2 := Lib.hid ((hka w _).trans hk1)
            obtain ⟨b0, b1, b2⟩ := cells3 (hH.keep0 hk1)
            clear hk1
            go_wp2_with fail
            go_ret2
            exact ⟨rfl, hk2.out⟩
          · clear hm c3 c1
            rw [show slots 3 wd n = n * wd from rfl] at *
            have m0 : -9223372036854775808 ≤ n * wd := by omega
            have m1 : n * wd ≤ 9223372036854775807 := by omega
            go_enter Tryd.func26, Tryd.ntmps26
            go_wp2_with fail
            refine (HM.out _).mono ?_
            rintro e W1 ⟨rfl, hk1⟩
            have hk2 := Lib.hid ((hka w _).trans hk1)
            obtain ⟨b0, b1, b2⟩ := cells3 (hH.keep0 hk1)
            clear hk1
            go_wp2_with fail
            go_ret2
            exact ⟨rfl, hk2.out⟩
          · clear hm c3 c1
            rw [show slots 4 wd n = n from rfl] at *
            go_enter Tryd.func26, Tryd.ntmps26
            go_wp2_with fail
            refine (HM.out _).mono ?_
            rintro e W1 ⟨rfl, hk1⟩
            have hk2 := Lib.hid ((hka w _).trans hk1)
            obtain ⟨b0, b1, b2⟩ := cells3 (hH.keep0 hk1)
            clear hk1
            go_wp2_with fail
            go_ret2
            exact ⟨rfl, hk2.out⟩
  · rw [decide_eq_false c1] at HM
    have hE : err k wd mk n = 2 := by unfold err; rw [if_pos (.inl c1)]
    rw [show slotsR k wd mk n = 0 from if_neg (by rw [hE]; decide), hE]
    clear hE
    go_enter Tryd.func26, Tryd.ntmps26
    go_wp2_with fail
    refine (HM.out _).mono ?_
    rintro e W1 ⟨rfl, hk1⟩
    have hk2 := Lib.hid ((hka w _).trans hk1)
    clear hk1
    go_wp2_with fail
    go_ret2
    exact ⟨rfl, hk2.out⟩
end Go.Proofs.YtpnjblledbihcaaDoor.Kd

/-
  The document's Size.
-/
namespace Go.Proofs.YtpnjblledbihcaaDoor.Kd
open Go.RowKit Go.Proofs.YtpnjblledbihcaaDoor.Ar Go.Maps
set_option linter.unusedVariables false

set_option maxRecDepth 100000 in
theorem sizeDoc_ok (k : Nat) (wd : Int) (mk : Nat) (n : Int) (hm : mk < 18446744073709551616) (w : World) :
    Calls Tryd.prog 83 #[typV k wd mk, .int .i64 n] w fun e w' => e = .returned (.tuple #[.int .i64 (sizeR k wd mk n), .int .i64 (err k wd mk n)]) ∧ Kept [] w w' := by
  have HL := Lib.hid (fun x => slotsDoc_ok k wd mk n hm x)
  have hka : ∀ (x : World) (o : Obj), Kept [] x (x.alloc o) := fun x o => (Kept.refl [] x).alloc o
  unfold sizeR slotsR typV at *
  by_cases h : err k wd mk n = 0
  · obtain ⟨b0, b1⟩ := slots_bound h
    simp only [h, if_true] at HL ⊢
    clear h
    obtain ⟨sl, hsl⟩ := Int.eq_ofNat_of_zero_le b0
    rw [hsl] at HL b1 ⊢
    clear hsl b0
    have hb : sl ≤ 65536 := by omega
    go_enter Tryd.func83, Tryd.ntmps83
    go_wp2_with fail
    refine (HL.out _).mono ?_
    rintro e W1 ⟨rfl, hk1⟩
    have hk2 := Lib.hid ((hka w _).trans hk1)
    clear hk1
    go_wp2_with fail
    go_loopw [8] (fun t wr => ∃ g : Nat, t = .int .i64 (g : Int) ∧ g ≤ (sl + 2) / 2 ∧ wr = W1) (fun t _ => 65536 - (intOf t).toNat)
    case atStart => exact ⟨0, rfl, Nat.zero_le _, rfl⟩
    case round =>
      obtain ⟨g, rfl, hg, rfl⟩ := hrel
      by_cases hlt : g * 2 < sl + 1
      · have hlt2 : (g : Int) * 2 < (sl : Int) + 1 := by omega
        go_wp2_with fail
        go_roundw
        case rel => exact ⟨g + 1, by go_num, by omega, trivial⟩
        case measure => simp [intOf] <;> omega
      · have hlt2 : ¬ (g : Int) * 2 < (sl : Int) + 1 := by omega
        have He := Lib.hid (show ((sl : Int) + 2) / 2 = (g : Int) by omega)
        go_wp2_with fail
        go_ret2
        exact ⟨by rw [He.out]; rfl, hk2.out⟩
  · simp only [h, if_false] at HL ⊢
    have he : (err k wd mk n != 0) = true := by rw [bne_iff_ne]; exact h
    generalize err k wd mk n = er at *
    go_enter Tryd.func83, Tryd.ntmps83
    go_wp2_with fail
    refine (HL.out _).mono ?_
    rintro e W1 ⟨rfl, hk1⟩
    have hk2 := Lib.hid ((hka w _).trans hk1)
    clear hk1
    go_wp2_with fail
    go_ret2
    exact ⟨rfl, hk2.out⟩
end Go.Proofs.YtpnjblledbihcaaDoor.Kd

/-
  Rows of numbers ([]int): as cells of a block, as a slice that is seen, as one that was made by appends; make and append as laws.
-/
namespace Go.Proofs.YtpnjblledbihcaaDoor.Ir
open Go.RowKit Go.Proofs.YtpnjblledbihcaaDoor.Ar

/-- A list of numbers as cells. -/
def ints (ws : List Int) : List Value := ws.map (Value.int .i64)
theorem ints_length (ws : List Int) : (ints ws).length = ws.length := List.length_map _
theorem ints_get (ws : List Int) (i : Nat) (h : i < ws.length) : (ints ws)[i]? = some (.int .i64 (ws.getD i 0)) := by
  unfold ints
  rw [List.getElem?_map, List.getElem?_eq_getElem h]
  simp [List.getD, List.getElem?_eq_getElem h]
theorem ints_set (ws : List Int) (i : Nat) (v : Int) : (ints ws).set i (.int .i64 v) = ints (ws.set i v) := by
  unfold ints
  rw [List.map_set]
theorem ints_one (ws : List Int) : ∀ v ∈ ints ws, v.oneCell' = true := by
  intro v hv
  unfold ints at hv
  obtain ⟨x, _, rfl⟩ := List.mem_map.1 hv
  rfl
theorem ints_cut (ws : List Int) (f k j : Nat) (v : Value) (h : (ints ((ws.drop f).take k))[j]? = some v) : (ints ws)[f + j]? = some v := by
  unfold ints at *
  rw [List.getElem?_map, List.getElem?_take] at h
  split at h
  · rw [List.getElem?_drop] at h
    rw [List.getElem?_map]
    exact h
  · simp at h
theorem size_i64 : (Tryd.prog.info? 3).map (·.size) = some 1 := by kernel_rfl
theorem info_i64 : (Tryd.prog.info? 3).map (fun i => (i.zero, i.size, i.bytes)) = some (some (.int .i64 0), 1, 8) := by kernel_rfl
/-- A slice of numbers that reads as a list: an empty one has whatever address. -/
def Seen (w : World) (A : Option Addr) (l : List Int) : Prop := l ≠ [] → ∃ g f, A = some ⟨g, f, none⟩ ∧ g < w.heap.size ∧ ∀ j v, (ints l)[j]? = some v → w.cell? ⟨g, f + j, none⟩ = some v
theorem Seen.keep {w w' : World} {A : Option Addr} {l : List Int} (h : Seen w A l) (hk : ∀ g f, A = some ⟨g, f, none⟩ → g < w.heap.size → w'.heap[g]? = w.heap[g]?) (hs : w.heap.size ≤ w'.heap.size) : Seen w' A l := by
  intro hl
  obtain ⟨g, f, e, hg, hc⟩ := h hl
  exact ⟨g, f, e, by omega, fun j v hv => (World.cell?_of_block (w := w) (hk g f e hg)).trans (hc j v hv)⟩
theorem Seen.keep0 {w w' : World} {A : Option Addr} {l : List Int} (h : Seen w A l) (k : Kept [] w w') : Seen w' A l :=
  h.keep (fun g _ _ hg => k.old g hg (by simp)) k.more
theorem Seen.cells {w : World} {A : Option Addr} {l : List Int} (h : Seen w A l) (hl : l ≠ []) : ∃ g f, A = some ⟨g, f, none⟩ ∧ ∀ j, j < l.length → w.cell? ⟨g, f + j, none⟩ = some (.int .i64 (l.getD j 0)) := by
  obtain ⟨g, f, e, _, hc⟩ := h hl
  exact ⟨g, f, e, fun j hj => hc j _ (ints_get l j hj)⟩
/-- A word of a row that came in, read in a later world. -/
theorem Seen.later {w : World} {A : Option Addr} {l : List Int} (h : Seen w A l) (hl : l ≠ []) : ∃ g f, A = some ⟨g, f, none⟩ ∧ ∀ x, Kept [] w x → ∀ j, j < l.length → x.cell? ⟨g, f + j, none⟩ = some (.int .i64 (l.getD j 0)) := by
  obtain ⟨g, f, e, hg, hc⟩ := h hl
  exact ⟨g, f, e, fun x hx j hj => (World.cell?_of_block (w := w) (hx.old g hg (by simp))).trans (hc j _ (ints_get l j hj))⟩
theorem seen_sub {y : World} {g f : Nat} {l : List Int} (h : Seen y (some ⟨g, f, none⟩) l) (r k : Nat) : Seen y (some ⟨g, f + r, none⟩) ((l.drop r).take k) := by
  intro hne
  obtain ⟨g', f', e, hg, hc⟩ := h (fun h0 => hne (by rw [h0]; simp))
  injection e with e
  injection e with e1 e2
  subst e1 e2
  exact ⟨g, f + r, rfl, hg, fun j v hv => by rw [Nat.add_assoc]; exact hc (r + j) v (ints_cut l r k j v hv)⟩
theorem seen_take {y : World} {g : Nat} {l : List Int} (h : Seen y (some ⟨g, 0, none⟩) l) (k : Nat) : Seen y (some ⟨g, 0, none⟩) (l.take k) := by
  intro hne
  obtain ⟨g', f', e, hg, hc⟩ := h (fun h0 => hne (by rw [h0]; simp))
  refine ⟨g', f', e, hg, fun j v hv => hc j v ?_⟩
  unfold ints at *
  rw [List.map_take, List.getElem?_take] at hv
  split at hv
  · exact hv
  · cases hv
/-- What is left behind a cut of a row, at whatever address an empty rest has. -/
theorem seen_rest {y : World} {g : Nat} {l : List Int} (h : Seen y (some ⟨g, 0, none⟩) l) (r cap : Nat) (hr : r ≤ l.length) (hc : l.length ≤ cap) : Seen y (if cap = r then some ⟨g, 0, none⟩ else some ⟨g, r, none⟩) (l.drop r) := by
  by_cases e : cap = r
  · intro hne
    exact absurd (List.drop_eq_nil_of_le (by omega)) hne
  · rw [if_neg e]
    have hs := seen_sub h r (l.length - r)
    rw [Nat.zero_add, List.take_of_length_le (by rw [List.length_drop]; omega)] at hs
    exact hs
/-- A row of numbers of the call's own. -/
def Row (w : World) (g : Nat) (l : List Int) : Prop := Has w g 3 (ints l)
theorem Row.seen {w : World} {g : Nat} {l : List Int} (h : Row w g l) : Seen w (some ⟨g, 0, none⟩) l :=
  fun _ => ⟨g, 0, rfl, Has.lt h, fun j v hv => by rw [Has.cell h, Nat.zero_add]; exact hv⟩
/-- A slice value that was made by appends alone, with these numbers. -/
def Own (w : World) (v : Value) (l : List Int) : Prop := w.ownsRow 0 3 1 v l.length (ints l)
theorem Own.nil (w : World) : Own w (.slice none 0 0) [] := World.ownsRow_nil w 0 _ 1
/-- It is nil and empty, or lies at the head of a block. -/
theorem Own.form {w : World} {v : Value} {l : List Int} (h : Own w v l) : (v = .slice none 0 0 ∧ l = []) ∨ ∃ g cap, v = .slice (some ⟨g, 0, none⟩) l.length cap ∧ g < w.heap.size ∧ l.length ≤ cap ∧ cap ≤ maxLen := by
  rcases h.2 with ⟨rfl, h0⟩ | ⟨g, cap, cur, rfl, _, hg, hc, hm, _⟩
  · exact .inl ⟨rfl, List.eq_nil_of_length_eq_zero h0⟩
  · exact .inr ⟨g, cap, rfl, (Array.getElem?_eq_some_iff.1 hg).1, hc, hm⟩
theorem Own.cell {w : World} {g n cap : Nat} {l : List Int} (h : Own w (.slice (some ⟨g, 0, none⟩) n cap) l) : ∀ j v, (ints l)[j]? = some v → w.cell? ⟨g, j, none⟩ = some v := by
  intro j v hv
  rcases h.2 with ⟨h1, _⟩ | ⟨g', cap', cur, h1, _, hg, _, _, _, ht⟩
  · cases h1
  · injection h1 with h1 h2 h3
    injection h1 with h1
    injection h1 with h1
    subst h1
    rw [cell_of_row w g j cur _ (0, 0) hg, ← Array.getElem?_toList]
    rw [← ht, List.getElem?_take] at hv
    split at hv
    · exact hv
    · cases hv
theorem Own.seen {w : World} {g n cap : Nat} {l : List Int} (h : Own w (.slice (some ⟨g, 0, none⟩) n cap) l) (hg : g < w.heap.size) : Seen w (some ⟨g, 0, none⟩) l :=
  fun _ => ⟨g, 0, rfl, hg, fun j v hv => by rw [Nat.zero_add]; exact h.cell j v hv⟩
theorem Own.keep {w w' : World} {v : Value} {l : List Int} {row : Option Nat} (h : Own w v l) (hg : w.grownBy w' row) (hne : v.ownBlock = none ∨ v.ownBlock ≠ row) : Own w' v l := World.ownsRow.kept h hg hne
theorem Own.kept {w w' : World} {v : Value} {l : List Int} {S : List Nat} (h : Own w v l) (k : Kept S w w') (hS : ∀ g ∈ S, v.ownBlock ≠ some g) : Own w' v l := by
  refine ⟨h.1, ?_⟩
  rcases h.2 with hn | ⟨g, cap, cur, rfl, hb, hg, rest⟩
  · exact .inl hn
  · refine .inr ⟨g, cap, cur, rfl, hb, ?_, rest⟩
    rw [k.old g (Array.getElem?_eq_some_iff.1 hg).1 fun hs => hS g hs rfl]
    exact hg
theorem Own.keep0 {w w' : World} {v : Value} {l : List Int} (h : Own w v l) (k : Kept [] w w') : Own w' v l := h.kept k fun _ hi => by cases hi
/-- append, where what is appended is a row of numbers that is seen (nil, empty or not). -/
theorem append_numbers {w : World} {ops : Array Oper} {rest : List Oper} {o : Oper} {a : Act} {Q : Exit → Act → World → Prop} (hgd : o.guard = none) (s x : Operand)
    (ho : o.op = .call { callee := .builtin .append, args := #[s, x], argTypes := #[44, 44] })
    (v : Value) (l : List Int) (hs : a.eval s = v) (hown : Own w v l) (A : Option Addr) (m c : Nat) (news : List Int) (hx : a.eval x = .slice A m c) (hm : news.length = m) (hnil : A = none → c = 0) (hseen : Seen w A news)
    (hb : l.length + m ≤ 1073741824)
    (h : ∀ v' w', Own w' v' (l ++ news) → w.grownBy w' v.ownBlock → (v'.ownBlock = v.ownBlock ∨ v'.ownBlock = some w.heap.size) → wpList Tryd.prog ops Q rest (a.put o.dst v') w') : wpList Tryd.prog ops Q (o :: rest) a w := by
  obtain ⟨i0, hi, hz0, hz1, hz2⟩ := info_parts info_i64
  subst hm
  cases A with
  | none =>
    have hn : news = [] := by
      cases news with
      | nil => rfl
      | cons y ys =>
        obtain ⟨g, f, e, _⟩ := hseen (by simp)
        cases e
    subst hn
    obtain rfl := hnil rfl
    refine wpList_append_own_none hgd s x 44 ho 0 3 i0 1 Tryd.underlying44 hi v l.length (ints l) hs hown hx ?_
    exact h v w (by rw [List.append_nil]; exact hown) (World.grownBy.refl w _) (.inl rfl)
  | some ad =>
    refine wpList_append_own_at w hgd s x 44 ho 0 3 i0 (.int .i64 0) 1 8 Tryd.underlying44 hi hz0 hz1 hz2 rfl (by decide) v l.length (ints l) hs hown ad news.length c (ints news) hx (by rw [ints_length, Nat.mul_one]) ?_ (ints_one news) (by unfold maxLen; omega) (by omega) (Nat.zero_le _) ?_
    · intro j u hu
      by_cases hne : news = []
      · subst hne; cases hu
      · obtain ⟨g, f, e, _, hc⟩ := hseen hne
        obtain rfl := Option.some.inj e
        rw [add_at]
        exact hc j u hu
    · intro v' w' h1 h2 _ h4
      refine h v' w' ?_ h2 h4
      unfold Own ints at *
      rw [List.length_append, List.map_append]
      exact h1
theorem Own.block_type {w : World} {g n cap b : Nat} {l : List Int} {t : TypeId} {cs : List Value} (h : Own w (.slice (some ⟨g, 0, none⟩) n cap) l) (h' : Has w b t cs) (ht : t ≠ 3) : b ≠ g := by
  rintro rfl
  rcases h.2 with ⟨h1, _⟩ | ⟨g', cap', cur, h1, _, hg, _⟩
  · cases h1
  · injection h1 with h1
    injection h1 with h1
    injection h1 with h1
    subst h1
    have e := h'.symm.trans hg
    injection e with e
    injection e with _ e
    exact ht e
/-- A slice that a call hands back, as a row of numbers. -/
def Back (w x : World) (A : Option Addr) (c : Nat) (l : List Int) : Prop := (A = none → c = 0) ∧ Seen x A l ∧ Kept [] w x
theorem back_own {w y : World} {v : Value} {l : List Int} (hk : Kept [] w y) (hO : Own y v l) : ∃ A c, v = .slice A l.length c ∧ Back w y A c l := by
  rcases hO.form with ⟨rfl, rfl⟩ | ⟨g', cap', rfl, hlt, _, _⟩
  · exact ⟨none, 0, rfl, (fun _ => rfl), (fun h => absurd rfl h), hk⟩
  · exact ⟨_, _, rfl, (fun h => by cases h), hO.seen hlt, hk⟩
end Go.Proofs.YtpnjblledbihcaaDoor.Ir

/-
  The contracts of Ref and Refs.
-/
namespace Go.Proofs.YtpnjblledbihcaaDoor.Kd
open Go.RowKit Go.Proofs.YtpnjblledbihcaaDoor.Ar Go.Proofs.YtpnjblledbihcaaDoor.Ir Go.Maps
set_option linter.unusedVariables false

/-- What Ref answers. -/
def refE (k : Nat) (wd : Int) (mk : Nat) (n s : Int) : Int := if err k wd mk n = 0 then (if s < 0 ∨ slots k wd n ≤ s then 2 else 0) else err k wd mk n
def refB (k : Nat) (wd : Int) (mk : Nat) (n s : Int) : Bool := if err k wd mk n = 0 then (if s < 0 ∨ slots k wd n ≤ s then false else isRef k wd mk s.toNat) else false
set_option maxRecDepth 100000 in
theorem ref_ok (k : Nat) (wd : Int) (mk : Nat) (n s : Int) (hk : k < 256) (hm : mk < 18446744073709551616) (w : World) :
    Calls Tryd.prog 39 #[typV k wd mk, .int .i64 n, .int .i64 s] w fun e w' => e = .returned (.tuple #[.bool (refB k wd mk n s), .int .i64 (refE k wd mk n s)]) ∧ Kept [] w w' := by
  have HL := Lib.hid (fun x => layoutOf_ok k wd mk n hk hm x)
  have hka : ∀ (x : World) (o : Obj), Kept [] x (x.alloc o) := fun x o => (Kept.refl [] x).alloc o
  unfold refB refE typV layT lay0 at *
  by_cases h : err k wd mk n = 0
  · obtain ⟨i, j, hF⟩ := fns h hm
    have HS := Lib.hid hF.doSl
    have HR := Lib.hid hF.doRf
    have e1 := hF.sl
    have e2 := hF.rf
    have cs := hF.inSl
    have cr := hF.inRf
    unfold fn layV at *
    simp only [h, if_true, e1, e2] at HL ⊢
    clear h hF e1 e2
    generalize mn k = a1 at *
    generalize mx k = a2 at *
    generalize hl k = a3 at *
    generalize slots k wd n = sl at *
    by_cases h1 : s < 0
    · rw [if_pos (.inl h1), if_pos (.inl h1)]
      go_enter Tryd.func39, Tryd.ntmps39
      go_wp2_with fail
      refine (HL.out _).mono ?_
      rintro e W1 ⟨rfl, hk1⟩
      have hk2 := Lib.hid ((hka w _).trans hk1)
      clear hk1
      go_wp2_with fail
      go_ret2
      exact ⟨rfl, hk2.out.alloc _⟩
    · by_cases h2 : sl ≤ s
      · rw [if_pos (.inr h2), if_pos (.inr h2)]
        go_enter Tryd.func39, Tryd.ntmps39
        go_wp2_with fail
        refine (HL.out _).mono ?_
        rintro e W1 ⟨rfl, hk1⟩
        have hk2 := Lib.hid ((hka w _).trans hk1)
        clear hk1
        go_wp2_with fail
        refine (HS.out _).mono ?_
        rintro e W2 ⟨rfl, hk3⟩
        have hk4 := Lib.hid ((hk2.out.alloc _).trans hk3)
        clear hk3 hk2
        go_wp2_with fail
        go_ret2
        exact ⟨rfl, hk4.out⟩
      · rw [if_neg (by omega), if_neg (by omega)]
        have HR' := Lib.hid (fun x => HR.out s.toNat x (by omega))
        rw [Int.toNat_of_nonneg (by omega)] at HR'
        generalize isRef k wd mk s.toNat = rb at *
        clear HR
        go_enter Tryd.func39, Tryd.ntmps39
        go_wp2_with fail
        refine (HL.out _).mono ?_
        rintro e W1 ⟨rfl, hk1⟩
        have hk2 := Lib.hid ((hka w _).trans hk1)
        clear hk1
        go_wp2_with fail
        refine (HS.out _).mono ?_
        rintro e W2 ⟨rfl, hk3⟩
        have hk4 := Lib.hid ((hk2.out.alloc _).trans hk3)
        have hl := (Has.new W1 _ (layL k wd mk n a1 a2 a3 (.func (.func i) #[] #[]) (.func (.func j) #[] #[]))).keep0 hk3
        obtain ⟨x0, x1, x2, x3, x4, x5, x6, x7, x8⟩ := cells9 hl
        clear hk3 hk2 hl
        go_wp2_with fail
        refine (HR'.out _).mono ?_
        rintro e W3 ⟨rfl, hk5⟩
        have hk6 := Lib.hid (hk4.out.trans hk5)
        clear hk5 hk4
        go_wp2_with fail
        go_ret2
        exact ⟨rfl, hk6.out⟩
  · simp only [h, if_false] at HL ⊢
    have he : (err k wd mk n != 0) = true := by rw [bne_iff_ne]; exact h
    generalize err k wd mk n = er at *
    go_enter Tryd.func39, Tryd.ntmps39
    go_wp2_with fail
    refine (HL.out _).mono ?_
    rintro e W1 ⟨rfl, hk1⟩
    have hk2 := Lib.hid ((hka w _).trans hk1)
    clear hk1
    go_wp2_with fail
    go_ret2
    exact ⟨rfl, hk2.out.alloc _⟩
end Go.Proofs.YtpnjblledbihcaaDoor.Kd

/-
  The contract of Refs: all slots that are references, rising.
-/
namespace Go.Proofs.YtpnjblledbihcaaDoor.Kd
open Go.RowKit Go.Proofs.YtpnjblledbihcaaDoor.Ar Go.Proofs.YtpnjblledbihcaaDoor.Ir Go.Maps
set_option linter.unusedVariables false

theorem refsTo_succ (k : Nat) (wd : Int) (mk m : Nat) : refsTo k wd mk (m + 1) = if isRef k wd mk m then refsTo k wd mk m ++ [(m : Int)] else refsTo k wd mk m := by
  unfold refsTo
  rw [List.range_succ, List.filter_append]
  cases h : isRef k wd mk m
  · simp [h]
  · simp [h]
theorem refsTo_length (k : Nat) (wd : Int) (mk m : Nat) : (refsTo k wd mk m).length ≤ m := by
  unfold refsTo
  rw [List.length_map]
  have := List.length_filter_le (isRef k wd mk) (List.range m)
  rwa [List.length_range] at this
/-- All slots that are references. -/
def refsR (k : Nat) (wd : Int) (mk : Nat) (n : Int) : List Int := if err k wd mk n = 0 then refsTo k wd mk (slots k wd n).toNat else []
def Fresh (w : World) (v : Value) : Prop := v.ownBlock = none ∨ ∃ b, v.ownBlock = some b ∧ w.heap.size ≤ b
def RefsPost (w : World) (k : Nat) (wd : Int) (mk : Nat) (n : Int) (e : Ending) (w' : World) : Prop := ∃ v, e = .returned (.tuple #[v, .int .i64 (err k wd mk n)]) ∧ Own w' v (refsR k wd mk n) ∧ Kept [] w w'
set_option maxRecDepth 100000 in
set_option maxHeartbeats 4000000 in
theorem refs_ok (k : Nat) (wd : Int) (mk : Nat) (n : Int) (hk : k < 256) (hm : mk < 18446744073709551616) (w : World) :
    Calls Tryd.prog 66 #[typV k wd mk, .int .i64 n] w (RefsPost w k wd mk n) := by
  have HL := Lib.hid (fun x => layoutOf_ok k wd mk n hk hm x)
  have hka : ∀ (x : World) (o : Obj), Kept [] x (x.alloc o) := fun x o => (Kept.refl [] x).alloc o
  unfold RefsPost refsR typV layT lay0 at *
  by_cases h : err k wd mk n = 0
  · obtain ⟨i, j, hF⟩ := fns h hm
    obtain ⟨sb0, sb1⟩ := slots_bound h
    have HS := Lib.hid hF.doSl
    have HR := Lib.hid hF.doRf
    have e1 := hF.sl
    have e2 := hF.rf
    have cs := hF.inSl
    have cr := hF.inRf
    unfold fn layV at *
    simp only [h, if_true, e1, e2] at HL ⊢
    clear h hF e1 e2
    generalize mn k = a1 at *
    generalize mx k = a2 at *
    generalize hl k = a3 at *
    obtain ⟨sl, hsl⟩ := Int.eq_ofNat_of_zero_le sb0
    rw [hsl] at HS HR sb0 sb1 ⊢
    rw [Int.toNat_natCast]
    clear hsl sb0
    have hsb : sl ≤ 65536 := by omega
    go_enter Tryd.func66, Tryd.ntmps66
    go_wp2_with fail
    refine (HL.out _).mono ?_
    rintro e W1 ⟨rfl, hk1⟩
    have hk2 := Lib.hid ((hka w _).trans hk1)
    clear hk1 HL
    go_wp2_with fail
    refine (HS.out _).mono ?_
    rintro e W2 ⟨rfl, hk3⟩
    have hk4 := Lib.hid ((hk2.out.alloc _).trans hk3)
    have Hl := Lib.hid ((Has.new W1 _ (layL k wd mk n a1 a2 a3 (.func (.func i) #[] #[]) (.func (.func j) #[] #[]))).keep0 hk3)
    clear hk3 hk2 HS
    generalize W1.heap.size = B at *
    go_wp2_with fail
    go_loopw [8, 24] (fun s t wr => ∃ m : Nat, m ≤ sl ∧ t = .int .i64 (m : Int) ∧ Hid (Own wr s (refsTo k wd mk m) ∧ Fresh W2 s ∧ Kept [] W2 wr)) (fun _ t _ => sl - (intOf t).toNat)
    case atStart => exact ⟨0, Nat.zero_le _, rfl, Lib.hid ⟨Own.nil _, .inl rfl, Kept.refl _ _⟩⟩
    case round =>
      obtain ⟨m, hm', rfl, hr⟩ := hrel
      by_cases hlt : m < sl
      · obtain ⟨x0, x1, x2, x3, x4, x5, x6, x7, x8⟩ := cells9 (Hl.out.keep0 hr.out.2.2)
        have HR' := Lib.hid (fun x => HR.out m x (by omega))
        have hstep := refsTo_succ k wd mk m
        have hlen := refsTo_length k wd mk m
        cases hb : isRef k wd mk m with
        | false =>
          rw [hb] at HR' hstep
          rw [if_neg (by decide)] at hstep
          have HE := Lib.hid hstep
          clear hb hstep
          go_wp2_with fail
          refine (HR'.out _).mono ?_
          rintro e W3 ⟨rfl, hk5⟩
          have HN := Lib.hid (show Own W3 u8 (refsTo k wd mk (m + 1)) ∧ Fresh W2 u8 ∧ Kept [] W2 W3 from ⟨by rw [HE.out]; exact hr.out.1.keep0 hk5, hr.out.2.1, hr.out.2.2.trans hk5⟩)
          clear hk5 HR' hr
          go_wp2_with fail
          go_roundw
          case rel => exact ⟨m + 1, by omega, by go_num, HN⟩
          case measure => simp [intOf]; omega
        | true =>
          rw [hb] at HR' hstep
          rw [if_pos rfl] at hstep
          have HE := Lib.hid hstep
          clear hb hstep
          go_wp2_with fail
          refine (HR'.out _).mono ?_
          rintro e W3 ⟨rfl, hk5⟩
          have HO0 := Lib.hid (hr.out.1.keep0 hk5)
          have HK0 := Lib.hid (hr.out.2.2.trans hk5)
          have HF := Lib.hid hr.out.2.1
          clear hk5 HR' hr
          have HK := Lib.hid ((Kept.refl [] W3).alloc (.cells #[.int .i64 (m : Int)] 3))
          have HSe : Hid (Seen (W3.alloc (.cells #[.int .i64 (m : Int)] 3)) (some ⟨W3.heap.size, 0, none⟩) [(m : Int)]) := Row.seen (Has.new W3 3 (ints [(m : Int)]))
          have HO := Lib.hid (HO0.out.keep0 HK.out)
          generalize refsTo k wd mk m = L at *
          go_wp2_with (at_builtin; (refine append_numbers rfl (.tmp 33) (.tmp 35) rfl u8 L rfl HO.out (some ⟨W3.heap.size, 0, none⟩) 1 1 [(m : Int)] rfl rfl (fun h => by cases h) HSe.out (by omega) ?_))
          intro s2 w2 hO2 hG2 hB2
          have hwk2 := HK0.out.trans HK.out
          have hF2 := own_fresh (v' := s2) hwk2 HF.out (by rw [World.size_alloc]; exact hB2)
          have hK2 := own_grown hwk2 HF.out hG2
          have HN := Lib.hid (show Own w2 s2 (refsTo k wd mk (m + 1)) ∧ Fresh W2 s2 ∧ Kept [] W2 w2 from ⟨by rw [HE.out]; exact hO2, hF2, hK2⟩)
          clear hO2 hG2 hB2 hK2 hF2 HK HSe HO hwk2
          go_wp2_with fail
          go_roundw
          case rel => exact ⟨m + 1, by omega, by go_num, HN⟩
          case measure => simp [intOf]; omega
      · obtain rfl : m = sl := by omega
        go_wp2_with fail
        go_ret2
        exact ⟨_, rfl, hr.out.1, hk4.out.trans hr.out.2.2⟩
  · simp only [h, if_false] at HL ⊢
    have he : (err k wd mk n != 0) = true := by rw [bne_iff_ne]; exact h
    generalize err k wd mk n = er at *
    go_enter Tryd.func66, Tryd.ntmps66
    go_wp2_with fail
    refine (HL.out _).mono ?_
    rintro e W1 ⟨rfl, hk1⟩
    have hk2 := Lib.hid ((hka w _).trans hk1)
    clear hk1
    go_wp2_with fail
    go_ret2
    exact ⟨_, rfl, Own.nil _, hk2.out.alloc _⟩
end Go.Proofs.YtpnjblledbihcaaDoor.Kd

/-
  The document's is, Ref, and Refs.
-/
namespace Go.Proofs.YtpnjblledbihcaaDoor.Kd
open Go.RowKit Go.Proofs.YtpnjblledbihcaaDoor.Ar Go.Proofs.YtpnjblledbihcaaDoor.Ir Go.Maps
set_option linter.unusedVariables false

set_option maxRecDepth 100000 in
theorem is_ok {k : Nat} {wd : Int} {mk : Nat} {n : Int} (h : err k wd mk n = 0) (hm : mk < 18446744073709551616) (s : Nat) (hs : (s : Int) < slots k wd n) (w : World) :
    Calls Tryd.prog 52 #[typV k wd mk, .int .i64 (s : Int)] w fun e w' => e = .returned (.bool (isRef k wd mk s)) ∧ Kept [] w w' := by
  obtain ⟨sb0, sb1⟩ := slots_bound h
  obtain ⟨hy, h0, h1, h2⟩ := err_zero h
  obtain ⟨_, w0, w1, hk, w3⟩ := may_kind hy
  obtain ⟨v, rfl⟩ := Int.eq_ofNat_of_zero_le w0
  clear h hy
  unfold typV
  rcases hk with rfl | rfl | rfl | rfl
  · have hs' : s < v := by have : (s : Int) < (v : Int) := hs; omega
    have hr : isRef 1 (v : Int) mk s = decide (mk / 2 ^ s % 2 = 1) := by
      show decide (mk / 2 ^ (s % v) % 2 = 1) = _
      rw [Nat.mod_eq_of_lt hs']
    rw [hr, ← bit_test]
    have hs64 : s < 64 := by omega
    clear hr hs
    go_enter Tryd.func52, Tryd.ntmps52
    go_wp2_with fail
    go_ret
    exact ⟨rfl, (Kept.refl [] w).alloc _⟩
  · go_enter Tryd.func52, Tryd.ntmps52
    go_wp2_with fail
    go_ret
    exact ⟨rfl, (Kept.refl [] w).alloc _⟩
  · have hr : isRef 3 (v : Int) mk s = decide (mk / 2 ^ (s % v) % 2 = 1) := rfl
    rw [hr, ← bit_test]
    obtain ⟨v1, v2⟩ := w3 rfl
    have hw : ¬ ((v : Int) = 0) := by omega
    have hs2 : s ≤ 65536 := by omega
    have hrl : s % v < 64 := by have := Nat.mod_lt s (show 0 < v by omega); omega
    clear hr hs sb0 sb1
    have ht : IntKind.i64.wrap ((s : Int).tmod (v : Int)) = ((s % v : Nat) : Int) := by
      rw [Int.tmod_eq_emod_of_nonneg (by omega), IntKind.wrap_i64]
      omega
    go_enter Tryd.func52, Tryd.ntmps52
    go_wp2_with fail
    go_quiet (fail)
    go_wp2_with fail
    go_ret
    exact ⟨rfl, ((Kept.refl [] w).alloc _).drewN _⟩
  · go_enter Tryd.func52, Tryd.ntmps52
    go_wp2_with fail
    go_ret
    exact ⟨rfl, (Kept.refl [] w).alloc _⟩
set_option maxRecDepth 100000 in
theorem refDoc_ok (k : Nat) (wd : Int) (mk : Nat) (n s : Int) (hm : mk < 18446744073709551616) (w : World) :
    Calls Tryd.prog 31 #[typV k wd mk, .int .i64 n, .int .i64 s] w fun e w' => e = .returned (.tuple #[.bool (refB k wd mk n s), .int .i64 (refE k wd mk n s)]) ∧ Kept [] w w' := by
  have HL := Lib.hid (fun x => slotsDoc_ok k wd mk n hm x)
  have hka : ∀ (x : World) (o : Obj), Kept [] x (x.alloc o) := fun x o => (Kept.refl [] x).alloc o
  have hH : Has (w.alloc (.cells #[.int .u8 (k : Int), .int .i64 wd, .int .u64 (mk : Int)] 55)) w.heap.size 55 [.int .u8 (k : Int), .int .i64 wd, .int .u64 (mk : Int)] := Has.new w _ _
  unfold refB refE slotsR at *
  by_cases h : err k wd mk n = 0
  · have HI := Lib.hid (fun (t : Nat) (ht : (t : Int) < slots k wd n) x => is_ok h hm t ht x)
    unfold typV at *
    simp only [h, if_true] at HL ⊢
    clear h
    generalize slots k wd n = sl at *
    by_cases h1 : s < 0
    · rw [if_pos (.inl h1), if_pos (.inl h1)]
      go_enter Tryd.func31, Tryd.ntmps31
      go_wp2_with fail
      refine (HL.out _).mono ?_
      rintro e W1 ⟨rfl, hk1⟩
      have hk2 := Lib.hid ((hka w _).trans hk1)
      clear hk1
      go_wp2_with fail
      go_ret2
      exact ⟨rfl, hk2.out⟩
    · by_cases h2 : sl ≤ s
      · rw [if_pos (.inr h2), if_pos (.inr h2)]
        go_enter Tryd.func31, Tryd.ntmps31
        go_wp2_with fail
        refine (HL.out _).mono ?_
        rintro e W1 ⟨rfl, hk1⟩
        have hk2 := Lib.hid ((hka w _).trans hk1)
        clear hk1
        go_wp2_with fail
        go_ret2
        exact ⟨rfl, hk2.out⟩
      · rw [if_neg (by omega), if_neg (by omega)]
        have HR' := Lib.hid (fun x => HI.out s.toNat (by omega) x)
        rw [Int.toNat_of_nonneg (by omega)] at HR'
        generalize isRef k wd mk s.toNat = rb at *
        clear HI
        go_enter Tryd.func31, Tryd.ntmps31
        go_wp2_with fail
        refine (HL.out _).mono ?_
        rintro e W1 ⟨rfl, hk1⟩
        have hk2 := Lib.hid ((hka w _).trans hk1)
        obtain ⟨b0, b1, b2⟩ := cells3 (hH.keep0 hk1)
        clear hk1
        go_wp2_with fail
        refine (HR'.out _).mono ?_
        rintro e W2 ⟨rfl, hk3⟩
        have hk4 := Lib.hid (hk2.out.trans hk3)
        clear hk3
        go_wp2_with fail
        go_ret2
        exact ⟨rfl, hk4.out⟩
  · unfold typV at *
    simp only [h, if_false] at HL ⊢
    have he : (err k wd mk n != 0) = true := by rw [bne_iff_ne]; exact h
    generalize err k wd mk n = er at *
    go_enter Tryd.func31, Tryd.ntmps31
    go_wp2_with fail
    refine (HL.out _).mono ?_
    rintro e W1 ⟨rfl, hk1⟩
    have hk2 := Lib.hid ((hka w _).trans hk1)
    clear hk1
    go_wp2_with fail
    go_ret2
    exact ⟨rfl, hk2.out⟩
set_option maxRecDepth 100000 in
set_option maxHeartbeats 4000000 in
theorem refsDoc_ok (k : Nat) (wd : Int) (mk : Nat) (n : Int) (hm : mk < 18446744073709551616) (w : World) :
    Calls Tryd.prog 27 #[typV k wd mk, .int .i64 n] w (RefsPost w k wd mk n) := by
  have HL := Lib.hid (fun x => slotsDoc_ok k wd mk n hm x)
  have hka : ∀ (x : World) (o : Obj), Kept [] x (x.alloc o) := fun x o => (Kept.refl [] x).alloc o
  have hH : Has (w.alloc (.cells #[.int .u8 (k : Int), .int .i64 wd, .int .u64 (mk : Int)] 55)) w.heap.size 55 [.int .u8 (k : Int), .int .i64 wd, .int .u64 (mk : Int)] := Has.new w _ _
  unfold RefsPost refsR slotsR at *
  by_cases h : err k wd mk n = 0
  · have HI := Lib.hid (fun (t : Nat) (ht : (t : Int) < slots k wd n) x => is_ok h hm t ht x)
    obtain ⟨sb0, sb1⟩ := slots_bound h
    unfold typV at *
    simp only [h, if_true] at HL ⊢
    clear h
    obtain ⟨sl, hsl⟩ := Int.eq_ofNat_of_zero_le sb0
    rw [hsl] at HL HI sb0 sb1 ⊢
    rw [Int.toNat_natCast]
    clear hsl sb0
    have hsb : sl ≤ 65536 := by omega
    go_enter Tryd.func27, Tryd.ntmps27
    go_wp2_with fail
    refine (HL.out _).mono ?_
    rintro e W2 ⟨rfl, hk1⟩
    have hk4 := Lib.hid ((hka w _).trans hk1)
    have Hl := Lib.hid (hH.keep0 hk1)
    clear hk1 HL hH
    go_wp2_with fail
    generalize w.heap.size = B at *
    go_loopw [8, 9] (fun s t wr => ∃ m : Nat, m ≤ sl ∧ t = .int .i64 (m : Int) ∧ Hid (Own wr s (refsTo k wd mk m) ∧ Fresh W2 s ∧ Kept [] W2 wr)) (fun _ t _ => sl - (intOf t).toNat)
    case atStart => exact ⟨0, Nat.zero_le _, rfl, Lib.hid ⟨Own.nil _, .inl rfl, Kept.refl _ _⟩⟩
    case round =>
      obtain ⟨m, hm', rfl, hr⟩ := hrel
      by_cases hlt : m < sl
      · obtain ⟨x0, x1, x2⟩ := cells3 (Hl.out.keep0 hr.out.2.2)
        have HR' := Lib.hid (fun x => HI.out m (by omega) x)
        have hstep := refsTo_succ k wd mk m
        have hlen := refsTo_length k wd mk m
        cases hb : isRef k wd mk m with
        | false =>
          rw [hb] at HR' hstep
          rw [if_neg (by decide)] at hstep
          have HE := Lib.hid hstep
          clear hb hstep
          go_wp2_with fail
          refine (HR'.out _).mono ?_
          rintro e W3 ⟨rfl, hk5⟩
          have HN := Lib.hid (show Own W3 u8 (refsTo k wd mk (m + 1)) ∧ Fresh W2 u8 ∧ Kept [] W2 W3 from ⟨by rw [HE.out]; exact hr.out.1.keep0 hk5, hr.out.2.1, hr.out.2.2.trans hk5⟩)
          clear hk5 HR' hr
          go_wp2_with fail
          go_roundw
          case rel => exact ⟨m + 1, by omega, by go_num, HN⟩
          case measure => simp [intOf]; omega
        | true =>
          rw [hb] at HR' hstep
          rw [if_pos rfl] at hstep
          have HE := Lib.hid hstep
          clear hb hstep
          go_wp2_with fail
          refine (HR'.out _).mono ?_
          rintro e W3 ⟨rfl, hk5⟩
          have HO0 := Lib.hid (hr.out.1.keep0 hk5)
          have HK0 := Lib.hid (hr.out.2.2.trans hk5)
          have HF := Lib.hid hr.out.2.1
          clear hk5 HR' hr
          have HK := Lib.hid ((Kept.refl [] W3).alloc (.cells #[.int .i64 (m : Int)] 3))
          have HSe : Hid (Seen (W3.alloc (.cells #[.int .i64 (m : Int)] 3)) (some ⟨W3.heap.size, 0, none⟩) [(m : Int)]) := Row.seen (Has.new W3 3 (ints [(m : Int)]))
          have HO := Lib.hid (HO0.out.keep0 HK.out)
          generalize refsTo k wd mk m = L at *
          go_wp2_with (at_builtin; (refine append_numbers rfl (.tmp 27) (.tmp 29) rfl u8 L rfl HO.out (some ⟨W3.heap.size, 0, none⟩) 1 1 [(m : Int)] rfl rfl (fun h => by cases h) HSe.out (by omega) ?_))
          intro s2 w2 hO2 hG2 hB2
          have hwk2 := HK0.out.trans HK.out
          have hF2 := own_fresh (v' := s2) hwk2 HF.out (by rw [World.size_alloc]; exact hB2)
          have hK2 := own_grown hwk2 HF.out hG2
          have HN := Lib.hid (show Own w2 s2 (refsTo k wd mk (m + 1)) ∧ Fresh W2 s2 ∧ Kept [] W2 w2 from ⟨by rw [HE.out]; exact hO2, hF2, hK2⟩)
          clear hO2 hG2 hB2 hK2 hF2 HK HSe HO hwk2
          go_wp2_with fail
          go_roundw
          case rel => exact ⟨m + 1, by omega, by go_num, HN⟩
          case measure => simp [intOf]; omega
      · obtain rfl : m = sl := by omega
        go_wp2_with fail
        go_ret2
        exact ⟨_, rfl, hr.out.1, hk4.out.trans hr.out.2.2⟩
  · unfold typV at *
    simp only [h, if_false] at HL ⊢
    have he : (err k wd mk n != 0) = true := by rw [bne_iff_ne]; exact h
    generalize err k wd mk n = er at *
    go_enter Tryd.func27, Tryd.ntmps27
    go_wp2_with fail
    refine (HL.out _).mono ?_
    rintro e W1 ⟨rfl, hk1⟩
    have hk2 := Lib.hid ((hka w _).trans hk1)
    clear hk1
    go_wp2_with fail
    go_ret2
    exact ⟨_, rfl, Own.nil _, hk2.out⟩
end Go.Proofs.YtpnjblledbihcaaDoor.Kd

/-
  The document's SameInts: whether two slices have the same numbers; and the statements' examples.
-/
namespace Go.Proofs.YtpnjblledbihcaaDoor.Kd
open Go.RowKit Go.Proofs.YtpnjblledbihcaaDoor.Ar Go.Proofs.YtpnjblledbihcaaDoor.Ir
set_option linter.unusedVariables false

theorem take_step (a b : List Int) (j : Nat) (ha : j < a.length) (hb : j < b.length) (h : a.take j = b.take j) (e : a.getD j 0 = b.getD j 0) : a.take (j + 1) = b.take (j + 1) := by
  rw [List.getD, List.getD, List.getElem?_eq_getElem ha, List.getElem?_eq_getElem hb] at e
  simp only [Option.getD_some] at e
  rw [List.take_succ_eq_append_getElem ha, List.take_succ_eq_append_getElem hb, h, e]
set_option maxHeartbeats 400000 in
theorem same_any (A B : Option Addr) (a b : List Int) (ca cb : Nat) (w : World) (hA : Seen w A a) (hB : Seen w B b) (la : a.length ≤ 4294967296) (lb : b.length ≤ 4294967296) :
    Calls Tryd.prog 28 #[.slice A a.length ca, .slice B b.length cb] w fun e w' => e = .returned (.bool (decide (a = b))) ∧ ∃ k, w' = w.drewN k := by
  by_cases hl : a.length = b.length
  · by_cases h0 : a = []
    · obtain rfl : b = [] := List.eq_nil_of_length_eq_zero (by rw [← hl, h0]; rfl)
      subst h0
      rw [decide_eq_true rfl]
      clear hA hB la lb hl
      simp only [List.length_nil]
      go_enter Tryd.func28, Tryd.ntmps28
      go_wp2_with fail
      refine wp_loop_rounds 1 ?_
      rw [rounds_succ]
      go_wp2_with fail
      go_ret
      exact ⟨rfl, 0, rfl⟩
    · have h1 : b ≠ [] := fun hb => h0 (List.eq_nil_of_length_eq_zero (by rw [hl, hb]; rfl))
      obtain ⟨g, f, rfl, cA⟩ := hA.cells h0
      obtain ⟨g', f', rfl, cB⟩ := hB.cells h1
      rw [← hl] at cB ⊢
      have HA := Lib.hid cA
      have HB := Lib.hid cB
      have HL := Lib.hid hl
      have hne : ((a.length : Int) != (a.length : Int)) = false := by simp
      clear hA hB cA cB h0 h1 lb hl
      go_enter Tryd.func28, Tryd.ntmps28
      go_wp2_with fail
      go_loopw [5] (fun t wr => ∃ j : Nat, j ≤ a.length ∧ t = .int .i64 j ∧ Hid (a.take j = b.take j) ∧ ∃ k, wr = w.drewN k) (fun t _ => a.length - (intOf t).toNat)
      case atStart => exact ⟨0, Nat.zero_le _, rfl, Lib.hid (by simp), 0, rfl⟩
      case round =>
        obtain ⟨j, hj, rfl, hT, k, rfl⟩ := hrel
        by_cases hlt : j < a.length
        · have c1 := HA.out j hlt
          have c2 := HB.out j hlt
          have hD : ∀ r : Bool, (a.getD j 0 != b.getD j 0) = r → (r = true → decide (a = b) = false) ∧ (r = false → a.take (j + 1) = b.take (j + 1)) := by
            rintro r rfl
            constructor
            · intro hr
              refine decide_eq_false fun he => ?_
              rw [he] at hr
              simp at hr
            · intro hr
              exact take_step a b j hlt (by have := HL.out; omega) hT.out (by simpa using hr)
          generalize a.getD j 0 = x at *
          generalize b.getD j 0 = y at *
          have HD := Lib.hid hD
          clear hD hT
          cases hxy : (x != y)
          · have HT := Lib.hid ((HD.out _ hxy).2 rfl)
            clear HD
            go_wp2_with fail
            go_quiet (fail)
            go_wp2_with fail
            go_roundw
            case rel => exact ⟨j + 1, by omega, by go_num, HT, _, rfl⟩
            case measure => simp [intOf]; omega
          · have HT := Lib.hid ((HD.out _ hxy).1 rfl)
            clear HD
            go_wp2_with fail
            go_quiet (fail)
            go_wp2_with fail
            go_ret
            exact ⟨ret_bool HT.out.symm, _, World.drewN_drewN _ _ _⟩
        · have hs : decide (a = b) = true := by
            refine decide_eq_true ?_
            have := hT.out
            have hl := HL.out
            rw [List.take_of_length_le (by omega), List.take_of_length_le (by omega)] at this
            exact this
          have HS := Lib.hid hs
          obtain rfl : j = a.length := by omega
          clear hs hT HA HB HL hlt hj
          go_wp2_with fail
          go_ret
          exact ⟨ret_bool HS.out.symm, _, rfl⟩
  · have hs : decide (a = b) = false := decide_eq_false fun he => hl (by rw [he])
    have hne : ((a.length : Int) != (b.length : Int)) = true := by rw [bne_iff_ne]; omega
    rw [hs]
    clear hs hl hA hB
    generalize a.length = m at *
    generalize b.length = n at *
    go_enter Tryd.func28, Tryd.ntmps28
    go_wp2_with fail
    go_ret
    exact ⟨rfl, 0, rfl⟩
theorem same_own {w : World} {v1 v2 : Value} {a b : List Int} (h1 : Own w v1 a) (h2 : Own w v2 b) (la : a.length ≤ 65536) (lb : b.length ≤ 65536) :
    Calls Tryd.prog 28 #[v1, v2] w fun e w' => e = .returned (.bool (decide (a = b))) ∧ Kept [] w w' := by
  obtain ⟨A, c, rfl, _, hA, _⟩ := back_own (Kept.refl [] w) h1
  obtain ⟨B, d, rfl, _, hB, _⟩ := back_own (Kept.refl [] w) h2
  exact (same_any A B a b c d w hA hB (by omega) (by omega)).mono fun e w' ⟨he, k, hk⟩ => ⟨he, by rw [hk]; exact (Kept.refl [] w).drewN k⟩
end Go.Proofs.YtpnjblledbihcaaDoor.Kd
