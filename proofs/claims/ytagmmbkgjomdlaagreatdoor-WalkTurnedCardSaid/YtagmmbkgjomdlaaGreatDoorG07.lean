/-
  Several texts in one: KdMath, KdOps, KdTraits, HdMem.
-/
import Derived.RowKit
import Derived.Test.YtagmmbkgjomdlaaGreatDoorProg
import Derived.Test.YtagmmbkgjomdlaaGreatDoorG01
import Derived.WalkKit
import Derived.RegionTactic
import Derived.Outline
import Derived.IntWalk
import Derived.Deep.QuietTactic
import Derived.BigQuiet
import Derived.Lib.Hide
import Derived.Maps.OwnSet
import Derived.Laws.EntriesVeiled
import Derived.Test.YtagmmbkgjomdlaaGreatDoorG16
import Derived.OpenShut
/-
  What a type's objects are, as plain functions of numbers: which types may be, how many slots, which are references.
-/
namespace Go.Proofs.YtagmmbkgjomdlaaGreatDoor.Kd
open Go.RowKit
set_option linter.unusedVariables false

/-- May a type be: kind k, words wd, mask mk? -/
def may (k : Nat) (wd : Int) (mk : Nat) : Prop :=
  ((k = 1 ∧ 0 ≤ wd ∧ wd ≤ 64) ∨ (k = 3 ∧ 1 ≤ wd ∧ wd ≤ 16) ∨ ((k = 2 ∨ k = 4) ∧ wd = 0)) ∧ mk / 2 ^ wd.toNat = 0
instance (k : Nat) (wd : Int) (mk : Nat) : Decidable (may k wd mk) := by unfold may; infer_instance
/-- The error of an object of a type, with a length. -/
def err (k : Nat) (wd : Int) (mk : Nat) (n : Int) : Int :=
  if ¬ may k wd mk ∨ n < 0 ∨ (0 < n ∧ k = 1) then 2 else if 4096 < n then 5 else 0
/-- How many slots. -/
def slots (k : Nat) (wd n : Int) : Int := if k = 1 then wd else if k = 3 then n * wd else n
/-- Is that slot a reference? -/
def isRef (k : Nat) (wd : Int) (mk : Nat) (s : Nat) : Bool :=
  if k = 1 ∨ k = 3 then decide (mk / 2 ^ (s % wd.toNat) % 2 = 1) else decide (k = 2)
/-- The slots below m that are references, rising. -/
def refsTo (k : Nat) (wd : Int) (mk : Nat) (m : Nat) : List Int := ((List.range m).filter (isRef k wd mk)).map Int.ofNat
end Go.Proofs.YtagmmbkgjomdlaaGreatDoor.Kd

/-
  The contracts of a layout's methods: each is what a function of its cells says.
-/
namespace Go.Proofs.YtagmmbkgjomdlaaGreatDoor.Kd
open Go.RowKit Go.Proofs.YtagmmbkgjomdlaaGreatDoor.Ar
set_option linter.unusedVariables false

/-- A layout's cells. -/
def layV (k : Nat) (wd : Int) (mk : Nat) (n mn mx : Int) (hl : Bool) (f g : Value) : Value :=
  .agg #[.int .u8 (k : Int), .int .i64 wd, .int .u64 (mk : Int), .int .i64 n, .int .i64 mn, .int .i64 mx, .bool hl, f, g]
set_option maxRecDepth 100000 in
theorem words_ok (k : Nat) (wd : Int) (mk : Nat) (n mn mx : Int) (hl : Bool) (f g : Value) (w : World) :
    Calls Tryz.prog 165 #[layV k wd mk n mn mx hl f g] w fun e w' => e = .returned (.int .i64 wd) ∧ Kept [] w w' := by
  unfold layV
  go_enter Tryz.func165, Tryz.ntmps165
  go_wp2_with fail
  go_ret
  exact ⟨rfl, (Kept.refl [] w).alloc _⟩
theorem length_ok (k : Nat) (wd : Int) (mk : Nat) (n mn mx : Int) (hl : Bool) (f g : Value) (w : World) :
    Calls Tryz.prog 167 #[layV k wd mk n mn mx hl f g] w fun e w' => e = .returned (.int .i64 n) ∧ Kept [] w w' := by
  unfold layV
  go_enter Tryz.func167, Tryz.ntmps167
  go_wp2_with fail
  go_ret
  exact ⟨rfl, (Kept.refl [] w).alloc _⟩
theorem elements_ok (k : Nat) (wd : Int) (mk : Nat) (n mn mx : Int) (hl : Bool) (f g : Value) (w : World) (h0 : -9223372036854775808 ≤ n * wd) (h1 : n * wd ≤ 9223372036854775807) :
    Calls Tryz.prog 169 #[layV k wd mk n mn mx hl f g] w fun e w' => e = .returned (.int .i64 (n * wd)) ∧ Kept [] w w' := by
  unfold layV
  go_enter Tryz.func169, Tryz.ntmps169
  go_wp2_with fail
  go_ret
  refine ⟨ret_int ?_, (Kept.refl [] w).alloc _⟩
  first | rfl | (rw [IntKind.wrap_i64]; omega)
theorem always_ok (k : Nat) (wd : Int) (mk : Nat) (n mn mx : Int) (hl : Bool) (f g : Value) (s : Int) (w : World) :
    Calls Tryz.prog 168 #[layV k wd mk n mn mx hl f g, .int .i64 s] w fun e w' => e = .returned (.bool true) ∧ Kept [] w w' := by
  unfold layV
  go_enter Tryz.func168, Tryz.ntmps168
  go_wp2_with fail
  go_ret
  exact ⟨rfl, (Kept.refl [] w).alloc _⟩
theorem never_ok (k : Nat) (wd : Int) (mk : Nat) (n mn mx : Int) (hl : Bool) (f g : Value) (s : Int) (w : World) :
    Calls Tryz.prog 170 #[layV k wd mk n mn mx hl f g, .int .i64 s] w fun e w' => e = .returned (.bool false) ∧ Kept [] w w' := by
  unfold layV
  go_enter Tryz.func170, Tryz.ntmps170
  go_wp2_with fail
  go_ret
  exact ⟨rfl, (Kept.refl [] w).alloc _⟩
/-- Is that slot's bit set? -/
def maskB (wd mk s : Nat) : Bool := decide (mk / 2 ^ (s % wd) % 2 = 1)
theorem masked_ok (k wd : Nat) (mk : Nat) (n mn mx : Int) (hl : Bool) (f g : Value) (s : Nat) (w : World) (h0 : 1 ≤ wd) (h1 : wd ≤ 64) (hs : s ≤ 65536) (hm : mk < 18446744073709551616) :
    Calls Tryz.prog 166 #[layV k wd mk n mn mx hl f g, .int .i64 (s : Int)] w fun e w' => e = .returned (.bool (maskB wd mk s)) ∧ Kept [] w w' := by
  unfold layV
  have hw : ¬ ((wd : Int) = 0) := by omega
  obtain ⟨r, hr⟩ : ∃ r, r = s % wd := ⟨_, rfl⟩
  have hrl : r < 64 := by have := Nat.mod_lt s (show 0 < wd by omega); omega
  have ht : IntKind.i64.wrap ((s : Int).tmod (wd : Int)) = (r : Int) := by
    rw [Int.tmod_eq_emod_of_nonneg (by omega), hr, IntKind.wrap_i64]
    omega
  go_enter Tryz.func166, Tryz.ntmps166
  go_wp2_with fail
  go_quiet (fail)
  go_wp2_with fail
  go_ret
  refine ⟨ret_bool ?_, ((Kept.refl [] w).alloc _).drewN _⟩
  rw [show ((mk : Int) / 2 ^ (s % wd)) = ((mk / 2 ^ (s % wd) : Nat) : Int) by rw [Int.natCast_ediv, Int.natCast_pow]; rfl, show (1 : Int) = ((1 : Nat) : Int) from rfl, u64_and_nat _ _ (Nat.lt_of_le_of_lt (Nat.div_le_self _ _) hm) (by decide), Nat.and_one_is_mod]
  unfold maskB
  by_cases h : mk / 2 ^ (s % wd) % 2 = 1
  · rw [h]; rfl
  · rw [decide_eq_false h, beq_eq_false_iff_ne]
    omega
theorem valid_ok (k : Nat) (wd : Int) (mk : Nat) (n mn mx : Int) (hl : Bool) (f g : Value) (w : World) (h0 : 0 ≤ mn) (hx : mx ≤ 64) (hm : mk < 18446744073709551616) :
    Calls Tryz.prog 152 #[layV k wd mk n mn mx hl f g] w fun e w' => e = .returned (.bool (decide (mn ≤ wd ∧ wd ≤ mx ∧ mk / 2 ^ wd.toNat = 0))) ∧ Kept [] w w' := by
  unfold layV
  by_cases c1 : mn ≤ wd
  · by_cases c2 : wd ≤ mx
    · have c0 : 0 ≤ wd := by omega
      go_enter Tryz.func152, Tryz.ntmps152
      go_wp2_with fail
      go_ret
      refine ⟨ret_bool ?_, (Kept.refl [] w).alloc _⟩
      rw [show ((mk : Int) / 2 ^ wd.toNat) = ((mk / 2 ^ wd.toNat : Nat) : Int) by rw [Int.natCast_ediv, Int.natCast_pow]; rfl]
      by_cases h : mk / 2 ^ wd.toNat = 0
      · rw [h, decide_eq_true ⟨c1, c2, rfl⟩]; rfl
      · rw [decide_eq_false (fun e => h e.2.2), beq_eq_false_iff_ne]
        omega
    · rw [decide_eq_false (fun h => c2 h.2.1)]
      go_enter Tryz.func152, Tryz.ntmps152
      go_wp2_with fail
      go_ret
      exact ⟨rfl, (Kept.refl [] w).alloc _⟩
  · rw [decide_eq_false (fun h => c1 h.1)]
    go_enter Tryz.func152, Tryz.ntmps152
    go_wp2_with fail
    go_ret
    exact ⟨rfl, (Kept.refl [] w).alloc _⟩
end Go.Proofs.YtagmmbkgjomdlaaGreatDoor.Kd

/-
  What a kind has, out of a map that the call makes: the contract of traitsOf.
-/
namespace Go.Proofs.YtagmmbkgjomdlaaGreatDoor.Kd
open Go.RowKit Go.Proofs.YtagmmbkgjomdlaaGreatDoor.Ar Go.Maps
set_option linter.unusedVariables false

def fn (i : Nat) : Value := .func (.func i) #[] #[]
/-- What the kinds have. -/
def tr1 : Value := .agg #[.int .i64 0, .int .i64 64, .bool false, fn 165, fn 166]
def tr2 : Value := .agg #[.int .i64 0, .int .i64 0, .bool true, fn 167, fn 168]
def tr3 : Value := .agg #[.int .i64 1, .int .i64 16, .bool true, fn 169, fn 166]
def tr4 : Value := .agg #[.int .i64 0, .int .i64 0, .bool true, fn 167, fn 170]
def tr0 : Value := .agg #[.int .i64 0, .int .i64 0, .bool false, .nilFunc, .nilFunc]
def mn (k : Nat) : Int := if k = 3 then 1 else 0
def mx (k : Nat) : Int := if k = 1 then 64 else if k = 3 then 16 else 0
def hl (k : Nat) : Bool := decide (k = 2 ∨ k = 3 ∨ k = 4)
def slF (k : Nat) : Value := if k = 1 then fn 165 else if k = 3 then fn 169 else if k = 2 ∨ k = 4 then fn 167 else .nilFunc
def rfF (k : Nat) : Value := if k = 1 ∨ k = 3 then fn 166 else if k = 2 then fn 168 else if k = 4 then fn 170 else .nilFunc
def trV (k : Nat) : Value := .agg #[.int .i64 (mn k), .int .i64 (mx k), .bool (hl k), slF k, rfF k]
theorem tr_no (k : Nat) (c1 : ¬ k = 1) (c2 : ¬ k = 2) (c3 : ¬ k = 3) (c4 : ¬ k = 4) : trV k = tr0 := by
  unfold trV mn mx hl slF rfF tr0
  simp [c1, c2, c3, c4]
def isKind (k : Nat) : Bool := decide (k = 1 ∨ k = 2 ∨ k = 3 ∨ k = 4)
def key (k : Nat) : Value := .int .u8 (k : Int)
/-- Entries of a map of kinds. -/
def ent (k : Nat) (v : Value) (i : Nat) : MapEntry := ⟨key k, v, i⟩

theorem keyed : Keyed Tryz.prog 5 := int_keyed Tryz.underlying5
theorem keyOf_key (k : Nat) (h : k < 256) : keyOf Tryz.prog 5 (key k) = some (.int .u8 (k : Int)) :=
  keyOf_int_mk Tryz.underlying5 (by simp [Lit.wf, IntKind.min, IntKind.max, IntKind.signed, IntKind.bits]; omega)
theorem zeroT (w : World) : (zeroValue 200).run Tryz.prog w = .ok tr0 w := by kernel_rfl
theorem find_none (k : Nat) (es : List MapEntry) (h : ∀ e ∈ es, ∃ j : Nat, e.key = key j ∧ j ≠ k) : ∀ i, Instr.findNow (.int .u8) (key k) es i = some none := by
  induction es with
  | nil => intro i; rfl
  | cons e es ih =>
    intro i
    obtain ⟨j, hj, hne⟩ := h e (by simp)
    have := ih (fun x hx => h x (by simp [hx])) (i + 1)
    unfold Instr.findNow
    rw [hj]
    simp only [key, Instr.sameNow, if_true]
    rw [show ((k : Int) == (j : Int)) = false by rw [beq_eq_false_iff_ne]; omega]
    exact this
theorem run_insert (w : World) (b : Nat) (es : Array MapEntry) (clock k : Nat) (v : Value) (hk : k < 256) (hb : w.heap[b]? = some (.map es clock)) (h : ∀ e ∈ es.toList, ∃ j : Nat, e.key = key j ∧ j ≠ k) :
    (Instr.mapUpdate 238 (.map (some b)) (key k) v).run Tryz.prog w = .ok () (ChangeMaps.setBlock w b (.map (es.push (ent k v clock)) (clock + 1))) := by
  have hf : (Instr.findKey 5 (key k) es.toList).run Tryz.prog w = .ok none w := by
    simp [Instr.findKey, run_underlying Tryz.underlying5, find_none k es.toList h 0, Result.andThen]
  simp [Instr.mapUpdate, run_underlying Tryz.underlying238, MapKept.run_getObj_map hb, keyed.check w false (keyOf_key k hk), hf, MapKept.run_setObj_map _ hb, Result.andThen, ChangeMaps.setBlock, ent]
/-- 'm[k] = v' in a map's literal, at the operation. -/
theorem insert_at {w : World} {ops : Array Oper} {rest : List Oper} {o : Oper} {a : Act} {Q : Exit → Act → World → Prop} (hg : o.guard = none) (m x v : Operand)
    (hop : o.op = Op.insert 238 m x v) (b k : Nat) (es : Array MapEntry) (clock : Nat) (val : Value) (hm : a.eval m = .map (some b)) (hx : a.eval x = key k) (hv : a.eval v = val) (hk : k < 256)
    (hb : w.heap[b]? = some (.map es clock)) (h : ∀ e ∈ es.toList, ∃ j : Nat, e.key = key j ∧ j ≠ k)
    (hK : ∀ w', w'.heap[b]? = some (.map (es.push (ent k val clock)) (clock + 1)) → Kept [b] w w' → wpList Tryz.prog ops Q rest (a.put o.dst undef) w') : wpList Tryz.prog ops Q (o :: rest) a w := by
  refine wpList_plain hg fun K' hK' => ?_
  unfold Oper.wp
  simp [execOp, hop, hm, hx, hv, run_insert w b es clock k val hk hb h, Result.andThen]
  refine hK' _ _ (hK _ (ChangeMaps.heap_setBlock_same hb _) ⟨rfl, rfl, rfl, by simp [ChangeMaps.setBlock], fun i _ hi => ChangeMaps.heap_setBlock_other hb _ (fun e => hi (by simp [e]))⟩)
/-- The map of all kinds. -/
def all4 : Array MapEntry := #[ent 1 tr1 0, ent 2 tr2 1, ent 3 tr3 2, ent 4 tr4 3]
theorem run_look (w : World) (b k c : Nat) (hk : k < 256) (hb : w.heap[b]? = some (.map all4 c)) :
    (Instr.lookup 238 (.map (some b)) (key k) true).run Tryz.prog w = .ok (.tuple #[trV k, .bool (isKind k)]) w := by
  have hf : Instr.findNow (.int .u8) (key k) all4.toList 0 = some (if k = 1 then some (0, tr1) else if k = 2 then some (1, tr2) else if k = 3 then some (2, tr3) else if k = 4 then some (3, tr4) else none) := by
    by_cases c1 : k = 1
    · subst c1; rfl
    by_cases c2 : k = 2
    · subst c2; rfl
    by_cases c3 : k = 3
    · subst c3; rfl
    by_cases c4 : k = 4
    · subst c4; rfl
    rw [if_neg c1, if_neg c2, if_neg c3, if_neg c4]
    refine find_none k _ (fun e he => ?_) 0
    simp only [all4, List.mem_cons, List.not_mem_nil, or_false] at he
    rcases he with rfl | rfl | rfl | rfl
    · exact ⟨1, rfl, fun h => c1 h.symm⟩
    · exact ⟨2, rfl, fun h => c2 h.symm⟩
    · exact ⟨3, rfl, fun h => c3 h.symm⟩
    · exact ⟨4, rfl, fun h => c4 h.symm⟩
  have hr : (Instr.findKey 5 (key k) all4.toList).run Tryz.prog w = .ok (if k = 1 then some (0, tr1) else if k = 2 then some (1, tr2) else if k = 3 then some (2, tr3) else if k = 4 then some (3, tr4) else none) w := by
    simp [Instr.findKey, run_underlying Tryz.underlying5, hf, Result.andThen]
  have hc := keyed.check w all4.isEmpty (keyOf_key k hk)
  have hz := zeroT w
  by_cases c1 : k = 1
  · subst c1
    simp [Instr.lookup, run_underlying Tryz.underlying238, MapKept.run_getObj_map hb, hc, hr, Result.andThen, isKind]
    rfl
  by_cases c2 : k = 2
  · subst c2
    simp [Instr.lookup, run_underlying Tryz.underlying238, MapKept.run_getObj_map hb, hc, hr, Result.andThen, isKind]
    rfl
  by_cases c3 : k = 3
  · subst c3
    simp [Instr.lookup, run_underlying Tryz.underlying238, MapKept.run_getObj_map hb, hc, hr, Result.andThen, isKind]
    rfl
  by_cases c4 : k = 4
  · subst c4
    simp [Instr.lookup, run_underlying Tryz.underlying238, MapKept.run_getObj_map hb, hc, hr, Result.andThen, isKind]
    rfl
  simp [Instr.lookup, run_underlying Tryz.underlying238, MapKept.run_getObj_map hb, hc, hr, hz, Result.andThen, tr_no k c1 c2 c3 c4, isKind, c1, c2, c3, c4]
theorem fns_yes (k : Nat) (h : isKind k = true) : ∃ F G, slF k = .func F #[] #[] ∧ rfF k = .func G #[] #[] := by
  unfold isKind at h
  rw [decide_eq_true_iff] at h
  rcases h with rfl | rfl | rfl | rfl <;> exact ⟨_, _, rfl, rfl⟩
theorem fns_no (k : Nat) (h : isKind k = false) : slF k = .nilFunc ∧ rfF k = .nilFunc := by
  unfold isKind at h
  rw [decide_eq_false_iff_not] at h
  unfold slF rfF
  exact ⟨by rw [if_neg (by omega), if_neg (by omega), if_neg (by omega)], by rw [if_neg (by omega), if_neg (by omega), if_neg (by omega)]⟩
theorem may_iff (k : Nat) (wd : Int) (mk : Nat) : may k wd mk ↔ isKind k = true ∧ (mn k ≤ wd ∧ wd ≤ mx k ∧ mk / 2 ^ wd.toNat = 0) := by
  unfold may isKind mn mx
  rw [decide_eq_true_iff]
  by_cases c1 : k = 1
  · subst c1; simp
    exact ⟨fun h => ⟨h.1.1, h.1.2, h.2⟩, fun h => ⟨⟨h.1, h.2.1⟩, h.2.2⟩⟩
  by_cases c3 : k = 3
  · subst c3; simp
    exact ⟨fun h => ⟨h.1.1, h.1.2, h.2⟩, fun h => ⟨⟨h.1, h.2.1⟩, h.2.2⟩⟩
  rw [if_neg c3, if_neg c1, if_neg c3]
  constructor
  · rintro ⟨h, hm⟩
    exact ⟨by omega, by omega, by omega, hm⟩
  · rintro ⟨h, h1, h2, hm⟩
    exact ⟨by omega, hm⟩

def es1 : Array MapEntry := #[ent 1 tr1 0]
def es2 : Array MapEntry := #[ent 1 tr1 0, ent 2 tr2 1]
def es3 : Array MapEntry := #[ent 1 tr1 0, ent 2 tr2 1, ent 3 tr3 2]
theorem far1 : ∀ e ∈ es1.toList, ∃ j : Nat, e.key = key j ∧ j ≠ 2 := by
  intro e he
  simp only [es1, List.mem_cons, List.not_mem_nil, or_false] at he
  subst he
  exact ⟨1, rfl, by decide⟩
theorem far2 : ∀ e ∈ es2.toList, ∃ j : Nat, e.key = key j ∧ j ≠ 3 := by
  intro e he
  simp only [es2, List.mem_cons, List.not_mem_nil, or_false] at he
  rcases he with rfl | rfl
  · exact ⟨1, rfl, by decide⟩
  · exact ⟨2, rfl, by decide⟩
theorem far3 : ∀ e ∈ es3.toList, ∃ j : Nat, e.key = key j ∧ j ≠ 4 := by
  intro e he
  simp only [es3, List.mem_cons, List.not_mem_nil, or_false] at he
  rcases he with rfl | rfl | rfl
  · exact ⟨1, rfl, by decide⟩
  · exact ⟨2, rfl, by decide⟩
  · exact ⟨3, rfl, by decide⟩
/-- A result that lies in memory, and one that does not. -/
theorem ret_row {P : Program} {f : Func} {p u : Tmp} {ty : TypeId} (h : f.results = #[.cell p ty, .tmp u]) {a : Act} {X : World} {g n : Nat} {cs : List Value} (d : TypeDesc) (hp : a.tmps.getD p undef = .pointer (some ⟨g, 0, none⟩)) (hH : Has X g ty cs) (hn : cs.length = n)
    (hu : P.underlying ty = some d) (hd : (match d with | .struct _ | .array _ _ => true | _ => false) = true) (hi : (P.info? ty).map (·.size) = some n) (hdf : a.defers = []) {R : Ending → World → Prop} (hR : R (.returned (.tuple #[.agg cs.toArray, a.tmps.getD u undef])) X) : bodyPost P f R .ret a X := by
  refine bodyPost_ret ?_ hdf hR
  rw [results_cell_tmp h, hp]
  have e := run_loadVar_row X g ty ty cs.toArray (0, 0) d hH hu hd (by rw [hi, ← hn]; simp)
  simp [asAddr, e, Result.andThen]
theorem size_traits : (Tryz.prog.info? 200).map (·.size) = some 5 := by kernel_rfl
theorem after (w w4 : World) (cs : List Value) (h : Kept [w.heap.size + 1] ((w.alloc (.cells cs.toArray 200)).alloc (.map #[] 0)) w4) : Kept [] w w4 ∧ Has w4 w.heap.size 200 cs := by
  refine ⟨(((Kept.refl [] w).alloc _).alloc _).forget h (fun i hi => ?_), ((Has.new w _ _).alloc _).kept h (by simp)⟩
  simp at hi
  omega
set_option maxRecDepth 100000 in
theorem traitsOf_ok (k : Nat) (hk : k < 256) (w : World) :
    Calls Tryz.prog 151 #[key k] w fun e w' => e = .returned (.tuple #[trV k, .bool (isKind k)]) ∧ Kept [] w w' := by
  have hmm := @run_makeMap Tryz.prog
  have HL := Lib.hid (fun (x : World) (b c : Nat) hb => run_look x b k c hk hb)
  clear hk
  generalize key k = kv at *
  unfold trV at *
  have hY := fns_yes k
  have hN := fns_no k
  generalize mn k = a1 at *
  generalize mx k = a2 at *
  generalize hl k = a3 at *
  generalize slF k = a4 at *
  generalize rfF k = a5 at *
  generalize isKind k = i at *
  have h0 : ∀ o, ((w.alloc o).alloc (.map #[] 0)).heap[w.heap.size + 1]? = some (.map #[] 0) := fun o => by
    rw [show w.heap.size + 1 = (w.alloc o).heap.size by simp]
    exact heap_alloc_new _ _
  cases i with
  | true =>
    obtain ⟨F, G, rfl, rfl⟩ := hY rfl
    clear hY hN
    go_enter Tryz.func151, Tryz.ntmps151
    go_wp2_with (first
      | (refine insert_at rfl _ _ _ rfl (w.heap.size + 1) 4 es3 3 tr4 rfl rfl rfl (by decide) hb3.out far3 ?_; intro w4 hb4 hk4; have hlk := HL.out w4 _ _ hb4
         obtain ⟨hK4, hH⟩ := after w w4 [.int .i64 0, .int .i64 0, .bool false, .nilFunc, .nilFunc] (((hk1.out.trans hk2.out).trans hk3.out).trans hk4)
         have c0 := fun o => (hH.alloc o).cell 0
         have c1 := fun o => (hH.alloc o).cell 1
         have c2 := fun o => (hH.alloc o).cell 2
         have c3 := fun o => (hH.alloc o).cell 3
         have c4 := fun o => (hH.alloc o).cell 4
         have f0 := fun o => (hH.alloc o).free 0
         have f1 := fun o => (hH.alloc o).free 1
         have f2 := fun o => (hH.alloc o).free 2
         have f3 := fun o => (hH.alloc o).free 3
         have f4 := fun o => (hH.alloc o).free 4
         simp at c0 c1 c2 c3 c4
         replace hK4 := Lib.hid hK4
         replace hH := Lib.hid hH
         clear hb4 hk4 hb3 hk3 hb2 hk2 hb1 hk1 h0 hmm)
      | (refine insert_at rfl _ _ _ rfl (w.heap.size + 1) 3 es2 2 tr3 rfl rfl rfl (by decide) hb2.out far2 ?_; intro w3 hb3 hk3; replace hb3 := Lib.hid hb3; replace hk3 := Lib.hid hk3)
      | (refine insert_at rfl _ _ _ rfl (w.heap.size + 1) 2 es1 1 tr2 rfl rfl rfl (by decide) hb1.out far1 ?_; intro w2 hb2 hk2; replace hb2 := Lib.hid hb2; replace hk2 := Lib.hid hk2)
      | (refine insert_at rfl _ _ _ rfl (w.heap.size + 1) 1 #[] 0 tr1 rfl rfl rfl (by decide) (h0 _) (by intro e he; cases he) ?_; intro w1 hb1 hk1; replace hb1 := Lib.hid hb1; replace hk1 := Lib.hid hk1))
    (try simp only [Exit.inBlock, Exit.then])
    refine ret_row rfl _ rfl ((((((hH.out.alloc _).put 0 _).put 1 _).put 2 _).put 3 _).put 4 _) rfl Tryz.underlying200 rfl size_traits rfl ?_
    have kk := fun o u0 u1 u2 u3 u4 => (((((hK4.out.alloc o).setCell ⟨w.heap.size, 0, none⟩ u0 (.inr (Nat.le_refl _))).setCell ⟨w.heap.size, 1, none⟩ u1 (.inr (Nat.le_refl _))).setCell ⟨w.heap.size, 2, none⟩ u2 (.inr (Nat.le_refl _))).setCell ⟨w.heap.size, 3, none⟩ u3 (.inr (Nat.le_refl _))).setCell ⟨w.heap.size, 4, none⟩ u4 (.inr (Nat.le_refl _))
    exact ⟨rfl, kk _ _ _ _ _ _⟩
  | false =>
    obtain ⟨rfl, rfl⟩ := hN rfl
    clear hY hN
    go_enter Tryz.func151, Tryz.ntmps151
    go_wp2_with (first
      | (refine insert_at rfl _ _ _ rfl (w.heap.size + 1) 4 es3 3 tr4 rfl rfl rfl (by decide) hb3.out far3 ?_; intro w4 hb4 hk4; have hlk := HL.out w4 _ _ hb4
         obtain ⟨hK4, hH⟩ := after w w4 [.int .i64 0, .int .i64 0, .bool false, .nilFunc, .nilFunc] (((hk1.out.trans hk2.out).trans hk3.out).trans hk4)
         have c0 := fun o => (hH.alloc o).cell 0
         have c1 := fun o => (hH.alloc o).cell 1
         have c2 := fun o => (hH.alloc o).cell 2
         have c3 := fun o => (hH.alloc o).cell 3
         have c4 := fun o => (hH.alloc o).cell 4
         have f0 := fun o => (hH.alloc o).free 0
         have f1 := fun o => (hH.alloc o).free 1
         have f2 := fun o => (hH.alloc o).free 2
         have f3 := fun o => (hH.alloc o).free 3
         have f4 := fun o => (hH.alloc o).free 4
         simp at c0 c1 c2 c3 c4
         replace hK4 := Lib.hid hK4
         replace hH := Lib.hid hH
         clear hb4 hk4 hb3 hk3 hb2 hk2 hb1 hk1 h0 hmm)
      | (refine insert_at rfl _ _ _ rfl (w.heap.size + 1) 3 es2 2 tr3 rfl rfl rfl (by decide) hb2.out far2 ?_; intro w3 hb3 hk3; replace hb3 := Lib.hid hb3; replace hk3 := Lib.hid hk3)
      | (refine insert_at rfl _ _ _ rfl (w.heap.size + 1) 2 es1 1 tr2 rfl rfl rfl (by decide) hb1.out far1 ?_; intro w2 hb2 hk2; replace hb2 := Lib.hid hb2; replace hk2 := Lib.hid hk2)
      | (refine insert_at rfl _ _ _ rfl (w.heap.size + 1) 1 #[] 0 tr1 rfl rfl rfl (by decide) (h0 _) (by intro e he; cases he) ?_; intro w1 hb1 hk1; replace hb1 := Lib.hid hb1; replace hk1 := Lib.hid hk1))
    (try simp only [Exit.inBlock, Exit.then])
    refine ret_row rfl _ rfl ((((((hH.out.alloc _).put 0 _).put 1 _).put 2 _).put 3 _).put 4 _) rfl Tryz.underlying200 rfl size_traits rfl ?_
    have kk := fun o u0 u1 u2 u3 u4 => (((((hK4.out.alloc o).setCell ⟨w.heap.size, 0, none⟩ u0 (.inr (Nat.le_refl _))).setCell ⟨w.heap.size, 1, none⟩ u1 (.inr (Nat.le_refl _))).setCell ⟨w.heap.size, 2, none⟩ u2 (.inr (Nat.le_refl _))).setCell ⟨w.heap.size, 3, none⟩ u3 (.inr (Nat.le_refl _))).setCell ⟨w.heap.size, 4, none⟩ u4 (.inr (Nat.le_refl _))
    exact ⟨rfl, kk _ _ _ _ _ _⟩
end Go.Proofs.YtagmmbkgjomdlaaGreatDoor.Kd

/-
  The constant table of the fields, as a world has it; headers in memory.
-/
namespace Go.Proofs.YtagmmbkgjomdlaaGreatDoor.Hd
open Go.RowKit Go.Proofs.YtagmmbkgjomdlaaGreatDoor.Ar
set_option linter.unusedVariables false

def fieldCells : Array Value := #[.int .i64 0, .int .i64 2, .int .i64 2, .int .i64 12, .int .i64 16, .int .i64 24, .int .i64 40, .int .i64 24]
/-- The table of the fields stands. -/
def Fields (w : World) : Prop := ∃ t fr, w.heap[0]? = some (.cells fieldCells t fr)
theorem Fields.lt {w : World} (h : Fields w) : 0 < w.heap.size := by
  obtain ⟨t, fr, e⟩ := h
  rcases Nat.lt_or_ge 0 w.heap.size with hlt | hge
  · exact hlt
  · rw [Array.getElem?_eq_none hge] at e
    cases e
theorem Fields.kept {S : List Nat} {w w' : World} (h : Fields w) (k : Kept S w w') (hS : ∀ i ∈ S, i ≠ 0) : Fields w' := by
  have := k.old _ h.lt fun hs => hS _ hs rfl
  obtain ⟨t, fr, e⟩ := h
  exact ⟨t, fr, this.trans e⟩
theorem Fields.keep0 {w w' : World} (h : Fields w) (k : Kept [] w w') : Fields w' := h.kept k (by simp)
theorem Fields.cell {w : World} (h : Fields w) (i : Nat) : w.cell? ⟨0, i, none⟩ = fieldCells[i]? := by
  obtain ⟨t, fr, e⟩ := h
  exact cell_of_row w _ i _ t fr e
theorem Fields.cells {w : World} (h : Fields w) : w.cell? ⟨0, 0, none⟩ = some (.int .i64 0) ∧ w.cell? ⟨0, 1, none⟩ = some (.int .i64 2) ∧ w.cell? ⟨0, 2, none⟩ = some (.int .i64 2) ∧ w.cell? ⟨0, 3, none⟩ = some (.int .i64 12)
    ∧ w.cell? ⟨0, 4, none⟩ = some (.int .i64 16) ∧ w.cell? ⟨0, 5, none⟩ = some (.int .i64 24) ∧ w.cell? ⟨0, 6, none⟩ = some (.int .i64 40) ∧ w.cell? ⟨0, 7, none⟩ = some (.int .i64 24) :=
  ⟨h.cell 0, h.cell 1, h.cell 2, h.cell 3, h.cell 4, h.cell 5, h.cell 6, h.cell 7⟩
end Go.Proofs.YtagmmbkgjomdlaaGreatDoor.Hd
