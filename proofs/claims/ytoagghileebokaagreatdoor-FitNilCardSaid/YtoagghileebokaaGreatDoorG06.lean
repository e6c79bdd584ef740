/-
  Several texts in one: KdTraits, KdLay, KdSlots, KdSize.
-/
import Derived.Test.YtoagghileebokaaGreatDoorG01
import Derived.Maps.OwnSet
import Derived.Laws.EntriesVeiled
/-
  What a kind has, out of a map that the call makes: the contract of traitsOf.
-/
namespace Go.Proofs.YtoagghileebokaaGreatDoor.Kd
open Go.RowKit Go.Proofs.YtoagghileebokaaGreatDoor.Ar Go.Maps
set_option linter.unusedVariables false

def fn (i : Nat) : Value := .func (.func i) #[] #[]
/-- What the kinds have. -/
def tr1 : Value := .agg #[.int .i64 0, .int .i64 64, .bool false, fn 146, fn 147]
def tr2 : Value := .agg #[.int .i64 0, .int .i64 0, .bool true, fn 148, fn 149]
def tr3 : Value := .agg #[.int .i64 1, .int .i64 16, .bool true, fn 150, fn 147]
def tr4 : Value := .agg #[.int .i64 0, .int .i64 0, .bool true, fn 148, fn 151]
def tr0 : Value := .agg #[.int .i64 0, .int .i64 0, .bool false, .nilFunc, .nilFunc]
def mn (k : Nat) : Int := if k = 3 then 1 else 0
def mx (k : Nat) : Int := if k = 1 then 64 else if k = 3 then 16 else 0
def hl (k : Nat) : Bool := decide (k = 2 ∨ k = 3 ∨ k = 4)
def slF (k : Nat) : Value := if k = 1 then fn 146 else if k = 3 then fn 150 else if k = 2 ∨ k = 4 then fn 148 else .nilFunc
def rfF (k : Nat) : Value := if k = 1 ∨ k = 3 then fn 147 else if k = 2 then fn 149 else if k = 4 then fn 151 else .nilFunc
def trV (k : Nat) : Value := .agg #[.int .i64 (mn k), .int .i64 (mx k), .bool (hl k), slF k, rfF k]
theorem tr_no (k : Nat) (c1 : ¬ k = 1) (c2 : ¬ k = 2) (c3 : ¬ k = 3) (c4 : ¬ k = 4) : trV k = tr0 := by
  unfold trV mn mx hl slF rfF tr0
  simp [c1, c2, c3, c4]
def isKind (k : Nat) : Bool := decide (k = 1 ∨ k = 2 ∨ k = 3 ∨ k = 4)
def key (k : Nat) : Value := .int .u8 (k : Int)
/-- Entries of a map of kinds. -/
def ent (k : Nat) (v : Value) (i : Nat) : MapEntry := ⟨key k, v, i⟩

theorem keyed : Keyed Tryz.prog 5 := int_keyed Tryz.underlying5
theorem keyOf_key (k : Nat) (h : k < 256) : keyOf Tryz.prog 5 (key k) = some (.int .u8 (k : Int)) :=
  keyOf_int_mk Tryz.underlying5 (by simp [Lit.wf, IntKind.min, IntKind.max, IntKind.signed, IntKind.bits]; omega)
theorem zeroT (w : World) : (zeroValue 152).run Tryz.prog w = .ok tr0 w := by kernel_rfl
theorem find_none (k : Nat) (es : List MapEntry) (h : ∀ e ∈ es, ∃ j : Nat, e.key = key j ∧ j ≠ k) : ∀ i, Instr.findNow (.int .u8) (key k) es i = some none := by
  induction es with
  | nil => intro i; rfl
  | cons e es ih =>
    intro i
    obtain ⟨j, hj, hne⟩ := h e (by simp)
    have := ih (fun x hx => h x (by simp [hx])) (i + 1)
    unfold Instr.findNow
    rw [hj]
    simp only [key, Instr.sameNow, if_true]
    rw [show ((k : Int) == (j : Int)) = false by rw [beq_eq_false_iff_ne]; omega]
    exact this
theorem run_insert (w : World) (b : Nat) (es : Array MapEntry) (clock k : Nat) (v : Value) (hk : k < 256) (hb : w.heap[b]? = some (.map es clock)) (h : ∀ e ∈ es.toList, ∃ j : Nat, e.key = key j ∧ j ≠ k) :
    (Instr.mapUpdate 215 (.map (some b)) (key k) v).run Tryz.prog w = .ok () (ChangeMaps.setBlock w b (.map (es.push (ent k v clock)) (clock + 1))) := by
  have hf : (Instr.findKey 5 (key k) es.toList).run Tryz.prog w = .ok none w := by
    simp [Instr.findKey, run_underlying Tryz.underlying5, find_none k es.toList h 0, Result.andThen]
  simp [Instr.mapUpdate, run_underlying Tryz.underlying215, MapKept.run_getObj_map hb, keyed.check w false (keyOf_key k hk), hf, MapKept.run_setObj_map _ hb, Result.andThen, ChangeMaps.setBlock, ent]
/-- 'm[k] = v' in a map's literal, at the operation. -/
theorem insert_at {w : World} {ops : Array Oper} {rest : List Oper} {o : Oper} {a : Act} {Q : Exit → Act → World → Prop} (hg : o.guard = none) (m x v : Operand)
    (hop : o.op = Op.insert 215 m x v) (b k : Nat) (es : Array MapEntry) (clock : Nat) (val : Value) (hm : a.eval m = .map (some b)) (hx : a.eval x = key k) (hv : a.eval v = val) (hk : k < 256)
    (hb : w.heap[b]? = some (.map es clock)) (h : ∀ e ∈ es.toList, ∃ j : Nat, e.key = key j ∧ j ≠ k)
    (hK : ∀ w', w'.heap[b]? = some (.map (es.push (ent k val clock)) (clock + 1)) → Kept [b] w w' → wpList Tryz.prog ops Q rest (a.put o.dst undef) w') : wpList Tryz.prog ops Q (o :: rest) a w := by
  refine wpList_plain hg fun K' hK' => ?_
  unfold Oper.wp
  simp [execOp, hop, hm, hx, hv, run_insert w b es clock k val hk hb h, Result.andThen]
  refine hK' _ _ (hK _ (ChangeMaps.heap_setBlock_same hb _) ⟨rfl, rfl, rfl, by simp [ChangeMaps.setBlock], fun i _ hi => ChangeMaps.heap_setBlock_other hb _ (fun e => hi (by simp [e]))⟩)
/-- The map of all kinds. -/
def all4 : Array MapEntry := #[ent 1 tr1 0, ent 2 tr2 1, ent 3 tr3 2, ent 4 tr4 3]
theorem run_look (w : World) (b k c : Nat) (hk : k < 256) (hb : w.heap[b]? = some (.map all4 c)) :
    (Instr.lookup 215 (.map (some b)) (key k) true).run Tryz.prog w = .ok (.tuple #[trV k, .bool (isKind k)]) w := by
  have hf : Instr.findNow (.int .u8) (key k) all4.toList 0 = some (if k = 1 then some (0, tr1) else if k = 2 then some (1, tr2) else if k = 3 then some (2, tr3) else if k = 4 then some (3, tr4) else none) := by
    by_cases c1 : k = 1
    · subst c1; rfl
    by_cases c2 : k = 2
    · subst c2; rfl
    by_cases c3 : k = 3
    · subst c3; rfl
    by_cases c4 : k = 4
    · subst c4; rfl
    rw [if_neg c1, if_neg c2, if_neg c3, if_neg c4]
    refine find_none k _ (fun e he => ?_) 0
    simp only [all4, List.mem_cons, List.not_mem_nil, or_false] at he
    rcases he with rfl | rfl | rfl | rfl
    · exact ⟨1, rfl, fun h => c1 h.symm⟩
    · exact ⟨2, rfl, fun h => c2 h.symm⟩
    · exact ⟨3, rfl, fun h => c3 h.symm⟩
    · exact ⟨4, rfl, fun h => c4 h.symm⟩
  have hr : (Instr.findKey 5 (key k) all4.toList).run Tryz.prog w = .ok (if k = 1 then some (0, tr1) else if k = 2 then some (1, tr2) else if k = 3 then some (2, tr3) else if k = 4 then some (3, tr4) else none) w := by
    simp [Instr.findKey, run_underlying Tryz.underlying5, hf, Result.andThen]
  have hc := keyed.check w all4.isEmpty (keyOf_key k hk)
  have hz := zeroT w
  by_cases c1 : k = 1
  · subst c1
    simp [Instr.lookup, run_underlying Tryz.underlying215, MapKept.run_getObj_map hb, hc, hr, Result.andThen, isKind]
    rfl
  by_cases c2 : k = 2
  · subst c2
    simp [Instr.lookup, run_underlying Tryz.underlying215, MapKept.run_getObj_map hb, hc, hr, Result.andThen, isKind]
    rfl
  by_cases c3 : k = 3
  · subst c3
    simp [Instr.lookup, run_underlying Tryz.underlying215, MapKept.run_getObj_map hb, hc, hr, Result.andThen, isKind]
    rfl
  by_cases c4 : k = 4
  · subst c4
    simp [Instr.lookup, run_underlying Tryz.underlying215, MapKept.run_getObj_map hb, hc, hr, Result.andThen, isKind]
    rfl
  simp [Instr.lookup, run_underlying Tryz.underlying215, MapKept.run_getObj_map hb, hc, hr, hz, Result.andThen, tr_no k c1 c2 c3 c4, isKind, c1, c2, c3, c4]
theorem fns_yes (k : Nat) (h : isKind k = true) : ∃ F G, slF k = .func F #[] #[] ∧ rfF k = .func G #[] #[] := by
  unfold isKind at h
  rw [decide_eq_true_iff] at h
  rcases h with rfl | rfl | rfl | rfl <;> exact ⟨_, _, rfl, rfl⟩
theorem fns_no (k : Nat) (h : isKind k = false) : slF k = .nilFunc ∧ rfF k = .nilFunc := by
  unfold isKind at h
  rw [decide_eq_false_iff_not] at h
  unfold slF rfF
  exact ⟨by rw [if_neg (by omega), if_neg (by omega), if_neg (by omega)], by rw [if_neg (by omega), if_neg (by omega), if_neg (by omega)]⟩
theorem may_iff (k : Nat) (wd : Int) (mk : Nat) : may k wd mk ↔ isKind k = true ∧ (mn k ≤ wd ∧ wd ≤ mx k ∧ mk / 2 ^ wd.toNat = 0) := by
  unfold may isKind mn mx
  rw [decide_eq_true_iff]
  by_cases c1 : k = 1
  · subst c1; simp
    exact ⟨fun h => ⟨h.1.1, h.1.2, h.2⟩, fun h => ⟨⟨h.1, h.2.1⟩, h.2.2⟩⟩
  by_cases c3 : k = 3
  · subst c3; simp
    exact ⟨fun h => ⟨h.1.1, h.1.2, h.2⟩, fun h => ⟨⟨h.1, h.2.1⟩, h.2.2⟩⟩
  rw [if_neg c3, if_neg c1, if_neg c3]
  constructor
  · rintro ⟨h, hm⟩
    exact ⟨by omega, by omega, by omega, hm⟩
  · rintro ⟨h, h1, h2, hm⟩
    exact ⟨by omega, hm⟩

def es1 : Array MapEntry := #[ent 1 tr1 0]
def es2 : Array MapEntry := #[ent 1 tr1 0, ent 2 tr2 1]
def es3 : Array MapEntry := #[ent 1 tr1 0, ent 2 tr2 1, ent 3 tr3 2]
theorem far1 : ∀ e ∈ es1.toList, ∃ j : Nat, e.key = key j ∧ j ≠ 2 := by
  intro e he
  simp only [es1, List.mem_cons, List.not_mem_nil, or_false] at he
  subst he
  exact ⟨1, rfl, by decide⟩
theorem far2 : ∀ e ∈ es2.toList, ∃ j : Nat, e.key = key j ∧ j ≠ 3 := by
  intro e he
  simp only [es2, List.mem_cons, List.not_mem_nil, or_false] at he
  rcases he with rfl | rfl
  · exact ⟨1, rfl, by decide⟩
  · exact ⟨2, rfl, by decide⟩
theorem far3 : ∀ e ∈ es3.toList, ∃ j : Nat, e.key = key j ∧ j ≠ 4 := by
  intro e he
  simp only [es3, List.mem_cons, List.not_mem_nil, or_false] at he
  rcases he with rfl | rfl | rfl
  · exact ⟨1, rfl, by decide⟩
  · exact ⟨2, rfl, by decide⟩
  · exact ⟨3, rfl, by decide⟩
/-- A result that lies in memory, and one that does not. -/
theorem ret_row {P : Program} {f : Func} {p u : Tmp} {ty : TypeId} (h : f.results = #[.cell p ty, .tmp u]) {a : Act} {X : World} {g n : Nat} {cs : List Value} (d : TypeDesc) (hp : a.tmps.getD p undef = .pointer (some ⟨g, 0, none⟩)) (hH : Has X g ty cs) (hn : cs.length = n)
    (hu : P.underlying ty = some d) (hd : (match d with | .struct _ | .array _ _ => true | _ => false) = true) (hi : (P.info? ty).map (·.size) = some n) (hdf : a.defers = []) {R : Ending → World → Prop} (hR : R (.returned (.tuple #[.agg cs.toArray, a.tmps.getD u undef])) X) : bodyPost P f R .ret a X := by
  refine bodyPost_ret ?_ hdf hR
  rw [results_cell_tmp h, hp]
  have e := run_loadVar_row X g ty ty cs.toArray (0, 0) d hH hu hd (by rw [hi, ← hn]; simp)
  simp [asAddr, e, Result.andThen]
theorem size_traits : (Tryz.prog.info? 152).map (·.size) = some 5 := by kernel_rfl
theorem after (w w4 : World) (cs : List Value) (h : Kept [w.heap.size + 1] ((w.alloc (.cells cs.toArray 152)).alloc (.map #[] 0)) w4) : Kept [] w w4 ∧ Has w4 w.heap.size 152 cs := by
  refine ⟨(((Kept.refl [] w).alloc _).alloc _).forget h (fun i hi => ?_), ((Has.new w _ _).alloc _).kept h (by simp)⟩
  simp at hi
  omega
set_option maxRecDepth 100000 in
theorem traitsOf_ok (k : Nat) (hk : k < 256) (w : World) :
    Calls Tryz.prog 118 #[key k] w fun e w' => e = .returned (.tuple #[trV k, .bool (isKind k)]) ∧ Kept [] w w' := by
  have hmm := @run_makeMap Tryz.prog
  have HL := Lib.hid (fun (x : World) (b c : Nat) hb => run_look x b k c hk hb)
  clear hk
  generalize key k = kv at *
  unfold trV at *
  have hY := fns_yes k
  have hN := fns_no k
  generalize mn k = a1 at *
  generalize mx k = a2 at *
  generalize hl k = a3 at *
  generalize slF k = a4 at *
  generalize rfF k = a5 at *
  generalize isKind k = i at *
  have h0 : ∀ o, ((w.alloc o).alloc (.map #[] 0)).heap[w.heap.size + 1]? = some (.map #[] 0) := fun o => by
    rw [show w.heap.size + 1 = (w.alloc o).heap.size by simp]
    exact heap_alloc_new _ _
  cases i with
  | true =>
    obtain ⟨F, G, rfl, rfl⟩ := hY rfl
    clear hY hN
    go_enter Tryz.func118, Tryz.ntmps118
    go_wp2_with (first
      | (refine insert_at rfl _ _ _ rfl (w.heap.size + 1) 4 es3 3 tr4 rfl rfl rfl (by decide) hb3.out far3 ?_; intro w4 hb4 hk4; have hlk := HL.out w4 _ _ hb4
         obtain ⟨hK4, hH⟩ := after w w4 [.int .i64 0, .int .i64 0, .bool false, .nilFunc, .nilFunc] (((hk1.out.trans hk2.out).trans hk3.out).trans hk4)
         have c0 := fun o => (hH.alloc o).cell 0
         have c1 := fun o => (hH.alloc o).cell 1
         have c2 := fun o => (hH.alloc o).cell 2
         have c3 := fun o => (hH.alloc o).cell 3
         have c4 := fun o => (hH.alloc o).cell 4
         have f0 := fun o => (hH.alloc o).free 0
         have f1 := fun o => (hH.alloc o).free 1
         have f2 := fun o => (hH.alloc o).free 2
         have f3 := fun o => (hH.alloc o).free 3
         have f4 := fun o => (hH.alloc o).free 4
         simp at c0 c1 c2 c3 c4
         replace hK4 := Lib.hid hK4
         replace hH := Lib.hid hH
         clear hb4 hk4 hb3 hk3 hb2 hk2 hb1 hk1 h0 hmm)
      | (refine insert_at rfl _ _ _ rfl (w.heap.size + 1) 3 es2 2 tr3 rfl rfl rfl (by decide) hb2.out far2 ?_; intro w3 hb3 hk3; replace hb3 := Lib.hid hb3; replace hk3 := Lib.hid hk3)
      | (refine insert_at rfl _ _ _ rfl (w.heap.size + 1) 2 es1 1 tr2 rfl rfl rfl (by decide) hb1.out far1 ?_; intro w2 hb2 hk2; replace hb2 := Lib.hid hb2; replace hk2 := Lib.hid hk2)
      | (refine insert_at rfl _ _ _ rfl (w.heap.size + 1) 1 #[] 0 tr1 rfl rfl rfl (by decide) (h0 _) (by intro e he; cases he) ?_; intro w1 hb1 hk1; replace hb1 := Lib.hid hb1; replace hk1 := Lib.hid hk1))
    (try simp only [Exit.inBlock, Exit.then])
    refine ret_row rfl _ rfl ((((((hH.out.alloc _).put 0 _).put 1 _).put 2 _).put 3 _).put 4 _) rfl Tryz.underlying152 rfl size_traits rfl ?_
    have kk := fun o u0 u1 u2 u3 u4 => (((((hK4.out.alloc o).setCell ⟨w.heap.size, 0, none⟩ u0 (.inr (Nat.le_refl _))).setCell ⟨w.heap.size, 1, none⟩ u1 (.inr (Nat.le_refl _))).setCell ⟨w.heap.size, 2, none⟩ u2 (.inr (Nat.le_refl _))).setCell ⟨w.heap.size, 3, none⟩ u3 (.inr (Nat.le_refl _))).setCell ⟨w.heap.size, 4, none⟩ u4 (.inr (Nat.le_refl _))
    exact ⟨rfl, kk _ _ _ _ _ _⟩
  | false =>
    obtain ⟨rfl, rfl⟩ := hN rfl
    clear hY hN
    go_enter Tryz.func118, Tryz.ntmps118
    go_wp2_with (first
      | (refine insert_at rfl _ _ _ rfl (w.heap.size + 1) 4 es3 3 tr4 rfl rfl rfl (by decide) hb3.out far3 ?_; intro w4 hb4 hk4; have hlk := HL.out w4 _ _ hb4
         obtain ⟨hK4, hH⟩ := after w w4 [.int .i64 0, .int .i64 0, .bool false, .nilFunc, .nilFunc] (((hk1.out.trans hk2.out).trans hk3.out).trans hk4)
         have c0 := fun o => (hH.alloc o).cell 0
         have c1 := fun o => (hH.alloc o).cell 1
         have c2 := fun o => (hH.alloc o).cell 2
         have c3 := fun o => (hH.alloc o).cell 3
         have c4 := fun o => (hH.alloc o).cell 4
         have f0 := fun o => (hH.alloc o).free 0
         have f1 := fun o => (hH.alloc o).free 1
         have f2 := fun o => (hH.alloc o).free 2
         have f3 := fun o => (hH.alloc o).free 3
         have f4 := fun o => (hH.alloc o).free 4
         simp at c0 c1 c2 c3 c4
         replace hK4 := Lib.hid hK4
         replace hH := Lib.hid hH
         clear hb4 hk4 hb3 hk3 hb2 hk2 hb1 hk1 h0 hmm)
      | (refine insert_at rfl _ _ _ rfl (w.heap.size + 1) 3 es2 2 tr3 rfl rfl rfl (by decide) hb2.out far2 ?_; intro w3 hb3 hk3; replace hb3 := Lib.hid hb3; replace hk3 := Lib.hid hk3)
      | (refine insert_at rfl _ _ _ rfl (w.heap.size + 1) 2 es1 1 tr2 rfl rfl rfl (by decide) hb1.out far1 ?_; intro w2 hb2 hk2; replace hb2 := Lib.hid hb2; replace hk2 := Lib.hid hk2)
      | (refine insert_at rfl _ _ _ rfl (w.heap.size + 1) 1 #[] 0 tr1 rfl rfl rfl (by decide) (h0 _) (by intro e he; cases he) ?_; intro w1 hb1 hk1; replace hb1 := Lib.hid hb1; replace hk1 := Lib.hid hk1))
    (try simp only [Exit.inBlock, Exit.then])
    refine ret_row rfl _ rfl ((((((hH.out.alloc _).put 0 _).put 1 _).put 2 _).put 3 _).put 4 _) rfl Tryz.underlying152 rfl size_traits rfl ?_
    have kk := fun o u0 u1 u2 u3 u4 => (((((hK4.out.alloc o).setCell ⟨w.heap.size, 0, none⟩ u0 (.inr (Nat.le_refl _))).setCell ⟨w.heap.size, 1, none⟩ u1 (.inr (Nat.le_refl _))).setCell ⟨w.heap.size, 2, none⟩ u2 (.inr (Nat.le_refl _))).setCell ⟨w.heap.size, 3, none⟩ u3 (.inr (Nat.le_refl _))).setCell ⟨w.heap.size, 4, none⟩ u4 (.inr (Nat.le_refl _))
    exact ⟨rfl, kk _ _ _ _ _ _⟩
end Go.Proofs.YtoagghileebokaaGreatDoor.Kd

/-
  The contract of layoutOf: the layout of an object of a type with a length, or why there is none.
-/
namespace Go.Proofs.YtoagghileebokaaGreatDoor.Kd
open Go.RowKit Go.Proofs.YtoagghileebokaaGreatDoor.Ar Go.Maps
set_option linter.unusedVariables false

def typL (k : Nat) (wd : Int) (mk : Nat) : List Value := [.int .u8 (k : Int), .int .i64 wd, .int .u64 (mk : Int)]
def typV (k : Nat) (wd : Int) (mk : Nat) : Value := .agg #[.int .u8 (k : Int), .int .i64 wd, .int .u64 (mk : Int)]
/-- The layout of an object that may be. -/
def layT (k : Nat) (wd : Int) (mk : Nat) (n : Int) : Value := layV k wd mk n (mn k) (mx k) (hl k) (slF k) (rfF k)
/-- No layout. -/
def lay0 : Value := .agg #[.int .u8 0, .int .i64 0, .int .u64 0, .int .i64 0, .int .i64 0, .int .i64 0, .bool false, .nilFunc, .nilFunc]
theorem size_layout : (Tryz.prog.info? 154).map (·.size) = some 9 := by kernel_rfl
theorem err_kind {k : Nat} {wd : Int} {mk : Nat} {n : Int} (h : isKind k = false) : err k wd mk n = 2 := by
  unfold err
  rw [if_pos (.inl fun hm => by rw [may_iff, h] at hm; cases hm.1)]
theorem err_valid {k : Nat} {wd : Int} {mk : Nat} {n : Int} (h : decide (mn k ≤ wd ∧ wd ≤ mx k ∧ mk / 2 ^ wd.toNat = 0) = false) : err k wd mk n = 2 := by
  rw [decide_eq_false_iff_not] at h
  unfold err
  rw [if_pos (.inl fun hm => h ((may_iff k wd mk).1 hm).2)]
theorem err_neg {k : Nat} {wd : Int} {mk : Nat} {n : Int} (h : n < 0) : err k wd mk n = 2 := by
  unfold err
  rw [if_pos (.inr (.inl h))]
theorem hl_iff (k : Nat) (h : isKind k = true) : hl k = false ↔ k = 1 := by
  unfold isKind at h
  rw [decide_eq_true_iff] at h
  unfold hl
  rw [decide_eq_false_iff_not]
  omega
theorem err_len {k : Nat} {wd : Int} {mk : Nat} {n : Int} (hi : isKind k = true) (h : 0 < n) (hl : hl k = false) : err k wd mk n = 2 := by
  unfold err
  rw [if_pos (.inr (.inr ⟨h, (hl_iff k hi).1 hl⟩))]
theorem err_rest {k : Nat} {wd : Int} {mk : Nat} {n : Int} (hi : isKind k = true) (hv : decide (mn k ≤ wd ∧ wd ≤ mx k ∧ mk / 2 ^ wd.toNat = 0) = true) (h0 : ¬ n < 0) (h1 : ¬ (0 < n ∧ hl k = false)) :
    err k wd mk n = if 4096 < n then 5 else 0 := by
  unfold err
  rw [if_neg]
  rintro (h | h | ⟨h2, h3⟩)
  · exact h ((may_iff k wd mk).2 ⟨hi, of_decide_eq_true hv⟩)
  · exact h0 h
  · exact h1 ⟨h2, (hl_iff k hi).2 h3⟩
def put9 (b : Nat) (v0 v1 v2 v3 v4 v5 v6 v7 v8 : Value) (w : World) : World :=
  ((((((((w.setCell ⟨b, 0, none⟩ v0).setCell ⟨b, 1, none⟩ v1).setCell ⟨b, 2, none⟩ v2).setCell ⟨b, 3, none⟩ v3).setCell ⟨b, 4, none⟩ v4).setCell ⟨b, 5, none⟩ v5).setCell ⟨b, 6, none⟩ v6).setCell ⟨b, 7, none⟩ v7).setCell ⟨b, 8, none⟩ v8
theorem put9_has {b : Nat} {t : TypeId} {w : World} {a0 a1 a2 a3 a4 a5 a6 a7 a8 : Value} (h : Has w b t [a0, a1, a2, a3, a4, a5, a6, a7, a8]) (v0 v1 v2 v3 v4 v5 v6 v7 v8 : Value) : Has (put9 b v0 v1 v2 v3 v4 v5 v6 v7 v8 w) b t [v0, v1, v2, v3, v4, v5, v6, v7, v8] :=
  (((((((((h.put 0 v0).put 1 v1).put 2 v2).put 3 v3).put 4 v4).put 5 v5).put 6 v6).put 7 v7).put 8 v8)
theorem put9_kept {b : Nat} {w0 w : World} (h : Kept [] w0 w) (hb : w0.heap.size ≤ b) (v0 v1 v2 v3 v4 v5 v6 v7 v8 : Value) : Kept [] w0 (put9 b v0 v1 v2 v3 v4 v5 v6 v7 v8 w) :=
  ((((((((h.setCell ⟨b, 0, none⟩ v0 (.inr hb)).setCell ⟨b, 1, none⟩ v1 (.inr hb)).setCell ⟨b, 2, none⟩ v2 (.inr hb)).setCell ⟨b, 3, none⟩ v3 (.inr hb)).setCell ⟨b, 4, none⟩ v4 (.inr hb)).setCell ⟨b, 5, none⟩ v5 (.inr hb)).setCell ⟨b, 6, none⟩ v6 (.inr hb)).setCell ⟨b, 7, none⟩ v7 (.inr hb)).setCell ⟨b, 8, none⟩ v8 (.inr hb)
/-- The end of layoutOf: the result lies in block b of nine cells. -/
theorem ret_lay {P : Program} {f : Func} {p u : Tmp} {ty : TypeId} (h : f.results = #[.cell p ty, .tmp u]) {a : Act} {w0 w : World} {g : Nat} {a0 a1 a2 a3 a4 a5 a6 a7 a8 : Value} {v0 v1 v2 v3 v4 v5 v6 v7 v8 : Value} (d : TypeDesc) (hp : a.tmps.getD p undef = .pointer (some ⟨g, 0, none⟩)) (hH : Has w g ty [a0, a1, a2, a3, a4, a5, a6, a7, a8]) (hk : Kept [] w0 w) (hg : w0.heap.size ≤ g)
    (hu : P.underlying ty = some d) (hd : (match d with | .struct _ | .array _ _ => true | _ => false) = true) (hi : (P.info? ty).map (·.size) = some 9) (hdf : a.defers = []) {E : Value} (hE : a.tmps.getD u undef = E) {R : Ending → World → Prop}
    (hR : ∀ X, Kept [] w0 X → R (.returned (.tuple #[.agg #[v0, v1, v2, v3, v4, v5, v6, v7, v8], E])) X) : bodyPost P f R .ret a (put9 g v0 v1 v2 v3 v4 v5 v6 v7 v8 w) := by
  refine ret_row h d hp (put9_has hH v0 v1 v2 v3 v4 v5 v6 v7 v8) rfl hu hd hi hdf ?_
  rw [hE]
  exact hR _ (put9_kept hk hg _ _ _ _ _ _ _ _ _)

theorem cells9 {w : World} {b : Nat} {t : TypeId} {v0 v1 v2 v3 v4 v5 v6 v7 v8 : Value} (h : Has w b t [v0, v1, v2, v3, v4, v5, v6, v7, v8]) :
    w.cell? ⟨b, 0, none⟩ = some v0 ∧ w.cell? ⟨b, 1, none⟩ = some v1 ∧ w.cell? ⟨b, 2, none⟩ = some v2 ∧ w.cell? ⟨b, 3, none⟩ = some v3 ∧ w.cell? ⟨b, 4, none⟩ = some v4 ∧ w.cell? ⟨b, 5, none⟩ = some v5 ∧ w.cell? ⟨b, 6, none⟩ = some v6 ∧ w.cell? ⟨b, 7, none⟩ = some v7 ∧ w.cell? ⟨b, 8, none⟩ = some v8 :=
  ⟨h.cell 0, h.cell 1, h.cell 2, h.cell 3, h.cell 4, h.cell 5, h.cell 6, h.cell 7, h.cell 8⟩
theorem free9 {w : World} {b : Nat} {t : TypeId} {cs : List Value} (h : Has w b t cs) :
    w.frozen? ⟨b, 0, none⟩ = false ∧ w.frozen? ⟨b, 1, none⟩ = false ∧ w.frozen? ⟨b, 2, none⟩ = false ∧ w.frozen? ⟨b, 3, none⟩ = false ∧ w.frozen? ⟨b, 4, none⟩ = false ∧ w.frozen? ⟨b, 5, none⟩ = false ∧ w.frozen? ⟨b, 6, none⟩ = false ∧ w.frozen? ⟨b, 7, none⟩ = false ∧ w.frozen? ⟨b, 8, none⟩ = false :=
  ⟨h.free 0, h.free 1, h.free 2, h.free 3, h.free 4, h.free 5, h.free 6, h.free 7, h.free 8⟩
theorem after_lay {W W2 : World} {o : Obj} {t : TypeId} (cs : List Value) (h : Kept [] ((W.alloc o).alloc (.cells cs.toArray t)) W2) : Has W2 (W.heap.size + 1) t cs := by
  have := (Has.new (W.alloc o) t cs).keep0 h
  rwa [show (W.alloc o).heap.size = W.heap.size + 1 by simp] at this
theorem cells3 {w : World} {b : Nat} {t : TypeId} {v0 v1 v2 : Value} (h : Has w b t [v0, v1, v2]) : w.cell? ⟨b, 0, none⟩ = some v0 ∧ w.cell? ⟨b, 1, none⟩ = some v1 ∧ w.cell? ⟨b, 2, none⟩ = some v2 :=
  ⟨h.cell 0, h.cell 1, h.cell 2⟩

set_option maxRecDepth 100000 in
set_option maxHeartbeats 4000000 in
theorem layoutOf_ok (k : Nat) (wd : Int) (mk : Nat) (n : Int) (hk : k < 256) (hm : mk < 18446744073709551616) (w : World) :
    Calls Tryz.prog 86 #[typV k wd mk, .int .i64 n] w fun e w' => e = .returned (.tuple #[if err k wd mk n = 0 then layT k wd mk n else lay0, .int .i64 (err k wd mk n)]) ∧ Kept [] w w' := by
  have HT := Lib.hid (fun x => traitsOf_ok k hk x)
  have HV := Lib.hid (fun x => valid_ok k wd mk n (mn k) (mx k) (hl k) (slF k) (rfF k) x (by unfold mn; split <;> decide) (by unfold mx; split <;> (try split) <;> decide) hm)
  unfold trV key at HT
  unfold layV at HV
  unfold typV layT layV lay0
  have hk0 : ∀ o o', Kept [] w ((w.alloc o).alloc o') := fun o o' => ((Kept.refl [] w).alloc o).alloc o'
  have hb0 : ∀ o, Has ((w.alloc (.cells #[.int .u8 (k : Int), .int .i64 wd, .int .u64 (mk : Int)] 57)).alloc o) w.heap.size 57 (typL k wd mk) := fun o => (Has.new w _ _).alloc o
  have hz0 : ∀ o, Has ((w.alloc o).alloc (.cells #[.int .u8 0, .int .i64 0, .int .u64 0, .int .i64 0, .int .i64 0, .int .i64 0, .bool false, .nilFunc, .nilFunc] 154)) (w.heap.size + 1) 154 [.int .u8 0, .int .i64 0, .int .u64 0, .int .i64 0, .int .i64 0, .int .i64 0, .bool false, .nilFunc, .nilFunc] := fun o => by
    have := Has.new (w.alloc o) 154 [.int .u8 0, .int .i64 0, .int .u64 0, .int .i64 0, .int .i64 0, .int .i64 0, .bool false, .nilFunc, .nilFunc]
    rwa [show (w.alloc o).heap.size = w.heap.size + 1 by simp] at this
  have HE : Hid (w.heap.size ≤ w.heap.size + 1) := Lib.hid (Nat.le_succ _)
  cases hi : isKind k with
  | false =>
    rw [err_kind hi, if_neg (by decide)]
    obtain ⟨e1, e2⟩ := fns_no k hi
    rw [hi, e1, e2] at HT
    clear HV e1 e2 hi
    generalize mn k = a1 at *
    generalize mx k = a2 at *
    generalize hl k = a3 at *
    go_enter Tryz.func86, Tryz.ntmps86
    go_wp2_with fail
    refine (HT.out _).mono ?_
    rintro e W1 ⟨rfl, hk1⟩
    have hb := (hb0 _).keep0 hk1
    have hz := (hz0 _).keep0 hk1
    have hkw := (hk0 _ _).trans hk1
    have HB : Hid (w.heap.size ≤ w.heap.size + 1) := Lib.hid (Nat.le_succ _)
    generalize w.heap.size + 1 = B4 at *
    generalize hB0 : w.heap.size = B0 at *
    have b0 := fun o => (cells3 (hb.alloc o)).1
    have b1 := fun o => (cells3 (hb.alloc o)).2.1
    have b2 := fun o => (cells3 (hb.alloc o)).2.2
    have z0 := fun o o' => (cells9 ((hz.alloc o).alloc o')).1
    have z1 := fun o o' => (cells9 ((hz.alloc o).alloc o')).2.1
    have z2 := fun o o' => (cells9 ((hz.alloc o).alloc o')).2.2.1
    have z3 := fun o o' => (cells9 ((hz.alloc o).alloc o')).2.2.2.1
    have z4 := fun o o' => (cells9 ((hz.alloc o).alloc o')).2.2.2.2.1
    have z5 := fun o o' => (cells9 ((hz.alloc o).alloc o')).2.2.2.2.2.1
    have z6 := fun o o' => (cells9 ((hz.alloc o).alloc o')).2.2.2.2.2.2.1
    have z7 := fun o o' => (cells9 ((hz.alloc o).alloc o')).2.2.2.2.2.2.2.1
    have z8 := fun o o' => (cells9 ((hz.alloc o).alloc o')).2.2.2.2.2.2.2.2
    have y0 := fun o o' => (free9 ((hz.alloc o).alloc o')).1
    have y1 := fun o o' => (free9 ((hz.alloc o).alloc o')).2.1
    have y2 := fun o o' => (free9 ((hz.alloc o).alloc o')).2.2.1
    have y3 := fun o o' => (free9 ((hz.alloc o).alloc o')).2.2.2.1
    have y4 := fun o o' => (free9 ((hz.alloc o).alloc o')).2.2.2.2.1
    have y5 := fun o o' => (free9 ((hz.alloc o).alloc o')).2.2.2.2.2.1
    have y6 := fun o o' => (free9 ((hz.alloc o).alloc o')).2.2.2.2.2.2.1
    have y7 := fun o o' => (free9 ((hz.alloc o).alloc o')).2.2.2.2.2.2.2.1
    have y8 := fun o o' => (free9 ((hz.alloc o).alloc o')).2.2.2.2.2.2.2.2
    have Hz := Lib.hid hz
    have Hkw := Lib.hid hkw
    clear hz hkw hk1 hb hb0 hz0 hk0 HE
    go_wp2_with fail
    (try simp only [Exit.inBlock, Exit.then])
    refine ret_lay (w0 := w) (w := (W1.alloc _).alloc _) rfl _ rfl ((Hz.out.alloc _).alloc _) ((Hkw.out.alloc _).alloc _) (hB0 ▸ HB.out) Tryz.underlying154 rfl size_layout rfl rfl ?_
    intro X hX
    exact ⟨rfl, hX⟩
  | true =>
    obtain ⟨F, G, e1, e2⟩ := fns_yes k hi
    have hE1 := err_valid (k := k) (wd := wd) (mk := mk) (n := n)
    have hE2 := err_rest (k := k) (wd := wd) (mk := mk) (n := n) hi
    have hE3 := err_len (k := k) (wd := wd) (mk := mk) (n := n) hi
    have hE4 := err_neg (k := k) (wd := wd) (mk := mk) (n := n)
    rw [hi, e1, e2] at HT
    rw [e1, e2] at HV
    rw [e1, e2]
    clear hi e1 e2
    generalize decide (mn k ≤ wd ∧ wd ≤ mx k ∧ mk / 2 ^ wd.toNat = 0) = v at *
    generalize mn k = a1 at *
    generalize mx k = a2 at *
    generalize hl k = a3 at *
    generalize err k wd mk n = er at *
    have HR : Hid (er = if v = false ∨ n < 0 ∨ (0 < n ∧ a3 = false) then 2 else if 4096 < n then 5 else 0) := Lib.hid (by
      cases v with
      | false => rw [hE1 rfl, if_pos (.inl rfl)]
      | true =>
        by_cases h1 : n < 0
        · rw [hE4 h1, if_pos (.inr (.inl h1))]
        · by_cases h2 : 0 < n ∧ a3 = false
          · rw [hE3 h2.1 h2.2, if_pos (.inr (.inr h2))]
          · rw [hE2 rfl h1 h2]
            refine (if_neg ?_).symm
            rintro (h | h | h)
            · cases h
            · exact h1 h
            · exact h2 h)
    clear hE1 hE2 hE3 hE4
    go_enter Tryz.func86, Tryz.ntmps86
    go_wp2_with fail
    refine (HT.out _).mono ?_
    rintro e W1 ⟨rfl, hk1⟩
    have hb := (hb0 _).keep0 hk1
    have hz := (hz0 _).keep0 hk1
    have hkw := (hk0 _ _).trans hk1
    have HB : Hid (w.heap.size ≤ w.heap.size + 1) := Lib.hid (Nat.le_succ _)
    generalize w.heap.size + 1 = B4 at *
    generalize hB0 : w.heap.size = B0 at *
    have b0 := fun o => (cells3 (hb.alloc o)).1
    have b1 := fun o => (cells3 (hb.alloc o)).2.1
    have b2 := fun o => (cells3 (hb.alloc o)).2.2
    have Hz := Lib.hid hz
    have Hkw := Lib.hid hkw
    have Hb := Lib.hid hb
    clear hz hkw hk1 hb hb0 hz0 hk0 HE
    go_wp2_with fail
    refine (HV.out _).mono ?_
    rintro e W2 ⟨rfl, hk2⟩
    have hl := after_lay _ hk2
    have hz := ((Hz.out.alloc _).alloc _).keep0 hk2
    have hkw := ((Hkw.out.alloc _).alloc _).trans hk2
    clear hk2 Hz Hkw Hb b0 b1 b2
    generalize W1.heap.size + 1 = B8 at *
    obtain ⟨x0, x1, x2, x3, x4, x5, x6, x7, x8⟩ := cells9 hl
    obtain ⟨z0, z1, z2, z3, z4, z5, z6, z7, z8⟩ := cells9 hz
    obtain ⟨y0, y1, y2, y3, y4, y5, y6, y7, y8⟩ := free9 hz
    have Hz := Lib.hid hz
    have Hkw := Lib.hid hkw
    clear hz hkw hl HT HV
    cases v with
    | false =>
      obtain rfl : er = 2 := HR.out.trans (if_pos (.inl rfl))
      clear HR
      go_wp2_with fail
      (try simp only [Exit.inBlock, Exit.then])
      refine ret_lay (w0 := w) (w := W2) rfl _ rfl Hz.out Hkw.out (hB0 ▸ HB.out) Tryz.underlying154 rfl size_layout rfl rfl ?_
      intro X hX
      exact ⟨rfl, hX⟩
    | true =>
      by_cases h1 : n < 0
      · obtain rfl : er = 2 := HR.out.trans (if_pos (.inr (.inl h1)))
        clear HR
        go_wp2_with fail
        (try simp only [Exit.inBlock, Exit.then])
        refine ret_lay (w0 := w) (w := W2) rfl _ rfl Hz.out Hkw.out (hB0 ▸ HB.out) Tryz.underlying154 rfl size_layout rfl rfl ?_
        intro X hX
        exact ⟨rfl, hX⟩
      · by_cases h2 : 0 < n
        · cases a3 with
          | false =>
            obtain rfl : er = 2 := HR.out.trans (if_pos (.inr (.inr ⟨h2, rfl⟩)))
            clear HR
            go_wp2_with fail
            (try simp only [Exit.inBlock, Exit.then])
            refine ret_lay (w0 := w) (w := W2) rfl _ rfl Hz.out Hkw.out (hB0 ▸ HB.out) Tryz.underlying154 rfl size_layout rfl rfl ?_
            intro X hX
            exact ⟨rfl, hX⟩
          | true =>
            by_cases h3 : 4096 < n
            · obtain rfl : er = 5 := HR.out.trans ((if_neg (by rintro (h | h | h); cases h; exact h1 h; cases h.2)).trans (if_pos h3))
              clear HR
              go_wp2_with fail
              (try simp only [Exit.inBlock, Exit.then])
              refine ret_lay (w0 := w) (w := W2) rfl _ rfl Hz.out Hkw.out (hB0 ▸ HB.out) Tryz.underlying154 rfl size_layout rfl rfl ?_
              intro X hX
              exact ⟨rfl, hX⟩
            · obtain rfl : er = 0 := HR.out.trans ((if_neg (by rintro (h | h | h); cases h; exact h1 h; cases h.2)).trans (if_neg h3))
              clear HR
              go_wp2_with fail
              (try simp only [Exit.inBlock, Exit.then])
              refine ret_lay (w0 := w) (w := W2) rfl _ rfl Hz.out Hkw.out (hB0 ▸ HB.out) Tryz.underlying154 rfl size_layout rfl rfl ?_
              intro X hX
              exact ⟨rfl, hX⟩
        · have h3 : ¬ 4096 < n := by omega
          obtain rfl : er = 0 := HR.out.trans ((if_neg (by rintro (h | h | h); cases h; exact h1 h; exact h2 h.1)).trans (if_neg h3))
          clear HR
          go_wp2_with fail
          (try simp only [Exit.inBlock, Exit.then])
          refine ret_lay (w0 := w) (w := W2) rfl _ rfl Hz.out Hkw.out (hB0 ▸ HB.out) Tryz.underlying154 rfl size_layout rfl rfl ?_
          intro X hX
          exact ⟨rfl, hX⟩
end Go.Proofs.YtoagghileebokaaGreatDoor.Kd

/-
  The contracts of Check and Slots; what a layout's functions answer.
-/
namespace Go.Proofs.YtoagghileebokaaGreatDoor.Kd
open Go.RowKit Go.Proofs.YtoagghileebokaaGreatDoor.Ar Go.Maps
set_option linter.unusedVariables false

theorem err_zero {k : Nat} {wd : Int} {mk : Nat} {n : Int} (h : err k wd mk n = 0) : may k wd mk ∧ 0 ≤ n ∧ n ≤ 4096 ∧ (k = 1 → n = 0) := by
  unfold err at h
  by_cases c : ¬ may k wd mk ∨ n < 0 ∨ (0 < n ∧ k = 1)
  · rw [if_pos c] at h; cases h
  · rw [if_neg c] at h
    by_cases c2 : 4096 < n
    · rw [if_pos c2] at h; cases h
    · by_cases hm : may k wd mk
      · exact ⟨hm, by omega, by omega, by omega⟩
      · exact absurd (.inl hm) c
theorem may_kind {k : Nat} {wd : Int} {mk : Nat} (h : may k wd mk) : isKind k = true ∧ 0 ≤ wd ∧ wd ≤ 64 ∧ (k = 1 ∨ k = 2 ∨ k = 3 ∨ k = 4) ∧ (k = 3 → 1 ≤ wd ∧ wd ≤ 16) := by
  have hi := ((may_iff k wd mk).1 h).1
  have h1 := h.1
  have h4 : k = 1 ∨ k = 2 ∨ k = 3 ∨ k = 4 := of_decide_eq_true hi
  exact ⟨hi, by omega, by omega, h4, fun e => by omega⟩
theorem mul_bound {a b A B : Int} (h0 : 0 ≤ a) (h1 : a ≤ A) (h2 : 0 ≤ b) (h3 : b ≤ B) : 0 ≤ a * b ∧ a * b ≤ A * B :=
  ⟨Int.mul_nonneg h0 h2, Int.mul_le_mul h1 h3 h2 (by omega)⟩
theorem slots_bound {k : Nat} {wd : Int} {mk : Nat} {n : Int} (h : err k wd mk n = 0) : 0 ≤ slots k wd n ∧ slots k wd n ≤ 65536 := by
  obtain ⟨hm, h0, h1, _⟩ := err_zero h
  obtain ⟨_, w0, w1, _, w3⟩ := may_kind hm
  unfold slots
  by_cases c1 : k = 1
  · rw [if_pos c1]; omega
  · rw [if_neg c1]
    by_cases c3 : k = 3
    · rw [if_pos c3]
      exact mul_bound h0 h1 (by omega) (w3 c3).2
    · rw [if_neg c3]; omega
/-- What a layout's two functions are, and answer. -/
structure Fns (k : Nat) (wd : Int) (mk : Nat) (n : Int) (i j : Nat) : Prop where
  sl : slF k = fn i
  rf : rfF k = fn j
  inSl : ∀ args x, (callFunc i args).run Tryz.prog x = .ok (.enter i args) x
  inRf : ∀ args x, (callFunc j args).run Tryz.prog x = .ok (.enter j args) x
  doSl : ∀ x, Calls Tryz.prog i #[layV k wd mk n (mn k) (mx k) (hl k) (fn i) (fn j)] x fun e w' => e = .returned (.int .i64 (slots k wd n)) ∧ Kept [] x w'
  doRf : ∀ (s : Nat) x, (s : Int) < slots k wd n → Calls Tryz.prog j #[layV k wd mk n (mn k) (mx k) (hl k) (fn i) (fn j), .int .i64 (s : Int)] x fun e w' => e = .returned (.bool (isRef k wd mk s)) ∧ Kept [] x w'
theorem fns {k : Nat} {wd : Int} {mk : Nat} {n : Int} (h : err k wd mk n = 0) (hm : mk < 18446744073709551616) : ∃ i j, Fns k wd mk n i j := by
  have hb := slots_bound h
  obtain ⟨hy, h0, h1, _⟩ := err_zero h
  obtain ⟨_, w0, w1, hk, w3⟩ := may_kind hy
  rcases hk with rfl | rfl | rfl | rfl
  · refine ⟨_, _, rfl, rfl, fun _ _ => by kernel_rfl, fun _ _ => by kernel_rfl, fun x => words_ok _ _ _ _ _ _ _ _ _ x, fun s x hs => ?_⟩
    have hs' : (s : Int) < wd := hs
    have := masked_ok 1 wd.toNat mk n (mn 1) (mx 1) (hl 1) (fn 146) (fn 147) s x (by omega) (by omega) (by omega) hm
    rwa [Int.toNat_of_nonneg w0] at this
  · exact ⟨_, _, rfl, rfl, fun _ _ => by kernel_rfl, fun _ _ => by kernel_rfl, fun x => length_ok _ _ _ _ _ _ _ _ _ x, fun s x hs => always_ok _ _ _ _ _ _ _ _ _ _ x⟩
  · refine ⟨_, _, rfl, rfl, fun _ _ => by kernel_rfl, fun _ _ => by kernel_rfl, fun x => elements_ok _ _ _ _ _ _ _ _ _ x (by have : slots 3 wd n = n * wd := rfl; omega) (by have : slots 3 wd n = n * wd := rfl; omega), fun s x hs => ?_⟩
    have := masked_ok 3 wd.toNat mk n (mn 3) (mx 3) (hl 3) (fn 150) (fn 147) s x (by have := w3 rfl; omega) (by omega) (by omega) hm
    rwa [Int.toNat_of_nonneg w0] at this
  · exact ⟨_, _, rfl, rfl, fun _ _ => by kernel_rfl, fun _ _ => by kernel_rfl, fun x => length_ok _ _ _ _ _ _ _ _ _ x, fun s x hs => never_ok _ _ _ _ _ _ _ _ _ _ x⟩

set_option maxRecDepth 100000 in
theorem check_ok (k : Nat) (wd : Int) (mk : Nat) (hk : k < 256) (hm : mk < 18446744073709551616) (w : World) :
    Calls Tryz.prog 63 #[typV k wd mk] w fun e w' => e = .returned (.int .i64 (err k wd mk 0)) ∧ Kept [] w w' := by
  have HL := Lib.hid (fun x => layoutOf_ok k wd mk 0 hk hm x)
  have hka : ∀ (x : World) (o : Obj), Kept [] x (x.alloc o) := fun x o => (Kept.refl [] x).alloc o
  unfold typV layT layV lay0 at *
  by_cases h : err k wd mk 0 = 0
  · obtain ⟨F, G, e1, e2⟩ := fns_yes k (may_kind (err_zero h).1).1
    simp only [h, if_true, e1, e2] at HL ⊢
    clear h e1 e2
    generalize mn k = a1 at *
    generalize mx k = a2 at *
    generalize hl k = a3 at *
    go_enter Tryz.func63, Tryz.ntmps63
    go_wp2_with fail
    refine (HL.out _).mono ?_
    rintro e W1 ⟨rfl, hk1⟩
    have hk2 := Lib.hid ((hka w _).trans hk1)
    clear hk1
    go_wp2_with fail
    go_ret
    exact ⟨rfl, hk2.out.alloc _⟩
  · simp only [h, if_false] at HL
    generalize err k wd mk 0 = er at *
    go_enter Tryz.func63, Tryz.ntmps63
    go_wp2_with fail
    refine (HL.out _).mono ?_
    rintro e W1 ⟨rfl, hk1⟩
    have hk2 := Lib.hid ((hka w _).trans hk1)
    clear hk1
    go_wp2_with fail
    go_ret
    exact ⟨rfl, hk2.out.alloc _⟩
/-- What Slots answers. -/
def slotsR (k : Nat) (wd : Int) (mk : Nat) (n : Int) : Int := if err k wd mk n = 0 then slots k wd n else 0
set_option maxRecDepth 100000 in
theorem slots_ok (k : Nat) (wd : Int) (mk : Nat) (n : Int) (hk : k < 256) (hm : mk < 18446744073709551616) (w : World) :
    Calls Tryz.prog 49 #[typV k wd mk, .int .i64 n] w fun e w' => e = .returned (.tuple #[.int .i64 (slotsR k wd mk n), .int .i64 (err k wd mk n)]) ∧ Kept [] w w' := by
  have HL := Lib.hid (fun x => layoutOf_ok k wd mk n hk hm x)
  have hka : ∀ (x : World) (o : Obj), Kept [] x (x.alloc o) := fun x o => (Kept.refl [] x).alloc o
  unfold slotsR typV layT lay0 at *
  by_cases h : err k wd mk n = 0
  · obtain ⟨i, j, hF⟩ := fns h hm
    have HS := Lib.hid hF.doSl
    have e1 := hF.sl
    have e2 := hF.rf
    have cs := hF.inSl
    unfold fn layV at *
    simp only [h, if_true, e1, e2] at HL ⊢
    clear h hF e1 e2
    generalize mn k = a1 at *
    generalize mx k = a2 at *
    generalize hl k = a3 at *
    generalize slots k wd n = sl at *
    go_enter Tryz.func49, Tryz.ntmps49
    go_wp2_with fail
    refine (HL.out _).mono ?_
    rintro e W1 ⟨rfl, hk1⟩
    have hk2 := Lib.hid ((hka w _).trans hk1)
    clear hk1
    go_wp2_with fail
    refine (HS.out _).mono ?_
    rintro e W2 ⟨rfl, hk3⟩
    go_wp2_with fail
    go_ret2
    exact ⟨rfl, (hk2.out.alloc _).trans hk3⟩
  · simp only [h, if_false] at HL ⊢
    have he : (err k wd mk n != 0) = true := by rw [bne_iff_ne]; exact h
    generalize err k wd mk n = er at *
    go_enter Tryz.func49, Tryz.ntmps49
    go_wp2_with fail
    refine (HL.out _).mono ?_
    rintro e W1 ⟨rfl, hk1⟩
    have hk2 := Lib.hid ((hka w _).trans hk1)
    clear hk1
    go_wp2_with fail
    go_ret2
    exact ⟨rfl, hk2.out.alloc _⟩
end Go.Proofs.YtoagghileebokaaGreatDoor.Kd

/-
  The contract of Size.
-/
namespace Go.Proofs.YtoagghileebokaaGreatDoor.Kd
open Go.RowKit Go.Proofs.YtoagghileebokaaGreatDoor.Ar Go.Maps
set_option linter.unusedVariables false

/-- What Size answers. -/
def sizeR (k : Nat) (wd : Int) (mk : Nat) (n : Int) : Int := if err k wd mk n = 0 then (slots k wd n + 2) / 2 else 0
set_option maxRecDepth 100000 in
theorem size_ok (k : Nat) (wd : Int) (mk : Nat) (n : Int) (hk : k < 256) (hm : mk < 18446744073709551616) (w : World) :
    Calls Tryz.prog 27 #[typV k wd mk, .int .i64 n] w fun e w' => e = .returned (.tuple #[.int .i64 (sizeR k wd mk n), .int .i64 (err k wd mk n)]) ∧ Kept [] w w' := by
  have HL := Lib.hid (fun x => slots_ok k wd mk n hk hm x)
  have hka : ∀ (x : World) (o : Obj), Kept [] x (x.alloc o) := fun x o => (Kept.refl [] x).alloc o
  unfold sizeR slotsR typV at *
  by_cases h : err k wd mk n = 0
  · obtain ⟨b0, b1⟩ := slots_bound h
    simp only [h, if_true] at HL ⊢
    clear h
    generalize slots k wd n = sl at *
    go_enter Tryz.func27, Tryz.ntmps27
    go_wp2_with fail
    refine (HL.out _).mono ?_
    rintro e W1 ⟨rfl, hk1⟩
    have hk2 := Lib.hid ((hka w _).trans hk1)
    clear hk1
    go_wp2_with fail
    go_ret2
    refine ⟨?_, hk2.out⟩
    show Ending.returned (.tuple #[.int .i64 _, _]) = _
    congr 5
    try omega
  · simp only [h, if_false] at HL ⊢
    have he : (err k wd mk n != 0) = true := by rw [bne_iff_ne]; exact h
    generalize err k wd mk n = er at *
    go_enter Tryz.func27, Tryz.ntmps27
    go_wp2_with fail
    refine (HL.out _).mono ?_
    rintro e W1 ⟨rfl, hk1⟩
    have hk2 := Lib.hid ((hka w _).trans hk1)
    clear hk1
    go_wp2_with fail
    go_ret2
    exact ⟨rfl, hk2.out⟩
end Go.Proofs.YtoagghileebokaaGreatDoor.Kd
