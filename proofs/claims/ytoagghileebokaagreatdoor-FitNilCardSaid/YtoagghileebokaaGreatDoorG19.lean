/-
  Several texts in one: RoundStore, RunRow.
-/
import Derived.Test.YtoagghileebokaaGreatDoorG13
import Derived.Test.YtoagghileebokaaGreatDoorG01
import Derived.Test.YtoagghileebokaaGreatDoorG14
/-
  The same where the rest is one store, and one operation that only computes (its value is asked by none) may come behind it.
-/
namespace Go.Proofs.YtoagghileebokaaGreatDoor.Rk
set_option linter.unusedVariables false
section
variable {P : Program} {C : World → Prop} {r : Option Nat} {m : Nat}

def earlyB (l : List Oper) : Bool := (List.range l.length).all fun j => match l[j]? with | some o => o.after.all fun e => !Region.binds .any e || decide (e.on < j) | none => true
theorem early_spec {l : List Oper} (h : earlyB l = true) {j : Nat} {o : Oper} (ho : l[j]? = some o) (e : Edge) (he : e ∈ o.after) (hb : Region.binds .any e = true) : e.on < j := by
  have hj : j < l.length := (List.getElem?_eq_some_iff.1 ho).1
  have h1 := List.all_eq_true.1 h j (List.mem_range.2 hj)
  rw [ho] at h1
  have := Array.all_eq_true_iff_forall_mem.1 h1 e he
  rw [hb] at this
  simpa using this
/-- Each of the first k, but f, is waited for by one behind it, up to the store. -/
def sinkF (l : List Oper) (k f : Nat) : Bool := (List.range k).all fun i => decide (i = f) || (List.range (k + 1)).any fun j => decide (i < j) && decide (j ≠ f) && Region.waitsFor .any l.toArray j i
structure Inv (l : List Oper) (k : Nat) (listed : Array Bool) : Prop where
  size : listed.size = l.length
  closed : ∀ j oj, l[j]? = some oj → listed.getD j false = true → ∀ e ∈ oj.after, Region.binds .any e = true → listed.getD e.on false = true
theorem Inv.set {l : List Oper} {k i : Nat} {listed : Array Bool} (inv : Inv l k listed) (hi : i ∈ Region.ready .any l.toArray listed) : Inv l k (listed.setIfInBounds i true) := by
  obtain ⟨_, oi, hoi, hall⟩ := mem_ready.1 hi
  rw [List.getElem?_toArray] at hoi
  refine ⟨by simp [inv.size], fun j oj hj hl e he hb => ?_⟩
  by_cases hij : i = j
  · subst hij
    have : oj = oi := Option.some.inj (hj.symm.trans hoi)
    subst this
    exact getD_set_true (hall e he hb)
  · rw [getD_set_ne false hij] at hl
    exact getD_set_true (inv.closed j oj hj hl e he hb)
theorem Inv.no {l : List Oper} {k i : Nat} {listed : Array Bool} (inv : Inv l k listed) (h : listed.getD i true = false) : listed.getD i false = false := getD_both h
theorem Inv.yes {l : List Oper} {k i : Nat} {listed : Array Bool} (inv : Inv l k listed) (hi : i < l.length) (h : ¬ listed.getD i true = false) : listed.getD i false = true := by
  have hs : i < listed.size := by rw [inv.size]; exact hi
  have e : listed.getD i true = listed.getD i false := by simp [hs]
  rw [e] at h
  simpa using h
theorem store_waits {l : List Oper} {k f : Nat} {listed : Array Bool} (hk : k < l.length) (hs : sinkF l k f = true) (inv : Inv l k listed) :
    ∀ (d i : Nat), k - i = d → i < k → i ≠ f → listed.getD i true = false → k ∉ Region.ready .any l.toArray listed := by
  intro d
  induction d using Nat.strongRecOn with
  | _ d ih =>
    intro i hd hi hf hun hr
    obtain ⟨_, ok, hok, hall⟩ := mem_ready.1 hr
    have h1 := List.all_eq_true.1 hs i (List.mem_range.2 hi)
    rw [Bool.or_eq_true] at h1
    rcases h1 with h1 | h1
    · exact hf (by simpa using h1)
    · obtain ⟨j, hj, hj2⟩ := List.any_eq_true.1 h1
      simp only [Bool.and_eq_true, decide_eq_true_eq] at hj2
      obtain ⟨⟨hij, hjf⟩, hw⟩ := hj2
      obtain ⟨oj, hoj, e, he, hb, hon⟩ := Region.waitsFor_spec hw
      have hjk : j ≤ k := by have := List.mem_range.1 hj; omega
      by_cases hjk' : j = k
      · subst hjk'
        have : oj = ok := Option.some.inj (hoj.symm.trans hok)
        subst this
        have h2 := hall e he hb
        rw [hon, inv.no hun] at h2
        cases h2
      · by_cases hl : listed.getD j true = false
        · exact ih (k - j) (by omega) j rfl (by omega) hjf hl hr
        · have h2 := inv.closed j oj (by simpa using hoj) (inv.yes (by omega) hl) e he hb
          rw [hon, inv.no hun] at h2
          cases h2
theorem ready_least {l : List Oper} {k : Nat} {listed : Array Bool} (hE : earlyB l = true) (inv : Inv l k listed) (h : ∃ i, i < l.length ∧ listed.getD i true = false) : Region.ready .any l.toArray listed ≠ [] := by
  obtain ⟨i, hi, hu⟩ := h
  induction i using Nat.strongRecOn with
  | _ i ih =>
    by_cases hall : ∀ e ∈ l[i].after, Region.binds .any e = true → listed.getD e.on false = true
    · intro h0
      have hm : i ∈ Region.ready .any l.toArray listed := mem_ready.2 ⟨hu, l[i], by simp [hi], hall⟩
      rw [h0] at hm
      cases hm
    · simp only [Classical.not_forall] at hall
      obtain ⟨e, he, hb, hne⟩ := hall
      have h2 := early_spec hE (List.getElem?_eq_getElem hi) e he hb
      refine ih e.on h2 (by omega) ?_
      refine getD_in (by rw [inv.size]; omega) ?_
      simpa using hne
theorem ready_all {l : List Oper} {listed : Array Bool} (h : ∀ i, i < l.length → ¬ listed.getD i true = false) : Region.ready .any l.toArray listed = [] := by
  refine List.eq_nil_iff_forall_not_mem.2 fun j hj => ?_
  obtain ⟨hu, o, ho, _⟩ := mem_ready.1 hj
  rw [List.getElem?_toArray] at ho
  exact h j (List.getElem?_eq_some_iff.1 ho).1 hu
theorem any_done {ops : Array Oper} {Q : Exit → Act → World → Prop} {listed : Array Bool} {a : Act} {w : World} (h0 : Region.ready .any ops listed = []) (h : Q .normal a w) (fuel : Nat) : wpAnyIn (fence r) m P .any ops Q fuel listed a w := by
  cases fuel with
  | zero => exact ⟨h0, h⟩
  | succ f => exact ⟨fun _ => h, fun i hi => (by rw [h0] at hi; cases hi)⟩
theorem quiet_done {ops : Array Oper} {Q : Act → Prop} {listed : Array Bool} {a : Act} {fuel : Nat} (h0 : Region.ready .any ops listed = []) (h : wpAnyQ P .any ops C Q fuel listed a) : Q a := by
  cases fuel with
  | zero => exact h.2
  | succ f => exact h.1 h0
theorem set_listed {l : List Oper} {k i j : Nat} {listed : Array Bool} (inv : Inv l k listed) (hi : i < l.length) : (listed.setIfInBounds i true).getD j true = false ↔ j ≠ i ∧ listed.getD j true = false := by
  by_cases hij : i = j
  · subst hij
    have hlt : i < listed.size := by rw [inv.size]; exact hi
    simp [hlt]
  · rw [getD_set_ne true hij]
    exact ⟨fun h => ⟨Ne.symm hij, h⟩, fun h => h.2⟩
theorem extract_any {o : Oper} {x : Operand} {n : Nat} (ho : o.op = .extract x n) (a : Act) : (∃ v, ∀ w, (execOp a.eval o).run P w = .ok (.value v) w) ∨ (∀ w, ∃ h w', (execOp a.eval o).run P w = .halt h w') := by
  unfold execOp
  rw [ho]
  simp only [Instr.extract]
  cases a.eval x with
  | tuple vs =>
    cases h : vs[n]? with
    | some v => exact .inl ⟨v, fun w => by simp [h, go_sem]⟩
    | none => exact .inr fun w => ⟨_, _, by simp [h, go_sem]; exact ⟨rfl, rfl⟩⟩
  | _ => exact .inr fun w => ⟨_, _, by simp [go_sem]; exact ⟨rfl, rfl⟩⟩
theorem extract_pure {o : Oper} {x : Operand} {n : Nat} (ho : o.op = .extract x n) (a : Act) {v : Value} {w : World} (h : o.quietAt P a C w v) : ∀ w', (execOp a.eval o).run P w' = .ok (.value v) w' := by
  unfold Oper.quietAt at h
  rcases extract_any (P := P) ho a with ⟨u, hu⟩ | hu
  · rw [hu w] at h
    obtain ⟨_, rfl⟩ := h
    exact hu
  · obtain ⟨hl, w', e⟩ := hu w
    rw [e] at h
    exact h.elim
theorem wpIn_skip_op {o : Oper} {a : Act} {K : Act → World → Prop} {Q : Exit → Act → World → Prop} {w w2 : World} (hp : plainB o = true) (hd : o.dst = none) (hr : (execOp a.eval o).run P w = .ok .skip w2) (h : K a w2) : o.wpIn (fence r) m P a w K Q := by
  refine ⟨fun _ _ => trivial, ?_⟩
  rw [Oper.semAt_eq _ _ _ (plainB_defer hp), hr]
  show K (a.put o.dst undef) w2
  rw [hd]
  exact h
theorem wpIn_value_op {o : Oper} {a : Act} {K : Act → World → Prop} {Q : Exit → Act → World → Prop} {w : World} {v : Value} (hp : plainB o = true) (hr : (execOp a.eval o).run P w = .ok (.value v) w) (h : K (a.put o.dst v) w) : o.wpIn (fence r) m P a w K Q := by
  refine ⟨fun _ _ => trivial, ?_⟩
  rw [Oper.semAt_eq _ _ _ (plainB_defer hp), hr]
  exact h

theorem any_store {l : List Oper} {k f : Nat} {ost ofl : Oper} {x : Operand} {n : Nat} {Qh : Act → Prop} {Q : Exit → Act → World → Prop} (hk : k + 1 = l.length) (hst : l[k]? = some ost) (hfl : l[f]? = some ofl) (hfk : f < k) (hfx : ofl.op = .extract x n) (hdst : ost.dst = none)
    (hP : l.all plainB = true) (hE : earlyB l = true) (hs : sinkF l k f = true) (hsel : Region.noSelect l.toArray = true) (hap : ofl.apart l.toArray ost = true)
    (hQ : ∀ a, Qh a → ∀ w, C w → ∃ w2, (execOp a.eval ost).run P w = .ok .skip w2 ∧ Q .normal a w2) :
    ∀ (fuel : Nat) (listed : Array Bool) (a : Act) (w : World) (U : List Nat), Inv l k listed → listed.getD k true = false → (∀ i, i < k → listed.getD i true = false → i ∈ U) → U.length + 1 ≤ fuel → C w →
      wpAnyQ P .any (nopped k l).toArray C Qh fuel listed a → wpAnyIn (fence r) m P .any l.toArray Q fuel listed a w := by
  intro fuel
  induction fuel with
  | zero => intro listed a w U _ _ _ hf; omega
  | succ g ih =>
    intro listed a w U inv hku hU hf hC h
    have hpl : ∀ i o, l[i]? = some o → plainB o = true := fun i o ho => List.all_eq_true.1 hP o (List.mem_of_getElem? ho)
    refine ⟨fun h0 => absurd h0 (ready_least hE inv ⟨k, by omega, hku⟩), fun i hi => ?_⟩
    obtain ⟨hui, oi, hoi, hdeps⟩ := mem_ready.1 hi
    rw [List.getElem?_toArray] at hoi
    have hil : i < l.length := (List.getElem?_eq_some_iff.1 hoi).1
    have hq := h.2 i ((ready_nopped k l listed i).2 hi)
    by_cases hik : i < k
    · unfold qOp at hq
      rw [List.getElem?_toArray, nopped_low k l i hik, hoi] at hq
      unfold wpOpIn
      rw [List.getElem?_toArray, hoi]
      simp only at hq ⊢
      rw [if_pos (wanted_of (plainB_guard (hpl i oi hoi)) _)] at hq ⊢
      refine wpIn_of_quiet (hpl i oi hoi) hC (fun a' w' hC' hn => ?_) hq
      have hiU := hU i hik hui
      have hlen := List.length_erase_of_mem hiU
      have hpos := List.length_pos_of_mem hiU
      refine ih (listed.setIfInBounds i true) a' w' (U.erase i) (inv.set hi) ((set_listed inv hil).2 ⟨by omega, hku⟩) (fun j hj hju => ?_) (by omega) hC' hn
      obtain ⟨hji, hju'⟩ := (set_listed inv hil).1 hju
      exact (List.mem_erase_of_ne hji).2 (hU j hj hju')
    · obtain rfl : i = k := by omega
      have hoe : oi = ost := Option.some.inj (hoi.symm.trans hst)
      subst hoe
      have hheads : ∀ j, j < i → j ≠ f → ¬ listed.getD j true = false := fun j hj hjf hju => store_waits hil hs inv _ j rfl hj hjf hju hi
      have inv1 := inv.set hi
      have hps := hpl i oi hoi
      -- the nop in the store's place
      unfold qOp at hq
      rw [List.getElem?_toArray, nopped_high i l i (Nat.le_refl _), hoi] at hq
      simp only [Option.map_some] at hq
      rw [if_pos (wanted_of rfl _)] at hq
      obtain ⟨_, _, hn⟩ := hq
      have hn : wpAnyQ P .any (nopped i l).toArray C Qh g (listed.setIfInBounds i true) a := hn
      unfold wpOpIn
      rw [List.getElem?_toArray, hoi]
      simp only
      rw [if_pos (wanted_of (plainB_guard hps) _)]
      by_cases hfu : listed.getD f true = false
      · have hfU := List.length_pos_of_mem (hU f hfk hfu)
        obtain ⟨g', rfl⟩ : ∃ g', g = g' + 1 := ⟨g - 1, by omega⟩
        have hpf := hpl f ofl hfl
        have hfr : f ∈ Region.ready .any l.toArray (listed.setIfInBounds i true) := by
          refine mem_ready.2 ⟨(set_listed inv hil).2 ⟨by omega, hfu⟩, ofl, by simpa using hfl, fun e he hb => ?_⟩
          have hlt := early_spec hE hfl e he hb
          exact getD_set_true (inv.yes (by omega) (hheads e.on (by omega) (by omega)))
        have hqf := hn.2 f ((ready_nopped i l _ f).2 hfr)
        unfold qOp at hqf
        rw [List.getElem?_toArray, nopped_low i l f hfk, hfl] at hqf
        simp only at hqf
        rw [if_pos (wanted_of (plainB_guard hpf) _)] at hqf
        obtain ⟨v, hv, hn2⟩ := hqf
        have hfl2 : f < l.length := by omega
        have inv2 := inv1.set hfr
        have hall : ∀ j, j < l.length → ¬ ((listed.setIfInBounds i true).setIfInBounds f true).getD j true = false := fun j hj hju => by
          obtain ⟨h1, h2⟩ := (set_listed inv1 hfl2).1 hju
          obtain ⟨h3, h4⟩ := (set_listed inv hil).1 h2
          exact hheads j (by omega) h1 h4
        have hready := ready_all hall
        have hQh := quiet_done (ready_nil (k := i) hready) hn2
        obtain ⟨w2, hr, hend⟩ := hQ _ hQh w hC
        obtain ⟨ap1, _, _⟩ := Oper.apart_spec hap
        rw [execOp_put oi (fun cs b => Region.noSelect_spec hsel i oi cs b (by simpa using hoi)) a ofl.dst v ap1] at hr
        refine wpIn_skip_op hps hdst hr ?_
        refine ⟨fun h0 => (by rw [h0] at hfr; cases hfr), fun j hj => ?_⟩
        obtain ⟨hju, oj, hoj, _⟩ := mem_ready.1 hj
        rw [List.getElem?_toArray] at hoj
        have hjl : j < l.length := (List.getElem?_eq_some_iff.1 hoj).1
        obtain ⟨h3, h4⟩ := (set_listed inv hil).1 hju
        obtain rfl : j = f := by
          by_cases hjf : j = f
          · exact hjf
          · exact absurd h4 (hheads j (by omega) hjf)
        have : oj = ofl := Option.some.inj (hoj.symm.trans hfl)
        subst this
        unfold wpOpIn
        rw [List.getElem?_toArray, hoj]
        simp only
        rw [if_pos (wanted_of (plainB_guard hpf) _)]
        exact wpIn_value_op hpf (extract_pure hfx a (hv w hC) w2) (any_done hready hend g')
      · have hall : ∀ j, j < l.length → ¬ (listed.setIfInBounds i true).getD j true = false := fun j hj hju => by
          obtain ⟨h3, h4⟩ := (set_listed inv hil).1 hju
          by_cases hjf : j = f
          · subst hjf; exact hfu h4
          · exact hheads j (by omega) hjf h4
        have hready := ready_all hall
        have hQh := quiet_done (ready_nil (k := i) hready) hn
        obtain ⟨w2, hr, hend⟩ := hQ _ hQh w hC
        exact wpIn_skip_op hps hdst hr (any_done hready hend g)

def storeB (k f : Nat) (l : List Oper) : Bool :=
  decide (k + 1 = l.length) && decide (f < k) && l.all plainB && earlyB l && sinkF l k f && Region.noSelect l.toArray && Region.lexB .any (nopped k l).toArray
/-- **The head in the text's order, in any world of the class; then the store; the operation f, which only computes, whenever.** -/
theorem wpIn_store {id : Nat} {Q : Exit → Act → World → Prop} {a : Act} {w : World} {l : List Oper} (k f : Nat) (ost ofl : Oper) (x : Operand) (n : Nat) (hm : P.follows .mixedOrders = true) (hB : storeB k f l = true)
    (hst : l[k]? = some ost) (hfl : l[f]? = some ofl) (hfx : ofl.op = .extract x n) (hdst : ost.dst = none) (hap : ofl.apart l.toArray ost = true) (hC : C { w with drawn := w.drawn + 1 })
    (h : wpQuiet P l.toArray C (fun a' => ∀ w', C w' → ∃ w2, (execOp a'.eval ost).run P w' = .ok .skip w2 ∧ Q .normal a' w2) (l.take k) a) : (Code.region id l.toArray true).wpIn (fence r) m P Q a w := by
  unfold storeB at hB
  simp only [Bool.and_eq_true, decide_eq_true_eq] at hB
  obtain ⟨⟨⟨⟨⟨⟨hk, hfk⟩, hP⟩, hE⟩, hs⟩, hsel⟩, hlex⟩ := hB
  unfold Region.lexB at hlex
  rw [Bool.and_eq_true] at hlex
  refine wpIn_region_any hm ?_
  have hPk : (l.take k).all plainB = true := List.all_eq_true.2 fun o ho => List.all_eq_true.1 hP o (List.mem_of_mem_take ho)
  have hq := quiet_nops (ops' := (nopped k l).toArray) (l.drop k) (l.take k) a hPk h
  have hlen := nopped_length k l
  have hx := wpAnyQ_lex (C := C) (md := .any) hlex.1 (nopped k l) 0 (Array.replicate (nopped k l).toArray.size false) a (by simp) (by simpa using hlex.2) hq
  rw [List.size_toArray, hlen] at hx
  have hz : ∀ i, i < l.length → (Array.replicate l.toArray.size false).getD i true = false := fun i hi => getD_in (by simpa using hi) (getD_replicate_false _ _)
  refine any_store (Qh := fun a' => ∀ w', C w' → ∃ w2, (execOp a'.eval ost).run P w' = .ok .skip w2 ∧ Q .normal a' w2) hk hst hfl hfk hfx hdst hP hE hs hsel hap (fun a' hh w' hw' => hh w' hw') _ _ _ _ (List.range k)
    ⟨by simp, fun j oj _ hl => (by rw [getD_replicate_false] at hl; cases hl)⟩ (hz k (by omega)) (fun i hi _ => List.mem_range.2 hi) (by rw [List.length_range]; simp; omega) hC ?_
  simpa using hx
end
end Go.Proofs.YtoagghileebokaaGreatDoor.Rk

/-
  Rows of runs ([]api.Run): as cells of a block, made by appends alone; append of one as a law. And the runs of a row of bools.
-/
namespace Go.Proofs.YtoagghileebokaaGreatDoor.Bt
open Go.RowKit Go.Proofs.YtoagghileebokaaGreatDoor.Ar
set_option linter.unusedVariables false

/-- A list of runs as cells: two each. -/
def runCells : List (Nat × Nat) → List Value
  | [] => []
  | r :: rs => .int .i64 (r.1 : Int) :: .int .i64 (r.2 : Int) :: runCells rs
theorem runCells_append : ∀ (a b : List (Nat × Nat)), runCells (a ++ b) = runCells a ++ runCells b
  | [], b => rfl
  | r :: rs, b => by
    show _ :: _ :: runCells (rs ++ b) = _ :: _ :: (runCells rs ++ runCells b)
    rw [runCells_append rs b]
theorem runCells_get : ∀ (rs : List (Nat × Nat)) (i : Nat), i < rs.length → (runCells rs)[2 * i]? = some (.int .i64 ((rs.getD i (0, 0)).1 : Int)) ∧ (runCells rs)[2 * i + 1]? = some (.int .i64 ((rs.getD i (0, 0)).2 : Int))
  | [], i, h => absurd h (by simp)
  | r :: rs, 0, _ => ⟨rfl, rfl⟩
  | r :: rs, i + 1, h => by
    have := runCells_get rs i (by simpa using h)
    rw [show 2 * (i + 1) = 2 * i + 1 + 1 by omega]
    exact this
theorem runCells_one (rs : List (Nat × Nat)) : ∀ v ∈ runCells rs, v.oneCell' = true := by
  induction rs with
  | nil => intro v hv; cases hv
  | cons r rs ih =>
    intro v hv
    rcases List.mem_cons.1 hv with rfl | hv
    · rfl
    · rcases List.mem_cons.1 hv with rfl | hv
      · rfl
      · exact ih v hv
theorem info_run : (Tryz.prog.info? 86).map (fun i => (i.zero, i.size, i.bytes)) = some (some (.agg #[.int .i64 0, .int .i64 0]), 2, 16) := by kernel_rfl
/-- A slice value that was made by appends alone, with these runs. -/
def OwnR (w : World) (v : Value) (rs : List (Nat × Nat)) : Prop := w.ownsRow 0 86 2 v rs.length (runCells rs)
theorem OwnR.nil (w : World) : OwnR w (.slice none 0 0) [] := World.ownsRow_nil w 0 _ 2
theorem OwnR.form {w : World} {v : Value} {rs : List (Nat × Nat)} (h : OwnR w v rs) : (v = .slice none 0 0 ∧ rs = []) ∨ ∃ g cap, v = .slice (some ⟨g, 0, none⟩) rs.length cap ∧ g < w.heap.size ∧ rs.length ≤ cap := by
  rcases h.2 with ⟨rfl, h0⟩ | ⟨g, cap, cur, rfl, _, hg, hc, hm, _⟩
  · exact .inl ⟨rfl, List.eq_nil_of_length_eq_zero h0⟩
  · exact .inr ⟨g, cap, rfl, (Array.getElem?_eq_some_iff.1 hg).1, hc⟩
theorem OwnR.cell {w : World} {g n cap : Nat} {rs : List (Nat × Nat)} (h : OwnR w (.slice (some ⟨g, 0, none⟩) n cap) rs) : ∀ j v, (runCells rs)[j]? = some v → w.cell? ⟨g, j, none⟩ = some v := by
  intro j v hv
  rcases h.2 with ⟨h1, _⟩ | ⟨g', cap', cur, h1, _, hg, _, _, _, ht⟩
  · cases h1
  · injection h1 with h1 h2 h3
    injection h1 with h1
    injection h1 with h1
    subst h1
    rw [cell_of_row w g j cur _ (0, 0) hg, ← Array.getElem?_toList]
    rw [← ht, List.getElem?_take] at hv
    split at hv
    · exact hv
    · cases hv
theorem OwnR.keep {w w' : World} {v : Value} {rs : List (Nat × Nat)} {row : Option Nat} (h : OwnR w v rs) (hg : w.grownBy w' row) (hne : v.ownBlock = none ∨ v.ownBlock ≠ row) : OwnR w' v rs := World.ownsRow.kept h hg hne
theorem OwnR.kept {w w' : World} {v : Value} {rs : List (Nat × Nat)} {S : List Nat} (h : OwnR w v rs) (k : Kept S w w') (hS : ∀ g ∈ S, v.ownBlock ≠ some g) : OwnR w' v rs := by
  refine ⟨h.1, ?_⟩
  rcases h.2 with hn | ⟨g, cap, cur, rfl, hb, hg, rest⟩
  · exact .inl hn
  · refine .inr ⟨g, cap, cur, rfl, hb, ?_, rest⟩
    rw [k.old g (Array.getElem?_eq_some_iff.1 hg).1 fun hs => hS g hs rfl]
    exact hg
theorem OwnR.keep0 {w w' : World} {v : Value} {rs : List (Nat × Nat)} (h : OwnR w v rs) (k : Kept [] w w') : OwnR w' v rs := h.kept k fun _ hi => by cases hi
theorem append_run {w : World} {ops : Array Oper} {rest : List Oper} {o : Oper} {a : Act} {Q : Exit → Act → World → Prop} (hgd : o.guard = none) (s x : Operand)
    (ho : o.op = .call { callee := .builtin .append, args := #[s, x], argTypes := #[164, 164] })
    (v : Value) (rs : List (Nat × Nat)) (hs : a.eval s = v) (hown : OwnR w v rs) (g c : Nat) (r : Nat × Nat) (hx : a.eval x = .slice (some ⟨g, 0, none⟩) 1 c)
    (h0 : w.cell? ⟨g, 0, none⟩ = some (.int .i64 (r.1 : Int))) (h1 : w.cell? ⟨g, 1, none⟩ = some (.int .i64 (r.2 : Int))) (hb : rs.length ≤ 1073741824)
    (h : ∀ v' w', OwnR w' v' (rs ++ [r]) → w.grownBy w' v.ownBlock → (v'.ownBlock = v.ownBlock ∨ v'.ownBlock = some w.heap.size) → wpList Tryz.prog ops Q rest (a.put o.dst v') w') : wpList Tryz.prog ops Q (o :: rest) a w := by
  obtain ⟨i0, hi, hz0, hz1, hz2⟩ := info_parts info_run
  refine wpList_append_own_at w hgd s x 164 ho 0 86 i0 _ 2 16 Tryz.underlying164 hi hz0 hz1 hz2 rfl (by decide) v rs.length (runCells rs) hs hown ⟨g, 0, none⟩ 1 c (runCells [r]) hx rfl ?_ (runCells_one _) (by unfold maxLen; omega) (by omega) (Nat.zero_le _) ?_
  · intro j u hu
    rw [add_at, Nat.zero_add]
    match j, hu with
    | 0, hu => rw [← Option.some.inj (show some _ = some u from hu)]; exact h0
    | 1, hu => rw [← Option.some.inj (show some _ = some u from hu)]; exact h1
  · intro v' w' h1 h2 _ h4
    refine h v' w' ?_ h2 h4
    unfold OwnR
    rw [List.length_append, runCells_append]
    exact h1
/-! ### The runs of a row -/
def lastUp (l : List (Nat × Nat)) : List (Nat × Nat) := l.dropLast ++ [((l.getLast?.getD (0, 0)).1, (l.getLast?.getD (0, 0)).2 + 1)]
def runsTo (bs : List Bool) : Nat → List (Nat × Nat)
  | 0 => []
  | i + 1 => if bit bs i then (if 0 < i ∧ bit bs (i - 1) = true then lastUp (runsTo bs i) else runsTo bs i ++ [(i, 1)]) else runsTo bs i
def runsV (bs : List Bool) : List (Nat × Nat) := runsTo bs bs.length
theorem runsTo_clear {bs : List Bool} {e a : Nat} (h : e ≤ a) (hc : ∀ j, e ≤ j → j < a → bit bs j = false) : runsTo bs a = runsTo bs e := by
  induction a with
  | zero => rw [show e = 0 by omega]
  | succ a ih =>
    by_cases he : e = a + 1
    · rw [he]
    · show (if bit bs a then _ else runsTo bs a) = _
      rw [hc a (by omega) (by omega), if_neg (by decide)]
      exact ih (by omega) fun j h1 h2 => hc j h1 (by omega)
theorem lastUp_snoc (l : List (Nat × Nat)) (r : Nat × Nat) : lastUp (l ++ [r]) = l ++ [(r.1, r.2 + 1)] := by
  unfold lastUp
  rw [List.dropLast_concat, List.getLast?_concat]
  rfl
theorem runsTo_set {bs : List Bool} {a b : Nat} (h : a < b) (ha : a = 0 ∨ bit bs (a - 1) = false) (hs : ∀ j, a ≤ j → j < b → bit bs j = true) : runsTo bs b = runsTo bs a ++ [(a, b - a)] := by
  induction b with
  | zero => omega
  | succ b ih =>
    by_cases he : a = b
    · subst he
      show (if bit bs a then (if 0 < a ∧ bit bs (a - 1) = true then _ else runsTo bs a ++ [(a, 1)]) else _) = _
      rw [hs a (Nat.le_refl _) h, if_pos rfl, if_neg (by
        rintro ⟨h0, h1⟩
        rcases ha with ha | ha
        · omega
        · rw [ha] at h1; cases h1), show a + 1 - a = 1 by omega]
    · show (if bit bs b then (if 0 < b ∧ bit bs (b - 1) = true then lastUp (runsTo bs b) else _) else _) = _
      rw [hs b (by omega) (by omega), if_pos rfl, if_pos ⟨by omega, hs (b - 1) (by omega) (by omega)⟩, ih (by omega) fun j h1 h2 => hs j h1 (by omega), lastUp_snoc, show b + 1 - a = b - a + 1 by omega]
theorem runsTo_length (bs : List Bool) : ∀ i, (runsTo bs i).length ≤ i
  | 0 => Nat.le_refl _
  | i + 1 => by
    have ih := runsTo_length bs i
    show (if bit bs i then (if 0 < i ∧ bit bs (i - 1) = true then lastUp (runsTo bs i) else runsTo bs i ++ [(i, 1)]) else runsTo bs i).length ≤ i + 1
    split
    · split
      · rename_i _ h2
        unfold lastUp
        rw [List.length_append, List.length_dropLast, List.length_singleton]
        omega
      · rw [List.length_append, List.length_singleton]
        omega
    · omega
end Go.Proofs.YtoagghileebokaaGreatDoor.Bt
