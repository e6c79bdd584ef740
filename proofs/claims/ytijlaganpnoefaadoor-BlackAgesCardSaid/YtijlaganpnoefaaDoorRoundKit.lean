/-
  A region that draws its order, whose first k operations only read (callees may make memory of their own) and all come ahead of the rest, which come one behind the other: one walk of the text's order serves every order, also in a round of a range over a function. No program is named here.
-/
import Derived.StillTail
import Derived.Deep.QuietTactic
import Derived.OrdersIn
import Derived.TacticsIn
import Derived.BigQuiet
namespace Go.Proofs.YtijlaganpnoefaaDoor.Rk

/-- No bounds; in a round, or in none. -/
def fence (r : Option Nat) : Fence := { Fence.wide with round := r }
theorem fence_none : fence none = Fence.wide := rfl
theorem fence_round (l : Nat) : Fence.wide.inRound l = fence (some l) := rfl

def plainB (o : Oper) : Bool := o.guard.isNone && (match o.op with | .defer _ => false | _ => true)
theorem plainB_guard {o : Oper} (h : plainB o = true) : o.guard = none := by
  unfold plainB at h
  rw [Bool.and_eq_true] at h
  exact Option.isNone_iff_eq_none.1 h.1
theorem plainB_defer {o : Oper} (h : plainB o = true) : ∀ c, o.op ≠ .defer c := by
  intro c e
  unfold plainB at h
  rw [e] at h
  simp at h
theorem wanted_of {o : Oper} (h : o.guard = none) (y : Nat → Option Bool) : Region.wanted o y = true := by
  unfold Region.wanted
  rw [h]

section
variable {P : Program} {C : World → Prop} {md : Region.Mode} {r : Option Nat} {m : Nat}

theorem wpIn_of_quiet {o : Oper} {a : Act} {K : Act → Prop} {K' : Act → World → Prop} {Q' : Exit → Act → World → Prop} {w : World} (hp : plainB o = true) (hw : C w)
    (h : ∀ a w', C w' → K a → K' a w') (hh : o.quiet P a C K) : o.wpIn (fence r) m P a w K' Q' := by
  refine ⟨fun _ _ => trivial, ?_⟩
  rw [Oper.semAt_eq _ _ _ (plainB_defer hp)]
  obtain ⟨v, hv, hK⟩ := hh
  have hx := hv w hw
  unfold Oper.quietAt at hx
  generalize (execOp a.eval o).run P w = res at hx ⊢
  match res, hx with
  | .ok (.value u) w', hx =>
    obtain ⟨rfl, rfl⟩ := hx
    exact h _ _ hw hK
  | .ok .skip w', hx =>
    obtain ⟨rfl, rfl⟩ := hx
    exact h _ _ hw hK
  | .ok (.enter f args) w', hx =>
    obtain ⟨rfl, hc⟩ := hx
    refine ⟨fun hd => (by cases hd), ?_⟩
    have hc' : CallsIn (fence r) (m - 1) P f args w' fun e w'' => e = .returned v ∧ C w'' := callsIn_wide (n := m - 1) |>.2 hc
    exact hc'.mono fun e w'' he => by
      obtain ⟨rfl, hC⟩ := he
      exact h _ _ hC hK

/-- In the place of an operation that comes late: nothing. -/
def nop (o : Oper) : Oper := { o with dst := none, op := .assign (.const undef), guard := none }
def nopped (k : Nat) (l : List Oper) : List Oper := l.take k ++ (l.drop k).map nop
theorem nopped_length (k : Nat) (l : List Oper) : (nopped k l).length = l.length := by
  unfold nopped
  rw [List.length_append, List.length_map, ← List.length_append, List.take_append_drop]
theorem nopped_low (k : Nat) (l : List Oper) (j : Nat) (h : j < k) : (nopped k l)[j]? = l[j]? := by
  unfold nopped
  by_cases hj : j < l.length
  · rw [List.getElem?_append_left (by rw [List.length_take]; omega), List.getElem?_take_of_lt h]
  · rw [List.getElem?_eq_none (by simp; omega), List.getElem?_eq_none (by omega)]
theorem nopped_high (k : Nat) (l : List Oper) (j : Nat) (h : k ≤ j) : (nopped k l)[j]? = l[j]?.map nop := by
  unfold nopped
  by_cases hk : k ≤ l.length
  · rw [List.getElem?_append_right (by rw [List.length_take]; omega), List.length_take, Nat.min_eq_left hk, List.getElem?_map, List.getElem?_drop]
    congr 2
    omega
  · rw [List.getElem?_eq_none (by simp; omega), List.getElem?_eq_none (by omega)]
    rfl
theorem nopped_after (k : Nat) (l : List Oper) (j : Nat) : (nopped k l)[j]?.map (·.after) = l[j]?.map (·.after) := by
  rcases Nat.lt_or_ge j k with h | h
  · rw [nopped_low k l j h]
  · rw [nopped_high k l j h, Option.map_map]
    rfl
theorem ready_nopped (k : Nat) (l : List Oper) (listed : Array Bool) (j : Nat) :
    j ∈ Region.ready md (nopped k l).toArray listed ↔ j ∈ Region.ready md l.toArray listed := by
  rw [mem_ready, mem_ready]
  have e := nopped_after k l j
  simp only [List.getElem?_toArray]
  refine and_congr_right fun _ => ?_
  constructor
  · rintro ⟨o, ho, hall⟩
    rw [ho] at e
    cases h : l[j]? with
    | none => rw [h] at e; cases e
    | some o' =>
      rw [h] at e
      injection e with e
      replace e : o.after = o'.after := e
      exact ⟨o', rfl, by rw [← e]; exact hall⟩
  · rintro ⟨o, ho, hall⟩
    rw [ho] at e
    cases h : (nopped k l)[j]? with
    | none => rw [h] at e; cases e
    | some o' =>
      rw [h] at e
      injection e with e
      replace e : o'.after = o.after := e
      exact ⟨o', rfl, by rw [e]; exact hall⟩
theorem ready_nil {k : Nat} {l : List Oper} {listed : Array Bool} (h : Region.ready md l.toArray listed = []) : Region.ready md (nopped k l).toArray listed = [] := by
  refine List.eq_nil_iff_forall_not_mem.2 fun j hj => ?_
  rw [ready_nopped, h] at hj
  cases hj

/-- The rest comes in its order, whatever fuel there is. -/
theorem run_rest {ops : Array Oper} {Q : Exit → Act → World → Prop} : ∀ (rest : List Oper) (j : Nat) (listed : Array Bool) (a : Act) (w : World) (fuel : Nat), (∀ t, rest[t]? = ops[j + t]?) → rest.length ≤ fuel →
    Region.seqB md ops rest.length j listed = true → wpListIn (fence r) m P ops Q rest a w → wpAnyIn (fence r) m P md ops Q fuel listed a w
  | [], j, listed, a, w, fuel, _, _, hB, h => by
    have h0 : Region.ready md ops listed = [] := List.isEmpty_iff.1 hB
    cases fuel with
    | zero => exact ⟨h0, h⟩
    | succ f => exact ⟨fun _ => h, fun i hi => (by rw [h0] at hi; cases hi)⟩
  | o :: rest, j, listed, a, w, fuel, hl, hf, hB, h => by
    obtain ⟨f, rfl⟩ : ∃ f, fuel = f + 1 := ⟨fuel - 1, by simp at hf; omega⟩
    rw [List.length_cons, Region.seqB, Bool.and_eq_true, decide_eq_true_eq] at hB
    have h0 := hl 0
    rw [Nat.add_zero] at h0
    refine ⟨fun hr => (by rw [hB.1] at hr; cases hr), fun i hi => ?_⟩
    rw [hB.1] at hi
    obtain rfl : i = j := by simpa using hi
    have hw : wpOpIn (fence r) m P ops Q i (wpListIn (fence r) m P ops Q rest) a w := by
      unfold wpOpIn
      rw [← h0]
      exact h
    refine wpOpIn_mono (fun a' w' h' => run_rest rest (i + 1) _ a' w' f (fun t => ?_) (by simp at hf; omega) hB.2 h') hw
    have := hl (t + 1)
    rw [show i + 1 + t = i + (t + 1) by omega, ← this]
    rfl

/-- What the quiet walk says of the end, once nothing but the rest is to come. -/
theorem quiet_end {k : Nat} {l : List Oper} {Q : Act → Prop} : ∀ (g j : Nat) (listed : Array Bool) (a : Act) (fuel : Nat), g ≤ fuel → k ≤ j → Region.seqB md l.toArray g j listed = true →
    wpAnyQ P md (nopped k l).toArray C Q fuel listed a → Q a
  | 0, j, listed, a, fuel, _, _, hB, h => by
    have h0 := ready_nil (k := k) (List.isEmpty_iff.1 hB)
    cases fuel with
    | zero => exact h.2
    | succ f => exact h.1 h0
  | g + 1, j, listed, a, fuel, hf, hj, hB, h => by
    obtain ⟨f, rfl⟩ : ∃ f, fuel = f + 1 := ⟨fuel - 1, by omega⟩
    rw [Region.seqB, Bool.and_eq_true, decide_eq_true_eq] at hB
    have hm : j ∈ Region.ready md l.toArray listed := by rw [hB.1]; simp
    obtain ⟨_, o, ho, _⟩ := mem_ready.1 hm
    rw [List.getElem?_toArray] at ho
    have hq := h.2 j ((ready_nopped k l listed j).2 hm)
    unfold qOp at hq
    rw [List.getElem?_toArray, nopped_high k l j hj, ho] at hq
    have hw : Region.wanted (nop o) (yielded (nopped k l).toArray a.tmps) = true := wanted_of rfl _
    simp only [Option.map_some] at hq
    rw [if_pos hw] at hq
    obtain ⟨v, _, hn⟩ := hq
    exact quiet_end g (j + 1) _ a f (by omega) (by omega) hB.2 hn

/-- The first k have come, and nothing else. -/
def front (k N : Nat) : Array Bool := (List.replicate k true ++ List.replicate (N - k) false).toArray
theorem front_of {k : Nat} {ops : Array Oper} {listed : Array Bool} (hk : k ≤ ops.size) (inv : HeadInv md ops k listed) (h : ¬ ∃ i, i < k ∧ listed.getD i true = false) : listed = front k ops.size := by
  have hs := inv.size
  apply Array.ext
  · rw [hs]
    simp [front]
    omega
  · intro i h1 h2
    have e : listed.getD i true = listed[i] := by simp [h1]
    rcases Nat.lt_or_ge i k with hi | hi
    · have hx : listed.getD i true ≠ false := fun hh => h ⟨i, hi, hh⟩
      rw [e] at hx
      simp [front, hi]
      simpa using hx
    · have hx := inv.tail i hi (by omega)
      rw [e] at hx
      have hi' : ¬ i < k := by omega
      simp [front, List.getElem_append, hi']
      exact hx

def earlierB (l : List Oper) : Bool := (List.range l.length).all fun j => match l[j]? with | some o => o.after.all fun e => decide (e.on < j) | none => true
theorem ready_some {k : Nat} {l : List Oper} {listed : Array Bool} (hk : k ≤ l.length) (hE : earlierB l = true) (inv : HeadInv md l.toArray k listed) (h : ∃ i, i < k ∧ listed.getD i true = false) : Region.ready md l.toArray listed ≠ [] := by
  obtain ⟨i, hi, hu⟩ := h
  induction i using Nat.strongRecOn with
  | _ i ih =>
    have hil : i < l.length := by omega
    by_cases hall : ∀ e ∈ l[i].after, Region.binds md e = true → listed.getD e.on false = true
    · intro h0
      have hm : i ∈ Region.ready md l.toArray listed := mem_ready.2 ⟨hu, l[i], by simp [hil], hall⟩
      rw [h0] at hm
      cases hm
    · simp only [Classical.not_forall] at hall
      obtain ⟨e, he, _, hne⟩ := hall
      have h1 := List.all_eq_true.1 hE i (List.mem_range.2 hil)
      rw [List.getElem?_eq_getElem hil] at h1
      have h2 : e.on < i := by
        have := Array.all_eq_true_iff_forall_mem.1 h1 e he
        simpa using this
      refine ih e.on h2 (by omega) ?_
      have hsz := inv.size
      refine getD_in (by rw [hsz]; simp; omega) ?_
      simpa using hne

theorem any_of_quiet {k : Nat} {l : List Oper} {Qh : Act → Prop} {Q : Exit → Act → World → Prop} (hk : k < l.length) (hE : earlierB l = true) (hP : (l.take k).all plainB = true)
    (hs : Region.sinkB md l.toArray k = true) (hc : Region.chainB md l.toArray k = true) (hB : Region.seqB md l.toArray (l.length - k) k (front k l.length) = true)
    (hQ : ∀ a w, C w → Qh a → wpListIn (fence r) m P l.toArray Q (l.drop k) a w) :
    ∀ (fuel : Nat) (listed : Array Bool) (a : Act) (w : World) (U : List Nat), HeadInv md l.toArray k listed → (∀ i, i < k → listed.getD i true = false → i ∈ U) → U.length + (l.length - k) ≤ fuel → C w →
      wpAnyQ P md (nopped k l).toArray C Qh fuel listed a → wpAnyIn (fence r) m P md l.toArray Q fuel listed a w := by
  intro fuel
  induction fuel with
  | zero => intro listed a w U _ _ hf; omega
  | succ f ih =>
    intro listed a w U inv hU hf hC h
    by_cases hex : ∃ i, i < k ∧ listed.getD i true = false
    · refine ⟨fun h0 => absurd h0 (ready_some (by omega) hE inv hex), fun i hi => ?_⟩
      obtain ⟨i0, hi0, hu0⟩ := hex
      have hik : i < k := by
        rcases Nat.lt_or_ge i k with hlt | hge
        · exact hlt
        · exact absurd hi (tail_waits hs hc (by simpa using hk) inv _ i0 rfl hi0 hu0 i hge)
      have hq := h.2 i ((ready_nopped k l listed i).2 hi)
      have hui := (mem_ready.1 hi).1
      have hil : i < l.length := by omega
      have hp : plainB l[i] = true := List.all_eq_true.1 hP _ (List.mem_iff_getElem?.2 ⟨i, by rw [List.getElem?_take_of_lt hik, List.getElem?_eq_getElem hil]⟩)
      unfold qOp at hq
      rw [List.getElem?_toArray, nopped_low k l i hik, List.getElem?_eq_getElem hil] at hq
      unfold wpOpIn
      rw [List.getElem?_toArray, List.getElem?_eq_getElem hil]
      simp only at hq ⊢
      rw [if_pos (wanted_of (plainB_guard hp) _)] at hq ⊢
      refine wpIn_of_quiet hp hC (fun a' w' hC' hn => ?_) hq
      have hiU := hU i hik hui
      have hlen := List.length_erase_of_mem hiU
      have hpos := List.length_pos_of_mem hiU
      refine ih (listed.setIfInBounds i true) a' w' (U.erase i) (inv.set hi hik) (fun j hj hju => ?_) (by omega) hC' hn
      have hji : j ≠ i := by
        rintro rfl
        have hlt : j < listed.size := by rw [inv.size]; simpa using hil
        simp [hlt] at hju
      rw [getD_set_ne true (Ne.symm hji)] at hju
      exact (List.mem_erase_of_ne hji).2 (hU j hj hju)
    · have he := front_of (by simp; omega) inv hex
      have he' : listed = front k l.length := by simpa using he
      subst he'
      have hg := quiet_end (k := k) (l.length - k) k _ a (f + 1) (by omega) (Nat.le_refl _) hB h
      refine run_rest (l.drop k) k _ a w (f + 1) (fun t => by simp) (by simp; omega) (by simpa using hB) (hQ a w hC hg)

theorem quiet_nops {ops ops' : Array Oper} {Q : Act → Prop} (ns : List Oper) : ∀ (xs : List Oper) (a : Act), xs.all plainB = true → wpQuiet P ops C Q xs a → wpQuiet P ops' C Q (xs ++ ns.map nop) a
  | [], a, _, h => by
    rw [List.nil_append]
    induction ns with
    | nil => exact h
    | cons o ns ih =>
      show wpQuiet P ops' C Q (nop o :: ns.map nop) a
      unfold wpQuiet
      rw [if_pos (wanted_of rfl _)]
      exact BigFrame.quiet_assign (.const undef) rfl ih
  | o :: xs, a, hp, h => by
    rw [List.all_cons, Bool.and_eq_true] at hp
    show wpQuiet P ops' C Q (o :: (xs ++ ns.map nop)) a
    unfold wpQuiet at h ⊢
    rw [if_pos (wanted_of (plainB_guard hp.1) _)] at h ⊢
    exact Oper.quiet_mono (fun a' h' => quiet_nops ns xs a' hp.2 h') h

def headB (k : Nat) (l : List Oper) : Bool :=
  decide (k < l.length) && earlierB l && (l.take k).all plainB && Region.sinkB .any l.toArray k && Region.chainB .any l.toArray k && Region.seqB .any l.toArray (l.length - k) k (front k l.length) && Region.lexB .any (nopped k l).toArray

/-- **The head in the text's order, in any world of the class; then the rest.** -/
theorem wpIn_head {id : Nat} {Q : Exit → Act → World → Prop} {a : Act} {w : World} {l : List Oper} (k : Nat) (hm : P.follows .mixedOrders = true) (hB : headB k l = true) (hC : C { w with drawn := w.drawn + 1 })
    (h : wpQuiet P l.toArray C (fun a' => ∀ w', C w' → wpListIn (fence r) m P l.toArray Q (l.drop k) a' w') (l.take k) a) : (Code.region id l.toArray true).wpIn (fence r) m P Q a w := by
  unfold headB at hB
  simp only [Bool.and_eq_true, decide_eq_true_eq] at hB
  obtain ⟨⟨⟨⟨⟨⟨hk, hE⟩, hP⟩, hs⟩, hc⟩, hsq⟩, hlex⟩ := hB
  unfold Region.lexB at hlex
  rw [Bool.and_eq_true] at hlex
  refine wpIn_region_any hm ?_
  have hq : wpQuiet P (nopped k l).toArray C (fun a' => ∀ w', C w' → wpListIn (fence r) m P l.toArray Q (l.drop k) a' w') (nopped k l) a := quiet_nops (l.drop k) (l.take k) a hP h
  have hlen := nopped_length k l
  have hx := wpAnyQ_lex (C := C) (md := .any) hlex.1 (nopped k l) 0 (Array.replicate (nopped k l).toArray.size false) a (by simp) (by simpa using hlex.2) hq
  refine any_of_quiet (Qh := fun a' => ∀ w', C w' → wpListIn (fence r) m P l.toArray Q (l.drop k) a' w') hk hE hP hs hc hsq (fun a' w' hw' hh => hh w' hw') _ _ _ _ (List.range k)
    ⟨by simp, fun j oj _ hl => (by rw [getD_replicate_false] at hl; cases hl), fun t _ ht => getD_in (by simpa using ht) (getD_replicate_false _ _)⟩ (fun i hi _ => List.mem_range.2 hi) (by rw [List.length_range]; simp; omega) hC ?_
  rw [List.size_toArray, hlen] at hx
  simpa using hx
end
end Go.Proofs.YtijlaganpnoefaaDoor.Rk
namespace Go.Proofs.YtijlaganpnoefaaDoor.Rk
theorem any_tail {P : Program} {md : Region.Mode} {r : Option Nat} {m : Nat} {l : List Oper} {Q : Exit → Act → World → Prop} {listed : Array Bool} {a : Act} {w : World} {fuel : Nat} (j : Nat) (hf : l.length - j ≤ fuel)
    (hB : Region.seqB md l.toArray (l.drop j).length j listed = true) (h : wpListIn (fence r) m P l.toArray Q (l.drop j) a w) : wpAnyIn (fence r) m P md l.toArray Q fuel listed a w :=
  run_rest (l.drop j) j listed a w fuel (fun t => by rw [List.getElem?_drop, List.getElem?_toArray]) (by rw [List.length_drop]; exact hf) hB h
end Go.Proofs.YtijlaganpnoefaaDoor.Rk
