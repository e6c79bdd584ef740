/-
  Several texts in one: RoundKit, BtKeep, BtUp, RoundStore.
-/
import Derived.StillTail
import Derived.Deep.QuietTactic
import Derived.OrdersIn
import Derived.TacticsIn
import Derived.BigQuiet
import Derived.Test.YtagmmbkgjomdlaaGreatDoorG05
import Derived.RangeFuncNested
import Derived.RangeFuncLeaves
import Derived.RangeFuncBound
import Derived.RangeFuncCalls
import Derived.Shelf.Abstract
import Derived.OwnWalkIn
import Derived.TacticsInMore
import Derived.LoopNIn
import Derived.LoopIn
import Derived.Lib.QuietBelow
/-
  A region that draws its order, whose first k operations only read (callees may make memory of their own) and all come ahead of the rest, which come one behind the other: one walk of the text's order serves every order, also in a round of a range over a function. No program is named here.
-/
namespace Go.Proofs.YtagmmbkgjomdlaaGreatDoor.Rk

/-- No bounds; in a round, or in none. -/
def fence (r : Option Nat) : Fence := { Fence.wide with round := r }
theorem fence_none : fence none = Fence.wide := rfl
theorem fence_round (l : Nat) : Fence.wide.inRound l = fence (some l) := rfl

def plainB (o : Oper) : Bool := o.guard.isNone && (match o.op with | .defer _ => false | _ => true)
theorem plainB_guard {o : Oper} (h : plainB o = true) : o.guard = none := by
  unfold plainB at h
  rw [Bool.and_eq_true] at h
  exact Option.isNone_iff_eq_none.1 h.1
theorem plainB_defer {o : Oper} (h : plainB o = true) : ∀ c, o.op ≠ .defer c := by
  intro c e
  unfold plainB at h
  rw [e] at h
  simp at h
theorem wanted_of {o : Oper} (h : o.guard = none) (y : Nat → Option Bool) : Region.wanted o y = true := by
  unfold Region.wanted
  rw [h]

section
variable {P : Program} {C : World → Prop} {md : Region.Mode} {r : Option Nat} {m : Nat}

theorem wpIn_of_quiet {o : Oper} {a : Act} {K : Act → Prop} {K' : Act → World → Prop} {Q' : Exit → Act → World → Prop} {w : World} (hp : plainB o = true) (hw : C w)
    (h : ∀ a w', C w' → K a → K' a w') (hh : o.quiet P a C K) : o.wpIn (fence r) m P a w K' Q' := by
  refine ⟨fun _ _ => trivial, ?_⟩
  rw [Oper.semAt_eq _ _ _ (plainB_defer hp)]
  obtain ⟨v, hv, hK⟩ := hh
  have hx := hv w hw
  unfold Oper.quietAt at hx
  generalize (execOp a.eval o).run P w = res at hx ⊢
  match res, hx with
  | .ok (.value u) w', hx =>
    obtain ⟨rfl, rfl⟩ := hx
    exact h _ _ hw hK
  | .ok .skip w', hx =>
    obtain ⟨rfl, rfl⟩ := hx
    exact h _ _ hw hK
  | .ok (.enter f args) w', hx =>
    obtain ⟨rfl, hc⟩ := hx
    refine ⟨fun hd => (by cases hd), ?_⟩
    have hc' : CallsIn (fence r) (m - 1) P f args w' fun e w'' => e = .returned v ∧ C w'' := callsIn_wide (n := m - 1) |>.2 hc
    exact hc'.mono fun e w'' he => by
      obtain ⟨rfl, hC⟩ := he
      exact h _ _ hC hK

/-- In the place of an operation that comes late: nothing. -/
def nop (o : Oper) : Oper := { o with dst := none, op := .assign (.const undef), guard := none }
def nopped (k : Nat) (l : List Oper) : List Oper := l.take k ++ (l.drop k).map nop
theorem nopped_length (k : Nat) (l : List Oper) : (nopped k l).length = l.length := by
  unfold nopped
  rw [List.length_append, List.length_map, ← List.length_append, List.take_append_drop]
theorem nopped_low (k : Nat) (l : List Oper) (j : Nat) (h : j < k) : (nopped k l)[j]? = l[j]? := by
  unfold nopped
  by_cases hj : j < l.length
  · rw [List.getElem?_append_left (by rw [List.length_take]; omega), List.getElem?_take_of_lt h]
  · rw [List.getElem?_eq_none (by simp; omega), List.getElem?_eq_none (by omega)]
theorem nopped_high (k : Nat) (l : List Oper) (j : Nat) (h : k ≤ j) : (nopped k l)[j]? = l[j]?.map nop := by
  unfold nopped
  by_cases hk : k ≤ l.length
  · rw [List.getElem?_append_right (by rw [List.length_take]; omega), List.length_take, Nat.min_eq_left hk, List.getElem?_map, List.getElem?_drop]
    congr 2
    omega
  · rw [List.getElem?_eq_none (by simp; omega), List.getElem?_eq_none (by omega)]
    rfl
theorem nopped_after (k : Nat) (l : List Oper) (j : Nat) : (nopped k l)[j]?.map (·.after) = l[j]?.map (·.after) := by
  rcases Nat.lt_or_ge j k with h | h
  · rw [nopped_low k l j h]
  · rw [nopped_high k l j h, Option.map_map]
    rfl
theorem ready_nopped (k : Nat) (l : List Oper) (listed : Array Bool) (j : Nat) :
    j ∈ Region.ready md (nopped k l).toArray listed ↔ j ∈ Region.ready md l.toArray listed := by
  rw [mem_ready, mem_ready]
  have e := nopped_after k l j
  simp only [List.getElem?_toArray]
  refine and_congr_right fun _ => ?_
  constructor
  · rintro ⟨o, ho, hall⟩
    rw [ho] at e
    cases h : l[j]? with
    | none => rw [h] at e; cases e
    | some o' =>
      rw [h] at e
      injection e with e
      replace e : o.after = o'.after := e
      exact ⟨o', rfl, by rw [← e]; exact hall⟩
  · rintro ⟨o, ho, hall⟩
    rw [ho] at e
    cases h : (nopped k l)[j]? with
    | none => rw [h] at e; cases e
    | some o' =>
      rw [h] at e
      injection e with e
      replace e : o'.after = o.after := e
      exact ⟨o', rfl, by rw [e]; exact hall⟩
theorem ready_nil {k : Nat} {l : List Oper} {listed : Array Bool} (h : Region.ready md l.toArray listed = []) : Region.ready md (nopped k l).toArray listed = [] := by
  refine List.eq_nil_iff_forall_not_mem.2 fun j hj => ?_
  rw [ready_nopped, h] at hj
  cases hj

/-- The rest comes in its order, whatever fuel there is. -/
theorem run_rest {ops : Array Oper} {Q : Exit → Act → World → Prop} : ∀ (rest : List Oper) (j : Nat) (listed : Array Bool) (a : Act) (w : World) (fuel : Nat), (∀ t, rest[t]? = ops[j + t]?) → rest.length ≤ fuel →
    Region.seqB md ops rest.length j listed = true → wpListIn (fence r) m P ops Q rest a w → wpAnyIn (fence r) m P md ops Q fuel listed a w
  | [], j, listed, a, w, fuel, _, _, hB, h => by
    have h0 : Region.ready md ops listed = [] := List.isEmpty_iff.1 hB
    cases fuel with
    | zero => exact ⟨h0, h⟩
    | succ f => exact ⟨fun _ => h, fun i hi => (by rw [h0] at hi; cases hi)⟩
  | o :: rest, j, listed, a, w, fuel, hl, hf, hB, h => by
    obtain ⟨f, rfl⟩ : ∃ f, fuel = f + 1 := ⟨fuel - 1, by simp at hf; omega⟩
    rw [List.length_cons, Region.seqB, Bool.and_eq_true, decide_eq_true_eq] at hB
    have h0 := hl 0
    rw [Nat.add_zero] at h0
    refine ⟨fun hr => (by rw [hB.1] at hr; cases hr), fun i hi => ?_⟩
    rw [hB.1] at hi
    obtain rfl : i = j := by simpa using hi
    have hw : wpOpIn (fence r) m P ops Q i (wpListIn (fence r) m P ops Q rest) a w := by
      unfold wpOpIn
      rw [← h0]
      exact h
    refine wpOpIn_mono (fun a' w' h' => run_rest rest (i + 1) _ a' w' f (fun t => ?_) (by simp at hf; omega) hB.2 h') hw
    have := hl (t + 1)
    rw [show i + 1 + t = i + (t + 1) by omega, ← this]
    rfl

/-- What the quiet walk says of the end, once nothing but the rest is to come. -/
theorem quiet_end {k : Nat} {l : List Oper} {Q : Act → Prop} : ∀ (g j : Nat) (listed : Array Bool) (a : Act) (fuel : Nat), g ≤ fuel → k ≤ j → Region.seqB md l.toArray g j listed = true →
    wpAnyQ P md (nopped k l).toArray C Q fuel listed a → Q a
  | 0, j, listed, a, fuel, _, _, hB, h => by
    have h0 := ready_nil (k := k) (List.isEmpty_iff.1 hB)
    cases fuel with
    | zero => exact h.2
    | succ f => exact h.1 h0
  | g + 1, j, listed, a, fuel, hf, hj, hB, h => by
    obtain ⟨f, rfl⟩ : ∃ f, fuel = f + 1 := ⟨fuel - 1, by omega⟩
    rw [Region.seqB, Bool.and_eq_true, decide_eq_true_eq] at hB
    have hm : j ∈ Region.ready md l.toArray listed := by rw [hB.1]; simp
    obtain ⟨_, o, ho, _⟩ := mem_ready.1 hm
    rw [List.getElem?_toArray] at ho
    have hq := h.2 j ((ready_nopped k l listed j).2 hm)
    unfold qOp at hq
    rw [List.getElem?_toArray, nopped_high k l j hj, ho] at hq
    have hw : Region.wanted (nop o) (yielded (nopped k l).toArray a.tmps) = true := wanted_of rfl _
    simp only [Option.map_some] at hq
    rw [if_pos hw] at hq
    obtain ⟨v, _, hn⟩ := hq
    exact quiet_end g (j + 1) _ a f (by omega) (by omega) hB.2 hn

/-- The first k have come, and nothing else. -/
def front (k N : Nat) : Array Bool := (List.replicate k true ++ List.replicate (N - k) false).toArray
theorem front_of {k : Nat} {ops : Array Oper} {listed : Array Bool} (hk : k ≤ ops.size) (inv : HeadInv md ops k listed) (h : ¬ ∃ i, i < k ∧ listed.getD i true = false) : listed = front k ops.size := by
  have hs := inv.size
  apply Array.ext
  · rw [hs]
    simp [front]
    omega
  · intro i h1 h2
    have e : listed.getD i true = listed[i] := by simp [h1]
    rcases Nat.lt_or_ge i k with hi | hi
    · have hx : listed.getD i true ≠ false := fun hh => h ⟨i, hi, hh⟩
      rw [e] at hx
      simp [front, hi]
      simpa using hx
    · have hx := inv.tail i hi (by omega)
      rw [e] at hx
      have hi' : ¬ i < k := by omega
      simp [front, List.getElem_append, hi']
      exact hx

def earlierB (l : List Oper) : Bool := (List.range l.length).all fun j => match l[j]? with | some o => o.after.all fun e => decide (e.on < j) | none => true
theorem ready_some {k : Nat} {l : List Oper} {listed : Array Bool} (hk : k ≤ l.length) (hE : earlierB l = true) (inv : HeadInv md l.toArray k listed) (h : ∃ i, i < k ∧ listed.getD i true = false) : Region.ready md l.toArray listed ≠ [] := by
  obtain ⟨i, hi, hu⟩ := h
  induction i using Nat.strongRecOn with
  | _ i ih =>
    have hil : i < l.length := by omega
    by_cases hall : ∀ e ∈ l[i].after, Region.binds md e = true → listed.getD e.on false = true
    · intro h0
      have hm : i ∈ Region.ready md l.toArray listed := mem_ready.2 ⟨hu, l[i], by simp [hil], hall⟩
      rw [h0] at hm
      cases hm
    · simp only [Classical.not_forall] at hall
      obtain ⟨e, he, _, hne⟩ := hall
      have h1 := List.all_eq_true.1 hE i (List.mem_range.2 hil)
      rw [List.getElem?_eq_getElem hil] at h1
      have h2 : e.on < i := by
        have := Array.all_eq_true_iff_forall_mem.1 h1 e he
        simpa using this
      refine ih e.on h2 (by omega) ?_
      have hsz := inv.size
      refine getD_in (by rw [hsz]; simp; omega) ?_
      simpa using hne

theorem any_of_quiet {k : Nat} {l : List Oper} {Qh : Act → Prop} {Q : Exit → Act → World → Prop} (hk : k < l.length) (hE : earlierB l = true) (hP : (l.take k).all plainB = true)
    (hs : Region.sinkB md l.toArray k = true) (hc : Region.chainB md l.toArray k = true) (hB : Region.seqB md l.toArray (l.length - k) k (front k l.length) = true)
    (hQ : ∀ a w, C w → Qh a → wpListIn (fence r) m P l.toArray Q (l.drop k) a w) :
    ∀ (fuel : Nat) (listed : Array Bool) (a : Act) (w : World) (U : List Nat), HeadInv md l.toArray k listed → (∀ i, i < k → listed.getD i true = false → i ∈ U) → U.length + (l.length - k) ≤ fuel → C w →
      wpAnyQ P md (nopped k l).toArray C Qh fuel listed a → wpAnyIn (fence r) m P md l.toArray Q fuel listed a w := by
  intro fuel
  induction fuel with
  | zero => intro listed a w U _ _ hf; omega
  | succ f ih =>
    intro listed a w U inv hU hf hC h
    by_cases hex : ∃ i, i < k ∧ listed.getD i true = false
    · refine ⟨fun h0 => absurd h0 (ready_some (by omega) hE inv hex), fun i hi => ?_⟩
      obtain ⟨i0, hi0, hu0⟩ := hex
      have hik : i < k := by
        rcases Nat.lt_or_ge i k with hlt | hge
        · exact hlt
        · exact absurd hi (tail_waits hs hc (by simpa using hk) inv _ i0 rfl hi0 hu0 i hge)
      have hq := h.2 i ((ready_nopped k l listed i).2 hi)
      have hui := (mem_ready.1 hi).1
      have hil : i < l.length := by omega
      have hp : plainB l[i] = true := List.all_eq_true.1 hP _ (List.mem_iff_getElem?.2 ⟨i, by rw [List.getElem?_take_of_lt hik, List.getElem?_eq_getElem hil]⟩)
      unfold qOp at hq
      rw [List.getElem?_toArray, nopped_low k l i hik, List.getElem?_eq_getElem hil] at hq
      unfold wpOpIn
      rw [List.getElem?_toArray, List.getElem?_eq_getElem hil]
      simp only at hq ⊢
      rw [if_pos (wanted_of (plainB_guard hp) _)] at hq ⊢
      refine wpIn_of_quiet hp hC (fun a' w' hC' hn => ?_) hq
      have hiU := hU i hik hui
      have hlen := List.length_erase_of_mem hiU
      have hpos := List.length_pos_of_mem hiU
      refine ih (listed.setIfInBounds i true) a' w' (U.erase i) (inv.set hi hik) (fun j hj hju => ?_) (by omega) hC' hn
      have hji : j ≠ i := by
        rintro rfl
        have hlt : j < listed.size := by rw [inv.size]; simpa using hil
        simp [hlt] at hju
      rw [getD_set_ne true (Ne.symm hji)] at hju
      exact (List.mem_erase_of_ne hji).2 (hU j hj hju)
    · have he := front_of (by simp; omega) inv hex
      have he' : listed = front k l.length := by simpa using he
      subst he'
      have hg := quiet_end (k := k) (l.length - k) k _ a (f + 1) (by omega) (Nat.le_refl _) hB h
      refine run_rest (l.drop k) k _ a w (f + 1) (fun t => by simp) (by simp; omega) (by simpa using hB) (hQ a w hC hg)

theorem quiet_nops {ops ops' : Array Oper} {Q : Act → Prop} (ns : List Oper) : ∀ (xs : List Oper) (a : Act), xs.all plainB = true → wpQuiet P ops C Q xs a → wpQuiet P ops' C Q (xs ++ ns.map nop) a
  | [], a, _, h => by
    rw [List.nil_append]
    induction ns with
    | nil => exact h
    | cons o ns ih =>
      show wpQuiet P ops' C Q (nop o :: ns.map nop) a
      unfold wpQuiet
      rw [if_pos (wanted_of rfl _)]
      exact BigFrame.quiet_assign (.const undef) rfl ih
  | o :: xs, a, hp, h => by
    rw [List.all_cons, Bool.and_eq_true] at hp
    show wpQuiet P ops' C Q (o :: (xs ++ ns.map nop)) a
    unfold wpQuiet at h ⊢
    rw [if_pos (wanted_of (plainB_guard hp.1) _)] at h ⊢
    exact Oper.quiet_mono (fun a' h' => quiet_nops ns xs a' hp.2 h') h

def headB (k : Nat) (l : List Oper) : Bool :=
  decide (k < l.length) && earlierB l && (l.take k).all plainB && Region.sinkB .any l.toArray k && Region.chainB .any l.toArray k && Region.seqB .any l.toArray (l.length - k) k (front k l.length) && Region.lexB .any (nopped k l).toArray

/-- **The head in the text's order, in any world of the class; then the rest.** -/
theorem wpIn_head {id : Nat} {Q : Exit → Act → World → Prop} {a : Act} {w : World} {l : List Oper} (k : Nat) (hm : P.follows .mixedOrders = true) (hB : headB k l = true) (hC : C { w with drawn := w.drawn + 1 })
    (h : wpQuiet P l.toArray C (fun a' => ∀ w', C w' → wpListIn (fence r) m P l.toArray Q (l.drop k) a' w') (l.take k) a) : (Code.region id l.toArray true).wpIn (fence r) m P Q a w := by
  unfold headB at hB
  simp only [Bool.and_eq_true, decide_eq_true_eq] at hB
  obtain ⟨⟨⟨⟨⟨⟨hk, hE⟩, hP⟩, hs⟩, hc⟩, hsq⟩, hlex⟩ := hB
  unfold Region.lexB at hlex
  rw [Bool.and_eq_true] at hlex
  refine wpIn_region_any hm ?_
  have hq : wpQuiet P (nopped k l).toArray C (fun a' => ∀ w', C w' → wpListIn (fence r) m P l.toArray Q (l.drop k) a' w') (nopped k l) a := quiet_nops (l.drop k) (l.take k) a hP h
  have hlen := nopped_length k l
  have hx := wpAnyQ_lex (C := C) (md := .any) hlex.1 (nopped k l) 0 (Array.replicate (nopped k l).toArray.size false) a (by simp) (by simpa using hlex.2) hq
  refine any_of_quiet (Qh := fun a' => ∀ w', C w' → wpListIn (fence r) m P l.toArray Q (l.drop k) a' w') hk hE hP hs hc hsq (fun a' w' hw' hh => hh w' hw') _ _ _ _ (List.range k)
    ⟨by simp, fun j oj _ hl => (by rw [getD_replicate_false] at hl; cases hl), fun t _ ht => getD_in (by simpa using ht) (getD_replicate_false _ _)⟩ (fun i hi _ => List.mem_range.2 hi) (by rw [List.length_range]; simp; omega) hC ?_
  rw [List.size_toArray, hlen] at hx
  simpa using hx
end
end Go.Proofs.YtagmmbkgjomdlaaGreatDoor.Rk

/-
  What a round of a loop over a vector's pieces keeps, and which pieces come.
-/
namespace Go.Proofs.YtagmmbkgjomdlaaGreatDoor.Bt
open Go.RowKit Go.Proofs.YtagmmbkgjomdlaaGreatDoor.Ar Go.Proofs.YtagmmbkgjomdlaaGreatDoor.Wd
set_option linter.unusedVariables false

/-- Whatever is cells, and not in S, lies as it lay. -/
structure CellsKept (S : List Nat) (W W' : World) : Prop where
  size : W.heap.size ≤ W'.heap.size
  same : ∀ k o, k ∉ S → W.heap[k]? = some o → o.isCells = true → W'.heap[k]? = some o
namespace CellsKept
theorem trans {S : List Nat} {A B C : World} (h : CellsKept S A B) (k : CellsKept S B C) : CellsKept S A C :=
  ⟨Nat.le_trans h.size k.size, fun i o hi ho hc => k.same i o hi (h.same i o hi ho hc) hc⟩
theorem of_kept {S : List Nat} {A B : World} (h : Kept S A B) : CellsKept S A B :=
  ⟨h.more, fun i o hi ho _ => (h.old i (Array.getElem?_eq_some_iff.1 ho).1 hi).trans ho⟩
theorem put {S : List Nat} (W : World) (l : Nat) (o o' : Obj) (h : W.heap[l]? = some o) (hc : o.isCells = false) : CellsKept S W (W.putObj l o') :=
  ⟨(grownBy_putObj' W l o').size, fun i x _ hx hxc => by
    have hne : i ≠ l := by rintro rfl; rw [h] at hx; injection hx with hx; rw [hx, hxc] at hc; cases hc
    exact ((grownBy_putObj' W l o').block i (Array.getElem?_eq_some_iff.1 hx).1 (fun e => hne (by injection e))).trans hx⟩
theorem has {S : List Nat} {W W' : World} (h : CellsKept S W W') {b : Nat} {t : TypeId} {cs : List Value} (hb : b ∉ S) (hh : Has W b t cs) : Has W' b t cs := h.same b _ hb hh rfl
end CellsKept
/-- What a round that goes on keeps: cells that are not in S; the words' block is words still. -/
def Keeps (G : List Int → Prop) (S : List Nat) (q : Nat) (W W' : World) : Prop :=
  CellsKept S W W' ∧ ((∃ ws, G ws ∧ Has W q 217 (ints ws)) → ∃ ws, G ws ∧ Has W' q 217 (ints ws))
theorem Keeps.trans {G : List Int → Prop} {S : List Nat} {q : Nat} {A B C : World} (h : Keeps G S q A B) (k : Keeps G S q B C) : Keeps G S q A C := ⟨h.1.trans k.1, fun x => k.2 (h.2 x)⟩
theorem Keeps.put {G : List Int → Prop} {S : List Nat} {q : Nat} (W : World) (l : Nat) (o o' : Obj) (h : W.heap[l]? = some o) (hc : o.isCells = false) : Keeps G S q W (W.putObj l o') :=
  ⟨CellsKept.put W l o o' h hc, fun ⟨ws, hG, hq⟩ => ⟨ws, hG, (CellsKept.put (S := []) W l o o' h hc).has (by simp) hq⟩⟩
/-- Where the words' block is not in S. -/
theorem Keeps.of {G : List Int → Prop} {S : List Nat} {q : Nat} {W W' : World} (h : CellsKept S W W') (hq : q ∉ S) : Keeps G S q W W' := ⟨h, fun ⟨ws, hG, hh⟩ => ⟨ws, hG, h.has hq hh⟩⟩
/-- A caller's word on what it has kept abides the loop's book-keeping. -/
theorem own_kept {β : Type} {S : List Nat} {w0 : World} {B : Nat} (hB : w0.heap.size ≤ B) : OwnFrom B (fun (_ : β) W => Kept S w0 W) :=
  fun _ X Y row hs hg hr => hs.grown hg fun g e => .inr (Nat.le_trans hB (hr g e).1)
theorem own_has {β : Type} {B b : Nat} {t : TypeId} {f : β → List Value} : OwnFrom B (fun s W => Has W b t (f s)) :=
  fun s X Y row hs hg hr => (hg.block b (Has.lt hs) fun e => by
    obtain ⟨_, o, ho, hc⟩ := hr b e.symm
    have hs' : X.heap[b]? = some (.cells (f s).toArray t (0, 0)) := hs
    rw [ho] at hs'
    injection hs' with hs'
    subst hs'
    cases hc).trans hs
theorem keepsFrom_of {S : List Nat} {B : Nat} {W W' : World} (h : Kept S W W') (hS : ∀ b ∈ S, ∃ t cs, Has W b t cs) : KeepsFrom B W W' :=
  ⟨h.more, fun k o _ ho hc => (h.old k (Array.getElem?_eq_some_iff.1 ho).1 fun hk => by
    obtain ⟨t, cs, hh⟩ := hS k hk
    unfold Has at hh
    rw [ho] at hh
    injection hh with hh
    subst hh
    cases hc).trans ho⟩

/-- A piece: which word, from which bit on, how many; and its bits. -/
structure Pc where
  k : Nat
  a : Nat
  n : Nat
  v : Nat
def Pc.ok (nw : Nat) (x : Pc) : Prop := 1 ≤ x.n ∧ x.a + x.n ≤ 64 ∧ x.k < nw ∧ x.v < 18446744073709551616
abbrev Pcs (nw : Nat) := { x : Pc // x.ok nw }
def encs {nw : Nat} (x : Pcs nw) : Array Value := #[pieceV x.1.k x.1.a x.1.n, .int .u64 ((x.1.v : Nat) : Int)]
/-- The piece from the bit s on, below e. -/
def isAt (G : List Int → Prop) (e s : Nat) (x : Pc) : Prop :=
  x.k = s / 64 ∧ x.a = s % 64 ∧ x.n = min (64 - s % 64) (e - s) ∧ ∃ ws, G ws ∧ x.v = fld (ws.getD (s / 64) 0).toNat x.a x.n
def Goes (G : List Int → Prop) (e : Nat) {nw : Nat} : Nat → List (Pcs nw) → Nat → Prop
  | s, [], t => t = s
  | s, x :: xs, t => s < e ∧ isAt G e s x.1 ∧ Goes G e (s + x.1.n) xs t
theorem Goes.snoc {G : List Int → Prop} {e nw : Nat} {x : Pcs nw} : ∀ {xs : List (Pcs nw)} {s t : Nat}, Goes G e s xs t → t < e → isAt G e t x.1 → Goes G e s (xs ++ [x]) (t + x.1.n)
  | [], s, t, h, ht, hx => by
    have h' : t = s := h
    subst h'
    exact ⟨ht, hx, rfl⟩
  | y :: ys, s, t, ⟨h1, h2, h3⟩, ht, hx => ⟨h1, h2, Goes.snoc h3 ht hx⟩
theorem Goes.length {G : List Int → Prop} {e nw : Nat} : ∀ {xs : List (Pcs nw)} {s t : Nat}, Goes G e s xs t → xs.length + s ≤ t
  | [], s, t, h => by
    have h' : t = s := h
    simp
    omega
  | y :: ys, s, t, ⟨h1, h2, h3⟩ => by
    have := Goes.length h3
    have := y.2.1
    rw [List.length_cons]
    omega
theorem Goes.le {G : List Int → Prop} {e nw : Nat} : ∀ {xs : List (Pcs nw)} {s t : Nat}, Goes G e s xs t → s ≤ e → t ≤ e
  | [], s, t, h, hs => by
    have h' : t = s := h
    omega
  | y :: ys, s, t, ⟨h1, ⟨_, _, h4, _⟩, h3⟩, hs => Goes.le h3 (by omega)

/-- What the loop reads: the vector, and the boxes that its function has captured. -/
structure Reads (G : List Int → Prop) (W : World) (p q N bi be bb i e : Nat) : Prop where
  head : Has W p 183 [.int .i64 (N : Int), .slice (some ⟨q, 0, none⟩) ((N + 63) / 64) 1024]
  row : ∃ ws, G ws ∧ Has W q 217 (ints ws)
  from' : Has W bi 3 [.int .i64 (i : Int)]
  below : Has W be 3 [.int .i64 (e : Int)]
  vec : Has W bb 66 [.pointer (some ⟨p, 0, none⟩)]
theorem Reads.keep0 {G : List Int → Prop} {W W' : World} {p q N bi be bb i e : Nat} (h : Reads G W p q N bi be bb i e) (k : Kept [] W W') : Reads G W' p q N bi be bb i e :=
  ⟨h.head.keep0 k, let ⟨ws, hG, hq⟩ := h.row; ⟨ws, hG, hq.keep0 k⟩, h.from'.keep0 k, h.below.keep0 k, h.vec.keep0 k⟩
theorem Reads.kept {G : List Int → Prop} {S : List Nat} {W W' : World} {p q N bi be bb i e : Nat} (h : Reads G W p q N bi be bb i e) (k : Keeps G S q W W') (h1 : p ∉ S) (h2 : bi ∉ S) (h3 : be ∉ S) (h4 : bb ∉ S) : Reads G W' p q N bi be bb i e :=
  ⟨k.1.has h1 h.head, k.2 h.row, k.1.has h2 h.from', k.1.has h3 h.below, k.1.has h4 h.vec⟩
def Good (G : List Int → Prop) : Prop := ∀ ws, G ws → ws.length = 1024 ∧ ∀ j, 0 ≤ ws.getD j 0 ∧ ws.getD j 0 < 18446744073709551616
end Go.Proofs.YtagmmbkgjomdlaaGreatDoor.Bt

/-
  The loop over a vector's pieces, upwards: the contract of the function that up hands back.
-/
namespace Go.Proofs.YtagmmbkgjomdlaaGreatDoor.Bt
open Go.RowKit Go.Proofs.YtagmmbkgjomdlaaGreatDoor.Ar Go.Proofs.YtagmmbkgjomdlaaGreatDoor.Wd Go.Shelf Go.Sort
set_option linter.unusedVariables false
attribute [local go_sem] Oper.semAt_some

theorem up1_in (n : Nat) (hn : 1 ≤ n) (G : List Int → Prop) (hG : Good G) (S : List Nat) (p q N bi be bb i e : Nat) (hN : N ≤ 65536) (he : e ≤ N) (hS : p ∉ S ∧ bi ∉ S ∧ be ∉ S ∧ bb ∉ S)
    (l : Nat) (J Jx : List (Pcs ((N + 63) / 64)) → World → Prop) (W : World) (hB : ∀ b ∈ S, b < W.heap.size) (hJ : AbidesFrom W.heap.size J)
    (hY : ∀ pre x W1, J pre W1 → pre.length < e - i → YieldAt Fence.wide (n - 1) Tryz.prog l (encs x) W1 fun e W' =>
      (e = .returned (.bool true) ∧ J (pre ++ [x]) W' ∧ Keeps G S q W1 W') ∨ (e = .returned (.bool false) ∧ Jx (pre ++ [x]) W'))
    (hR : Reads G W p q N bi be bb i e) (h0 : J [] W) :
    CallsIn Fence.wide n Tryz.prog 159 #[.func (.yield l) #[] #[], .pointer (some ⟨bi, 0, none⟩), .pointer (some ⟨be, 0, none⟩), .pointer (some ⟨bb, 0, none⟩)] W fun e' W' => (∃ v, e' = .returned v) ∧
      ((∃ xs, (∃ t, Goes G e i xs t ∧ e ≤ t) ∧ J xs W') ∨ (∃ pre, (∃ t, Goes G e i pre t) ∧ Jx pre W')) := by
  have ci := hR.from'.cell 0
  simp at ci
  have HR := Lib.hid hR
  have HJ := Lib.hid hJ
  have HY := Lib.hid hY
  have HG := Lib.hid hG
  have H0 := Lib.hid h0
  have HS := Lib.hid hS
  have HB := Lib.hid hB
  clear hR hJ hY hG h0 hS hB
  refine callsIn_of_wp Tryz.func159 rfl trivial ?_ rfl
  simp only [Tryz.ntmps159, List.size_toArray, List.length_cons, List.length_nil, Nat.reduceAdd, Nat.reduceSub, Array.replicate_succ, Array.replicate_zero, List.push_toArray, List.append_toArray, List.nil_append, List.cons_append]
  gi_wp2
  gi_loopw [5] (fun v wr => ∃ (pre : List (Pcs ((N + 63) / 64))) (t : Nat), v = .int .i64 (t : Int) ∧ Hid (Goes G e i pre t ∧ J pre wr ∧ Reads G wr p q N bi be bb i e ∧ W.heap.size ≤ wr.heap.size))
    (fun v _ => e - (intOf v).toNat)
  case atStart => exact ⟨[], i, rfl, Lib.hid ⟨rfl, H0.out, HR.out, Nat.le_refl _⟩⟩
  case round =>
    obtain ⟨pre, t, rfl, hrel⟩ := hrel
    have ce := hrel.out.2.2.1.below.cell 0
    simp at ce
    by_cases hlt : t < e
    · have Hp := Lib.hid (partsOf_ok t (by omega) wr)
      have h64 : t % 64 < 64 := Nat.mod_lt _ (by decide)
      obtain ⟨m, hm⟩ : ∃ m, m = min (64 - t % 64) (e - t) := ⟨_, rfl⟩
      obtain ⟨a, ha⟩ : ∃ a, a = t % 64 := ⟨_, rfl⟩
      obtain ⟨k, hk⟩ : ∃ k, k = t / 64 := ⟨_, rfl⟩
      rw [← ha, ← hk] at Hp
      have Ha := Lib.hid ha
      have Hk := Lib.hid hk
      have Hm := Lib.hid hm
      have hm1 : (m : Int) ≤ 64 - (a : Int) := by omega
      have hm2 : (m : Int) ≤ (e : Int) - (t : Int) := by omega
      have hmin : ((64 - (a : Int) ≤ (e : Int) - (t : Int)) ∧ (m : Int) = 64 - (a : Int)) ∨ (((e : Int) - (t : Int) < 64 - (a : Int)) ∧ (m : Int) = (e : Int) - (t : Int)) := by omega
      have hm0 : 1 ≤ m := by omega
      have ham : a + m ≤ 64 := by omega
      clear hm ha hk h64
      gi_wp2_with (fail)
      refine ⟨trivial, (callsIn_wide.2 Hp.out).mono ?_⟩
      rintro e1 w1 ⟨rfl, hk1⟩
      have R1 := Lib.hid (hrel.out.2.2.1.keep0 hk1)
      have ce1 : ∀ o, (w1.alloc o).cell? ⟨be, 0, none⟩ = some (.int .i64 (e : Int)) := fun o => (R1.out.keep0 ((Kept.refl [] w1).alloc o)).below.cell 0
      have Hk1 := Lib.hid hk1
      clear hk1
      have Em := Lib.hid (show min (64 - (a : Int)) ((e : Int) - (t : Int)) = (m : Int) by omega)
      gi_wp2_with (fail)
      rw [Em.out]
      have hb2 : Has (w1.alloc (.cells #[.int .i64 (k : Int), .int .i64 (a : Int), .int .i64 (m : Int)] 131)) w1.heap.size 131 [.int .i64 (k : Int), .int .i64 (a : Int), .int .i64 (m : Int)] := Has.new w1 _ _
      have hk2 : Kept [] w1 (w1.alloc (.cells #[.int .i64 (k : Int), .int .i64 (a : Int), .int .i64 (m : Int)] 131)) := (Kept.refl [] w1).alloc _
      generalize w1.alloc (.cells #[.int .i64 (k : Int), .int .i64 (a : Int), .int .i64 (m : Int)] 131) = w2 at *
      generalize hB : w1.heap.size = B at hb2 ⊢
      have hBw := Lib.hid hB
      clear hB
      obtain ⟨ws, hGw, hws⟩ := (R1.out.keep0 hk2).row
      have hv2 : Vec w2 p q N ws := ⟨(R1.out.keep0 hk2).head, hws, (HG.out ws hGw).1, hN, (HG.out ws hGw).2⟩
      have hkn : k < (N + 63) / 64 := by have := Hk.out; omega
      have b0 := cell_regrown (show w2.cell? ⟨B, 0, none⟩ = some (.int .i64 (k : Int)) from hb2.cell 0)
      have b1 := cell_regrown (show w2.cell? ⟨B, 1, none⟩ = some (.int .i64 (a : Int)) from hb2.cell 1)
      have b2 := cell_regrown (show w2.cell? ⟨B, 2, none⟩ = some (.int .i64 (m : Int)) from hb2.cell 2)
      have bv := cell_regrown (show w2.cell? ⟨bb, 0, none⟩ = some (.pointer (some ⟨p, 0, none⟩)) from (R1.out.keep0 hk2).vec.cell 0)
      have cC : ∀ d os, Calls Tryz.prog 62 #[.pointer (some ⟨p, 0, none⟩), pieceV k a m] (grow (redrawn w2 d) os) fun e w'' => e = .returned (.int .u64 ((fld (ws.getD k 0).toNat a m : Nat) : Int)) ∧ ∃ p : Regrown, w'' = grow (redrawn w2 p.d) p.os :=
        fun d os => Calls.regrown_of ((cut_ok _ (hv2.keep0 (Kept.ofBelow (below_regrown w2 d os) [])) k a m hkn hm0 ham).mono fun _ _ ⟨he, hk⟩ => ⟨he, hk.below (Nat.le_refl _) (by simp)⟩)
      unfold pieceV at cC
      obtain ⟨x, hx⟩ : ∃ x, x = fld (ws.getD k 0).toNat a m := ⟨_, rfl⟩
      rw [← hx] at cC
      have hfl : x < 2 ^ m := by rw [hx]; exact fld_lt _ a m
      have hpw : 2 ^ m ≤ 18446744073709551616 := Nat.pow_le_pow_right (n := 2) (by decide) (show m ≤ 64 by omega)
      have hok : Pc.ok ((N + 63) / 64) ⟨k, a, m, x⟩ := ⟨hm0, ham, hkn, show x < _ by omega⟩
      have HX := Lib.hid hx
      clear hx hfl hpw
      have CC := Lib.hid cC
      have Hb2 := Lib.hid hb2
      have Hv2 := Lib.hid hv2
      have Hk2 := Lib.hid hk2
      have Hws := Lib.hid hws
      have HGw := Lib.hid hGw
      clear cC hb2 hv2 hk2 hws hGw ce1 Em
      refine Rk.wpIn_head (r := none) (C := fun w' => ∃ p : Regrown, w' = grow (redrawn w2 p.d) p.os) 5 (by kernel_rfl) (by kernel_rfl) ⟨⟨w2.drawn + 1, #[]⟩, by rw [grow_empty]; rfl⟩ ?_
      simp only [List.take_succ_cons, List.take_zero, List.drop_succ_cons, List.drop_zero]
      repeat (quiet_step (exact CC.out _ _))
      refine wpQuiet_nil ?_
      rintro _ ⟨⟨dq, osq⟩, rfl⟩
      rw [Rk.fence_none]
      have hk3 := Kept.ofBelow (below_regrown w2 dq osq) []
      show wpListIn _ _ _ _ _ _ _ (grow (redrawn w2 dq) osq)
      generalize grow (redrawn w2 dq) osq = w3 at hk3 ⊢
      have hk03 := (Hk1.out.trans Hk2.out).trans hk3
      have hlen : pre.length < e - i := by have := hrel.out.1.length; omega
      obtain ⟨fn, tmps, assign, body, hy, hR⟩ := HY.out pre ⟨⟨k, a, m, x⟩, hok⟩ w3
        (HJ.out pre wr w3 none hrel.out.2.1 ⟨hk03.os, hk03.tape, hk03.out, hk03.more, fun j hj _ => hk03.old j hj (by simp)⟩ (fun r h => by cases h)) hlen
      have Hx : Hid (isAt G e t ⟨k, a, m, x⟩) := Lib.hid ⟨Hk.out, Ha.out, Hm.out, ws, HGw.out, by rw [← Hk.out]; exact HX.out⟩
      dsimp only [encs, pieceV] at hy
      clear hlen b0 b1 b2 bv
      have HbS : Hid (B ∉ S ∧ W.heap.size ≤ B) := Lib.hid ⟨fun hb => by have h1 := HB.out B hb; have h2 := hrel.out.2.2.2; have h3 := hBw.out; have h4 := Hk1.out.more; omega, by have h2 := hrel.out.2.2.2; have h3 := hBw.out; have h4 := Hk1.out.more; omega⟩
      have Hk3 := Lib.hid hk3
      have Hk03 := Lib.hid hk03
      clear hk3 hk03
      gi_wp2_with (fail)
      refine hR.mono ?_
      rintro e3 W3 (⟨rfl, hJ3, hkp⟩ | ⟨rfl, hJx⟩)
      · have hb3 : Has W3 B 131 [.int .i64 (k : Int), .int .i64 (a : Int), .int .i64 (m : Int)] := hkp.1.has HbS.out.1 (Hb2.out.keep0 Hk3.out)
        have c3 := hb3.cell 2
        simp at c3
        have HRel : Hid (Goes G e i (pre ++ [⟨⟨k, a, m, x⟩, hok⟩]) (t + m) ∧ J (pre ++ [⟨⟨k, a, m, x⟩, hok⟩]) W3 ∧ Reads G W3 p q N bi be bb i e ∧ W.heap.size ≤ W3.heap.size) :=
          Lib.hid ⟨hrel.out.1.snoc hlt Hx.out, hJ3, (hrel.out.2.2.1.keep0 Hk03.out).kept hkp HS.out.1 HS.out.2.1 HS.out.2.2.1 HS.out.2.2.2, by have h1 := hrel.out.2.2.2; have h2 := Hk03.out.more; have h3 := hkp.1.size; omega⟩
        clear hJ3 hkp hb3
        gi_wp2_with (fail)
        go_roundw
        case rel => exact ⟨_, t + m, by go_num, HRel⟩
        case measure => simp [intOf]; omega
      · gi_wp2_with (fail)
        refine bodyPost_ret (results_none rfl _ _ _) rfl ?_
        exact ⟨⟨_, rfl⟩, .inr ⟨_, ⟨t + m, hrel.out.1.snoc hlt Hx.out⟩, hJx⟩⟩
    · gi_wp2_with (fail)
      go_end0
      exact ⟨⟨_, rfl⟩, .inl ⟨pre, ⟨t, hrel.out.1, by omega⟩, hrel.out.2.1⟩⟩

theorem up_stops (n : Nat) (hn : 1 ≤ n) (G : List Int → Prop) (hG : Good G) (S : List Nat) (p q N bi be bb i e : Nat) (hN : N ≤ 65536) (he : e ≤ N) (hS : p ∉ S ∧ bi ∉ S ∧ be ∉ S ∧ bb ∉ S) (w : World) (hB : ∀ b ∈ S, b < w.heap.size) (hR : Reads G w p q N bi be bb i e) :
    SeqStopsK Fence.wide n Tryz.prog 159 #[.pointer (some ⟨bi, 0, none⟩), .pointer (some ⟨be, 0, none⟩), .pointer (some ⟨bb, 0, none⟩)] (encs (nw := (N + 63) / 64)) (Keeps G S q) (fun xs => ∃ t, Goes G e i xs t ∧ e ≤ t) (fun pre => ∃ t, Goes G e i pre t) (e - i) w :=
  fun l J Jx W hW hJ _ hY h0 => up1_in n hn G hG S p q N bi be bb i e hN he hS l J Jx W (fun b hb => Nat.lt_of_lt_of_le (hB b hb) hW.size) hJ hY (hR.keep0 (Kept.ofBelow hW [])) h0
end Go.Proofs.YtagmmbkgjomdlaaGreatDoor.Bt

/-
  The same where the rest is one store, and one operation that only computes (its value is asked by none) may come behind it.
-/
namespace Go.Proofs.YtagmmbkgjomdlaaGreatDoor.Rk
set_option linter.unusedVariables false
section
variable {P : Program} {C : World → Prop} {r : Option Nat} {m : Nat}

def earlyB (l : List Oper) : Bool := (List.range l.length).all fun j => match l[j]? with | some o => o.after.all fun e => !Region.binds .any e || decide (e.on < j) | none => true
theorem early_spec {l : List Oper} (h : earlyB l = true) {j : Nat} {o : Oper} (ho : l[j]? = some o) (e : Edge) (he : e ∈ o.after) (hb : Region.binds .any e = true) : e.on < j := by
  have hj : j < l.length := (List.getElem?_eq_some_iff.1 ho).1
  have h1 := List.all_eq_true.1 h j (List.mem_range.2 hj)
  rw [ho] at h1
  have := Array.all_eq_true_iff_forall_mem.1 h1 e he
  rw [hb] at this
  simpa using this
/-- Each of the first k, but f, is waited for by one behind it, up to the store. -/
def sinkF (l : List Oper) (k f : Nat) : Bool := (List.range k).all fun i => decide (i = f) || (List.range (k + 1)).any fun j => decide (i < j) && decide (j ≠ f) && Region.waitsFor .any l.toArray j i
structure Inv (l : List Oper) (k : Nat) (listed : Array Bool) : Prop where
  size : listed.size = l.length
  closed : ∀ j oj, l[j]? = some oj → listed.getD j false = true → ∀ e ∈ oj.after, Region.binds .any e = true → listed.getD e.on false = true
theorem Inv.set {l : List Oper} {k i : Nat} {listed : Array Bool} (inv : Inv l k listed) (hi : i ∈ Region.ready .any l.toArray listed) : Inv l k (listed.setIfInBounds i true) := by
  obtain ⟨_, oi, hoi, hall⟩ := mem_ready.1 hi
  rw [List.getElem?_toArray] at hoi
  refine ⟨by simp [inv.size], fun j oj hj hl e he hb => ?_⟩
  by_cases hij : i = j
  · subst hij
    have : oj = oi := Option.some.inj (hj.symm.trans hoi)
    subst this
    exact getD_set_true (hall e he hb)
  · rw [getD_set_ne false hij] at hl
    exact getD_set_true (inv.closed j oj hj hl e he hb)
theorem Inv.no {l : List Oper} {k i : Nat} {listed : Array Bool} (inv : Inv l k listed) (h : listed.getD i true = false) : listed.getD i false = false := getD_both h
theorem Inv.yes {l : List Oper} {k i : Nat} {listed : Array Bool} (inv : Inv l k listed) (hi : i < l.length) (h : ¬ listed.getD i true = false) : listed.getD i false = true := by
  have hs : i < listed.size := by rw [inv.size]; exact hi
  have e : listed.getD i true = listed.getD i false := by simp [hs]
  rw [e] at h
  simpa using h
theorem store_waits {l : List Oper} {k f : Nat} {listed : Array Bool} (hk : k < l.length) (hs : sinkF l k f = true) (inv : Inv l k listed) :
    ∀ (d i : Nat), k - i = d → i < k → i ≠ f → listed.getD i true = false → k ∉ Region.ready .any l.toArray listed := by
  intro d
  induction d using Nat.strongRecOn with
  | _ d ih =>
    intro i hd hi hf hun hr
    obtain ⟨_, ok, hok, hall⟩ := mem_ready.1 hr
    have h1 := List.all_eq_true.1 hs i (List.mem_range.2 hi)
    rw [Bool.or_eq_true] at h1
    rcases h1 with h1 | h1
    · exact hf (by simpa using h1)
    · obtain ⟨j, hj, hj2⟩ := List.any_eq_true.1 h1
      simp only [Bool.and_eq_true, decide_eq_true_eq] at hj2
      obtain ⟨⟨hij, hjf⟩, hw⟩ := hj2
      obtain ⟨oj, hoj, e, he, hb, hon⟩ := Region.waitsFor_spec hw
      have hjk : j ≤ k := by have := List.mem_range.1 hj; omega
      by_cases hjk' : j = k
      · subst hjk'
        have : oj = ok := Option.some.inj (hoj.symm.trans hok)
        subst this
        have h2 := hall e he hb
        rw [hon, inv.no hun] at h2
        cases h2
      · by_cases hl : listed.getD j true = false
        · exact ih (k - j) (by omega) j rfl (by omega) hjf hl hr
        · have h2 := inv.closed j oj (by simpa using hoj) (inv.yes (by omega) hl) e he hb
          rw [hon, inv.no hun] at h2
          cases h2
theorem ready_least {l : List Oper} {k : Nat} {listed : Array Bool} (hE : earlyB l = true) (inv : Inv l k listed) (h : ∃ i, i < l.length ∧ listed.getD i true = false) : Region.ready .any l.toArray listed ≠ [] := by
  obtain ⟨i, hi, hu⟩ := h
  induction i using Nat.strongRecOn with
  | _ i ih =>
    by_cases hall : ∀ e ∈ l[i].after, Region.binds .any e = true → listed.getD e.on false = true
    · intro h0
      have hm : i ∈ Region.ready .any l.toArray listed := mem_ready.2 ⟨hu, l[i], by simp [hi], hall⟩
      rw [h0] at hm
      cases hm
    · simp only [Classical.not_forall] at hall
      obtain ⟨e, he, hb, hne⟩ := hall
      have h2 := early_spec hE (List.getElem?_eq_getElem hi) e he hb
      refine ih e.on h2 (by omega) ?_
      refine getD_in (by rw [inv.size]; omega) ?_
      simpa using hne
theorem ready_all {l : List Oper} {listed : Array Bool} (h : ∀ i, i < l.length → ¬ listed.getD i true = false) : Region.ready .any l.toArray listed = [] := by
  refine List.eq_nil_iff_forall_not_mem.2 fun j hj => ?_
  obtain ⟨hu, o, ho, _⟩ := mem_ready.1 hj
  rw [List.getElem?_toArray] at ho
  exact h j (List.getElem?_eq_some_iff.1 ho).1 hu
theorem any_done {ops : Array Oper} {Q : Exit → Act → World → Prop} {listed : Array Bool} {a : Act} {w : World} (h0 : Region.ready .any ops listed = []) (h : Q .normal a w) (fuel : Nat) : wpAnyIn (fence r) m P .any ops Q fuel listed a w := by
  cases fuel with
  | zero => exact ⟨h0, h⟩
  | succ f => exact ⟨fun _ => h, fun i hi => (by rw [h0] at hi; cases hi)⟩
theorem quiet_done {ops : Array Oper} {Q : Act → Prop} {listed : Array Bool} {a : Act} {fuel : Nat} (h0 : Region.ready .any ops listed = []) (h : wpAnyQ P .any ops C Q fuel listed a) : Q a := by
  cases fuel with
  | zero => exact h.2
  | succ f => exact h.1 h0
theorem set_listed {l : List Oper} {k i j : Nat} {listed : Array Bool} (inv : Inv l k listed) (hi : i < l.length) : (listed.setIfInBounds i true).getD j true = false ↔ j ≠ i ∧ listed.getD j true = false := by
  by_cases hij : i = j
  · subst hij
    have hlt : i < listed.size := by rw [inv.size]; exact hi
    simp [hlt]
  · rw [getD_set_ne true hij]
    exact ⟨fun h => ⟨Ne.symm hij, h⟩, fun h => h.2⟩
theorem extract_any {o : Oper} {x : Operand} {n : Nat} (ho : o.op = .extract x n) (a : Act) : (∃ v, ∀ w, (execOp a.eval o).run P w = .ok (.value v) w) ∨ (∀ w, ∃ h w', (execOp a.eval o).run P w = .halt h w') := by
  unfold execOp
  rw [ho]
  simp only [Instr.extract]
  cases a.eval x with
  | tuple vs =>
    cases h : vs[n]? with
    | some v => exact .inl ⟨v, fun w => by simp [h, go_sem]⟩
    | none => exact .inr fun w => ⟨_, _, by simp [h, go_sem]; exact ⟨rfl, rfl⟩⟩
  | _ => exact .inr fun w => ⟨_, _, by simp [go_sem]; exact ⟨rfl, rfl⟩⟩
theorem extract_pure {o : Oper} {x : Operand} {n : Nat} (ho : o.op = .extract x n) (a : Act) {v : Value} {w : World} (h : o.quietAt P a C w v) : ∀ w', (execOp a.eval o).run P w' = .ok (.value v) w' := by
  unfold Oper.quietAt at h
  rcases extract_any (P := P) ho a with ⟨u, hu⟩ | hu
  · rw [hu w] at h
    obtain ⟨_, rfl⟩ := h
    exact hu
  · obtain ⟨hl, w', e⟩ := hu w
    rw [e] at h
    exact h.elim
theorem wpIn_skip_op {o : Oper} {a : Act} {K : Act → World → Prop} {Q : Exit → Act → World → Prop} {w w2 : World} (hp : plainB o = true) (hd : o.dst = none) (hr : (execOp a.eval o).run P w = .ok .skip w2) (h : K a w2) : o.wpIn (fence r) m P a w K Q := by
  refine ⟨fun _ _ => trivial, ?_⟩
  rw [Oper.semAt_eq _ _ _ (plainB_defer hp), hr]
  show K (a.put o.dst undef) w2
  rw [hd]
  exact h
theorem wpIn_value_op {o : Oper} {a : Act} {K : Act → World → Prop} {Q : Exit → Act → World → Prop} {w : World} {v : Value} (hp : plainB o = true) (hr : (execOp a.eval o).run P w = .ok (.value v) w) (h : K (a.put o.dst v) w) : o.wpIn (fence r) m P a w K Q := by
  refine ⟨fun _ _ => trivial, ?_⟩
  rw [Oper.semAt_eq _ _ _ (plainB_defer hp), hr]
  exact h

theorem any_store {l : List Oper} {k f : Nat} {ost ofl : Oper} {x : Operand} {n : Nat} {Qh : Act → Prop} {Q : Exit → Act → World → Prop} (hk : k + 1 = l.length) (hst : l[k]? = some ost) (hfl : l[f]? = some ofl) (hfk : f < k) (hfx : ofl.op = .extract x n) (hdst : ost.dst = none)
    (hP : l.all plainB = true) (hE : earlyB l = true) (hs : sinkF l k f = true) (hsel : Region.noSelect l.toArray = true) (hap : ofl.apart l.toArray ost = true)
    (hQ : ∀ a, Qh a → ∀ w, C w → ∃ w2, (execOp a.eval ost).run P w = .ok .skip w2 ∧ Q .normal a w2) :
    ∀ (fuel : Nat) (listed : Array Bool) (a : Act) (w : World) (U : List Nat), Inv l k listed → listed.getD k true = false → (∀ i, i < k → listed.getD i true = false → i ∈ U) → U.length + 1 ≤ fuel → C w →
      wpAnyQ P .any (nopped k l).toArray C Qh fuel listed a → wpAnyIn (fence r) m P .any l.toArray Q fuel listed a w := by
  intro fuel
  induction fuel with
  | zero => intro listed a w U _ _ _ hf; omega
  | succ g ih =>
    intro listed a w U inv hku hU hf hC h
    have hpl : ∀ i o, l[i]? = some o → plainB o = true := fun i o ho => List.all_eq_true.1 hP o (List.mem_of_getElem? ho)
    refine ⟨fun h0 => absurd h0 (ready_least hE inv ⟨k, by omega, hku⟩), fun i hi => ?_⟩
    obtain ⟨hui, oi, hoi, hdeps⟩ := mem_ready.1 hi
    rw [List.getElem?_toArray] at hoi
    have hil : i < l.length := (List.getElem?_eq_some_iff.1 hoi).1
    have hq := h.2 i ((ready_nopped k l listed i).2 hi)
    by_cases hik : i < k
    · unfold qOp at hq
      rw [List.getElem?_toArray, nopped_low k l i hik, hoi] at hq
      unfold wpOpIn
      rw [List.getElem?_toArray, hoi]
      simp only at hq ⊢
      rw [if_pos (wanted_of (plainB_guard (hpl i oi hoi)) _)] at hq ⊢
      refine wpIn_of_quiet (hpl i oi hoi) hC (fun a' w' hC' hn => ?_) hq
      have hiU := hU i hik hui
      have hlen := List.length_erase_of_mem hiU
      have hpos := List.length_pos_of_mem hiU
      refine ih (listed.setIfInBounds i true) a' w' (U.erase i) (inv.set hi) ((set_listed inv hil).2 ⟨by omega, hku⟩) (fun j hj hju => ?_) (by omega) hC' hn
      obtain ⟨hji, hju'⟩ := (set_listed inv hil).1 hju
      exact (List.mem_erase_of_ne hji).2 (hU j hj hju')
    · obtain rfl : i = k := by omega
      have hoe : oi = ost := Option.some.inj (hoi.symm.trans hst)
      subst hoe
      have hheads : ∀ j, j < i → j ≠ f → ¬ listed.getD j true = false := fun j hj hjf hju => store_waits hil hs inv _ j rfl hj hjf hju hi
      have inv1 := inv.set hi
      have hps := hpl i oi hoi
      -- the nop in the store's place
      unfold qOp at hq
      rw [List.getElem?_toArray, nopped_high i l i (Nat.le_refl _), hoi] at hq
      simp only [Option.map_some] at hq
      rw [if_pos (wanted_of rfl _)] at hq
      obtain ⟨_, _, hn⟩ := hq
      have hn : wpAnyQ P .any (nopped i l).toArray C Qh g (listed.setIfInBounds i true) a := hn
      unfold wpOpIn
      rw [List.getElem?_toArray, hoi]
      simp only
      rw [if_pos (wanted_of (plainB_guard hps) _)]
      by_cases hfu : listed.getD f true = false
      · have hfU := List.length_pos_of_mem (hU f hfk hfu)
        obtain ⟨g', rfl⟩ : ∃ g', g = g' + 1 := ⟨g - 1, by omega⟩
        have hpf := hpl f ofl hfl
        have hfr : f ∈ Region.ready .any l.toArray (listed.setIfInBounds i true) := by
          refine mem_ready.2 ⟨(set_listed inv hil).2 ⟨by omega, hfu⟩, ofl, by simpa using hfl, fun e he hb => ?_⟩
          have hlt := early_spec hE hfl e he hb
          exact getD_set_true (inv.yes (by omega) (hheads e.on (by omega) (by omega)))
        have hqf := hn.2 f ((ready_nopped i l _ f).2 hfr)
        unfold qOp at hqf
        rw [List.getElem?_toArray, nopped_low i l f hfk, hfl] at hqf
        simp only at hqf
        rw [if_pos (wanted_of (plainB_guard hpf) _)] at hqf
        obtain ⟨v, hv, hn2⟩ := hqf
        have hfl2 : f < l.length := by omega
        have inv2 := inv1.set hfr
        have hall : ∀ j, j < l.length → ¬ ((listed.setIfInBounds i true).setIfInBounds f true).getD j true = false := fun j hj hju => by
          obtain ⟨h1, h2⟩ := (set_listed inv1 hfl2).1 hju
          obtain ⟨h3, h4⟩ := (set_listed inv hil).1 h2
          exact hheads j (by omega) h1 h4
        have hready := ready_all hall
        have hQh := quiet_done (ready_nil (k := i) hready) hn2
        obtain ⟨w2, hr, hend⟩ := hQ _ hQh w hC
        obtain ⟨ap1, _, _⟩ := Oper.apart_spec hap
        rw [execOp_put oi (fun cs b => Region.noSelect_spec hsel i oi cs b (by simpa using hoi)) a ofl.dst v ap1] at hr
        refine wpIn_skip_op hps hdst hr ?_
        refine ⟨fun h0 => (by rw [h0] at hfr; cases hfr), fun j hj => ?_⟩
        obtain ⟨hju, oj, hoj, _⟩ := mem_ready.1 hj
        rw [List.getElem?_toArray] at hoj
        have hjl : j < l.length := (List.getElem?_eq_some_iff.1 hoj).1
        obtain ⟨h3, h4⟩ := (set_listed inv hil).1 hju
        obtain rfl : j = f := by
          by_cases hjf : j = f
          · exact hjf
          · exact absurd h4 (hheads j (by omega) hjf)
        have : oj = ofl := Option.some.inj (hoj.symm.trans hfl)
        subst this
        unfold wpOpIn
        rw [List.getElem?_toArray, hoj]
        simp only
        rw [if_pos (wanted_of (plainB_guard hpf) _)]
        exact wpIn_value_op hpf (extract_pure hfx a (hv w hC) w2) (any_done hready hend g')
      · have hall : ∀ j, j < l.length → ¬ (listed.setIfInBounds i true).getD j true = false := fun j hj hju => by
          obtain ⟨h3, h4⟩ := (set_listed inv hil).1 hju
          by_cases hjf : j = f
          · subst hjf; exact hfu h4
          · exact hheads j (by omega) hjf h4
        have hready := ready_all hall
        have hQh := quiet_done (ready_nil (k := i) hready) hn
        obtain ⟨w2, hr, hend⟩ := hQ _ hQh w hC
        exact wpIn_skip_op hps hdst hr (any_done hready hend g)

def storeB (k f : Nat) (l : List Oper) : Bool :=
  decide (k + 1 = l.length) && decide (f < k) && l.all plainB && earlyB l && sinkF l k f && Region.noSelect l.toArray && Region.lexB .any (nopped k l).toArray
/-- **The head in the text's order, in any world of the class; then the store; the operation f, which only computes, whenever.** -/
theorem wpIn_store {id : Nat} {Q : Exit → Act → World → Prop} {a : Act} {w : World} {l : List Oper} (k f : Nat) (ost ofl : Oper) (x : Operand) (n : Nat) (hm : P.follows .mixedOrders = true) (hB : storeB k f l = true)
    (hst : l[k]? = some ost) (hfl : l[f]? = some ofl) (hfx : ofl.op = .extract x n) (hdst : ost.dst = none) (hap : ofl.apart l.toArray ost = true) (hC : C { w with drawn := w.drawn + 1 })
    (h : wpQuiet P l.toArray C (fun a' => ∀ w', C w' → ∃ w2, (execOp a'.eval ost).run P w' = .ok .skip w2 ∧ Q .normal a' w2) (l.take k) a) : (Code.region id l.toArray true).wpIn (fence r) m P Q a w := by
  unfold storeB at hB
  simp only [Bool.and_eq_true, decide_eq_true_eq] at hB
  obtain ⟨⟨⟨⟨⟨⟨hk, hfk⟩, hP⟩, hE⟩, hs⟩, hsel⟩, hlex⟩ := hB
  unfold Region.lexB at hlex
  rw [Bool.and_eq_true] at hlex
  refine wpIn_region_any hm ?_
  have hPk : (l.take k).all plainB = true := List.all_eq_true.2 fun o ho => List.all_eq_true.1 hP o (List.mem_of_mem_take ho)
  have hq := quiet_nops (ops' := (nopped k l).toArray) (l.drop k) (l.take k) a hPk h
  have hlen := nopped_length k l
  have hx := wpAnyQ_lex (C := C) (md := .any) hlex.1 (nopped k l) 0 (Array.replicate (nopped k l).toArray.size false) a (by simp) (by simpa using hlex.2) hq
  rw [List.size_toArray, hlen] at hx
  have hz : ∀ i, i < l.length → (Array.replicate l.toArray.size false).getD i true = false := fun i hi => getD_in (by simpa using hi) (getD_replicate_false _ _)
  refine any_store (Qh := fun a' => ∀ w', C w' → ∃ w2, (execOp a'.eval ost).run P w' = .ok .skip w2 ∧ Q .normal a' w2) hk hst hfl hfk hfx hdst hP hE hs hsel hap (fun a' hh w' hw' => hh w' hw') _ _ _ _ (List.range k)
    ⟨by simp, fun j oj _ hl => (by rw [getD_replicate_false] at hl; cases hl)⟩ (hz k (by omega)) (fun i hi _ => List.mem_range.2 hi) (by rw [List.length_range]; simp; omega) hC ?_
  simpa using hx
end
end Go.Proofs.YtagmmbkgjomdlaaGreatDoor.Rk
