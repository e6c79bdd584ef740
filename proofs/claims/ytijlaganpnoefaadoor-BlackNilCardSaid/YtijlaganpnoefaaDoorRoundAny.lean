/-
  A region that draws its order, whose first k operations only read and all come ahead of the rest: the head in the text's order, then the rest in whatever order is left. No program is named here.
-/
import Derived.Test.YtijlaganpnoefaaDoorRoundKit
namespace Go.Proofs.YtijlaganpnoefaaDoor.Rk

section
variable {P : Program} {C : World → Prop} {md : Region.Mode} {r : Option Nat} {m : Nat}

/-- Each of the rest but its first waits for one of the rest. -/
def tailB (md : Region.Mode) (ops : Array Oper) (n : Nat) : Bool :=
  (List.range ops.size).all fun t => decide (t ≤ n) || (List.range t).any fun s => decide (n ≤ s) && Region.waitsFor md ops t s
theorem tail_waits' {ops : Array Oper} {n : Nat} {listed : Array Bool} (hs : Region.sinkB md ops n = true) (hc : tailB md ops n = true) (hn : n < ops.size) (inv : HeadInv md ops n listed) :
    ∀ (d i : Nat), n - i = d → i < n → listed.getD i true = false → ∀ t, n ≤ t → t ∉ Region.ready md ops listed := by
  intro d
  induction d using Nat.strongRecOn with
  | _ d ih =>
    intro i hd hi hun t ht hr
    obtain ⟨_, ot, hot, hall⟩ := mem_ready.1 hr
    have htlt : t < ops.size := (Array.getElem?_eq_some_iff.1 hot).1
    by_cases htn : t = n
    · subst htn
      have h1 := List.all_eq_true.1 hs i (List.mem_range.2 hi)
      obtain ⟨j, hj, hj2⟩ := List.any_eq_true.1 h1
      simp only [Bool.and_eq_true, decide_eq_true_eq] at hj2
      obtain ⟨oj, hoj, e, he, hb, hon⟩ := Region.waitsFor_spec hj2.2
      have hjle : j ≤ t := by have := List.mem_range.1 hj; omega
      by_cases hjt : j = t
      · subst hjt
        have : oj = ot := Option.some.inj (hoj.symm.trans hot)
        subst this
        have h2 := hall e he hb
        rw [hon, getD_both hun] at h2
        cases h2
      · cases hl : listed.getD j false with
        | true =>
          have h2 := inv.closed j oj hoj hl e he hb
          rw [hon, getD_both hun] at h2
          cases h2
        | false =>
          have hjs : j < listed.size := by rw [inv.size]; omega
          exact ih (t - j) (by omega) j rfl (by omega) (getD_in hjs hl) t (Nat.le_refl _) hr
    · have h1 := List.all_eq_true.1 hc t (List.mem_range.2 htlt)
      simp only [Bool.or_eq_true, decide_eq_true_eq] at h1
      rcases h1 with h1 | h1
      · omega
      · obtain ⟨s, hs1, hs2⟩ := List.any_eq_true.1 h1
        simp only [Bool.and_eq_true, decide_eq_true_eq] at hs2
        obtain ⟨o', ho', e, he, hb, hon⟩ := Region.waitsFor_spec hs2.2
        have hst := List.mem_range.1 hs1
        have : o' = ot := Option.some.inj (ho'.symm.trans hot)
        subst this
        have h2 := hall e he hb
        rw [hon, getD_both (inv.tail s hs2.1 (by omega))] at h2
        cases h2
def earlierK (k : Nat) (l : List Oper) : Bool := (List.range k).all fun j => match l[j]? with | some o => o.after.all fun e => decide (e.on < j) | none => true
theorem ready_some' {k : Nat} {l : List Oper} {listed : Array Bool} (hk : k ≤ l.length) (hE : earlierK k l = true) (inv : HeadInv md l.toArray k listed) (h : ∃ i, i < k ∧ listed.getD i true = false) : Region.ready md l.toArray listed ≠ [] := by
  obtain ⟨i, hi, hu⟩ := h
  induction i using Nat.strongRecOn with
  | _ i ih =>
    have hil : i < l.length := by omega
    by_cases hall : ∀ e ∈ l[i].after, Region.binds md e = true → listed.getD e.on false = true
    · intro h0
      have hm : i ∈ Region.ready md l.toArray listed := mem_ready.2 ⟨hu, l[i], by simp [hil], hall⟩
      rw [h0] at hm
      cases hm
    · simp only [Classical.not_forall] at hall
      obtain ⟨e, he, _, hne⟩ := hall
      have h1 := List.all_eq_true.1 hE i (List.mem_range.2 hi)
      rw [List.getElem?_eq_getElem hil] at h1
      have h2 : e.on < i := by
        have := Array.all_eq_true_iff_forall_mem.1 h1 e he
        simpa using this
      refine ih e.on h2 (by omega) ?_
      have hsz := inv.size
      refine getD_in (by rw [hsz]; simp; omega) ?_
      simpa using hne
/-- What the quiet walk says of the end, once the head is over. -/
theorem quiet_end' {k : Nat} {l : List Oper} {Q : Act → Prop} : ∀ (fuel : Nat) (listed : Array Bool) (a : Act), (∀ i, i < k → listed.getD i true = true) →
    wpAnyQ P md (nopped k l).toArray C Q fuel listed a → Q a
  | 0, _, _, _, h => h.2
  | f + 1, listed, a, hf, h => by
    cases hr : Region.ready md (nopped k l).toArray listed with
    | nil => exact h.1 hr
    | cons i rest =>
      have hi : i ∈ Region.ready md (nopped k l).toArray listed := by rw [hr]; simp
      obtain ⟨hun, o, ho, _⟩ := mem_ready.1 hi
      have hki : k ≤ i := by
        rcases Nat.lt_or_ge i k with hlt | hge
        · rw [hf i hlt] at hun; cases hun
        · exact hge
      have hq := h.2 i hi
      unfold qOp at hq
      rw [ho] at hq
      rw [List.getElem?_toArray, nopped_high k l i hki] at ho
      cases hl : l[i]? with
      | none => rw [hl] at ho; cases ho
      | some o' =>
        rw [hl] at ho
        injection ho with ho
        subst ho
        have hw : Region.wanted (nop o') (yielded (nopped k l).toArray a.tmps) = true := wanted_of rfl _
        simp only at hq
        rw [if_pos hw] at hq
        obtain ⟨v, _, hn⟩ := hq
        refine quiet_end' f _ a (fun j hj => ?_) hn
        by_cases e : i = j
        · subst e; omega
        · rw [getD_set_ne true e]; exact hf j hj
theorem any_of_quiet' {k : Nat} {l : List Oper} {Qh : Act → Prop} {Q : Exit → Act → World → Prop} (hk : k < l.length) (hE : earlierK k l = true) (hP : (l.take k).all plainB = true)
    (hs : Region.sinkB md l.toArray k = true) (hc : tailB md l.toArray k = true)
    (hQ : ∀ a w fuel, C w → Qh a → l.length - k ≤ fuel → wpAnyIn (fence r) m P md l.toArray Q fuel (front k l.length) a w) :
    ∀ (fuel : Nat) (listed : Array Bool) (a : Act) (w : World) (U : List Nat), HeadInv md l.toArray k listed → (∀ i, i < k → listed.getD i true = false → i ∈ U) → U.length + (l.length - k) ≤ fuel → C w →
      wpAnyQ P md (nopped k l).toArray C Qh fuel listed a → wpAnyIn (fence r) m P md l.toArray Q fuel listed a w := by
  intro fuel
  induction fuel with
  | zero => intro listed a w U _ _ hf; omega
  | succ f ih =>
    intro listed a w U inv hU hf hC h
    by_cases hex : ∃ i, i < k ∧ listed.getD i true = false
    · refine ⟨fun h0 => absurd h0 (ready_some' (by omega) hE inv hex), fun i hi => ?_⟩
      obtain ⟨i0, hi0, hu0⟩ := hex
      have hik : i < k := by
        rcases Nat.lt_or_ge i k with hlt | hge
        · exact hlt
        · exact absurd hi (tail_waits' hs hc (by simpa using hk) inv _ i0 rfl hi0 hu0 i hge)
      have hq := h.2 i ((ready_nopped k l listed i).2 hi)
      have hui := (mem_ready.1 hi).1
      have hil : i < l.length := by omega
      have hp : plainB l[i] = true := List.all_eq_true.1 hP _ (List.mem_iff_getElem?.2 ⟨i, by rw [List.getElem?_take_of_lt hik, List.getElem?_eq_getElem hil]⟩)
      unfold qOp at hq
      rw [List.getElem?_toArray, nopped_low k l i hik, List.getElem?_eq_getElem hil] at hq
      unfold wpOpIn
      rw [List.getElem?_toArray, List.getElem?_eq_getElem hil]
      simp only at hq ⊢
      rw [if_pos (wanted_of (plainB_guard hp) _)] at hq ⊢
      refine wpIn_of_quiet hp hC (fun a' w' hC' hn => ?_) hq
      have hiU := hU i hik hui
      have hlen := List.length_erase_of_mem hiU
      have hpos := List.length_pos_of_mem hiU
      refine ih (listed.setIfInBounds i true) a' w' (U.erase i) (inv.set hi hik) (fun j hj hju => ?_) (by omega) hC' hn
      have hji : j ≠ i := by
        rintro rfl
        have hlt : j < listed.size := by rw [inv.size]; simpa using hil
        simp [hlt] at hju
      rw [getD_set_ne true (Ne.symm hji)] at hju
      exact (List.mem_erase_of_ne hji).2 (hU j hj hju)
    · have he := front_of (by simp; omega) inv hex
      have he' : listed = front k l.length := by simpa using he
      have hfull : ∀ i, i < k → listed.getD i true = true := fun i hi => by
        cases hx : listed.getD i true with
        | true => rfl
        | false => exact absurd ⟨i, hi, hx⟩ hex
      have hg := quiet_end' (k := k) (f + 1) listed a hfull h
      subst he'
      exact hQ a w (f + 1) hC hg (by omega)
def headAnyB (k : Nat) (l : List Oper) : Bool :=
  decide (k < l.length) && earlierK k l && (l.take k).all plainB && Region.sinkB .any l.toArray k && tailB .any l.toArray k && Region.lexB .any (nopped k l).toArray

/-- **The head in the text's order, in any world of the class; then the rest, in whatever order.** -/
theorem wpIn_headAny {id : Nat} {Q : Exit → Act → World → Prop} {a : Act} {w : World} {l : List Oper} (k : Nat) (hm : P.follows .mixedOrders = true) (hB : headAnyB k l = true) (hC : C { w with drawn := w.drawn + 1 })
    (h : wpQuiet P l.toArray C (fun a' => ∀ w', C w' → ∀ fuel, l.length - k ≤ fuel → wpAnyIn (fence r) m P .any l.toArray Q fuel (front k l.length) a' w') (l.take k) a) : (Code.region id l.toArray true).wpIn (fence r) m P Q a w := by
  unfold headAnyB at hB
  simp only [Bool.and_eq_true, decide_eq_true_eq] at hB
  obtain ⟨⟨⟨⟨⟨hk, hE⟩, hP⟩, hs⟩, hc⟩, hlex⟩ := hB
  unfold Region.lexB at hlex
  rw [Bool.and_eq_true] at hlex
  refine wpIn_region_any hm ?_
  have hq : wpQuiet P (nopped k l).toArray C (fun a' => ∀ w', C w' → ∀ fuel, l.length - k ≤ fuel → wpAnyIn (fence r) m P .any l.toArray Q fuel (front k l.length) a' w') (nopped k l) a := quiet_nops (l.drop k) (l.take k) a hP h
  have hlen := nopped_length k l
  have hx := wpAnyQ_lex (C := C) (md := .any) hlex.1 (nopped k l) 0 (Array.replicate (nopped k l).toArray.size false) a (by simp) (by simpa using hlex.2) hq
  refine any_of_quiet' (Qh := fun a' => ∀ w', C w' → ∀ fuel, l.length - k ≤ fuel → wpAnyIn (fence r) m P .any l.toArray Q fuel (front k l.length) a' w') hk hE hP hs hc (fun a' w' fuel hw' hh hf => hh w' hw' fuel hf) _ _ _ _ (List.range k)
    ⟨by simp, fun j oj _ hl => (by rw [getD_replicate_false] at hl; cases hl), fun t _ ht => getD_in (by simpa using ht) (getD_replicate_false _ _)⟩ (fun i hi _ => List.mem_range.2 hi) (by rw [List.length_range]; simp; omega) hC ?_
  rw [List.size_toArray, hlen] at hx
  simpa using hx
end
end Go.Proofs.YtijlaganpnoefaaDoor.Rk
