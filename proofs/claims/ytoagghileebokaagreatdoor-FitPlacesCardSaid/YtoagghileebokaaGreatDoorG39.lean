/-
  Several texts in one: FtMath, FtPut.
-/
import Derived.Test.YtoagghileebokaaGreatDoorG25
import Derived.Test.YtoagghileebokaaGreatDoorG14
/-
  Stage 13, fit: where there is space for so many granules among cells, the greatest that there is space for, how many are free; in numbers.
-/
namespace Go.Proofs.YtoagghileebokaaGreatDoor.Ft
open Go.RowKit Go.Proofs.YtoagghileebokaaGreatDoor.Ar
open Go.Proofs.YtoagghileebokaaGreatDoor.Sp (Cel objs objs_mem tot Tiled can_sz)
open Go.Proofs.YtoagghileebokaaGreatDoor.Tb (Ty)
open Go.Proofs.YtoagghileebokaaGreatDoor.Bt (nextV nextV_some nextV_no nextV_hit prevV cnt cnt_le cnt_add cnt_congr)
set_option linter.unusedVariables false

/-- Where none is black. -/
def noB : Nat → Bool := fun _ => false
/-- A granule of a gap. -/
def gapB (cs : List Cel) (g : Nat) : Bool := cs.any fun c => decide (c.h.tg ≠ 1 ∧ c.a ≤ (g : Int) ∧ (g : Int) < c.a + c.h.sz)
/-- There is space for n granules at g. -/
def roomB (bl : Nat → Bool) (cs : List Cel) (n g : Nat) : Bool := (cs.any fun c => decide (c.h.tg ≠ 1 ∧ c.a ≤ (g : Int) ∧ (g : Int) + (n : Int) ≤ c.a + c.h.sz)) && (List.range n).all fun k => !bl (g + k)
theorem gap_iff {cs : List Cel} {g : Nat} : gapB cs g = true ↔ ∃ c ∈ cs, c.h.tg ≠ 1 ∧ c.a ≤ (g : Int) ∧ (g : Int) < c.a + c.h.sz := by
  unfold gapB
  rw [List.any_eq_true]
  exact ⟨fun ⟨c, h1, h2⟩ => ⟨c, h1, of_decide_eq_true h2⟩, fun ⟨c, h1, h2⟩ => ⟨c, h1, decide_eq_true h2⟩⟩
theorem room_iff {bl : Nat → Bool} {cs : List Cel} {n g : Nat} : roomB bl cs n g = true ↔ (∃ c ∈ cs, c.h.tg ≠ 1 ∧ c.a ≤ (g : Int) ∧ (g : Int) + (n : Int) ≤ c.a + c.h.sz) ∧ ∀ k, k < n → bl (g + k) = false := by
  unfold roomB
  rw [Bool.and_eq_true, List.any_eq_true, List.all_eq_true]
  refine ⟨fun ⟨⟨c, h1, h2⟩, h3⟩ => ⟨⟨c, h1, of_decide_eq_true h2⟩, fun k hk => by simpa using h3 k (List.mem_range.2 hk)⟩, fun ⟨⟨c, h1, h2⟩, h3⟩ => ⟨⟨c, h1, decide_eq_true h2⟩, fun k hk => by rw [h3 k (List.mem_range.1 hk)]; rfl⟩⟩
def firstF (bl : Nat → Bool) (cs : List Cel) (n : Nat) : Option Nat := nextV (roomB bl cs n) (tot cs).toNat 0
def mostF (bl : Nat → Bool) (cs : List Cel) : Nat := (prevV (fun n => (firstF bl cs n).isSome) ((tot cs).toNat + 1)).getD 0
def freeF (bl : Nat → Bool) (cs : List Cel) : Nat := cnt (fun g => gapB cs g && !bl g) (tot cs).toNat
theorem first_some {bl : Nat → Bool} {cs : List Cel} {n x : Nat} (h : firstF bl cs n = some x) : x < (tot cs).toNat ∧ roomB bl cs n x = true ∧ ∀ j, j < x → roomB bl cs n j = false := by
  obtain ⟨h1, h2, h3, h4⟩ := nextV_some h
  exact ⟨by omega, h3, fun j hj => h4 j (Nat.zero_le _) hj⟩
theorem first_none {bl : Nat → Bool} {cs : List Cel} {n : Nat} (h : firstF bl cs n = none) : ∀ j, j < (tot cs).toNat → roomB bl cs n j = false := fun j hj => nextV_no h j (Nat.zero_le _) (by omega)
theorem first_is {bl : Nat → Bool} {cs : List Cel} {n x : Nat} (h1 : x < (tot cs).toNat) (h2 : roomB bl cs n x = true) (h3 : ∀ j, j < x → roomB bl cs n j = false) : firstF bl cs n = some x := by
  have := nextV_hit (roomB bl cs n) (tot cs).toNat 0 x h1 (fun j hj => by rw [Nat.zero_add]; exact h3 j hj) (by rw [Nat.zero_add]; exact h2)
  rw [Nat.zero_add] at this
  exact this
theorem first_at {bl : Nat → Bool} {cs : List Cel} {n x : Nat} (h1 : x < (tot cs).toNat) (h2 : roomB bl cs n x = true) : ∃ y, firstF bl cs n = some y ∧ y ≤ x := by
  cases h : firstF bl cs n with
  | none => rw [first_none h x h1] at h2; cases h2
  | some y =>
    refine ⟨y, rfl, ?_⟩
    rcases Nat.lt_or_ge x y with k | k
    · rw [(first_some h).2.2 x k] at h2; cases h2
    · exact k
theorem room_less {bl : Nat → Bool} {cs : List Cel} {n m g : Nat} (hm : m ≤ n) (h : roomB bl cs n g = true) : roomB bl cs m g = true := by
  rw [room_iff] at h ⊢
  obtain ⟨⟨c, h1, h2, h3, h4⟩, h5⟩ := h
  exact ⟨⟨c, h1, h2, h3, by omega⟩, fun k hk => h5 k (by omega)⟩
theorem room_bare {bl : Nat → Bool} {cs : List Cel} {n g : Nat} (h : roomB bl cs n g = true) : roomB noB cs n g = true := by
  rw [room_iff] at h ⊢
  exact ⟨h.1, fun _ _ => rfl⟩
theorem prevV_is {f : Nat → Bool} : ∀ {c k : Nat}, prevV f c = some k → k < c ∧ f k = true ∧ ∀ j, k < j → j < c → f j = false
  | 0, k, h => by cases h
  | c + 1, k, h => by
    have e : prevV f (c + 1) = if f c then some c else prevV f c := rfl
    rw [e] at h
    cases hf : f c with
    | true =>
      rw [hf, if_pos rfl] at h
      obtain rfl := Option.some.inj h
      exact ⟨by omega, hf, fun j h1 h2 => by omega⟩
    | false =>
      rw [hf, if_neg (by decide)] at h
      obtain ⟨h1, h2, h3⟩ := prevV_is h
      refine ⟨by omega, h2, fun j j1 j2 => ?_⟩
      rcases Nat.lt_or_ge j c with k1 | k1
      · exact h3 j j1 k1
      · rw [show j = c by omega, hf]
theorem prevV_no {f : Nat → Bool} : ∀ {c : Nat}, prevV f c = none → ∀ j, j < c → f j = false
  | 0, _, j, hj => by omega
  | c + 1, h, j, hj => by
    have e : prevV f (c + 1) = if f c then some c else prevV f c := rfl
    rw [e] at h
    cases hf : f c with
    | true => rw [hf, if_pos rfl] at h; cases h
    | false =>
      rw [hf, if_neg (by decide)] at h
      rcases Nat.lt_or_ge j c with k1 | k1
      · exact prevV_no h j k1
      · rw [show j = c by omega, hf]
/-- What Most tells: of that many there is space, unless it is 0; of more, up to all granules, there is none. -/
theorem most_spec (bl : Nat → Bool) (cs : List Cel) : (mostF bl cs = 0 ∨ ∃ x, firstF bl cs (mostF bl cs) = some x) ∧ mostF bl cs ≤ (tot cs).toNat ∧ ∀ n, mostF bl cs < n → n ≤ (tot cs).toNat → firstF bl cs n = none := by
  unfold mostF
  cases h : prevV (fun n => (firstF bl cs n).isSome) ((tot cs).toNat + 1) with
  | none =>
    refine ⟨.inl rfl, Nat.zero_le _, fun n _ hn => ?_⟩
    have := prevV_no h n (by omega)
    cases hf : firstF bl cs n with
    | none => rfl
    | some x => rw [hf] at this; cases this
  | some k =>
    obtain ⟨h1, h2, h3⟩ := prevV_is h
    refine ⟨.inr ?_, by show k ≤ _; omega, fun n hk hn => ?_⟩
    · show ∃ x, firstF bl cs k = some x
      cases hf : firstF bl cs k with
      | none => rw [hf] at h2; cases h2
      | some x => exact ⟨x, rfl⟩
    · have hk : k < n := hk
      have := h3 n hk (by omega)
      cases hf : firstF bl cs n with
      | none => rfl
      | some x => rw [hf] at this; cases this
/-- How Most is told by what it has to be. -/
theorem most_is {bl : Nat → Bool} {cs : List Cel} {m : Nat} (h1 : m = 0 ∨ ∃ x, firstF bl cs m = some x) (hm : m ≤ (tot cs).toNat) (h2 : ∀ n, m < n → n ≤ (tot cs).toNat → firstF bl cs n = none) : mostF bl cs = m := by
  obtain ⟨k1, k2, k3⟩ := most_spec bl cs
  rcases Nat.lt_trichotomy (mostF bl cs) m with h | h | h
  · rcases h1 with rfl | ⟨x, hx⟩
    · omega
    · rw [k3 m h hm] at hx; cases hx
  · exact h
  · rcases k1 with k | ⟨x, hx⟩
    · omega
    · rw [h2 _ h k2] at hx; cases hx
section
variable {ws : List Int} {l : List Ty} {cs : List Cel} {N : Int}
theorem room_fit (hT : Tiled ws l 0 cs N) {bl : Nat → Bool} {n g : Nat} (h : roomB bl cs n g = true) : (g : Int) + (n : Int) ≤ tot cs := by
  obtain ⟨⟨c, h1, h2, h3, h4⟩, _⟩ := room_iff.1 h
  have := hT.mem c h1
  have := hT.sum
  omega
theorem room_gap {bl : Nat → Bool} {n g : Nat} (h : roomB bl cs n g = true) : ∀ k, k < n → gapB cs (g + k) = true := fun k hk => by
  obtain ⟨⟨c, h1, h2, h3, h4⟩, _⟩ := room_iff.1 h
  exact gap_iff.2 ⟨c, h1, h2, by omega, by omega⟩
/-- Of each number up to Most there is space. -/
theorem most_below {bl : Nat → Bool} {n : Nat} (hn : n ≤ mostF bl cs) (h1 : 1 ≤ n) : ∃ x, firstF bl cs n = some x := by
  rcases (most_spec bl cs).1 with h | ⟨x, hx⟩
  · omega
  · obtain ⟨a, b, _⟩ := first_some hx
    obtain ⟨y, hy, _⟩ := first_at a (room_less hn b)
    exact ⟨y, hy⟩
theorem most_above (hT : Tiled ws l 0 cs N) (bl : Nat → Bool) : firstF bl cs (mostF bl cs + 1) = none := by
  rcases Nat.lt_or_ge (mostF bl cs) (tot cs).toNat with h | h
  · exact (most_spec bl cs).2.2 _ (by omega) (by omega)
  · cases hf : firstF bl cs (mostF bl cs + 1) with
    | none => rfl
    | some x =>
      obtain ⟨_, b, _⟩ := first_some hf
      have := room_fit hT b
      omega
theorem first_rise {bl : Nat → Bool} {n m x y : Nat} (hm : n ≤ m) (h : firstF bl cs n = some x) (k : firstF bl cs m = some y) : x ≤ y := by
  obtain ⟨a, b, _⟩ := first_some k
  obtain ⟨z, hz, hle⟩ := first_at a (room_less hm b)
  rw [h] at hz
  obtain rfl := Option.some.inj hz
  exact hle
theorem first_bare {bl : Nat → Bool} {n x : Nat} (h : firstF bl cs n = some x) : ∃ y, firstF noB cs n = some y ∧ y ≤ x := by
  obtain ⟨a, b, _⟩ := first_some h
  exact first_at a (room_bare b)
theorem most_bare (bl : Nat → Bool) : mostF bl cs ≤ mostF noB cs := by
  obtain ⟨k1, k2, _⟩ := most_spec bl cs
  rcases k1 with h | ⟨x, hx⟩
  · omega
  · obtain ⟨y, hy, _⟩ := first_bare hx
    rcases Nat.lt_or_ge (mostF noB cs) (mostF bl cs) with h | h
    · rw [(most_spec noB cs).2.2 _ h k2] at hy; cases hy
    · exact h
theorem cnt_yes {f : Nat → Bool} : ∀ (n : Nat), (∀ j, j < n → f j = true) → cnt f n = n
  | 0, _ => rfl
  | n + 1, h => by
    show cnt f n + (f n).toNat = n + 1
    rw [cnt_yes n fun j hj => h j (by omega), h n (by omega)]
    rfl
theorem cnt_no {f : Nat → Bool} : ∀ (n : Nat), (∀ j, j < n → f j = false) → cnt f n = 0
  | 0, _ => rfl
  | n + 1, h => by
    show cnt f n + (f n).toNat = 0
    rw [cnt_no n fun j hj => h j (by omega), h n (by omega)]
    rfl
theorem most_free (hT : Tiled ws l 0 cs N) (bl : Nat → Bool) : mostF bl cs ≤ freeF bl cs := by
  rcases (most_spec bl cs).1 with h | ⟨x, hx⟩
  · omega
  · obtain ⟨_, b, _⟩ := first_some hx
    generalize mostF bl cs = m at *
    have hf := room_fit hT b
    have hg := room_gap b
    have hb := (room_iff.1 b).2
    unfold freeF
    rw [show (tot cs).toNat = x + (m + ((tot cs).toNat - x - m)) by omega, cnt_add, cnt_add, cnt_yes m fun j hj => by show (gapB cs (x + j) && !bl (x + j)) = true; rw [hg j hj, hb j hj]; rfl]
    omega
theorem free_le (bl : Nat → Bool) : freeF bl cs ≤ (tot cs).toNat := cnt_le _ _
/-- All granules of gaps. -/
def gapSum : List Cel → Int
  | [] => 0
  | c :: cs => (if c.h.tg = 1 then 0 else c.h.sz) + gapSum cs
theorem gap_obj : ∀ cs : List Cel, tot cs = gapSum cs + tot (objs cs)
  | [] => rfl
  | c :: cs => by
    have ih := gap_obj cs
    show c.h.sz + tot cs = (if c.h.tg = 1 then 0 else c.h.sz) + gapSum cs + tot (objs (c :: cs))
    unfold Sp.objs at ih ⊢
    by_cases h : c.h.tg = 1
    · rw [if_pos h, List.filter_cons_of_pos (by simpa using h)]
      show _ = 0 + gapSum cs + (c.h.sz + tot (List.filter _ cs))
      omega
    · rw [if_neg h, List.filter_cons_of_neg (by simpa using h)]
      omega
theorem tot_append : ∀ a b : List Cel, tot (a ++ b) = tot a + tot b
  | [], b => by
    show tot b = 0 + tot b
    omega
  | c :: a, b => by
    show c.h.sz + tot (a ++ b) = c.h.sz + tot a + tot b
    rw [tot_append a b]
    omega
theorem free_from : ∀ {cs : List Cel} {f N : Int}, Tiled ws l f cs N → 0 ≤ f → (cnt (fun j => gapB cs (f.toNat + j)) (tot cs).toNat : Int) = gapSum cs
  | [], f, N, h, hf => rfl
  | c :: cs, f, N, h, hf => by
    have hs := can_sz h.2.1
    have ha := h.1
    have hl := h.2.2.2.2.sum
    have hle := h.2.2.2.2.le
    have ih := free_from h.2.2.2.2 (by omega)
    have e : (tot (c :: cs)).toNat = c.h.sz.toNat + (tot cs).toNat := by
      have : tot (c :: cs) = c.h.sz + tot cs := rfl
      omega
    have h2 : ∀ j, cnt (fun i => gapB (c :: cs) (f.toNat + (c.h.sz.toNat + i))) j = cnt (fun i => gapB cs ((f + c.h.sz).toNat + i)) j := fun j => cnt_congr j fun i hi => by
      rw [show f.toNat + (c.h.sz.toNat + i) = (f + c.h.sz).toNat + i by omega]
      show (decide (c.h.tg ≠ 1 ∧ c.a ≤ (((f + c.h.sz).toNat + i : Nat) : Int) ∧ (((f + c.h.sz).toNat + i : Nat) : Int) < c.a + c.h.sz) || gapB cs _) = _
      rw [decide_eq_false (by omega), Bool.false_or]
    have h3 : ∀ d ∈ cs, f + c.h.sz ≤ d.a := fun d hd => (h.2.2.2.2.mem d hd).1
    rw [e, cnt_add, h2]
    show ((cnt _ _ + cnt _ _ : Nat) : Int) = (if c.h.tg = 1 then 0 else c.h.sz) + gapSum cs
    rw [← ih]
    by_cases ht : c.h.tg = 1
    · rw [if_pos ht, cnt_no _ fun j hj => ?_]
      · omega
      · show (decide (c.h.tg ≠ 1 ∧ c.a ≤ ((f.toNat + j : Nat) : Int) ∧ ((f.toNat + j : Nat) : Int) < c.a + c.h.sz) || gapB cs (f.toNat + j)) = false
        rw [decide_eq_false (by omega), Bool.false_or]
        cases hg : gapB cs (f.toNat + j) with
        | false => rfl
        | true =>
          obtain ⟨d, d1, d2, d3, d4⟩ := gap_iff.1 hg
          have := h3 d d1
          omega
    · rw [if_neg ht, cnt_yes _ fun j hj => ?_]
      · omega
      · show (decide (c.h.tg ≠ 1 ∧ c.a ≤ ((f.toNat + j : Nat) : Int) ∧ ((f.toNat + j : Nat) : Int) < c.a + c.h.sz) || gapB cs (f.toNat + j)) = true
        rw [decide_eq_true ⟨ht, by omega, by omega⟩, Bool.true_or]
theorem free_bare (hT : Tiled ws l 0 cs N) : (freeF noB cs : Int) = gapSum cs := by
  rw [← free_from hT (Int.le_refl _)]
  unfold freeF
  congr 2
  funext g
  show (gapB cs g && !false) = gapB cs (0 + g)
  rw [Nat.zero_add, Bool.not_false, Bool.and_true]
end
end Go.Proofs.YtoagghileebokaaGreatDoor.Ft

/-
  Stage 13, fit: what stands behind an object that is put where there was space; the space's Put there.
-/
namespace Go.Proofs.YtoagghileebokaaGreatDoor.Ft
open Go.RowKit Go.Proofs.YtoagghileebokaaGreatDoor.Ar
open Go.Proofs.YtoagghileebokaaGreatDoor.Sp (Cel objs objs_append objs_becomeL objs_put tot Tiled can_sz becomeL Snd Has0 Mine0 Ids gran tot_of gran_eq becomeW_length put_yes)
open Go.Proofs.YtoagghileebokaaGreatDoor.Hd (Hd ofL of_facts)
open Go.Proofs.YtoagghileebokaaGreatDoor.Tb (Ty sizeT sizeE)
set_option linter.unusedVariables false

def putF : List Cel → Int → Hd → List Cel
  | [], _, _ => []
  | c :: cs, g, o => if c.h.tg ≠ 1 ∧ c.a ≤ g ∧ g < c.a + c.h.sz then becomeL c.a [⟨g, o⟩] (c.a + c.h.sz) ++ cs else c :: putF cs g o
theorem putF_at {c : Cel} {Q : List Cel} {g : Int} {o : Hd} (h1 : c.h.tg ≠ 1) (h2 : c.a ≤ g) (h3 : g < c.a + c.h.sz) : ∀ {P : List Cel}, (∀ d ∈ P, d.a + d.h.sz ≤ g) → putF (P ++ c :: Q) g o = P ++ becomeL c.a [⟨g, o⟩] (c.a + c.h.sz) ++ Q
  | [], _ => by
    show (if _ then _ else _) = _
    rw [if_pos ⟨h1, h2, h3⟩]
    rfl
  | d :: P, h => by
    have hd := h d List.mem_cons_self
    show (if d.h.tg ≠ 1 ∧ d.a ≤ g ∧ g < d.a + d.h.sz then _ else d :: putF (P ++ c :: Q) g o) = d :: (P ++ becomeL c.a [⟨g, o⟩] (c.a + c.h.sz)) ++ Q
    rw [if_neg (by omega), putF_at h1 h2 h3 fun e he => h e (List.mem_cons_of_mem _ he)]
    rfl
/-- Where there is space, and what stands there then. -/
theorem put_split {ws : List Int} {l : List Ty} {cs : List Cel} {N : Int} (hT : Tiled ws l 0 cs N) {bl : Nat → Bool} {n g : Nat} (hn : 1 ≤ n) (h : roomB bl cs n g = true) :
    ∃ P c Q, cs = P ++ c :: Q ∧ c.h.tg ≠ 1 ∧ c.a ≤ (g : Int) ∧ (g : Int) + (n : Int) ≤ c.a + c.h.sz ∧ (∀ d ∈ P, d.a + d.h.sz ≤ (g : Int)) ∧ (∀ d ∈ Q, (g : Int) + (n : Int) ≤ d.a) ∧ ∀ o, putF cs g o = P ++ becomeL c.a [⟨g, o⟩] (c.a + c.h.sz) ++ Q := by
  obtain ⟨⟨c, h1, h2, h3, h4⟩, _⟩ := room_iff.1 h
  obtain ⟨P, Q, rfl⟩ := List.append_of_mem h1
  obtain ⟨m, t1, t2⟩ := Tiled.split hT
  have hm : c.a = m := t2.1
  have hP : ∀ d ∈ P, d.a + d.h.sz ≤ (g : Int) := fun d hd => by
    have := (t1.mem d hd).2.1
    omega
  have hQ : ∀ d ∈ Q, (g : Int) + (n : Int) ≤ d.a := fun d hd => by
    have := (t2.2.2.2.2.mem d hd).1
    omega
  exact ⟨P, c, Q, rfl, h2, h3, h4, hP, hQ, fun o => putF_at h2 h3 (by omega) hP⟩
/-- The space's Put where there is space. -/
theorem put_here {w x : World} {s : Ids} {l : List Ty} {cs : List Cel} (h : Has0 w x s l cs) {bl : Nat → Bool} {g : Nat} {i n : Int} (i0 : -9223372036854775808 ≤ i) (i1 : i ≤ 9223372036854775807) (he : sizeE l i n = 0) (hr : roomB bl cs (sizeT l i n).toNat g = true) :
    Calls Tryz.prog 28 #[.pointer (some ⟨s.sp, 0, none⟩), .int .i64 g, .int .i64 i, .int .i64 n] x fun e y => e = .returned (.int .i64 0) ∧ Has0 w y s l (putF cs g (ofL l i n)) ∧ Kept s.turn x y ∧ tot (putF cs g (ofL l i n)) = tot cs := by
  obtain ⟨ws, bs, m⟩ := h
  obtain ⟨sz, ho, s1, s2, j0, j1, n0, n1⟩ := of_facts he m.spc.tab.len
  have hoT : ofL l i n = ⟨1, i, n, sizeT l i n⟩ := by unfold ofL Hd.ofH; rw [if_pos he]
  have hsz : sizeT l i n = sz := by
    have := hoT.symm.trans ho
    exact congrArg (fun h : Hd => h.sz) this
  have hos : (ofL l i n).sz = sizeT l i n := by rw [hoT]
  have hN1 : 1 ≤ (sizeT l i n).toNat := by omega
  obtain ⟨P, c, Q, hcs, c1, c2, c3, hP, hQ, hput⟩ := put_split m.snd.tiled hN1 hr
  have hfit := room_fit m.snd.tiled hr
  rw [tot_of m.snd] at hfit
  have hin : 0 ≤ (g : Int) ∧ (g : Int) < gran ws := by omega
  obtain ⟨S, hS, P', c', Q', hcs', d1, d2, hf⟩ := m.snd.gap g hin.1 hin.2
  have hcc : c' = c := by
    have hmem : c' ∈ P ++ c :: Q := by rw [← hcs, hcs']; simp
    rcases List.mem_append.1 hmem with k | k
    · have := hP _ k
      omega
    · rcases List.mem_cons.1 k with k | k
      · exact k
      · have := hQ _ k
        omega
  subst hcc
  have hsh := m.spc.short
  have hgr : gran ws ≤ 32768 := by unfold gran; omega
  obtain ⟨b1, b2, b3, b4, b5⟩ := m.snd.tiled.mem c' (by rw [hcs]; simp)
  have hz := can_sz b3
  have hN0 := m.snd
  rw [hcs] at hN0
  have hN := hN0.put m.spc.tab.len he c1 c2 (by omega)
  refine (put_yes m.glob m.spc g i n i0 i1 he hin.1 hin.2 S hS c' hf ⟨by omega, by omega⟩ ⟨by omega, by omega⟩ c1 (by omega) c2).mono ?_
  rintro e y ⟨he', hS', hk⟩
  rw [hput]
  refine ⟨he', ⟨_, _, m.turned hk hS' hN⟩, hk, ?_⟩
  rw [tot_of hN, hcs, tot_of hN0, gran_eq ((becomeW_length _ _ _ _).trans (Sh.makeW_length m.spc.tab.len))]
/-- What is behind the put: one object more, all others as they were; as many granules as before. -/
theorem put_objs {ws ws' : List Int} {l : List Ty} {cs : List Cel} {N M : Int} (hT : Tiled ws l 0 cs N) {bl : Nat → Bool} {n g : Nat} (hn : 1 ≤ n) (h : roomB bl cs n g = true) {o : Hd} (ho : o.tg = 1) (hT' : Tiled ws' l 0 (putF cs g o) M) :
    ∃ A B, objs cs = A ++ B ∧ objs (putF cs g o) = A ++ ⟨g, o⟩ :: B ∧ (∀ d ∈ A, d.a ≠ (g : Int)) ∧ ∀ d ∈ B, d.a ≠ (g : Int) := by
  obtain ⟨P, c, Q, rfl, c1, c2, c3, hP, hQ, hput⟩ := put_split hT hn h
  rw [hput]
  obtain ⟨e1, e2⟩ := objs_put (P := P) (Q := Q) (x := c) (c := ⟨g, o⟩) (e := c.a + c.h.sz) c1 ho
  refine ⟨objs P, objs Q, e1, e2, fun d hd e => ?_, fun d hd e => ?_⟩
  · have h1 := (Sp.objs_mem.1 hd).1
    have := hP d h1
    have hz := can_sz (hT.mem d (by simp [h1])).2.2.1
    omega
  · have h1 := (Sp.objs_mem.1 hd).1
    have := hQ d h1
    omega
end Go.Proofs.YtoagghileebokaaGreatDoor.Ft
