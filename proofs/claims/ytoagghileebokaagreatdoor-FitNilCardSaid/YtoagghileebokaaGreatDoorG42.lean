/-
  Several texts in one: BkSame, BkOpen, BkCtr, FtNext.
-/
import Derived.Test.YtoagghileebokaaGreatDoorG31
import Derived.Deep.QuietTactic
import Derived.BigQuiet
import Derived.Lib.QuietBelow
import Derived.Test.YtoagghileebokaaGreatDoorG02
import Derived.ProofKit
import Derived.OpenShut
import Derived.ChangeOld
import Derived.Deep.Slices
import Derived.Deep.Fields
import Derived.SizedLaws
import Derived.Test.YtoagghileebokaaGreatDoorG36
import Derived.Test.YtoagghileebokaaGreatDoorG45
import Derived.Test.YtoagghileebokaaGreatDoorG41
import Derived.Test.YtoagghileebokaaGreatDoorG16
import Derived.Shelf.Slices.SearchI
/-
  The document's SameInts: whether two slices have the same numbers; and the statements' examples.
-/
namespace Go.Proofs.YtoagghileebokaaGreatDoor.Bk
open Go.RowKit Go.Proofs.YtoagghileebokaaGreatDoor.Ar Go.Proofs.YtoagghileebokaaGreatDoor.Ir
set_option linter.unusedVariables false

end Go.Proofs.YtoagghileebokaaGreatDoor.Bk

/-
  Stage 12, black: how the laws' steps read, with the rows of numbers in them; and their guard, Heavy.
-/
namespace Go.Proofs.YtoagghileebokaaGreatDoor.Bk
open Go.Proofs.YtoagghileebokaaGreatDoor.Ar Go.RowKit Go.ChangeShapes Go.WideShapes
set_option linter.unusedVariables false

def I64 (n : Int) : Prop := -9223372036854775808 ≤ n ∧ n ≤ 9223372036854775807
/-- A step: Do, L. -/
structure BStp where
  d : Int
  A : Option Addr
  len : Nat
  cap : Nat
def BStp.cells (s : BStp) : List Value := [.int .i64 s.d, .slice s.A s.len s.cap]
def BSteps (w : World) (A : Option Addr) (L : List BStp) : Prop := L ≠ [] → ∃ g f, A = some ⟨g, f, none⟩ ∧ g < w.heap.size ∧ ∀ i s, L[i]? = some s → ∀ j v, s.cells[j]? = some v → w.cell? ⟨g, f + (i * 2 + j), none⟩ = some v
theorem BSteps.keep0 {w w' : World} {A : Option Addr} {L : List BStp} (h : BSteps w A L) (k : Kept [] w w') : BSteps w' A L := by
  intro hL
  obtain ⟨g, f, e, hg, hc⟩ := h hL
  exact ⟨g, f, e, Nat.lt_of_lt_of_le hg k.more, fun i s hs j v hv => (World.cell?_of_block (w := w) (k.old g hg (by simp))).trans (hc i s hs j v hv)⟩
/-- Step j, where it lies. -/
theorem BSteps.at {w : World} {A : Option Addr} {L : List BStp} (h : BSteps w A L) (j : Nat) (hj : j < L.length) : ∃ g f, A = some ⟨g, f, none⟩ ∧ g < w.heap.size ∧ w.cell? ⟨g, f + j * 2, none⟩ = some (.int .i64 (L[j]'hj).d) ∧ w.cell? ⟨g, f + j * 2 + 1, none⟩ = some (.slice (L[j]'hj).A (L[j]'hj).len (L[j]'hj).cap) := by
  obtain ⟨g, f, e, hg, hc⟩ := h (by rintro rfl; cases hj)
  have h1 := hc j L[j] (List.getElem?_eq_getElem hj)
  exact ⟨g, f, e, hg, h1 0 _ rfl, h1 1 _ rfl⟩
theorem exists_list {P : Nat → BStp → Prop} : ∀ n : Nat, (∀ i, i < n → ∃ s, P i s) → ∃ L : List BStp, L.length = n ∧ ∀ i s, L[i]? = some s → P i s
  | 0, _ => ⟨[], rfl, fun i s h => by cases h⟩
  | n + 1, h => by
    obtain ⟨L, h1, h2⟩ := exists_list (P := P) n fun i hi => h i (by omega)
    obtain ⟨s, hs⟩ := h n (by omega)
    refine ⟨L ++ [s], by simp [h1], fun i t ht => ?_⟩
    rcases Nat.lt_or_ge i L.length with hi | hi
    · rw [List.getElem?_append_left hi] at ht
      exact h2 i t ht
    · rw [List.getElem?_append_right hi] at ht
      rcases Nat.eq_zero_or_pos (i - L.length) with h0 | h0
      · rw [h0] at ht
        obtain rfl := Option.some.inj ht
        rw [show i = n by omega]
        exact hs
      · rw [List.getElem?_eq_none (by simp; omega)] at ht
        cases ht
section
variable {H : Type} {enc : TypeId × Value → H} {w : World} {base : Nat} {spare : Nat → Bool} {held : Bool} {fuel : Nat}
theorem ints_of {A : Option Addr} {len cap : Nat} {x : DataW H × List MemPlace} (h : DataW.trod enc Tryz.prog w base spare held fuel 24 [.slice A len cap] = some x) :
    (∃ l : List Int, l.length = len ∧ Ir.Seen w A l ∧ ∀ v ∈ l, I64 v) ∧ (A = none → cap = 0) ∧ ((∀ n ∈ x.1.weights Tryz.prog 24, n ≤ reachBytes) → len ≤ 17592186044416) := by
  have hb : Tryz.prog.bytesOf 3 = 8 := by kernel_rfl
  rcases open_ints Tryz.underlying24 Tryz.underlying3 (by kernel_rfl) h with ⟨hcs, _⟩ | ⟨a, l, c, zs, hcs, _, hl, hm, hz, hx, hcell, hwz⟩
  · simp at hcs
    obtain ⟨rfl, rfl, rfl⟩ := hcs
    exact ⟨⟨[], rfl, fun hne => absurd rfl hne, fun v hv => by cases hv⟩, fun _ => rfl, fun _ => by omega⟩
  · simp at hcs
    obtain ⟨rfl, rfl, rfl⟩ := hcs
    have hzl : len ≤ zs.length := by rw [hz]; split <;> omega
    refine ⟨⟨zs.take len, by rw [List.length_take]; omega, fun hne => ?_, fun v hv => Ar.i64_of_wf (hwz v (List.mem_of_mem_take hv))⟩, (fun e => by cases e), fun hw => ?_⟩
    · have h0 : 0 < len := by
        rcases Nat.eq_zero_or_pos len with h | h
        · subst h; exact absurd (by simp) hne
        · exact h
      have hc := hcell 0 (by omega)
      obtain ⟨g, f, s⟩ := a
      have hs : s = none := by simpa [Addr.add] using World.cell?_spot hc
      subst hs
      refine ⟨g, f, rfl, by simpa [Addr.add] using World.block_lt_of_cell? w _ hc, fun j v hv => ?_⟩
      unfold Ir.ints at hv
      rw [List.getElem?_map, List.getElem?_take] at hv
      by_cases hj : j < len
      · rw [if_pos hj, List.getElem?_eq_getElem (by omega)] at hv
        have hcj := hcell j (by omega)
        rw [add_at] at hcj
        rw [hcj]
        simpa [List.getD, List.getElem?_eq_getElem (show j < zs.length by omega)] using hv
      · rw [if_neg hj] at hv
        cases hv
    · have h8 := hw (((lits .i64 (zs.take len) : List (DataW H)).length + (lits .i64 (zs.drop len) : List (DataW H)).length) * 8) (by rw [hx]; simp [DataW.weights, Tryz.underlying24, hb])
      have h9 : (lits .i64 (zs.take len) : List (DataW H)).length = len := by unfold lits; rw [List.length_map, List.length_take]; omega
      rw [h9] at h8
      unfold reachBytes at h8
      omega
/-- A step whose own row can be read. -/
structure BRead (w : World) (s : BStp) : Prop where
  d : I64 s.d
  gs : ∃ gs : List Int, gs.length = s.len ∧ Ir.Seen w s.A gs ∧ ∀ g ∈ gs, I64 g
  nil : s.A = none → s.cap = 0
  few : s.len ≤ 17592186044416
theorem BRead.keep0 {w x : World} {s : BStp} (h : BRead w s) (k : Kept [] w x) : BRead x s :=
  ⟨h.d, let ⟨gs, h1, h2, h3⟩ := h.gs; ⟨gs, h1, h2.keep0 k, h3⟩, h.nil, h.few⟩
theorem slice_of {c : Value} {x : DataW H × List MemPlace} (h : DataW.trod enc Tryz.prog w base spare held fuel 24 [c] = some x) : ∃ A len cap, c = .slice A len cap := by
  rcases Go.Deep.open_slice Tryz.underlying24 h with ⟨hcs, _⟩ | ⟨a, l, c', m, n, D, Pl, hcs, _⟩
  · simp at hcs
    exact ⟨_, _, _, hcs⟩
  · simp at hcs
    exact ⟨_, _, _, hcs⟩
theorem weights_all {P : Program} {e : TypeId} : ∀ {L : List (DataW H)} {d : DataW H}, d ∈ L → ∀ n ∈ d.weights P e, n ∈ DataW.weightsAll P e L
  | x :: L, d, h, n, hn => by
    simp only [DataW.weightsAll, List.mem_append]
    rcases List.mem_cons.1 h with rfl | h
    · exact .inl hn
    · exact .inr (weights_all h n hn)
end
/-! ### Heavy -/
end Go.Proofs.YtoagghileebokaaGreatDoor.Bk

/-
  Stage 12, black: what the laws ask of package black, as a bundle of contracts over whatever object; that object beside the document's.
-/
namespace Go.Proofs.YtoagghileebokaaGreatDoor.Bk
open Go.RowKit Go.Proofs.YtoagghileebokaaGreatDoor.Ar
set_option linter.unusedVariables false

def Fresh (x : World) (v : Value) : Prop := v.ownBlock = none ∨ ∃ b, v.ownBlock = some b ∧ x.heap.size ≤ b
section
variable {G : World → Prop} {P : World → World → Nat → List Nat → List Int → Prop} {w x y : World} {p r q : Nat} {T : List Nat} {ls ds : List Int}
end
end Go.Proofs.YtoagghileebokaaGreatDoor.Bk

/-
  Stage 13, fit: the lowest black one of a range, by halving a rising row of those that are black; and what a loop's round keeps: all cells but some boxes.
-/
namespace Go.Proofs.YtoagghileebokaaGreatDoor.Ft
open Go.RowKit Go.Proofs.YtoagghileebokaaGreatDoor.Ar Go.Proofs.YtoagghileebokaaGreatDoor.Lk
open Go.Proofs.YtoagghileebokaaGreatDoor.Sp (Cel)
set_option linter.unusedVariables false

/-- All cells are kept, but those of the boxes S. -/
structure Kc (S : List Nat) (A B : World) : Prop where
  size : A.heap.size ≤ B.heap.size
  has : ∀ i t cs, i ∉ S → Has A i t cs → Has B i t cs
namespace Kc
variable {S T : List Nat} {A B C : World}
theorem refl (S : List Nat) (A : World) : Kc S A A := ⟨Nat.le_refl _, fun _ _ _ _ h => h⟩
theorem trans (h : Kc S A B) (k : Kc S B C) : Kc S A C := ⟨Nat.le_trans h.size k.size, fun i t cs hi hh => k.has i t cs hi (h.has i t cs hi hh)⟩
theorem of (k : Kept T A B) (h : ∀ b ∈ T, b ∈ S) : Kc S A B := ⟨k.more, fun i t cs hi hh => hh.kept k fun hm => hi (h i hm)⟩
theorem keep0 (k : Kept [] A B) : Kc S A B := of k fun _ hb => by cases hb
theorem put (W : World) (l : Nat) (o o' : Obj) (h : W.heap[l]? = some o) (hc : o.isCells = false) : Kc S W (W.putObj l o') :=
  ⟨(grownBy_putObj' W l o').size, fun i t cs _ hh => has_put hh l o o' h hc⟩
theorem own {β : Type} {w0 : World} (B : Nat) : OwnFrom B (fun (_ : β) W => Kc S w0 W) := fun s X Y row hs hg hr =>
  ⟨Nat.le_trans hs.size hg.size, fun i t cs hi hh => own_has (β := Unit) (B := B) (f := fun _ => cs) () X Y row (hs.has i t cs hi hh) hg hr⟩
end Kc
theorem own_kc {S : List Nat} {A B : World} {v : Value} {cs : List Cel} (h : Sp.Own A v cs) (k : Kc S A B) (hS : ∀ b ∈ S, v.ownBlock ≠ some b) : Sp.Own B v cs := by
  refine ⟨h.1, ?_⟩
  rcases h.2 with hn | ⟨g, cap, cur, rfl, hb, hg, rest⟩
  · exact .inl hn
  · refine .inr ⟨g, cap, cur, rfl, hb, ?_, rest⟩
    have hh : Has A g 51 cur.toList := by unfold Has; simpa using hg
    have := k.has g _ _ (fun hm => hS g hm rfl) hh
    unfold Has at this
    simpa using this
/-- A row of numbers, or nil. -/
def Rh (W : World) (v : Value) (hs : List Int) : Prop := (v = .slice none 0 0 ∧ hs = []) ∨ ∃ g cap cur, v = .slice (some ⟨g, 0, none⟩) hs.length cap ∧ Has W g 3 cur ∧ ∀ j, j < hs.length → cur[j]? = some (.int .i64 (hs.getD j 0))
theorem rh_own {W : World} {v : Value} {hs : List Int} (h : Ir.Own W v hs) : Rh W v hs := by
  rcases h.2 with ⟨rfl, h0⟩ | ⟨g, cap, cur, rfl, _, hg, _, _, _, ht⟩
  · exact .inl ⟨rfl, List.eq_nil_of_length_eq_zero h0⟩
  · refine .inr ⟨g, cap, cur.toList, rfl, by unfold Has; simpa using hg, fun j hj => ?_⟩
    have h2 : (cur.toList.take (hs.length * 1))[j]? = (Ir.ints hs)[j]? := by rw [ht]
    rw [List.getElem?_take_of_lt (by omega), Ir.ints_get hs j hj] at h2
    exact h2
theorem Rh.kc {S : List Nat} {W X : World} {v : Value} {hs : List Int} (h : Rh W v hs) (k : Kc S W X) (hS : ∀ b ∈ S, v.ownBlock ≠ some b) : Rh X v hs :=
  h.imp id fun ⟨g, cap, cur, e, hh, hc⟩ => ⟨g, cap, cur, e, k.has g _ _ (fun hm => hS g hm (by rw [e]; rfl)) hh, hc⟩
/-- The row of those that are black. -/
structure Hts (bl : Nat → Bool) (hs : List Int) : Prop where
  rise : hs.Pairwise (· < ·)
  mem : ∀ g : Nat, bl g = true ↔ (g : Int) ∈ hs
  low : ∀ x ∈ hs, 0 ≤ x ∧ x < 65536
  few : hs.length ≤ 65536
theorem rise_count (a : Int) : ∀ {hs : List Int}, hs.Pairwise (· < ·) → ∀ j, j < hs.length → (hs.getD j 0 < a ↔ j < hs.countP (· < a))
  | x :: hs, h, j, hj => by
    have h' := List.pairwise_cons.1 h
    by_cases hx : x < a
    · rw [List.countP_cons_of_pos (by simpa using hx)]
      cases j with
      | zero => exact ⟨fun _ => by omega, fun _ => hx⟩
      | succ j =>
        have := rise_count a h'.2 j (by simpa using hj)
        show hs.getD j 0 < a ↔ _
        omega
    · have hz : ∀ y ∈ hs, ¬ y < a := fun y hy => by have := h'.1 y hy; omega
      rw [List.countP_cons_of_neg (by simpa using hx), List.countP_eq_zero.2 (fun y hy => by simpa using hz y hy)]
      cases j with
      | zero => exact ⟨fun h => absurd h hx, fun h => by omega⟩
      | succ j =>
        have hj' : j < hs.length := by simpa using hj
        refine ⟨fun h => ?_, fun h => by omega⟩
        have h2 : hs.getD j 0 < a := h
        rw [List.getD_eq_getElem?_getD, List.getElem?_eq_getElem hj', Option.getD_some] at h2
        exact absurd h2 (hz _ (List.getElem_mem hj'))
theorem rise_le {hs : List Int} (h : hs.Pairwise (· < ·)) {j k : Nat} (hjk : j ≤ k) (hk : k < hs.length) : hs.getD j 0 ≤ hs.getD k 0 := by
  rcases Nat.lt_or_ge j k with e | e
  · have := List.pairwise_iff_getElem.1 h j k (by omega) hk e
    rw [List.getD_eq_getElem?_getD, List.getD_eq_getElem?_getD, List.getElem?_eq_getElem hk, List.getElem?_eq_getElem (show j < hs.length by omega)]
    simp only [Option.getD_some]
    omega
  · rw [show j = k by omega]
    exact Int.le_refl _
theorem getD_in {hs : List Int} {j : Nat} (h : j < hs.length) : hs.getD j 0 ∈ hs := by
  rw [List.getD_eq_getElem?_getD, List.getElem?_eq_getElem h]
  exact List.getElem_mem h
theorem next_is {bl : Nat → Bool} {hs : List Int} (H : Hts bl hs) {a e k : Nat} (hae : a ≤ e) (hk : hs.countP (· < (a : Int)) = k) :
    (k = hs.length → nxB bl (e - a) a = e) ∧ (k < hs.length → min (hs.getD k 0) (e : Int) = ((nxB bl (e - a) a : Nat) : Int)) := by
  have hc := fun j hj => rise_count (a : Int) H.rise j hj
  rw [hk] at hc
  have hat : ∀ j : Nat, bl j = true → ∃ i, i < hs.length ∧ hs.getD i 0 = (j : Int) := fun j hj => by
    obtain ⟨i, hi, he⟩ := List.getElem_of_mem ((H.mem j).1 hj)
    exact ⟨i, hi, by rw [List.getD_eq_getElem?_getD, List.getElem?_eq_getElem hi]; exact he⟩
  refine ⟨fun hl => nxB_is hae (by omega) (fun j j1 j2 => ?_) fun h => by omega, fun hl => ?_⟩
  · cases hb : bl j with
    | false => rfl
    | true =>
      obtain ⟨i, hi, he⟩ := hat j hb
      have := (hc i hi).2 (by omega)
      omega
  · have h0 := H.low _ (getD_in hl)
    have hge : (a : Int) ≤ hs.getD k 0 := by
      have := (hc k hl).1
      omega
    obtain ⟨x, hx⟩ : ∃ x : Nat, hs.getD k 0 = (x : Int) := ⟨(hs.getD k 0).toNat, by omega⟩
    rw [hx] at hge ⊢
    have hxb : bl x = true := (H.mem x).2 (by rw [← hx]; exact getD_in hl)
    have key : nxB bl (e - a) a = min x e := by
      refine nxB_is (by omega) (by omega) (fun j j1 j2 => ?_) fun h => ?_
      · cases hb : bl j with
        | false => rfl
        | true =>
          obtain ⟨i, hi, he⟩ := hat j hb
          rcases Nat.lt_or_ge i k with c | c
          · have := (hc i hi).2 c
            omega
          · have := rise_le H.rise c hi
            omega
      · rw [show min x e = x by omega]
        exact hxb
    rw [key]
    omega

def laysSearch_ren : Go.Shelf.Ren := ⟨fun | 25 => 96 | 31 => 128 | 32 => 129 | 37 => 157 | n => n, fun | 0 => 0 | 3 => 3 | 4 => 4 | 22 => 24 | 40 => 201 | n => n, fun | n => n⟩
theorem laysSearch : Go.Proofs.Lays2.n25 Tryz.prog laysSearch_ren := {
  mixed := by kernel_rfl
  f25 := Tryz.func96.trans (congrArg some (by kernel_rfl))
  f31 := Tryz.func128.trans (congrArg some (by kernel_rfl))
  f32 := Tryz.func129.trans (congrArg some (by kernel_rfl))
  f37 := Tryz.func157.trans (congrArg some (by kernel_rfl))
  t0 := Tryz.underlying0
  a0 := Tryz.isAgg0
  z0 := Tryz.sizeOf0
  v0 := Tryz.zeroValue0
  t3 := Tryz.underlying3
  a3 := Tryz.isAgg3
  z3 := Tryz.sizeOf3
  v3 := Tryz.zeroValue3
  t4 := Tryz.underlying4
  a4 := Tryz.isAgg4
  z4 := Tryz.sizeOf4
  v4 := Tryz.zeroValue4
  t22 := Tryz.underlying24
  a22 := Tryz.isAgg24
  z22 := Tryz.sizeOf24
  v22 := Tryz.zeroValue24
  t40 := Tryz.underlying201
  a40 := Tryz.isAgg201
  z40 := Tryz.sizeOf201
  v40 := Tryz.zeroValue201 }
set_option maxRecDepth 100000 in
theorem search_nil (x : Int) (w : World) : Calls Tryz.prog 96 #[.slice none 0 0, .int .i64 x] w fun e w' => e = .returned (.tuple #[.int .i64 0, .bool false]) ∧ Kept [] w w' := by
  go_enter Tryz.func96, Tryz.ntmps96
  go_wp2_with fail
  go_loopw [7, 8] (fun u v wr => u = .int .i64 0 ∧ v = .int .i64 0 ∧ Hid (Kept [] w wr)) (fun u v _ => 0)
  case atStart => exact ⟨rfl, rfl, Lib.hid (Kept.refl _ _)⟩
  case round =>
    obtain ⟨rfl, rfl, hr⟩ := hrel
    go_wp2_with fail
    go_ret2
    exact ⟨rfl, hr.out⟩
theorem search_ok {w : World} {v : Value} {hs : List Int} (hR : Rh w v hs) (hr : hs.Pairwise (· < ·)) (hl : hs.length ≤ 65536) (x : Int) :
    Calls Tryz.prog 96 #[v, .int .i64 x] w fun e w' => ∃ b, e = .returned (.tuple #[.int .i64 (hs.countP (· < x) : Nat), .bool b]) ∧ Kept [] w w' := by
  rcases hR with ⟨rfl, rfl⟩ | ⟨g, cap, cur, rfl, hh, hc⟩
  · exact (search_nil x w).mono fun e w' ⟨h1, h2⟩ => ⟨_, h1, h2⟩
  · refine (Any.slices_BinarySearch_int laysSearch g 0 hs.length cap hs x w (Nat.le_refl _) (by omega) (fun j hj => ?_) ?_).mono ?_
    · rw [Nat.zero_add, hh.cell j]
      exact hc j hj
    · rw [List.take_length]
      exact hr.imp fun h => Int.le_of_lt h
    · rintro e w' ⟨rfl, q, rfl⟩
      rw [List.take_length]
      exact ⟨_, rfl, (Kept.refl [] w).drewN q⟩
set_option maxRecDepth 100000 in
theorem next_ok {w : World} {v : Value} {hs : List Int} {bl : Nat → Bool} (hR : Rh w v hs) (H : Hts bl hs) (a e : Nat) (hae : a ≤ e) (he : e ≤ 1000000) :
    Calls Tryz.prog 60 #[v, .int .i64 (a : Int), .int .i64 (e : Int)] w fun e' w' => e' = .returned (.int .i64 (nxB bl (e - a) a : Nat)) ∧ Kept [] w w' := by
  have HS := Lib.hid (search_ok hR H.rise H.few (a : Int))
  obtain ⟨k, hk⟩ : ∃ k, hs.countP (· < (a : Int)) = k := ⟨_, rfl⟩
  obtain ⟨n1, n2⟩ := next_is H hae hk
  rw [hk] at HS
  have hkl : k ≤ hs.length := by rw [← hk]; exact List.countP_le_length
  have hfew := H.few
  rcases hR with ⟨rfl, rfl⟩ | ⟨g, cap, cur, rfl, hh, hc⟩
  · obtain rfl : k = 0 := by simpa using hkl
    have hn := n1 rfl
    have HN := Lib.hid hn
    clear hn n1 n2 hk hkl H
    go_enter Tryz.func60, Tryz.ntmps60
    go_wp2_with fail
    refine HS.out.mono ?_
    rintro e1 y ⟨b, rfl, hy⟩
    have HK := Lib.hid hy
    clear hy HS
    go_wp2_with fail
    go_ret
    exact ⟨ret_int (by rw [HN.out]), HK.out⟩
  · rcases Nat.lt_or_ge k hs.length with hl | hl
    · have hn := n2 hl
      have h0 := H.low _ (getD_in hl)
      have hx := hc k hl
      generalize hs.getD k 0 = x at *
      have HN := Lib.hid hn
      have HH := Lib.hid hh
      have HX := Lib.hid hx
      clear hn n1 n2 hk H hh hc hx
      go_enter Tryz.func60, Tryz.ntmps60
      go_wp2_with fail
      refine HS.out.mono ?_
      rintro e1 y ⟨b, rfl, hy⟩
      have cx := ((HH.out.keep0 hy).cell k).trans HX.out
      have HK := Lib.hid hy
      clear hy HS
      go_wp2_with fail
      go_ret
      exact ⟨ret_int HN.out, HK.out⟩
    · obtain rfl : k = hs.length := by omega
      have HN := Lib.hid (n1 rfl)
      clear n1 n2 hk H hh hc
      go_enter Tryz.func60, Tryz.ntmps60
      go_wp2_with fail
      refine HS.out.mono ?_
      rintro e1 y ⟨b, rfl, hy⟩
      have HK := Lib.hid hy
      clear hy HS
      go_wp2_with fail
      go_ret
      exact ⟨ret_int (by rw [HN.out]), HK.out⟩
end Go.Proofs.YtoagghileebokaaGreatDoor.Ft
