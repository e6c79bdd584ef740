/-
  Several texts in one: Wf, OpenWords, TbOpen, KdDocSize.
-/
import Derived.ProofKit
import Derived.OpenShut
import Derived.Test.YtagmmbkgjomdlaaGreatDoorG05
import Derived.ChangeOld
import Derived.Test.YtagmmbkgjomdlaaGreatDoorProg
import Derived.Test.YtagmmbkgjomdlaaGreatDoorG09
import Derived.Deep.Slices
import Derived.Deep.Fields
import Derived.ChangeMaps5
import Derived.Test.YtagmmbkgjomdlaaGreatDoorG11
/-
  The bounds of numbers that came in.
-/
namespace Go.Proofs.YtagmmbkgjomdlaaGreatDoor.Ar
open Go.RowKit

theorem u64_of_wf {n : Int} (h : (Lit.int .u64 n).wf = true) : 0 ≤ n ∧ n < 18446744073709551616 := by
  simp [Lit.wf, IntKind.min, IntKind.max, IntKind.signed, IntKind.bits] at h
  omega
theorem i64_of_wf {n : Int} (h : (Lit.int .i64 n).wf = true) : -9223372036854775808 ≤ n ∧ n ≤ 9223372036854775807 := by
  simp [Lit.wf, IntKind.min, IntKind.max, IntKind.signed, IntKind.bits] at h
  omega
end Go.Proofs.YtagmmbkgjomdlaaGreatDoor.Ar

/-
  How an argument that is a row of words reads.
-/
namespace Go.Proofs.YtagmmbkgjomdlaaGreatDoor.Ar
open Go.RowKit Go.ChangeShapes Go.WideShapes

section
variable {H : Type} {enc : TypeId × Value → H} {w : World} {base : Nat} {spare : Nat → Bool} {held : Bool} {fuel : Nat}
end
end Go.Proofs.YtagmmbkgjomdlaaGreatDoor.Ar

/-
  How the arguments of layer 6's laws read: a row of types.
-/
namespace Go.Proofs.YtagmmbkgjomdlaaGreatDoor.Tb
open Go.Proofs.YtagmmbkgjomdlaaGreatDoor.Ar Go.RowKit Go.ChangeShapes Go.WideShapes

section
variable {H : Type} {enc : TypeId × Value → H} {w : World} {base : Nat} {spare : Nat → Bool} {held : Bool} {fuel : Nat}

def Ty.cells (s : Ty) : List Value := [.int .u8 (s.k : Int), .int .i64 s.wd, .int .u64 (s.ms : Int)]
theorem cells_of : ∀ (l : List Ty) (j : Nat) (v : Value), (tyCells l)[j]? = some v → ∃ i s r, l[i]? = some s ∧ s.cells[r]? = some v ∧ j = i * 3 + r
  | [], j, v, h => by simp [tyCells] at h
  | x :: l, 0, v, h => ⟨0, x, 0, rfl, h, rfl⟩
  | x :: l, 1, v, h => ⟨0, x, 1, rfl, h, rfl⟩
  | x :: l, 2, v, h => ⟨0, x, 2, rfl, h, rfl⟩
  | x :: l, j + 3, v, h => by
    obtain ⟨i, s, r, h1, h2, h3⟩ := cells_of l j v h
    exact ⟨i + 1, s, r, h1, h2, by omega⟩
theorem u8_of_wf {n : Int} (h : (Lit.int .u8 n).wf = true) : 0 ≤ n ∧ n < 256 := by
  simp [Lit.wf, IntKind.min, IntKind.max, IntKind.signed, IntKind.bits] at h
  omega
set_option maxRecDepth 100000 in
theorem type_of {cs : List Value} {x : DataW H × List MemPlace} (h : DataW.trod enc Tryz.prog w base spare held fuel 84 cs = some x) : ∃ s : Ty, cs = s.cells ∧ s.ok := by
  obtain ⟨xs, m, _, _, hlen, hxl, hf⟩ := DataW.trod_struct Tryz.underlying84 h
  have hC : Tryz.prog.cellsOf 84 = 3 := by kernel_rfl
  have hI : Tryz.prog.cellsOf 3 = 1 := by kernel_rfl
  have hU : Tryz.prog.cellsOf 5 = 1 := by kernel_rfl
  have hM : Tryz.prog.cellsOf 32 = 1 := by kernel_rfl
  rw [hC] at hlen
  match cs, hlen, xs, hxl with
  | [c0, c1, c2], _, [y0, y1, y2], _ =>
    have g0 := hf 0 _ rfl
    have g1 := hf 1 _ rfl
    have g2 := hf 2 _ rfl
    simp [hI, hU, hM] at g0 g1 g2
    obtain ⟨a, e0, _, w0⟩ := DataW.trod_int Tryz.underlying5 g0
    obtain ⟨b, e1, _, w1⟩ := DataW.trod_int Tryz.underlying3 g1
    obtain ⟨c, e2, _, w2⟩ := DataW.trod_int Tryz.underlying32 g2
    simp at e0 e1 e2
    subst e0 e1 e2
    have b0 := u8_of_wf w0
    have b2 := u64_of_wf w2
    obtain ⟨k, rfl⟩ := Int.eq_ofNat_of_zero_le b0.1
    obtain ⟨mk, rfl⟩ := Int.eq_ofNat_of_zero_le b2.1
    exact ⟨⟨k, b, mk⟩, rfl, show k < 256 by omega, show mk < _ by omega⟩
theorem exists_list {P : Nat → Ty → Prop} : ∀ n : Nat, (∀ i, i < n → ∃ s, P i s) → ∃ L : List Ty, L.length = n ∧ ∀ i s, L[i]? = some s → P i s
  | 0, _ => ⟨[], rfl, fun i s h => by simp at h⟩
  | n + 1, h => by
    obtain ⟨L, hL, hP⟩ := exists_list n fun i hi => h i (by omega)
    obtain ⟨s, hs⟩ := h n (by omega)
    refine ⟨L ++ [s], by simp [hL], fun i t ht => ?_⟩
    by_cases hi : i < L.length
    · rw [List.getElem?_append_left hi] at ht
      exact hP i t ht
    · rw [List.getElem?_append_right (by omega)] at ht
      have hin : i = n := by
        rcases Nat.lt_or_ge (i - L.length) 1 with h1 | h1
        · omega
        · rw [List.getElem?_eq_none (by simpa using h1)] at ht; cases ht
      subst hin
      rw [hL, Nat.sub_self] at ht
      simp at ht
      subst ht
      exact hs
theorem types_of {A : Option Addr} {len cap : Nat} {x : DataW H × List MemPlace} (h : DataW.trod enc Tryz.prog w base spare held fuel 22 (Value.cells (.slice A len cap)).toList = some x) :
    ∃ L : List Ty, L.length = len ∧ len ≤ cap ∧ cap ≤ maxLen ∧ Seen w A L ∧ (A = none → cap = 0) ∧ ∀ s ∈ L, s.ok := by
  have hC : Tryz.prog.cellsOf 84 = 3 := by kernel_rfl
  rcases Go.Deep.open_slice Tryz.underlying22 h with ⟨hcs, _⟩ | ⟨a, l, c, m, n, D, Pl, hcs, _, hl, hm, hmm, _, hx⟩
  · simp [Value.cells] at hcs
    obtain ⟨rfl, rfl, rfl⟩ := hcs
    exact ⟨[], rfl, Nat.le_refl _, by unfold maxLen; omega, (fun hne => absurd rfl hne), (fun _ => rfl), (fun v hv => by cases hv)⟩
  · simp [Value.cells] at hcs
    obtain ⟨rfl, rfl, rfl⟩ := hcs
    have hlm : len ≤ m := by rw [hmm]; split <;> omega
    obtain ⟨L, hL, hP⟩ := exists_list (P := fun i s => s.ok ∧ ∀ j v, s.cells[j]? = some v → w.cell? ((a.add (i * 3)).add j) = some v) len fun i hi => by
      obtain ⟨cs, h1, h2⟩ := hx i (by omega)
      obtain ⟨s, rfl, hs⟩ := type_of h2
      obtain ⟨_, hlen, hcell⟩ := World.cells?_some h1
      rw [hC] at hcell
      refine ⟨s, hs, fun j v hv => ?_⟩
      have hj : j < s.cells.length := (List.getElem?_eq_some_iff.1 hv).1
      have e := hcell (i := j) (by simpa [Ty.cells] using hj)
      rw [hv] at e
      exact e
    refine ⟨L, hL, hl, hm, fun hne => ?_, (fun e => by cases e), fun s hs => ?_⟩
    · have h0 : 0 < L.length := by
        cases L with
        | nil => exact absurd rfl hne
        | cons => simp
      have hc := (hP 0 L[0] (List.getElem?_eq_getElem h0)).2 0 _ rfl
      obtain ⟨g, f, s⟩ := a
      have hs : s = none := by simpa [Addr.add] using World.cell?_spot hc
      subst hs
      refine ⟨g, f, rfl, by simpa [Addr.add] using World.block_lt_of_cell? w _ hc, fun j v hv => ?_⟩
      obtain ⟨i, s, r, hi, hr, rfl⟩ := cells_of L j v hv
      have e := (hP i s hi).2 r v hr
      rw [add_at, add_at, Nat.add_assoc] at e
      exact e
    · obtain ⟨i, hi, rfl⟩ := List.mem_iff_getElem.1 hs
      exact (hP i _ (List.getElem?_eq_getElem hi)).1
end
end Go.Proofs.YtagmmbkgjomdlaaGreatDoor.Tb

/-
  The document's Size.
-/
namespace Go.Proofs.YtagmmbkgjomdlaaGreatDoor.Kd
open Go.RowKit Go.Proofs.YtagmmbkgjomdlaaGreatDoor.Ar Go.Maps
set_option linter.unusedVariables false

set_option maxRecDepth 100000 in
theorem sizeDoc_ok (k : Nat) (wd : Int) (mk : Nat) (n : Int) (hm : mk < 18446744073709551616) (w : World) :
    Calls Tryz.prog 154 #[typV k wd mk, .int .i64 n] w fun e w' => e = .returned (.tuple #[.int .i64 (sizeR k wd mk n), .int .i64 (err k wd mk n)]) ∧ Kept [] w w' := by
  have HL := Lib.hid (fun x => slotsDoc_ok k wd mk n hm x)
  have hka : ∀ (x : World) (o : Obj), Kept [] x (x.alloc o) := fun x o => (Kept.refl [] x).alloc o
  unfold sizeR slotsR typV at *
  by_cases h : err k wd mk n = 0
  · obtain ⟨b0, b1⟩ := slots_bound h
    simp only [h, if_true] at HL ⊢
    clear h
    obtain ⟨sl, hsl⟩ := Int.eq_ofNat_of_zero_le b0
    rw [hsl] at HL b1 ⊢
    clear hsl b0
    have hb : sl ≤ 65536 := by omega
    go_enter Tryz.func154, Tryz.ntmps154
    go_wp2_with fail
    refine (HL.out _).mono ?_
    rintro e W1 ⟨rfl, hk1⟩
    have hk2 := Lib.hid ((hka w _).trans hk1)
    clear hk1
    go_wp2_with fail
    go_loopw [8] (fun t wr => ∃ g : Nat, t = .int .i64 (g : Int) ∧ g ≤ (sl + 2) / 2 ∧ wr = W1) (fun t _ => 65536 - (intOf t).toNat)
    case atStart => exact ⟨0, rfl, Nat.zero_le _, rfl⟩
    case round =>
      obtain ⟨g, rfl, hg, rfl⟩ := hrel
      by_cases hlt : g * 2 < sl + 1
      · have hlt2 : (g : Int) * 2 < (sl : Int) + 1 := by omega
        go_wp2_with fail
        go_roundw
        case rel => exact ⟨g + 1, by go_num, by omega, trivial⟩
        case measure => simp [intOf] <;> omega
      · have hlt2 : ¬ (g : Int) * 2 < (sl : Int) + 1 := by omega
        have He := Lib.hid (show ((sl : Int) + 2) / 2 = (g : Int) by omega)
        go_wp2_with fail
        go_ret2
        exact ⟨by rw [He.out]; rfl, hk2.out⟩
  · simp only [h, if_false] at HL ⊢
    have he : (err k wd mk n != 0) = true := by rw [bne_iff_ne]; exact h
    generalize err k wd mk n = er at *
    go_enter Tryz.func154, Tryz.ntmps154
    go_wp2_with fail
    refine (HL.out _).mono ?_
    rintro e W1 ⟨rfl, hk1⟩
    have hk2 := Lib.hid ((hka w _).trans hk1)
    clear hk1
    go_wp2_with fail
    go_ret2
    exact ⟨rfl, hk2.out⟩
end Go.Proofs.YtagmmbkgjomdlaaGreatDoor.Kd
