/-
  Several texts in one: HdMath, HdMem, HdOps, HdLay, HdCut, HdHead, HdCode, HdDoc, HdDoc2, HdEq.
-/
import Derived.RowKit
import Derived.Laws.Bits128
import Derived.Laws.Bits64b
import Derived.Test.YtfdombfdgpclcaaGreatDoorGK
import Derived.OpenShut
import Derived.Deep.RegionWith
import Derived.Laws.StructEq
/-
  Headers as plain numbers: which may be, the word of one, the header of a word; and bits joined and cut.
-/
namespace Go.Proofs.YtfdombfdgpclcaaGreatDoor.Hd
open Go.RowKit
set_option linter.unusedVariables false

/-- A header: tag, type, length, size. -/
structure Hd where
  tg : Int
  ty : Int
  ln : Int
  sz : Int
theorem Hd.eq {a b : Hd} (h1 : a.tg = b.tg) (h2 : a.ty = b.ty) (h3 : a.ln = b.ln) (h4 : a.sz = b.sz) : a = b := by
  cases a; cases b; subst h1; subst h2; subst h3; subst h4; rfl
theorem Hd.eq_iff (a b : Hd) : (a.tg = b.tg ∧ a.ty = b.ty ∧ a.ln = b.ln ∧ a.sz = b.sz) ↔ a = b :=
  ⟨fun h => Hd.eq h.1 h.2.1 h.2.2.1 h.2.2.2, fun h => by subst h; exact ⟨rfl, rfl, rfl, rfl⟩⟩
instance : DecidableEq Hd := fun a b => decidable_of_decidable_of_iff (Hd.eq_iff a b)
def Hd.zero : Hd := ⟨0, 0, 0, 0⟩
def Hd.cells (h : Hd) : List Value := [.int .u8 h.tg, .int .i64 h.ty, .int .i64 h.ln, .int .i64 h.sz]
def Hd.val (h : Hd) : Value := .agg #[.int .u8 h.tg, .int .i64 h.ty, .int .i64 h.ln, .int .i64 h.sz]
/-- The numbers are a byte's and three ints'. -/
structure Hd.ok (h : Hd) : Prop where
  g0 : 0 ≤ h.tg
  g1 : h.tg ≤ 255
  t0 : -9223372036854775808 ≤ h.ty
  t1 : h.ty ≤ 9223372036854775807
  l0 : -9223372036854775808 ≤ h.ln
  l1 : h.ln ≤ 9223372036854775807
  s0 : -9223372036854775808 ≤ h.sz
  s1 : h.sz ≤ 9223372036854775807
theorem Hd.zero_ok : Hd.zero.ok := by constructor <;> decide
/-- Each number has room in its field. -/
def Hd.room (h : Hd) : Prop := 0 ≤ h.ty ∧ h.ty ≤ 4095 ∧ 0 ≤ h.ln ∧ h.ln ≤ 16777215 ∧ 0 ≤ h.sz ∧ h.sz ≤ 16777215
instance (h : Hd) : Decidable h.room := by unfold Hd.room; infer_instance
/-- It is valid. -/
def Hd.can (h : Hd) : Prop := (1 ≤ h.sz ∧ h.sz ≤ 16777215 ∧ 0 ≤ h.ln ∧ h.ln ≤ 16777215) ∧ ((h.tg = 1 ∧ 1 ≤ h.ty ∧ h.ty ≤ 4095) ∨ ((h.tg = 2 ∨ h.tg = 3) ∧ h.ty = 0 ∧ h.ln = 0))
instance (h : Hd) : Decidable h.can := by unfold Hd.can; infer_instance
theorem Hd.zero_not : ¬ Hd.zero.can := by decide
theorem Hd.can_room {h : Hd} (c : h.can) : h.room := by
  unfold Hd.can at c; unfold Hd.room; omega
def wordI (h : Hd) : Int := h.tg + 4 * h.ty + 65536 * h.ln + 1099511627776 * h.sz
def headI (w : Int) : Hd := ⟨w % 4, w / 4 % 4096, w / 65536 % 16777216, w / 1099511627776⟩
def errH (h : Hd) : Int := if h.can then 0 else 2
def encW (h : Hd) : Int := if h.can then wordI h else 0
def isHead (w : Int) : Bool := decide ((headI w).can ∧ wordI (headI w) = w)
def decH (w : Int) : Hd := if isHead w then headI w else Hd.zero
def decE (w : Int) : Int := if isHead w then 0 else 7
theorem word_range {h : Hd} (c : h.can) : 0 ≤ wordI h ∧ wordI h ≤ 18446744073709551615 := by
  unfold Hd.can at c; unfold wordI; omega
theorem head_word {h : Hd} (c : h.can) : headI (wordI h) = h := by
  unfold Hd.can at c
  have e1 : (headI (wordI h)).tg = h.tg := by simp only [headI, wordI]; omega
  have e2 : (headI (wordI h)).ty = h.ty := by simp only [headI, wordI]; omega
  have e3 : (headI (wordI h)).ln = h.ln := by simp only [headI, wordI]; omega
  have e4 : (headI (wordI h)).sz = h.sz := by simp only [headI, wordI]; omega
  exact Hd.eq e1 e2 e3 e4
theorem head_ok {w : Int} (h0 : 0 ≤ w) (h1 : w ≤ 18446744073709551615) : (headI w).ok := by
  constructor <;> (simp only [headI]; omega)
/-- What was encoded is decoded. -/
theorem isHead_word {h : Hd} (c : h.can) : isHead (wordI h) = true := by
  unfold isHead; rw [head_word c]; exact decide_eq_true ⟨c, rfl⟩
theorem errH_yes {h : Hd} (c : h.can) : errH h = 0 := if_pos c
theorem errH_no {h : Hd} (c : ¬ h.can) : errH h = 2 := if_neg c
theorem encW_yes {h : Hd} (c : h.can) : encW h = wordI h := if_pos c
theorem encW_no {h : Hd} (c : ¬ h.can) : encW h = 0 := if_neg c
theorem dec_yes {w : Int} (h : isHead w = true) : decH w = headI w ∧ decE w = 0 := by simp [decH, decE, h]
theorem dec_no {w : Int} (h : isHead w = false) : decH w = Hd.zero ∧ decE w = 7 := by simp [decH, decE, h]
theorem isHead_iff {w : Int} : isHead w = true ↔ (headI w).can ∧ wordI (headI w) = w := by
  unfold isHead; exact decide_eq_true_iff
/-- Unlike headers have unlike words. -/
theorem word_inj {h o : Hd} (c : h.can) (d : o.can) : wordI h = wordI o ↔ h = o :=
  ⟨fun e => by rw [← head_word c, e, head_word d], fun e => by rw [e]⟩

/-! ### Bits joined, bits cut -/
theorem or_lay (u v : Nat) (k : Nat) (hu : u < 2 ^ k) : u ||| 2 ^ k * v = 2 ^ k * v + u := by
  rw [Nat.or_comm, ← Nat.two_pow_add_eq_or_of_lt hu]
theorem lay_bits (u v : Nat) (k : Nat) (hu : u < 2 ^ k) (h : 2 ^ k * v + u < 18446744073709551616) (hk : 2 ^ k ≤ 18446744073709551616) : bits .or .u64 (u : Int) ((2 ^ k * v : Nat) : Int) = ((2 ^ k * v + u : Nat) : Int) := by
  rw [bits_or_u64_nat u (2 ^ k * v) (by omega) (by omega), or_lay u v k hu]
theorem lay2 (u v : Int) (hu0 : 0 ≤ u) (hu : u < 4) (hv0 : 0 ≤ v) (hv : v < 4611686018427387904) : bits .or .u64 u (v * 4) = u + 4 * v := by
  have h := lay_bits u.toNat v.toNat 2 (by omega) (by omega) (by decide)
  have e1 : ((u.toNat : Nat) : Int) = u := by omega
  have e2 : ((2 ^ 2 * v.toNat : Nat) : Int) = v * 4 := by omega
  have e3 : ((2 ^ 2 * v.toNat + u.toNat : Nat) : Int) = u + 4 * v := by omega
  rw [e1, e2, e3] at h
  exact h
theorem lay16 (u v : Int) (hu0 : 0 ≤ u) (hu : u < 65536) (hv0 : 0 ≤ v) (hv : v < 281474976710656) : bits .or .u64 u (v * 65536) = u + 65536 * v := by
  have h := lay_bits u.toNat v.toNat 16 (by omega) (by omega) (by decide)
  have e1 : ((u.toNat : Nat) : Int) = u := by omega
  have e2 : ((2 ^ 16 * v.toNat : Nat) : Int) = v * 65536 := by omega
  have e3 : ((2 ^ 16 * v.toNat + u.toNat : Nat) : Int) = u + 65536 * v := by omega
  rw [e1, e2, e3] at h
  exact h
theorem lay40 (u v : Int) (hu0 : 0 ≤ u) (hu : u < 1099511627776) (hv0 : 0 ≤ v) (hv : v < 16777216) : bits .or .u64 u (v * 1099511627776) = u + 1099511627776 * v := by
  have h := lay_bits u.toNat v.toNat 40 (by omega) (by omega) (by decide)
  have e1 : ((u.toNat : Nat) : Int) = u := by omega
  have e2 : ((2 ^ 40 * v.toNat : Nat) : Int) = v * 1099511627776 := by omega
  have e3 : ((2 ^ 40 * v.toNat + u.toNat : Nat) : Int) = u + 1099511627776 * v := by omega
  rw [e1, e2, e3] at h
  exact h
theorem lay0 (v : Int) (hv0 : 0 ≤ v) (hv : v < 18446744073709551616) : bits .or .u64 0 v = v := by
  have h := lay_bits 0 v.toNat 0 (by omega) (by omega) (by decide)
  have e2 : ((2 ^ 0 * v.toNat : Nat) : Int) = v := by omega
  have e3 : ((2 ^ 0 * v.toNat + 0 : Nat) : Int) = v := by omega
  rw [e2, e3] at h
  exact h
theorem and_mask (n m : Int) (k : Nat) (hk : k < 63) (hm : (BitVec.ofInt 64 m).toNat = 2 ^ k - 1) (hd : ((2 ^ k : Nat) : Int) ∣ 18446744073709551616) : bits .and .i64 n m = n % ((2 ^ k : Nat) : Int) := by
  have key : (BitVec.ofInt 64 n &&& BitVec.ofInt 64 m).toNat = (n % ((2 ^ 64 : Nat) : Int)).toNat % 2 ^ k := by
    rw [BitVec.toNat_and, BitVec.toNat_ofInt, hm, Nat.and_two_pow_sub_one_eq_mod]
  show IntKind.i64.wrap ((BitVec.ofInt 64 n &&& BitVec.ofInt 64 m).toNat : Nat) = _
  have hp : 2 ^ k < 2 ^ 63 := Nat.pow_lt_pow_right (by decide) hk
  have hlt : (n % ((2 ^ 64 : Nat) : Int)).toNat % 2 ^ k < 2 ^ k := Nat.mod_lt _ (Nat.two_pow_pos k)
  have e : (((n % ((2 ^ 64 : Nat) : Int)).toNat % 2 ^ k : Nat) : Int) = n % ((2 ^ k : Nat) : Int) := by
    rw [Int.natCast_emod, Int.toNat_of_nonneg (by omega)]
    exact Int.emod_emod_of_dvd n (by simpa using hd)
  rw [key, IntKind.wrap_i64, ← e]
  omega
theorem and3 (n : Int) : bits .and .i64 n 3 = n % 4 := and_mask n 3 2 (by decide) (by decide) (by decide)
theorem and4095 (n : Int) : bits .and .i64 n 4095 = n % 4096 := and_mask n 4095 12 (by decide) (by decide) (by decide)
theorem and24 (n : Int) : bits .and .i64 n 16777215 = n % 16777216 := and_mask n 16777215 24 (by decide) (by decide) (by decide)
theorem and255 (n : Int) : bits .and .i64 n 255 = n % 256 := and_mask n 255 8 (by decide) (by decide) (by decide)
end Go.Proofs.YtfdombfdgpclcaaGreatDoor.Hd

/-
  The constant table of the fields, as a world has it; headers in memory.
-/
namespace Go.Proofs.YtfdombfdgpclcaaGreatDoor.Hd
open Go.RowKit Go.Proofs.YtfdombfdgpclcaaGreatDoor.Ar
set_option linter.unusedVariables false

def fieldCells : Array Value := #[.int .i64 0, .int .i64 2, .int .i64 2, .int .i64 12, .int .i64 16, .int .i64 24, .int .i64 40, .int .i64 24]
/-- The table of the fields stands. -/
def Fields (w : World) : Prop := ∃ t fr, w.heap[0]? = some (.cells fieldCells t fr)
theorem Fields.lt {w : World} (h : Fields w) : 0 < w.heap.size := by
  obtain ⟨t, fr, e⟩ := h
  rcases Nat.lt_or_ge 0 w.heap.size with hlt | hge
  · exact hlt
  · rw [Array.getElem?_eq_none hge] at e
    cases e
theorem Fields.kept {S : List Nat} {w w' : World} (h : Fields w) (k : Kept S w w') (hS : ∀ i ∈ S, i ≠ 0) : Fields w' := by
  have := k.old _ h.lt fun hs => hS _ hs rfl
  obtain ⟨t, fr, e⟩ := h
  exact ⟨t, fr, this.trans e⟩
theorem Fields.keep0 {w w' : World} (h : Fields w) (k : Kept [] w w') : Fields w' := h.kept k (by simp)
/-- From a block on that the caller made. -/
theorem Fields.past {S : List Nat} {w w' : World} (h : Fields w) (k : Kept S w w') (B : Nat) (hB : 0 < B) (hS : ∀ i ∈ S, B ≤ i) : Fields w' := h.kept k fun i hi e => by have := hS i hi; omega
theorem Fields.cell {w : World} (h : Fields w) (i : Nat) : w.cell? ⟨0, i, none⟩ = fieldCells[i]? := by
  obtain ⟨t, fr, e⟩ := h
  exact cell_of_row w _ i _ t fr e
theorem Fields.cells {w : World} (h : Fields w) : w.cell? ⟨0, 0, none⟩ = some (.int .i64 0) ∧ w.cell? ⟨0, 1, none⟩ = some (.int .i64 2) ∧ w.cell? ⟨0, 2, none⟩ = some (.int .i64 2) ∧ w.cell? ⟨0, 3, none⟩ = some (.int .i64 12)
    ∧ w.cell? ⟨0, 4, none⟩ = some (.int .i64 16) ∧ w.cell? ⟨0, 5, none⟩ = some (.int .i64 24) ∧ w.cell? ⟨0, 6, none⟩ = some (.int .i64 40) ∧ w.cell? ⟨0, 7, none⟩ = some (.int .i64 24) :=
  ⟨h.cell 0, h.cell 1, h.cell 2, h.cell 3, h.cell 4, h.cell 5, h.cell 6, h.cell 7⟩
end Go.Proofs.YtfdombfdgpclcaaGreatDoor.Hd

/-
  The contracts of the functions on a header's numbers: greatest, within, hasRoom, valid, Check.
-/
namespace Go.Proofs.YtfdombfdgpclcaaGreatDoor.Hd
open Go.RowKit Go.Proofs.YtfdombfdgpclcaaGreatDoor.Ar
set_option linter.unusedVariables false

/-- The greatest number of a field. -/
def maxV : Nat → Int | 0 => 3 | 1 => 4095 | _ => 16777215
section
variable {w : World}
set_option maxRecDepth 100000 in
theorem greatest0 (h : Fields w) : Calls Tryz.prog 99 #[.int .i64 0] w fun e w' => e = .returned (.int .i64 3) ∧ w = w' := by
  obtain ⟨c0, c1, c2, c3, c4, c5, c6, c7⟩ := h.cells
  clear h
  go_enter Tryz.func99, Tryz.ntmps99
  go_wp2_with fail
  go_ret
  exact ⟨rfl, rfl⟩
set_option maxRecDepth 100000 in
theorem greatest1 (h : Fields w) : Calls Tryz.prog 99 #[.int .i64 1] w fun e w' => e = .returned (.int .i64 4095) ∧ w = w' := by
  obtain ⟨c0, c1, c2, c3, c4, c5, c6, c7⟩ := h.cells
  clear h
  go_enter Tryz.func99, Tryz.ntmps99
  go_wp2_with fail
  go_ret
  exact ⟨rfl, rfl⟩
set_option maxRecDepth 100000 in
theorem greatest2 (h : Fields w) : Calls Tryz.prog 99 #[.int .i64 2] w fun e w' => e = .returned (.int .i64 16777215) ∧ w = w' := by
  obtain ⟨c0, c1, c2, c3, c4, c5, c6, c7⟩ := h.cells
  clear h
  go_enter Tryz.func99, Tryz.ntmps99
  go_wp2_with fail
  go_ret
  exact ⟨rfl, rfl⟩
set_option maxRecDepth 100000 in
theorem greatest3 (h : Fields w) : Calls Tryz.prog 99 #[.int .i64 3] w fun e w' => e = .returned (.int .i64 16777215) ∧ w = w' := by
  obtain ⟨c0, c1, c2, c3, c4, c5, c6, c7⟩ := h.cells
  clear h
  go_enter Tryz.func99, Tryz.ntmps99
  go_wp2_with fail
  go_ret
  exact ⟨rfl, rfl⟩
theorem within_of (k m : Int) (hm0 : 0 ≤ m) (hm1 : m ≤ 16777215) (h : Calls Tryz.prog 99 #[.int .i64 k] w fun e w' => e = .returned (.int .i64 m) ∧ w = w') (v : Int) (h0 : -9223372036854775808 ≤ v) (h1 : v ≤ 9223372036854775807) :
    Calls Tryz.prog 101 #[.int .i64 k, .int .i64 v] w fun e w' => e = .returned (.bool (decide (0 ≤ v ∧ v ≤ m))) ∧ Kept [] w w' := by
  have H := Lib.hid h
  clear h
  by_cases hv : v < 0
  · have e : decide (0 ≤ v ∧ v ≤ m) = false := decide_eq_false (by omega)
    rw [e]; clear e H
    go_enter Tryz.func101, Tryz.ntmps101
    go_wp2_with fail
    go_ret
    exact ⟨rfl, Kept.refl [] w⟩
  · by_cases hw : v ≤ m
    · have e : decide (0 ≤ v ∧ v ≤ m) = true := decide_eq_true (by omega)
      rw [e]; clear e
      go_enter Tryz.func101, Tryz.ntmps101
      go_wp2_with fail
      refine H.out.mono ?_
      rintro e w1 ⟨rfl, rfl⟩
      go_wp2_with fail
      go_ret
      exact ⟨rfl, Kept.refl [] w⟩
    · have e : decide (0 ≤ v ∧ v ≤ m) = false := decide_eq_false (by omega)
      rw [e]; clear e
      go_enter Tryz.func101, Tryz.ntmps101
      go_wp2_with fail
      refine H.out.mono ?_
      rintro e w1 ⟨rfl, rfl⟩
      go_wp2_with fail
      go_ret
      exact ⟨ret_bool (decide_eq_false (by omega)), Kept.refl [] w⟩
theorem within1 (h : Fields w) (v : Int) (h0 : -9223372036854775808 ≤ v) (h1 : v ≤ 9223372036854775807) :
    Calls Tryz.prog 101 #[.int .i64 1, .int .i64 v] w fun e w' => e = .returned (.bool (decide (0 ≤ v ∧ v ≤ 4095))) ∧ Kept [] w w' := within_of 1 4095 (by decide) (by decide) (greatest1 h) v h0 h1
theorem within2 (h : Fields w) (v : Int) (h0 : -9223372036854775808 ≤ v) (h1 : v ≤ 9223372036854775807) :
    Calls Tryz.prog 101 #[.int .i64 2, .int .i64 v] w fun e w' => e = .returned (.bool (decide (0 ≤ v ∧ v ≤ 16777215))) ∧ Kept [] w w' := within_of 2 16777215 (by decide) (by decide) (greatest2 h) v h0 h1
theorem within3 (h : Fields w) (v : Int) (h0 : -9223372036854775808 ≤ v) (h1 : v ≤ 9223372036854775807) :
    Calls Tryz.prog 101 #[.int .i64 3, .int .i64 v] w fun e w' => e = .returned (.bool (decide (0 ≤ v ∧ v ≤ 16777215))) ∧ Kept [] w w' := within_of 3 16777215 (by decide) (by decide) (greatest3 h) v h0 h1
/-- A header lies in memory: its cells. -/
theorem cells4 {w : World} {b : Nat} {t : TypeId} {v0 v1 v2 v3 : Value} (h : Has w b t [v0, v1, v2, v3]) : w.cell? ⟨b, 0, none⟩ = some v0 ∧ w.cell? ⟨b, 1, none⟩ = some v1 ∧ w.cell? ⟨b, 2, none⟩ = some v2 ∧ w.cell? ⟨b, 3, none⟩ = some v3 :=
  ⟨h.cell 0, h.cell 1, h.cell 2, h.cell 3⟩
set_option maxRecDepth 100000 in
theorem room_ok (h : Fields w) (x : Hd) (ok : x.ok) : Calls Tryz.prog 97 #[x.val] w fun e w' => e = .returned (.bool (decide x.room)) ∧ Kept [] w w' := by
  have hb := Has.new w 43 x.cells
  have hk : Kept [] w (w.alloc (.cells x.cells.toArray 43)) := (Kept.refl [] w).alloc _
  have HF := Lib.hid h
  have H1 := Lib.hid (fun y (k : Kept [] w y) => within1 (h.keep0 k) x.ty ok.t0 ok.t1)
  have H2 := Lib.hid (fun y (k : Kept [] w y) => within2 (h.keep0 k) x.ln ok.l0 ok.l1)
  have H3 := Lib.hid (fun y (k : Kept [] w y) => within3 (h.keep0 k) x.sz ok.s0 ok.s1)
  have he : decide x.room = (decide (0 ≤ x.ty ∧ x.ty ≤ 4095) && decide (0 ≤ x.ln ∧ x.ln ≤ 16777215) && decide (0 ≤ x.sz ∧ x.sz ≤ 16777215)) := by
    rw [Bool.eq_iff_iff]; simp only [decide_eq_true_eq, Bool.and_eq_true]; unfold Hd.room; omega
  rw [he]
  clear he h ok
  generalize decide (0 ≤ x.ty ∧ x.ty ≤ 4095) = b1 at *
  generalize decide (0 ≤ x.ln ∧ x.ln ≤ 16777215) = b2 at *
  generalize decide (0 ≤ x.sz ∧ x.sz ≤ 16777215) = b3 at *
  unfold Hd.cells at *
  unfold Hd.val
  generalize x.tg = g at *
  generalize x.ty = t at *
  generalize x.ln = n at *
  generalize x.sz = s at *
  have HB := Lib.hid hb
  have HK := Lib.hid hk
  clear hb hk
  clear HF
  cases b1 with
  | false =>
    go_enter Tryz.func97, Tryz.ntmps97
    go_wp2_with fail
    refine (H1.out _ HK.out).mono ?_
    rintro e w1 ⟨rfl, k1⟩
    have K1 := Lib.hid (HK.out.trans k1)
    clear k1 H1 H2 H3 HB HK
    go_wp2_with fail
    go_ret
    exact ⟨rfl, K1.out⟩
  | true =>
    go_enter Tryz.func97, Tryz.ntmps97
    go_wp2_with fail
    refine (H1.out _ HK.out).mono ?_
    rintro e w1 ⟨rfl, k1⟩
    obtain ⟨c0, c1, c2, c3⟩ := cells4 (HB.out.keep0 k1)
    have HB1 := Lib.hid (HB.out.keep0 k1)
    have K1 := Lib.hid (HK.out.trans k1)
    clear k1 H1 HB HK
    cases b2 with
    | false =>
      go_wp2_with fail
      refine (H2.out _ K1.out).mono ?_
      rintro e w2 ⟨rfl, k2⟩
      have K2 := Lib.hid (K1.out.trans k2)
      clear k2 H2 H3 HB1 K1 c0 c1 c2 c3
      go_wp2_with fail
      go_ret
      exact ⟨rfl, K2.out⟩
    | true =>
      go_wp2_with fail
      refine (H2.out _ K1.out).mono ?_
      rintro e w2 ⟨rfl, k2⟩
      clear c0 c1 c2 c3
      obtain ⟨c0, c1, c2, c3⟩ := cells4 (HB1.out.keep0 k2)
      have K2 := Lib.hid (K1.out.trans k2)
      clear k2 H2 HB1 K1
      go_wp2_with fail
      refine (H3.out _ K2.out).mono ?_
      rintro e w3 ⟨rfl, k3⟩
      have K3 := Lib.hid (K2.out.trans k3)
      clear k3 H3 K2 c0 c1 c2 c3
      go_wp2_with fail
      go_ret
      exact ⟨rfl, K3.out⟩
/-- Is it valid, of one that has room? -/
theorem can_of_room (x : Hd) : decide x.can = (decide x.room && !decide (x.sz < 1) && ((decide (x.tg = 1) && decide (1 ≤ x.ty)) || ((decide (x.tg = 2) || decide (x.tg = 3)) && decide (x.ty = 0) && decide (x.ln = 0)))) := by
  rw [Bool.eq_iff_iff]
  simp only [decide_eq_true_eq, Bool.and_eq_true, Bool.or_eq_true, Bool.not_eq_true', decide_eq_false_iff_not]
  unfold Hd.can Hd.room
  omega
set_option maxRecDepth 100000 in
theorem valid_ok (h : Fields w) (x : Hd) (ok : x.ok) : Calls Tryz.prog 86 #[x.val] w fun e w' => e = .returned (.bool (decide x.can)) ∧ Kept [] w w' := by
  have hb := Has.new w 43 x.cells
  have hk : Kept [] w (w.alloc (.cells x.cells.toArray 43)) := (Kept.refl [] w).alloc _
  have H1 := Lib.hid (fun y (k : Kept [] w y) => room_ok (h.keep0 k) x ok)
  have hc := can_of_room x
  clear h
  generalize decide x.room = b at *
  generalize decide x.can = r at *
  have ok' := ok
  obtain ⟨g0, g1, t0, t1, l0, l1, s0, s1⟩ := ok'
  clear ok
  unfold Hd.cells at *
  unfold Hd.val at *
  generalize x.tg = g at *
  generalize x.ty = t at *
  generalize x.ln = n at *
  generalize x.sz = s at *
  have HB := Lib.hid hb
  have HK := Lib.hid hk
  have HC := Lib.hid hc
  clear hb hk hc
  cases b with
  | false =>
    have hr := HC.out
    simp only [Bool.false_and] at hr
    subst hr
    go_enter Tryz.func86, Tryz.ntmps86
    go_wp2_with fail
    refine (H1.out _ HK.out).mono ?_
    rintro e w1 ⟨rfl, k1⟩
    have K1 := Lib.hid (HK.out.trans k1)
    clear k1 H1 HB HK
    go_wp2_with fail
    go_ret
    exact ⟨rfl, K1.out⟩
  | true =>
    go_enter Tryz.func86, Tryz.ntmps86
    go_wp2_with fail
    refine (H1.out _ HK.out).mono ?_
    rintro e w1 ⟨rfl, k1⟩
    obtain ⟨c0, c1, c2, c3⟩ := cells4 (HB.out.keep0 k1)
    have K1 := Lib.hid (HK.out.trans k1)
    clear k1 H1 HB HK
    by_cases hs : s < 1
    · have hr := HC.out
      have e1 : decide (s < 1) = true := decide_eq_true hs
      rw [e1] at hr
      simp only [Bool.not_true, Bool.and_false, Bool.false_and] at hr
      subst hr
      clear HC e1
      go_wp2_with fail
      go_ret
      exact ⟨rfl, K1.out⟩
    · have e1 : decide (s < 1) = false := decide_eq_false hs
      have hr := HC.out
      rw [e1] at hr
      simp only [Bool.not_false, Bool.true_and] at hr
      clear HC e1
      by_cases hg1 : g = 1
      · subst hg1
        have e2 : r = decide (1 ≤ t) := by rw [hr]; simp
        subst e2
        clear hr
        go_wp2_with fail
        go_ret
        exact ⟨rfl, K1.out⟩
      · by_cases hg2 : g = 2
        · subst hg2
          by_cases ht : t = 0
          · subst ht
            have e2 : r = decide (n = 0) := by rw [hr]; simp
            subst e2
            clear hr
            go_wp2_with fail
            go_ret
            exact ⟨ret_bool (by first | rfl | simp), K1.out⟩
          · have e2 : r = false := by rw [hr]; simp [ht]
            subst e2
            clear hr
            go_wp2_with fail
            go_ret
            exact ⟨ret_bool (by first | rfl | simp), K1.out⟩
        · by_cases hg3 : g = 3
          · subst hg3
            by_cases ht : t = 0
            · subst ht
              have e2 : r = decide (n = 0) := by rw [hr]; simp
              subst e2
              clear hr
              go_wp2_with fail
              go_ret
              exact ⟨ret_bool (by first | rfl | simp), K1.out⟩
            · have e2 : r = false := by rw [hr]; simp [ht]
              subst e2
              clear hr
              go_wp2_with fail
              go_ret
              exact ⟨ret_bool (by first | rfl | simp), K1.out⟩
          · have e2 : r = false := by rw [hr]; simp [hg1, hg2, hg3]
            subst e2
            clear hr
            go_wp2_with fail
            go_ret
            exact ⟨rfl, K1.out⟩
/-- The error of a header. -/
theorem errH_of (x : Hd) : errH x = if decide x.can then 0 else 2 := by unfold errH; simp
set_option maxRecDepth 100000 in
theorem check_ok (h : Fields w) (x : Hd) (ok : x.ok) : Calls Tryz.prog 72 #[x.val] w fun e w' => e = .returned (.int .i64 (errH x)) ∧ Kept [] w w' := by
  have hk : Kept [] w (w.alloc (.cells x.cells.toArray 43)) := (Kept.refl [] w).alloc _
  have H1 := Lib.hid (fun y (k : Kept [] w y) => valid_ok (h.keep0 k) x ok)
  rw [errH_of]
  clear h ok
  generalize decide x.can = b at *
  unfold Hd.cells at *
  unfold Hd.val at *
  generalize x.tg = g at *
  generalize x.ty = t at *
  generalize x.ln = n at *
  generalize x.sz = s at *
  have HK := Lib.hid hk
  clear hk
  cases b with
  | false =>
    go_enter Tryz.func72, Tryz.ntmps72
    go_wp2_with fail
    refine (H1.out _ HK.out).mono ?_
    rintro e w1 ⟨rfl, k1⟩
    have K1 := Lib.hid (HK.out.trans k1)
    clear k1 H1 HK
    go_wp2_with fail
    go_ret
    exact ⟨rfl, K1.out⟩
  | true =>
    go_enter Tryz.func72, Tryz.ntmps72
    go_wp2_with fail
    refine (H1.out _ HK.out).mono ?_
    rintro e w1 ⟨rfl, k1⟩
    have K1 := Lib.hid (HK.out.trans k1)
    clear k1 H1 HK
    go_wp2_with fail
    go_ret
    exact ⟨rfl, K1.out⟩
end
end Go.Proofs.YtfdombfdgpclcaaGreatDoor.Hd

/-
  The contracts of wordOf and of its closure.
-/
namespace Go.Proofs.YtfdombfdgpclcaaGreatDoor.Hd
open Go.RowKit Go.Proofs.YtfdombfdgpclcaaGreatDoor.Ar
set_option linter.unusedVariables false

section
variable {w : World}
set_option maxRecDepth 100000 in
theorem lay_0 (h : Fields w) {B : Nat} {v : Int} (hB : Has w B 34 [.int .u64 0]) (hv0 : 0 ≤ v) (hv : v ≤ 255) :
    Calls Tryz.prog 87 #[.int .i64 0, .int .i64 v, .pointer (some ⟨B, 0, none⟩)] w fun e w' => e = .returned (.tuple #[]) ∧ Has w' B 34 [.int .u64 v] ∧ Kept [B] w w' := by
  obtain ⟨c0, c1, c2, c3, c4, c5, c6, c7⟩ := h.cells
  have d0 := hB.cell 0
  simp only [List.getElem?_cons_zero] at d0
  have d1 := hB.free 0
  have HL := Lib.hid (lay0 v hv0 (by omega))
  have HB := Lib.hid hB
  clear hB h
  go_enter Tryz.func87, Tryz.ntmps87
  go_wp2_with fail
  go_region
  all_goals rw [HL.out]
  all_goals go_wp2_with fail
  all_goals go_end0
  all_goals exact ⟨rfl, (HB.out.put 0 _).drew, ((Kept.refl [B] w).setCell _ _ (.inl (by simp))).drew⟩
set_option maxRecDepth 100000 in
theorem lay_1 (h : Fields w) {B : Nat} {u v : Int} (hB : Has w B 34 [.int .u64 u]) (hu0 : 0 ≤ u) (hu : u < 4) (hv0 : 0 ≤ v) (hv : v ≤ 4095) :
    Calls Tryz.prog 87 #[.int .i64 1, .int .i64 v, .pointer (some ⟨B, 0, none⟩)] w fun e w' => e = .returned (.tuple #[]) ∧ Has w' B 34 [.int .u64 (u + 4 * v)] ∧ Kept [B] w w' := by
  obtain ⟨c0, c1, c2, c3, c4, c5, c6, c7⟩ := h.cells
  have d0 := hB.cell 0
  simp only [List.getElem?_cons_zero] at d0
  have d1 := hB.free 0
  have HL := Lib.hid (lay2 u v hu0 hu hv0 (by omega))
  have HB := Lib.hid hB
  clear hB h
  go_enter Tryz.func87, Tryz.ntmps87
  go_wp2_with fail
  go_region
  all_goals rw [HL.out]
  all_goals go_wp2_with fail
  all_goals go_end0
  all_goals exact ⟨rfl, (HB.out.put 0 _).drew, ((Kept.refl [B] w).setCell _ _ (.inl (by simp))).drew⟩
set_option maxRecDepth 100000 in
theorem lay_2 (h : Fields w) {B : Nat} {u v : Int} (hB : Has w B 34 [.int .u64 u]) (hu0 : 0 ≤ u) (hu : u < 65536) (hv0 : 0 ≤ v) (hv : v ≤ 16777215) :
    Calls Tryz.prog 87 #[.int .i64 2, .int .i64 v, .pointer (some ⟨B, 0, none⟩)] w fun e w' => e = .returned (.tuple #[]) ∧ Has w' B 34 [.int .u64 (u + 65536 * v)] ∧ Kept [B] w w' := by
  obtain ⟨c0, c1, c2, c3, c4, c5, c6, c7⟩ := h.cells
  have d0 := hB.cell 0
  simp only [List.getElem?_cons_zero] at d0
  have d1 := hB.free 0
  have HL := Lib.hid (lay16 u v hu0 hu hv0 (by omega))
  have HB := Lib.hid hB
  clear hB h
  go_enter Tryz.func87, Tryz.ntmps87
  go_wp2_with fail
  go_region
  all_goals rw [HL.out]
  all_goals go_wp2_with fail
  all_goals go_end0
  all_goals exact ⟨rfl, (HB.out.put 0 _).drew, ((Kept.refl [B] w).setCell _ _ (.inl (by simp))).drew⟩
set_option maxRecDepth 100000 in
theorem lay_3 (h : Fields w) {B : Nat} {u v : Int} (hB : Has w B 34 [.int .u64 u]) (hu0 : 0 ≤ u) (hu : u < 1099511627776) (hv0 : 0 ≤ v) (hv : v ≤ 16777215) :
    Calls Tryz.prog 87 #[.int .i64 3, .int .i64 v, .pointer (some ⟨B, 0, none⟩)] w fun e w' => e = .returned (.tuple #[]) ∧ Has w' B 34 [.int .u64 (u + 1099511627776 * v)] ∧ Kept [B] w w' := by
  obtain ⟨c0, c1, c2, c3, c4, c5, c6, c7⟩ := h.cells
  have d0 := hB.cell 0
  simp only [List.getElem?_cons_zero] at d0
  have d1 := hB.free 0
  have HL := Lib.hid (lay40 u v hu0 hu hv0 (by omega))
  have HB := Lib.hid hB
  clear hB h
  go_enter Tryz.func87, Tryz.ntmps87
  go_wp2_with fail
  go_region
  all_goals rw [HL.out]
  all_goals go_wp2_with fail
  all_goals go_end0
  all_goals exact ⟨rfl, (HB.out.put 0 _).drew, ((Kept.refl [B] w).setCell _ _ (.inl (by simp))).drew⟩
end
/-- On the way: the header's copy and the word under way, in the call's own memory. -/
structure Laying (w x : World) (b : Nat) (v0 v1 v2 v3 : Value) (u : Int) : Prop where
  fields : Fields x
  head : Has x b 43 [v0, v1, v2, v3]
  word : Has x (b + 1) 34 [.int .u64 u]
  kept : Kept [] w x
  from_ : w.heap.size ≤ b
theorem Laying.step {w x y : World} {b : Nat} {v0 v1 v2 v3 : Value} {u u' : Int} (h : Laying w x b v0 v1 v2 v3 u) (hu : Has y (b + 1) 34 [.int .u64 u']) (k : Kept [b + 1] x y) : Laying w y b v0 v1 v2 v3 u' :=
  ⟨h.fields.kept k fun i hi e => by
      obtain rfl := List.mem_singleton.1 hi
      have e' : b + 1 = 0 := e
      omega, h.head.kept k (by simp), hu, h.kept.forget k fun i hi => by
      obtain rfl := List.mem_singleton.1 hi
      have := h.from_
      omega, h.from_⟩
theorem Laying.start {w : World} (h : Fields w) (x : Hd) : Laying w ((w.alloc (.cells #[.int .u8 x.tg, .int .i64 x.ty, .int .i64 x.ln, .int .i64 x.sz] 43)).alloc (.cells #[.int .u64 0] 34)) w.heap.size (.int .u8 x.tg) (.int .i64 x.ty) (.int .i64 x.ln) (.int .i64 x.sz) 0 :=
  have k : Kept [] w ((w.alloc (.cells #[.int .u8 x.tg, .int .i64 x.ty, .int .i64 x.ln, .int .i64 x.sz] 43)).alloc (.cells #[.int .u64 0] 34)) := ((Kept.refl [] w).alloc _).alloc _
  ⟨h.keep0 k, (Has.new w 43 x.cells).alloc _, by
    have := Has.new (w.alloc (.cells #[.int .u8 x.tg, .int .i64 x.ty, .int .i64 x.ln, .int .i64 x.sz] 43)) 34 [.int .u64 0]
    simpa using this, k, Nat.le_refl _⟩
set_option maxRecDepth 100000 in
theorem word_ok {w : World} (h : Fields w) (x : Hd) (c : x.can) : Calls Tryz.prog 73 #[x.val] w fun e w' => e = .returned (.int .u64 (wordI x)) ∧ Kept [] w w' := by
  have hs := Laying.start h x
  obtain ⟨g0, g1, t0, t1, l0, l1, s0, s1⟩ : 0 ≤ x.tg ∧ x.tg ≤ 3 ∧ 0 ≤ x.ty ∧ x.ty ≤ 4095 ∧ 0 ≤ x.ln ∧ x.ln ≤ 16777215 ∧ 0 ≤ x.sz ∧ x.sz ≤ 16777215 := by
    unfold Hd.can at c; omega
  clear c h
  unfold Hd.val wordI
  generalize x.tg = g at *
  generalize x.ty = t at *
  generalize x.ln = n at *
  generalize x.sz = s at *
  have HS := Lib.hid hs
  clear hs
  go_enter Tryz.func73, Tryz.ntmps73
  go_wp2_with fail
  refine (lay_0 HS.out.fields HS.out.word (v := g) (by omega) (by omega)).mono ?_
  rintro e x1 ⟨rfl, hu, hk⟩
  have H1 := Lib.hid (HS.out.step hu hk)
  clear hu hk HS
  obtain ⟨c0, c1, c2, c3⟩ := cells4 H1.out.head
  go_wp2_with fail
  refine (lay_1 H1.out.fields H1.out.word (v := t) (by omega) (by omega) (by omega) (by omega)).mono ?_
  rintro e x2 ⟨rfl, hu, hk⟩
  have H2 := Lib.hid (H1.out.step hu hk)
  clear hu hk H1 c0 c1 c2 c3
  obtain ⟨c0, c1, c2, c3⟩ := cells4 H2.out.head
  go_wp2_with fail
  refine (lay_2 H2.out.fields H2.out.word (v := n) (by omega) (by omega) (by omega) (by omega)).mono ?_
  rintro e x3 ⟨rfl, hu, hk⟩
  have H3 := Lib.hid (H2.out.step hu hk)
  clear hu hk H2 c0 c1 c2 c3
  obtain ⟨c0, c1, c2, c3⟩ := cells4 H3.out.head
  go_wp2_with fail
  refine (lay_3 H3.out.fields H3.out.word (v := s) (by omega) (by omega) (by omega) (by omega)).mono ?_
  rintro e x4 ⟨rfl, hu, hk⟩
  have H4 := Lib.hid (H3.out.step hu hk)
  clear hu hk H3 c0 c1 c2 c3
  have d0 := H4.out.word.cell 0
  simp only [List.getElem?_cons_zero] at d0
  go_wp2_with fail
  go_ret
  exact ⟨rfl, H4.out.kept⟩
end Go.Proofs.YtfdombfdgpclcaaGreatDoor.Hd

/-
  The contracts of headOf and of its closure.
-/
namespace Go.Proofs.YtfdombfdgpclcaaGreatDoor.Hd
open Go.RowKit Go.Proofs.YtfdombfdgpclcaaGreatDoor.Ar
set_option linter.unusedVariables false

theorem wrap_mod (z : Int) (m : Int) (h : 18446744073709551616 % m = 0) (hm : 9223372036854775808 % m = 0) : IntKind.i64.wrap z % m = z % m := by
  rw [IntKind.wrap_i64]
  have h1 : (m : Int) ∣ 18446744073709551616 := Int.dvd_of_emod_eq_zero h
  have h2 : (m : Int) ∣ 9223372036854775808 := Int.dvd_of_emod_eq_zero hm
  rw [Int.sub_emod, Int.emod_emod_of_dvd _ h1, Int.emod_eq_zero_of_dvd h2, Int.sub_zero, Int.emod_emod, Int.add_emod, Int.emod_eq_zero_of_dvd h2, Int.add_zero, Int.emod_emod]
section
variable {w : World}
set_option maxRecDepth 100000 in
set_option maxHeartbeats 1000000 in
theorem cut_0 (h : Fields w) {B : Nat} {u : Int} (hB : Has w B 34 [.int .u64 u]) (hu0 : 0 ≤ u) (hu : u ≤ 18446744073709551615) :
    Calls Tryz.prog 98 #[.int .i64 0, .pointer (some ⟨B, 0, none⟩)] w fun e w' => e = .returned (.int .i64 (u % 4)) ∧ Kept [] w w' := by
  obtain ⟨c0, c1, c2, c3, c4, c5, c6, c7⟩ := h.cells
  have d0 := hB.cell 0
  simp only [List.getElem?_cons_zero] at d0
  have HG := Lib.hid (fun y (e : y.heap = w.heap) => greatest0 (w := y) (by unfold Fields at *; rw [e]; exact h))
  have HL : Hid (bits .and .i64 (IntKind.i64.wrap (u)) 3 = u % 4) := Lib.hid (by rw [and3, wrap_mod _ _ (by decide) (by decide)])
  have HM : Hid (bits .and .i64 (u) 3 = u % 4) := Lib.hid (by rw [and3])
  clear hB h
  go_enter Tryz.func98, Tryz.ntmps98
  go_wp2_with fail
  go_region_with ((refine (HG.out _ (by rfl)).mono ?_; rintro e w1 ⟨rfl, rfl⟩))
  all_goals first | rw [HL.out] | rw [HM.out]
  all_goals go_wp2_with fail
  all_goals go_ret
  all_goals exact ⟨rfl, by first | exact Kept.refl [] w | exact (Kept.refl [] w).drew⟩
set_option maxRecDepth 100000 in
set_option maxHeartbeats 1000000 in
theorem cut_1 (h : Fields w) {B : Nat} {u : Int} (hB : Has w B 34 [.int .u64 u]) (hu0 : 0 ≤ u) (hu : u ≤ 18446744073709551615) :
    Calls Tryz.prog 98 #[.int .i64 1, .pointer (some ⟨B, 0, none⟩)] w fun e w' => e = .returned (.int .i64 (u / 4 % 4096)) ∧ Kept [] w w' := by
  obtain ⟨c0, c1, c2, c3, c4, c5, c6, c7⟩ := h.cells
  have d0 := hB.cell 0
  simp only [List.getElem?_cons_zero] at d0
  have HG := Lib.hid (fun y (e : y.heap = w.heap) => greatest1 (w := y) (by unfold Fields at *; rw [e]; exact h))
  have HL : Hid (bits .and .i64 (IntKind.i64.wrap (u / 4)) 4095 = u / 4 % 4096) := Lib.hid (by rw [and4095, wrap_mod _ _ (by decide) (by decide)])
  have HM : Hid (bits .and .i64 (u / 4) 4095 = u / 4 % 4096) := Lib.hid (by rw [and4095])
  clear hB h
  go_enter Tryz.func98, Tryz.ntmps98
  go_wp2_with fail
  go_region_with ((refine (HG.out _ (by rfl)).mono ?_; rintro e w1 ⟨rfl, rfl⟩))
  all_goals first | rw [HL.out] | rw [HM.out]
  all_goals go_wp2_with fail
  all_goals go_ret
  all_goals exact ⟨rfl, by first | exact Kept.refl [] w | exact (Kept.refl [] w).drew⟩
set_option maxRecDepth 100000 in
set_option maxHeartbeats 1000000 in
theorem cut_2 (h : Fields w) {B : Nat} {u : Int} (hB : Has w B 34 [.int .u64 u]) (hu0 : 0 ≤ u) (hu : u ≤ 18446744073709551615) :
    Calls Tryz.prog 98 #[.int .i64 2, .pointer (some ⟨B, 0, none⟩)] w fun e w' => e = .returned (.int .i64 (u / 65536 % 16777216)) ∧ Kept [] w w' := by
  obtain ⟨c0, c1, c2, c3, c4, c5, c6, c7⟩ := h.cells
  have d0 := hB.cell 0
  simp only [List.getElem?_cons_zero] at d0
  have HG := Lib.hid (fun y (e : y.heap = w.heap) => greatest2 (w := y) (by unfold Fields at *; rw [e]; exact h))
  have HL : Hid (bits .and .i64 (IntKind.i64.wrap (u / 65536)) 16777215 = u / 65536 % 16777216) := Lib.hid (by rw [and24, wrap_mod _ _ (by decide) (by decide)])
  have HM : Hid (bits .and .i64 (u / 65536) 16777215 = u / 65536 % 16777216) := Lib.hid (by rw [and24])
  clear hB h
  go_enter Tryz.func98, Tryz.ntmps98
  go_wp2_with fail
  go_region_with ((refine (HG.out _ (by rfl)).mono ?_; rintro e w1 ⟨rfl, rfl⟩))
  all_goals first | rw [HL.out] | rw [HM.out]
  all_goals go_wp2_with fail
  all_goals go_ret
  all_goals exact ⟨rfl, by first | exact Kept.refl [] w | exact (Kept.refl [] w).drew⟩
set_option maxRecDepth 100000 in
set_option maxHeartbeats 1000000 in
theorem cut_3 (h : Fields w) {B : Nat} {u : Int} (hB : Has w B 34 [.int .u64 u]) (hu0 : 0 ≤ u) (hu : u ≤ 18446744073709551615) :
    Calls Tryz.prog 98 #[.int .i64 3, .pointer (some ⟨B, 0, none⟩)] w fun e w' => e = .returned (.int .i64 (u / 1099511627776)) ∧ Kept [] w w' := by
  obtain ⟨c0, c1, c2, c3, c4, c5, c6, c7⟩ := h.cells
  have d0 := hB.cell 0
  simp only [List.getElem?_cons_zero] at d0
  have HG := Lib.hid (fun y (e : y.heap = w.heap) => greatest3 (w := y) (by unfold Fields at *; rw [e]; exact h))
  have HL : Hid (bits .and .i64 (IntKind.i64.wrap (u / 1099511627776)) 16777215 = u / 1099511627776) := Lib.hid (by rw [and24, wrap_mod _ _ (by decide) (by decide)]; omega)
  have HM : Hid (bits .and .i64 (u / 1099511627776) 16777215 = u / 1099511627776) := Lib.hid (by rw [and24]; omega)
  clear hB h
  go_enter Tryz.func98, Tryz.ntmps98
  go_wp2_with fail
  go_region_with ((refine (HG.out _ (by rfl)).mono ?_; rintro e w1 ⟨rfl, rfl⟩))
  all_goals first | rw [HL.out] | rw [HM.out]
  all_goals go_wp2_with fail
  all_goals go_ret
  all_goals exact ⟨rfl, by first | exact Kept.refl [] w | exact (Kept.refl [] w).drew⟩
end
end Go.Proofs.YtfdombfdgpclcaaGreatDoor.Hd

/-
  The contract of headOf.
-/
namespace Go.Proofs.YtfdombfdgpclcaaGreatDoor.Hd
open Go.RowKit Go.Proofs.YtfdombfdgpclcaaGreatDoor.Ar
set_option linter.unusedVariables false

theorem free4 {w : World} {b : Nat} {t : TypeId} {cs : List Value} (h : Has w b t cs) : w.frozen? ⟨b, 0, none⟩ = false ∧ w.frozen? ⟨b, 1, none⟩ = false ∧ w.frozen? ⟨b, 2, none⟩ = false ∧ w.frozen? ⟨b, 3, none⟩ = false :=
  ⟨h.free 0, h.free 1, h.free 2, h.free 3⟩
def put4 (b : Nat) (v0 v1 v2 v3 : Value) (w : World) : World := (((w.setCell ⟨b, 0, none⟩ v0).setCell ⟨b, 1, none⟩ v1).setCell ⟨b, 2, none⟩ v2).setCell ⟨b, 3, none⟩ v3
theorem put4_has {b : Nat} {t : TypeId} {w : World} {a0 a1 a2 a3 : Value} (h : Has w b t [a0, a1, a2, a3]) (v0 v1 v2 v3 : Value) : Has (put4 b v0 v1 v2 v3 w) b t [v0, v1, v2, v3] := (((h.put 0 v0).put 1 v1).put 2 v2).put 3 v3
theorem put4_kept {b : Nat} {S : List Nat} {w0 w : World} (h : Kept S w0 w) (hb : b ∈ S ∨ w0.heap.size ≤ b) (v0 v1 v2 v3 : Value) : Kept S w0 (put4 b v0 v1 v2 v3 w) :=
  (((h.setCell ⟨b, 0, none⟩ v0 hb).setCell ⟨b, 1, none⟩ v1 hb).setCell ⟨b, 2, none⟩ v2 hb).setCell ⟨b, 3, none⟩ v3 hb
theorem size_head : (Tryz.prog.info? 43).map (·.size) = some 4 := by kernel_rfl
/-- The end of a function whose result is a header that lies in memory. -/
theorem ret_one0 {f : Func} {p : Tmp} (h : f.results = #[.cell p 43]) {a : Act} {X : World} {g : Nat} {v0 v1 v2 v3 : Value} (hp : a.tmps.getD p undef = .pointer (some ⟨g, 0, none⟩)) (hH : Has X g 43 [v0, v1, v2, v3])
    (hdf : a.defers = []) {R : Ending → World → Prop} (hR : R (.returned (.agg #[v0, v1, v2, v3])) X) : bodyPost Tryz.prog f R .ret a X := by
  refine bodyPost_ret ?_ hdf hR
  exact results_cell_row h a.tmps X g 43 #[v0, v1, v2, v3] (0, 0) _ hp hH Tryz.underlying43 rfl size_head
theorem ret_hd0 {f : Func} {p u : Tmp} (h : f.results = #[.cell p 43, .tmp u]) {a : Act} {X : World} {g : Nat} {v0 v1 v2 v3 : Value} (hp : a.tmps.getD p undef = .pointer (some ⟨g, 0, none⟩)) (hH : Has X g 43 [v0, v1, v2, v3])
    (hdf : a.defers = []) {E : Value} (hE : a.tmps.getD u undef = E) {R : Ending → World → Prop} (hR : R (.returned (.tuple #[.agg #[v0, v1, v2, v3], E])) X) : bodyPost Tryz.prog f R .ret a X := by
  refine Kd.ret_row h _ hp hH rfl Tryz.underlying43 rfl size_head hdf ?_
  rw [hE]
  exact hR
/-- The end of a function whose first result is a header that lies in memory: four stores, then it is read. -/
theorem ret_hd {f : Func} {p u : Tmp} (h : f.results = #[.cell p 43, .tmp u]) {a : Act} {w0 w : World} {g : Nat} {a0 a1 a2 a3 v0 v1 v2 v3 : Value} (hp : a.tmps.getD p undef = .pointer (some ⟨g, 0, none⟩)) (hH : Has w g 43 [a0, a1, a2, a3]) (hk : Kept [] w0 w) (hg : w0.heap.size ≤ g)
    (hdf : a.defers = []) {E : Value} (hE : a.tmps.getD u undef = E) {R : Ending → World → Prop}
    (hR : ∀ X, Kept [] w0 X → R (.returned (.tuple #[.agg #[v0, v1, v2, v3], E])) X) : bodyPost Tryz.prog f R .ret a (put4 g v0 v1 v2 v3 w) :=
  ret_hd0 h hp (put4_has hH v0 v1 v2 v3) hdf hE (hR _ (put4_kept hk (.inr hg) _ _ _ _))
set_option maxRecDepth 100000 in
theorem head_ok' {w : World} (h : Fields w) (u : Int) (hu0 : 0 ≤ u) (hu : u ≤ 18446744073709551615) : Calls Tryz.prog 88 #[.int .u64 u] w fun e w' => e = .returned (headI u).val ∧ Kept [] w w' := by
  have k0 : Kept [] w ((w.alloc (.cells #[.int .u64 u] 34)).alloc (.cells #[.int .u8 0, .int .i64 0, .int .i64 0, .int .i64 0] 43)) := ((Kept.refl [] w).alloc _).alloc _
  have b0 : Has ((w.alloc (.cells #[.int .u64 u] 34)).alloc (.cells #[.int .u8 0, .int .i64 0, .int .i64 0, .int .i64 0] 43)) w.heap.size 34 [.int .u64 u] := (Has.new w 34 [.int .u64 u]).alloc _
  have r0 : Has ((w.alloc (.cells #[.int .u64 u] 34)).alloc (.cells #[.int .u8 0, .int .i64 0, .int .i64 0, .int .i64 0] 43)) (w.heap.size + 1) 43 Hd.zero.cells := by
    have := Has.new (w.alloc (.cells #[.int .u64 u] 34)) 43 Hd.zero.cells
    simpa [Hd.cells, Hd.zero] using this
  have H0 := Lib.hid (fun y k => cut_0 (w := y) (h.keep0 (k0.trans k)) (b0.keep0 k) hu0 hu)
  have H1 := Lib.hid (fun y k => cut_1 (w := y) (h.keep0 (k0.trans k)) (b0.keep0 k) hu0 hu)
  have H2 := Lib.hid (fun y k => cut_2 (w := y) (h.keep0 (k0.trans k)) (b0.keep0 k) hu0 hu)
  have H3 := Lib.hid (fun y k => cut_3 (w := y) (h.keep0 (k0.trans k)) (b0.keep0 k) hu0 hu)
  have K0 := Lib.hid k0
  have R0 := Lib.hid r0
  have e0 : 0 ≤ u % 4 ∧ u % 4 < 4 := by omega
  unfold Hd.val headI
  simp only
  clear h k0 b0 r0
  generalize u % 4 = n0 at *
  generalize u / 4 % 4096 = n1 at *
  generalize u / 65536 % 16777216 = n2 at *
  generalize u / 1099511627776 = n3 at *
  obtain ⟨e0, e1⟩ := e0
  go_enter Tryz.func88, Tryz.ntmps88
  go_wp2_with fail
  refine (H0.out _ (Kept.refl _ _)).mono ?_
  rintro e x1 ⟨rfl, k1⟩
  have K1 := Lib.hid k1
  clear k1
  go_wp2_with fail
  refine (H1.out _ K1.out).mono ?_
  rintro e x2 ⟨rfl, k2⟩
  have K2 := Lib.hid (K1.out.trans k2)
  clear k2 K1
  go_wp2_with fail
  refine (H2.out _ K2.out).mono ?_
  rintro e x3 ⟨rfl, k3⟩
  have K3 := Lib.hid (K2.out.trans k3)
  clear k3 K2
  go_wp2_with fail
  refine (H3.out _ K3.out).mono ?_
  rintro e x4 ⟨rfl, k4⟩
  have K4 := Lib.hid (K3.out.trans k4)
  clear k4 K3 H0 H1 H2 H3
  have r4 := R0.out.keep0 K4.out
  unfold Hd.cells Hd.zero at r4
  obtain ⟨f0, f1, f2, f3⟩ := free4 r4
  obtain ⟨c0, c1, c2, c3⟩ := cells4 r4
  have R4 := Lib.hid r4
  clear r4
  go_wp2_with fail
  exact ret_one0 rfl rfl (put4_has R4.out _ _ _ _) rfl ⟨rfl, put4_kept (K0.out.trans K4.out) (.inr (by omega)) _ _ _ _⟩
end Go.Proofs.YtfdombfdgpclcaaGreatDoor.Hd

/-
  The contracts of Encode, Decode, Gap.
-/
namespace Go.Proofs.YtfdombfdgpclcaaGreatDoor.Hd
open Go.RowKit Go.Proofs.YtfdombfdgpclcaaGreatDoor.Ar
set_option linter.unusedVariables false

section
variable {w : World}
theorem Hd.new (w : World) (x : Hd) : Has (w.alloc (.cells #[.int .u8 x.tg, .int .i64 x.ty, .int .i64 x.ln, .int .i64 x.sz] 43)) w.heap.size 43 [.int .u8 x.tg, .int .i64 x.ty, .int .i64 x.ln, .int .i64 x.sz] := Has.new w _ _
set_option maxRecDepth 100000 in
theorem encode_ok (h : Fields w) (x : Hd) (ok : x.ok) : Calls Tryz.prog 54 #[x.val] w fun e w' => e = .returned (.tuple #[.int .u64 (encW x), .int .i64 (errH x)]) ∧ Kept [] w w' := by
  have hb := Hd.new w x
  have k0 : Kept [] w (w.alloc (.cells #[.int .u8 x.tg, .int .i64 x.ty, .int .i64 x.ln, .int .i64 x.sz] 43)) := (Kept.refl [] w).alloc _
  have HC := Lib.hid (fun y (k : Kept [] w y) => check_ok (h.keep0 k) x ok)
  have HW := Lib.hid (fun (c : x.can) y (k : Kept [] w y) => word_ok (h.keep0 k) x c)
  clear h ok
  by_cases c : x.can
  · rw [encW_yes c]
    rw [errH_yes c] at *
    have HW' := Lib.hid (HW.out c)
    clear HW c
    unfold Hd.val at *
    generalize wordI x = u at *
    generalize x.tg = g at *
    generalize x.ty = t at *
    generalize x.ln = n at *
    generalize x.sz = s at *
    have HB := Lib.hid hb
    have K0 := Lib.hid k0
    clear hb k0
    go_enter Tryz.func54, Tryz.ntmps54
    go_wp2_with fail
    refine (HC.out _ K0.out).mono ?_
    rintro e x1 ⟨rfl, k1⟩
    obtain ⟨c0, c1, c2, c3⟩ := cells4 (HB.out.keep0 k1)
    have K1 := Lib.hid (K0.out.trans k1)
    clear k1 HC K0
    go_wp2_with fail
    refine (HW'.out _ K1.out).mono ?_
    rintro e x2 ⟨rfl, k2⟩
    have K2 := Lib.hid (K1.out.trans k2)
    clear k2 K1 c0 c1 c2 c3
    go_wp2_with fail
    go_ret2
    exact ⟨rfl, K2.out⟩
  · rw [encW_no c]
    rw [errH_no c] at *
    clear HW c
    unfold Hd.val at *
    generalize x.tg = g at *
    generalize x.ty = t at *
    generalize x.ln = n at *
    generalize x.sz = s at *
    have K0 := Lib.hid k0
    clear hb k0
    go_enter Tryz.func54, Tryz.ntmps54
    go_wp2_with fail
    refine (HC.out _ K0.out).mono ?_
    rintro e x1 ⟨rfl, k1⟩
    have K1 := Lib.hid (K0.out.trans k1)
    clear k1 HC K0
    go_wp2_with fail
    go_ret2
    exact ⟨rfl, K1.out⟩
/-- The result's cells and the header's, behind what came between. -/
theorem two_has {w x y : World} {b c : Nat} {vs us : List Value} (hb : Has w b 43 vs) (k : Kept [] w x) (hc : Has x c 43 us) (k2 : Kept [] x y) : Has y b 43 vs ∧ Has y c 43 us := ⟨hb.keep0 (k.trans k2), hc.keep0 k2⟩
set_option maxRecDepth 100000 in
set_option maxHeartbeats 1000000 in
theorem decode_ok (h : Fields w) (u : Int) (hu0 : 0 ≤ u) (hu1 : u ≤ 18446744073709551615) : Calls Tryz.prog 77 #[.int .u64 u] w fun e w' => e = .returned (.tuple #[(decH u).val, .int .i64 (decE u)]) ∧ Kept [] w w' := by
  have hb := Hd.new w Hd.zero
  have k0 : Kept [] w (w.alloc (.cells #[.int .u8 Hd.zero.tg, .int .i64 Hd.zero.ty, .int .i64 Hd.zero.ln, .int .i64 Hd.zero.sz] 43)) := (Kept.refl [] w).alloc _
  have HH := Lib.hid (fun y (k : Kept [] w y) => head_ok' (h.keep0 k) u hu0 hu1)
  have HE := Lib.hid (fun y (k : Kept [] w y) => encode_ok (h.keep0 k) (headI u) (head_ok hu0 hu1))
  have HN : Hid (∀ y : World, Has (y.alloc (.cells #[.int .u8 (headI u).tg, .int .i64 (headI u).ty, .int .i64 (headI u).ln, .int .i64 (headI u).sz] 43)) y.heap.size 43 [.int .u8 (headI u).tg, .int .i64 (headI u).ty, .int .i64 (headI u).ln, .int .i64 (headI u).sz]) := Lib.hid fun y => Hd.new y _
  have hiff := @isHead_iff u
  have hcase : ((headI u).can ∧ wordI (headI u) = u ∧ decH u = headI u ∧ decE u = 0 ∧ encW (headI u) = u ∧ errH (headI u) = 0) ∨ (decH u = Hd.zero ∧ decE u = 7 ∧ ((errH (headI u) = 2) ∨ (errH (headI u) = 0 ∧ encW (headI u) ≠ u))) := by
    by_cases c : (headI u).can
    · by_cases d : wordI (headI u) = u
      · have e := hiff.2 ⟨c, d⟩
        exact .inl ⟨c, d, (dec_yes e).1, (dec_yes e).2, (encW_yes c).trans d, errH_yes c⟩
      · have e : isHead u = false := by
          cases hx : isHead u with
          | false => rfl
          | true => exact absurd (hiff.1 hx).2 d
        exact .inr ⟨(dec_no e).1, (dec_no e).2, .inr ⟨errH_yes c, by rw [encW_yes c]; exact d⟩⟩
    · have e : isHead u = false := by
        cases hx : isHead u with
        | false => rfl
        | true => exact absurd (hiff.1 hx).1 c
      exact .inr ⟨(dec_no e).1, (dec_no e).2, .inl (errH_no c)⟩
  clear hiff h
  unfold Hd.val at *
  rcases hcase with ⟨_, _, e1, e2, e3, e4⟩ | ⟨e1, e2, e3⟩
  · rw [e3, e4] at HE
    rw [e1, e2]
    clear e1 e2 e3 e4
    generalize headI u = x at *
    generalize x.tg = g at *
    generalize x.ty = t at *
    generalize x.ln = n at *
    generalize x.sz = s at *
    unfold Hd.zero at *
    simp only at hb k0
    have HB := Lib.hid hb
    have K0 := Lib.hid k0
    clear hb k0
    go_enter Tryz.func77, Tryz.ntmps77
    go_wp2_with fail
    refine (HH.out _ K0.out).mono ?_
    rintro e x1 ⟨rfl, k1⟩
    have K1 := Lib.hid (K0.out.trans k1)
    have HB1 := Lib.hid (HB.out.keep0 k1)
    have HN1 := Lib.hid (HN.out x1)
    clear k1 K0 HB HH HN
    go_wp2_with fail
    refine (HE.out _ (K1.out.alloc _)).mono ?_
    rintro e x2 ⟨rfl, k2⟩
    have K2 := Lib.hid ((K1.out.alloc _).trans k2)
    have r2 := (HB1.out.alloc _).keep0 k2
    have b2 := HN1.out.keep0 k2
    clear k2 HE HN1 K1 HB1
    obtain ⟨f0, f1, f2, f3⟩ := free4 r2
    obtain ⟨d0, d1, d2, d3⟩ := cells4 r2
    obtain ⟨c0, c1, c2, c3⟩ := cells4 b2
    have R2 := Lib.hid r2
    clear r2 b2
    go_wp2_with fail
    exact ret_hd rfl rfl R2.out K2.out (Nat.le_refl _) rfl rfl fun X hX => ⟨rfl, hX⟩
  · rw [e1, e2]
    clear e1 e2
    have HZ : Hid (Hd.zero = ⟨0, 0, 0, 0⟩) := Lib.hid rfl
    generalize headI u = x at *
    generalize errH x = er at *
    generalize encW x = ew at *
    generalize x.tg = g at *
    generalize x.ty = t at *
    generalize x.ln = n at *
    generalize x.sz = s at *
    unfold Hd.zero at *
    simp only at hb k0
    have HB := Lib.hid hb
    have K0 := Lib.hid k0
    clear hb k0
    go_enter Tryz.func77, Tryz.ntmps77
    go_wp2_with fail
    refine (HH.out _ K0.out).mono ?_
    rintro e x1 ⟨rfl, k1⟩
    have K1 := Lib.hid (K0.out.trans k1)
    have HB1 := Lib.hid (HB.out.keep0 k1)
    have HN1 := Lib.hid (HN.out x1)
    clear k1 K0 HB HH HN
    go_wp2_with fail
    refine (HE.out _ (K1.out.alloc _)).mono ?_
    rintro e x2 ⟨rfl, k2⟩
    have K2 := Lib.hid ((K1.out.alloc _).trans k2)
    have r2 := (HB1.out.alloc _).keep0 k2
    have b2 := HN1.out.keep0 k2
    clear k2 HE HN1 K1 HB1
    obtain ⟨f0, f1, f2, f3⟩ := free4 r2
    obtain ⟨d0, d1, d2, d3⟩ := cells4 r2
    obtain ⟨c0, c1, c2, c3⟩ := cells4 b2
    have R2 := Lib.hid r2
    clear r2 b2
    rcases e3 with rfl | ⟨rfl, hne⟩
    · go_wp2_with fail
      exact ret_hd rfl rfl R2.out K2.out (Nat.le_refl _) rfl rfl fun X hX => ⟨rfl, hX⟩
    · go_wp2_with fail
      exact ret_hd rfl rfl R2.out K2.out (Nat.le_refl _) rfl rfl fun X hX => ⟨rfl, hX⟩
/-- A gap's header. -/
def gapH (g z : Int) : Hd := if (Hd.mk g 0 0 z).can then ⟨g, 0, 0, z⟩ else Hd.zero
theorem gap_yes {g z : Int} (h : (Hd.mk g 0 0 z).can) : gapH g z = ⟨g, 0, 0, z⟩ := if_pos h
theorem gap_no {g z : Int} (h : ¬ (Hd.mk g 0 0 z).can) : gapH g z = Hd.zero := if_neg h
set_option maxRecDepth 100000 in
set_option maxHeartbeats 1000000 in
theorem gap_ok (h : Fields w) (g z : Int) (g0 : 0 ≤ g) (g1 : g ≤ 255) (z0 : -9223372036854775808 ≤ z) (z1 : z ≤ 9223372036854775807) : Calls Tryz.prog 66 #[.int .u8 g, .int .i64 z] w fun e w' => e = .returned (.tuple #[(gapH g z).val, .int .i64 (errH ⟨g, 0, 0, z⟩)]) ∧ Kept [] w w' := by
  have hb := Hd.new w Hd.zero
  have k0 : Kept [] w (w.alloc (.cells #[.int .u8 Hd.zero.tg, .int .i64 Hd.zero.ty, .int .i64 Hd.zero.ln, .int .i64 Hd.zero.sz] 43)) := (Kept.refl [] w).alloc _
  have HC := Lib.hid (fun y (k : Kept [] w y) => check_ok (h.keep0 k) ⟨g, 0, 0, z⟩ ⟨g0, g1, by simp, by simp, by simp, by simp, z0, z1⟩)
  have HN : Hid (Has ((w.alloc (.cells #[.int .u8 0, .int .i64 0, .int .i64 0, .int .i64 0] 43)).alloc (.cells #[.int .u8 g, .int .i64 0, .int .i64 0, .int .i64 z] 43)) (w.heap.size + 1) 43 [.int .u8 g, .int .i64 0, .int .i64 0, .int .i64 z]) := Lib.hid (by simpa using Hd.new (w.alloc (.cells #[.int .u8 0, .int .i64 0, .int .i64 0, .int .i64 0] 43)) ⟨g, 0, 0, z⟩)
  unfold Hd.zero at hb k0
  simp only at hb k0
  have HB := Lib.hid hb
  have K0 := Lib.hid k0
  clear hb k0 h
  by_cases c : (Hd.mk g 0 0 z).can
  · rw [gap_yes c]
    rw [errH_yes c] at *
    unfold Hd.val at *
    simp only at *
    clear c
    go_enter Tryz.func66, Tryz.ntmps66
    go_wp2_with fail
    refine (HC.out _ (K0.out.alloc _)).mono ?_
    rintro e x2 ⟨rfl, k2⟩
    have K2 := Lib.hid ((K0.out.alloc _).trans k2)
    have r2 := (HB.out.alloc _).keep0 k2
    have b2 := HN.out.keep0 k2
    clear k2 HC HN K0 HB
    obtain ⟨f0, f1, f2, f3⟩ := free4 r2
    obtain ⟨d0, d1, d2, d3⟩ := cells4 r2
    obtain ⟨c0, c1, c2, c3⟩ := cells4 b2
    have R2 := Lib.hid r2
    clear r2 b2
    go_wp2_with fail
    exact ret_hd rfl rfl R2.out K2.out (Nat.le_refl _) rfl rfl fun X hX => ⟨rfl, hX⟩
  · rw [gap_no c]
    rw [errH_no c] at *
    unfold Hd.val Hd.zero at *
    simp only at *
    clear c
    go_enter Tryz.func66, Tryz.ntmps66
    go_wp2_with fail
    refine (HC.out _ (K0.out.alloc _)).mono ?_
    rintro e x2 ⟨rfl, k2⟩
    have K2 := Lib.hid ((K0.out.alloc _).trans k2)
    have r2 := (HB.out.alloc _).keep0 k2
    have b2 := HN.out.keep0 k2
    clear k2 HC HN K0 HB
    obtain ⟨f0, f1, f2, f3⟩ := free4 r2
    obtain ⟨d0, d1, d2, d3⟩ := cells4 r2
    obtain ⟨c0, c1, c2, c3⟩ := cells4 b2
    have R2 := Lib.hid r2
    clear r2 b2
    go_wp2_with fail
    exact ret_hd rfl rfl R2.out K2.out (Nat.le_refl _) rfl rfl fun X hX => ⟨rfl, hX⟩
end
end Go.Proofs.YtfdombfdgpclcaaGreatDoor.Hd

/-
  The contracts of the document's functions: May, Encode, Decode, Gap.
-/
namespace Go.Proofs.YtfdombfdgpclcaaGreatDoor.Hd
open Go.RowKit Go.Proofs.YtfdombfdgpclcaaGreatDoor.Ar
set_option linter.unusedVariables false

section
variable {w : World}
theorem Hd.new' (w : World) (x : Hd) : Has (w.alloc (.cells #[.int .u8 x.tg, .int .i64 x.ty, .int .i64 x.ln, .int .i64 x.sz] 43)) w.heap.size 43 [.int .u8 x.tg, .int .i64 x.ty, .int .i64 x.ln, .int .i64 x.sz] := Has.new w _ _
end
end Go.Proofs.YtfdombfdgpclcaaGreatDoor.Hd

/-
  The contracts of the document's functions: Encode, Decode, Gap.
-/
namespace Go.Proofs.YtfdombfdgpclcaaGreatDoor.Hd
open Go.RowKit Go.Proofs.YtfdombfdgpclcaaGreatDoor.Ar
set_option linter.unusedVariables false

section
variable {w : World}
/-- How a decoded word falls out. -/
theorem dec_case (u : Int) : (decH u = headI u ∧ decE u = 0 ∧ encW (headI u) = u ∧ errH (headI u) = 0) ∨ (decH u = Hd.zero ∧ decE u = 7 ∧ ((errH (headI u) = 2) ∨ (errH (headI u) = 0 ∧ encW (headI u) ≠ u))) := by
  have hiff := @isHead_iff u
  by_cases c : (headI u).can
  · by_cases d : wordI (headI u) = u
    · have e := hiff.2 ⟨c, d⟩
      exact .inl ⟨(dec_yes e).1, (dec_yes e).2, (encW_yes c).trans d, errH_yes c⟩
    · have e : isHead u = false := by
        cases hx : isHead u with
        | false => rfl
        | true => exact absurd (hiff.1 hx).2 d
      exact .inr ⟨(dec_no e).1, (dec_no e).2, .inr ⟨errH_yes c, by rw [encW_yes c]; exact d⟩⟩
  · have e : isHead u = false := by
      cases hx : isHead u with
      | false => rfl
      | true => exact absurd (hiff.1 hx).1 c
    exact .inr ⟨(dec_no e).1, (dec_no e).2, .inl (errH_no c)⟩
end
end Go.Proofs.YtfdombfdgpclcaaGreatDoor.Hd

/-
  Two headers held against each other: == and !=.
-/
namespace Go.Proofs.YtfdombfdgpclcaaGreatDoor.Hd
open Go.RowKit Go.Proofs.YtfdombfdgpclcaaGreatDoor.Ar
set_option linter.unusedVariables false

def eqB (a0 a1 a2 a3 b0 b1 b2 b3 : Int) : Bool := (a0 == b0) && (a1 == b1) && (a2 == b2) && (a3 == b3)
theorem eqB_iff (a b : Hd) : eqB a.tg a.ty a.ln a.sz b.tg b.ty b.ln b.sz = true ↔ a = b := by
  unfold eqB
  simp only [Bool.and_eq_true, beq_iff_eq]
  constructor
  · rintro ⟨⟨⟨h1, h2⟩, h3⟩, h4⟩
    exact Hd.eq h1 h2 h3 h4
  · rintro rfl
    exact ⟨⟨⟨rfl, rfl⟩, rfl⟩, rfl⟩
theorem eqB_dec (a b : Hd) : eqB a.tg a.ty a.ln a.sz b.tg b.ty b.ln b.sz = decide (a = b) := by
  rw [Bool.eq_iff_iff, decide_eq_true_iff]
  exact eqB_iff a b
theorem part_int {P : Program} {t : TypeId} {k : IntKind} (h : P.underlying t = some (.int k)) (xs : Array Value) (off : Nat) {v : Value} (hx : xs[off]? = some v) (y : World) : (part t xs off).run P y = .ok v y := by
  simp [part, isAgg, run_underlying h, hx]
theorem eqF_int {P : Program} {f : Field} {k : IntKind} (h : P.underlying f.type = some (.int k)) (hn : f.name ≠ "_") {xs ys : Array Value} {a b : Int} (hx : xs[f.offset]? = some (.int k a)) (hy : ys[f.offset]? = some (.int k b)) (d : Nat) (fs : List Field) (y : World) :
    (Op.eqFields (d + 1) xs ys (f :: fs)).run P y = if (a == b) = true then (Op.eqFields (d + 1) xs ys fs).run P y else .ok false y := by
  rw [Op.eqFields, if_pos hn]
  simp only [Sem.run_bind, part_int h xs f.offset hx, part_int h ys f.offset hy, Result.andThen_ok, run_equalIn_int y d f.type k k a b h, Sem.run_ite]
  cases hab : a == b <;> simp
theorem eqIn_run (y : World) (a0 a1 a2 a3 b0 b1 b2 b3 : Int) : (Op.equalIn 10000 43 (.agg #[.int .u8 a0, .int .i64 a1, .int .i64 a2, .int .i64 a3]) (.agg #[.int .u8 b0, .int .i64 b1, .int .i64 b2, .int .i64 b3])).run Tryz.prog y = .ok (eqB a0 a1 a2 a3 b0 b1 b2 b3) y := by
  have e5 := Tryz.underlying5
  have e3 := Tryz.underlying3
  have hf : (Tryz.prog.fieldsOf 43).toList = [(Field.mk "Tag" 5 0 false "" "" 0), (Field.mk "Type" 3 1 false "" "" 8), (Field.mk "Len" 3 2 false "" "" 16), (Field.mk "Size" 3 3 false "" "" 24)] := by kernel_rfl
  rw [run_equalIn_struct (d := 9999) (ht := by kernel_rfl) (hp := by kernel_rfl), hf]
  rw [eqF_int (d := 9998) (f := (Field.mk "Tag" 5 0 false "" "" 0)) e5 (by decide) (a := a0) (b := b0) rfl rfl, eqF_int (d := 9998) (f := (Field.mk "Type" 3 1 false "" "" 8)) e3 (by decide) (a := a1) (b := b1) rfl rfl,
    eqF_int (d := 9998) (f := (Field.mk "Len" 3 2 false "" "" 16)) e3 (by decide) (a := a2) (b := b2) rfl rfl, eqF_int (d := 9998) (f := (Field.mk "Size" 3 3 false "" "" 24)) e3 (by decide) (a := a3) (b := b3) rfl rfl]
  rw [Op.eqFields]
  unfold eqB
  cases a0 == b0 <;> cases a1 == b1 <;> cases a2 == b2 <;> cases a3 == b3 <;> rfl
theorem run_same (y : World) (a0 a1 a2 a3 b0 b1 b2 b3 : Int) : (binOp .eql 43 (.agg #[.int .u8 a0, .int .i64 a1, .int .i64 a2, .int .i64 a3]) (.agg #[.int .u8 b0, .int .i64 b1, .int .i64 b2, .int .i64 b3])).run Tryz.prog y = .ok (.bool (eqB a0 a1 a2 a3 b0 b1 b2 b3)) y := by
  rw [run_eql_struct, eqIn_run]
  rfl
theorem run_other (y : World) (a0 a1 a2 a3 b0 b1 b2 b3 : Int) : (binOp .neq 43 (.agg #[.int .u8 a0, .int .i64 a1, .int .i64 a2, .int .i64 a3]) (.agg #[.int .u8 b0, .int .i64 b1, .int .i64 b2, .int .i64 b3])).run Tryz.prog y = .ok (.bool (!eqB a0 a1 a2 a3 b0 b1 b2 b3)) y := by
  rw [run_neq_struct, eqIn_run]
  rfl
theorem no_guard : Tryz.prog.eqGuardType Tryz.prog.depth 43 = false := by kernel_rfl
end Go.Proofs.YtfdombfdgpclcaaGreatDoor.Hd
