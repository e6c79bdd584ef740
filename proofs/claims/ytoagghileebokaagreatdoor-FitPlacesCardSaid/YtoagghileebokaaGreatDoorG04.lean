/-
  Several texts in one: HdMath, HdMem, HdOps, HdCut.
-/
import Derived.RowKit
import Derived.Laws.Bits128
import Derived.Laws.Bits64b
import Derived.Test.YtoagghileebokaaGreatDoorG06
import Derived.OpenShut
import Derived.Deep.RegionWith
/-
  Headers as plain numbers: which may be, the word of one, the header of a word; and bits joined and cut.
-/
namespace Go.Proofs.YtoagghileebokaaGreatDoor.Hd
open Go.RowKit
set_option linter.unusedVariables false

/-- A header: tag, type, length, size. -/
structure Hd where
  tg : Int
  ty : Int
  ln : Int
  sz : Int
theorem Hd.eq {a b : Hd} (h1 : a.tg = b.tg) (h2 : a.ty = b.ty) (h3 : a.ln = b.ln) (h4 : a.sz = b.sz) : a = b := by
  cases a; cases b; subst h1; subst h2; subst h3; subst h4; rfl
theorem Hd.eq_iff (a b : Hd) : (a.tg = b.tg ∧ a.ty = b.ty ∧ a.ln = b.ln ∧ a.sz = b.sz) ↔ a = b :=
  ⟨fun h => Hd.eq h.1 h.2.1 h.2.2.1 h.2.2.2, fun h => by subst h; exact ⟨rfl, rfl, rfl, rfl⟩⟩
instance : DecidableEq Hd := fun a b => decidable_of_decidable_of_iff (Hd.eq_iff a b)
def Hd.zero : Hd := ⟨0, 0, 0, 0⟩
def Hd.cells (h : Hd) : List Value := [.int .u8 h.tg, .int .i64 h.ty, .int .i64 h.ln, .int .i64 h.sz]
def Hd.val (h : Hd) : Value := .agg #[.int .u8 h.tg, .int .i64 h.ty, .int .i64 h.ln, .int .i64 h.sz]
/-- The numbers are a byte's and three ints'. -/
structure Hd.ok (h : Hd) : Prop where
  g0 : 0 ≤ h.tg
  g1 : h.tg ≤ 255
  t0 : -9223372036854775808 ≤ h.ty
  t1 : h.ty ≤ 9223372036854775807
  l0 : -9223372036854775808 ≤ h.ln
  l1 : h.ln ≤ 9223372036854775807
  s0 : -9223372036854775808 ≤ h.sz
  s1 : h.sz ≤ 9223372036854775807
theorem Hd.zero_ok : Hd.zero.ok := by constructor <;> decide
/-- Each number has room in its field. -/
def Hd.room (h : Hd) : Prop := 0 ≤ h.ty ∧ h.ty ≤ 4095 ∧ 0 ≤ h.ln ∧ h.ln ≤ 16777215 ∧ 0 ≤ h.sz ∧ h.sz ≤ 16777215
instance (h : Hd) : Decidable h.room := by unfold Hd.room; infer_instance
/-- It is valid. -/
def Hd.can (h : Hd) : Prop := (1 ≤ h.sz ∧ h.sz ≤ 16777215 ∧ 0 ≤ h.ln ∧ h.ln ≤ 16777215) ∧ ((h.tg = 1 ∧ 1 ≤ h.ty ∧ h.ty ≤ 4095) ∨ ((h.tg = 2 ∨ h.tg = 3) ∧ h.ty = 0 ∧ h.ln = 0))
instance (h : Hd) : Decidable h.can := by unfold Hd.can; infer_instance
def wordI (h : Hd) : Int := h.tg + 4 * h.ty + 65536 * h.ln + 1099511627776 * h.sz
def headI (w : Int) : Hd := ⟨w % 4, w / 4 % 4096, w / 65536 % 16777216, w / 1099511627776⟩
def errH (h : Hd) : Int := if h.can then 0 else 2
def encW (h : Hd) : Int := if h.can then wordI h else 0
def isHead (w : Int) : Bool := decide ((headI w).can ∧ wordI (headI w) = w)
def decH (w : Int) : Hd := if isHead w then headI w else Hd.zero
def decE (w : Int) : Int := if isHead w then 0 else 7
theorem word_range {h : Hd} (c : h.can) : 0 ≤ wordI h ∧ wordI h ≤ 18446744073709551615 := by
  unfold Hd.can at c; unfold wordI; omega
theorem head_word {h : Hd} (c : h.can) : headI (wordI h) = h := by
  unfold Hd.can at c
  have e1 : (headI (wordI h)).tg = h.tg := by simp only [headI, wordI]; omega
  have e2 : (headI (wordI h)).ty = h.ty := by simp only [headI, wordI]; omega
  have e3 : (headI (wordI h)).ln = h.ln := by simp only [headI, wordI]; omega
  have e4 : (headI (wordI h)).sz = h.sz := by simp only [headI, wordI]; omega
  exact Hd.eq e1 e2 e3 e4
theorem head_ok {w : Int} (h0 : 0 ≤ w) (h1 : w ≤ 18446744073709551615) : (headI w).ok := by
  constructor <;> (simp only [headI]; omega)
/-- What was encoded is decoded. -/
theorem isHead_word {h : Hd} (c : h.can) : isHead (wordI h) = true := by
  unfold isHead; rw [head_word c]; exact decide_eq_true ⟨c, rfl⟩
theorem errH_yes {h : Hd} (c : h.can) : errH h = 0 := if_pos c
theorem errH_no {h : Hd} (c : ¬ h.can) : errH h = 2 := if_neg c
theorem encW_yes {h : Hd} (c : h.can) : encW h = wordI h := if_pos c
theorem encW_no {h : Hd} (c : ¬ h.can) : encW h = 0 := if_neg c
theorem dec_yes {w : Int} (h : isHead w = true) : decH w = headI w ∧ decE w = 0 := by simp [decH, decE, h]
theorem dec_no {w : Int} (h : isHead w = false) : decH w = Hd.zero ∧ decE w = 7 := by simp [decH, decE, h]
theorem isHead_iff {w : Int} : isHead w = true ↔ (headI w).can ∧ wordI (headI w) = w := by
  unfold isHead; exact decide_eq_true_iff
/-! ### Bits joined, bits cut -/
theorem or_lay (u v : Nat) (k : Nat) (hu : u < 2 ^ k) : u ||| 2 ^ k * v = 2 ^ k * v + u := by
  rw [Nat.or_comm, ← Nat.two_pow_add_eq_or_of_lt hu]
theorem lay_bits (u v : Nat) (k : Nat) (hu : u < 2 ^ k) (h : 2 ^ k * v + u < 18446744073709551616) (hk : 2 ^ k ≤ 18446744073709551616) : bits .or .u64 (u : Int) ((2 ^ k * v : Nat) : Int) = ((2 ^ k * v + u : Nat) : Int) := by
  rw [bits_or_u64_nat u (2 ^ k * v) (by omega) (by omega), or_lay u v k hu]
theorem lay2 (u v : Int) (hu0 : 0 ≤ u) (hu : u < 4) (hv0 : 0 ≤ v) (hv : v < 4611686018427387904) : bits .or .u64 u (v * 4) = u + 4 * v := by
  have h := lay_bits u.toNat v.toNat 2 (by omega) (by omega) (by decide)
  have e1 : ((u.toNat : Nat) : Int) = u := by omega
  have e2 : ((2 ^ 2 * v.toNat : Nat) : Int) = v * 4 := by omega
  have e3 : ((2 ^ 2 * v.toNat + u.toNat : Nat) : Int) = u + 4 * v := by omega
  rw [e1, e2, e3] at h
  exact h
theorem lay16 (u v : Int) (hu0 : 0 ≤ u) (hu : u < 65536) (hv0 : 0 ≤ v) (hv : v < 281474976710656) : bits .or .u64 u (v * 65536) = u + 65536 * v := by
  have h := lay_bits u.toNat v.toNat 16 (by omega) (by omega) (by decide)
  have e1 : ((u.toNat : Nat) : Int) = u := by omega
  have e2 : ((2 ^ 16 * v.toNat : Nat) : Int) = v * 65536 := by omega
  have e3 : ((2 ^ 16 * v.toNat + u.toNat : Nat) : Int) = u + 65536 * v := by omega
  rw [e1, e2, e3] at h
  exact h
theorem lay40 (u v : Int) (hu0 : 0 ≤ u) (hu : u < 1099511627776) (hv0 : 0 ≤ v) (hv : v < 16777216) : bits .or .u64 u (v * 1099511627776) = u + 1099511627776 * v := by
  have h := lay_bits u.toNat v.toNat 40 (by omega) (by omega) (by decide)
  have e1 : ((u.toNat : Nat) : Int) = u := by omega
  have e2 : ((2 ^ 40 * v.toNat : Nat) : Int) = v * 1099511627776 := by omega
  have e3 : ((2 ^ 40 * v.toNat + u.toNat : Nat) : Int) = u + 1099511627776 * v := by omega
  rw [e1, e2, e3] at h
  exact h
theorem lay0 (v : Int) (hv0 : 0 ≤ v) (hv : v < 18446744073709551616) : bits .or .u64 0 v = v := by
  have h := lay_bits 0 v.toNat 0 (by omega) (by omega) (by decide)
  have e2 : ((2 ^ 0 * v.toNat : Nat) : Int) = v := by omega
  have e3 : ((2 ^ 0 * v.toNat + 0 : Nat) : Int) = v := by omega
  rw [e2, e3] at h
  exact h
theorem and_mask (n m : Int) (k : Nat) (hk : k < 63) (hm : (BitVec.ofInt 64 m).toNat = 2 ^ k - 1) (hd : ((2 ^ k : Nat) : Int) ∣ 18446744073709551616) : bits .and .i64 n m = n % ((2 ^ k : Nat) : Int) := by
  have key : (BitVec.ofInt 64 n &&& BitVec.ofInt 64 m).toNat = (n % ((2 ^ 64 : Nat) : Int)).toNat % 2 ^ k := by
    rw [BitVec.toNat_and, BitVec.toNat_ofInt, hm, Nat.and_two_pow_sub_one_eq_mod]
  show IntKind.i64.wrap ((BitVec.ofInt 64 n &&& BitVec.ofInt 64 m).toNat : Nat) = _
  have hp : 2 ^ k < 2 ^ 63 := Nat.pow_lt_pow_right (by decide) hk
  have hlt : (n % ((2 ^ 64 : Nat) : Int)).toNat % 2 ^ k < 2 ^ k := Nat.mod_lt _ (Nat.two_pow_pos k)
  have e : (((n % ((2 ^ 64 : Nat) : Int)).toNat % 2 ^ k : Nat) : Int) = n % ((2 ^ k : Nat) : Int) := by
    rw [Int.natCast_emod, Int.toNat_of_nonneg (by omega)]
    exact Int.emod_emod_of_dvd n (by simpa using hd)
  rw [key, IntKind.wrap_i64, ← e]
  omega
theorem and3 (n : Int) : bits .and .i64 n 3 = n % 4 := and_mask n 3 2 (by decide) (by decide) (by decide)
theorem and4095 (n : Int) : bits .and .i64 n 4095 = n % 4096 := and_mask n 4095 12 (by decide) (by decide) (by decide)
theorem and24 (n : Int) : bits .and .i64 n 16777215 = n % 16777216 := and_mask n 16777215 24 (by decide) (by decide) (by decide)
end Go.Proofs.YtoagghileebokaaGreatDoor.Hd

/-
  The constant table of the fields, as a world has it; headers in memory.
-/
namespace Go.Proofs.YtoagghileebokaaGreatDoor.Hd
open Go.RowKit Go.Proofs.YtoagghileebokaaGreatDoor.Ar
set_option linter.unusedVariables false

def fieldCells : Array Value := #[.int .i64 0, .int .i64 2, .int .i64 2, .int .i64 12, .int .i64 16, .int .i64 24, .int .i64 40, .int .i64 24]
/-- The table of the fields stands. -/
def Fields (w : World) : Prop := ∃ t fr, w.heap[0]? = some (.cells fieldCells t fr)
theorem Fields.lt {w : World} (h : Fields w) : 0 < w.heap.size := by
  obtain ⟨t, fr, e⟩ := h
  rcases Nat.lt_or_ge 0 w.heap.size with hlt | hge
  · exact hlt
  · rw [Array.getElem?_eq_none hge] at e
    cases e
theorem Fields.kept {S : List Nat} {w w' : World} (h : Fields w) (k : Kept S w w') (hS : ∀ i ∈ S, i ≠ 0) : Fields w' := by
  have := k.old _ h.lt fun hs => hS _ hs rfl
  obtain ⟨t, fr, e⟩ := h
  exact ⟨t, fr, this.trans e⟩
theorem Fields.keep0 {w w' : World} (h : Fields w) (k : Kept [] w w') : Fields w' := h.kept k (by simp)
theorem Fields.cell {w : World} (h : Fields w) (i : Nat) : w.cell? ⟨0, i, none⟩ = fieldCells[i]? := by
  obtain ⟨t, fr, e⟩ := h
  exact cell_of_row w _ i _ t fr e
theorem Fields.cells {w : World} (h : Fields w) : w.cell? ⟨0, 0, none⟩ = some (.int .i64 0) ∧ w.cell? ⟨0, 1, none⟩ = some (.int .i64 2) ∧ w.cell? ⟨0, 2, none⟩ = some (.int .i64 2) ∧ w.cell? ⟨0, 3, none⟩ = some (.int .i64 12)
    ∧ w.cell? ⟨0, 4, none⟩ = some (.int .i64 16) ∧ w.cell? ⟨0, 5, none⟩ = some (.int .i64 24) ∧ w.cell? ⟨0, 6, none⟩ = some (.int .i64 40) ∧ w.cell? ⟨0, 7, none⟩ = some (.int .i64 24) :=
  ⟨h.cell 0, h.cell 1, h.cell 2, h.cell 3, h.cell 4, h.cell 5, h.cell 6, h.cell 7⟩
end Go.Proofs.YtoagghileebokaaGreatDoor.Hd

/-
  The contracts of the functions on a header's numbers: greatest, within, hasRoom, valid, Check.
-/
namespace Go.Proofs.YtoagghileebokaaGreatDoor.Hd
open Go.RowKit Go.Proofs.YtoagghileebokaaGreatDoor.Ar
set_option linter.unusedVariables false

section
variable {w : World}
set_option maxRecDepth 100000 in
theorem greatest0 (h : Fields w) : Calls Tryz.prog 166 #[.int .i64 0] w fun e w' => e = .returned (.int .i64 3) ∧ w = w' := by
  obtain ⟨c0, c1, c2, c3, c4, c5, c6, c7⟩ := h.cells
  clear h
  go_enter Tryz.func166, Tryz.ntmps166
  go_wp2_with fail
  go_ret
  exact ⟨rfl, rfl⟩
set_option maxRecDepth 100000 in
theorem greatest1 (h : Fields w) : Calls Tryz.prog 166 #[.int .i64 1] w fun e w' => e = .returned (.int .i64 4095) ∧ w = w' := by
  obtain ⟨c0, c1, c2, c3, c4, c5, c6, c7⟩ := h.cells
  clear h
  go_enter Tryz.func166, Tryz.ntmps166
  go_wp2_with fail
  go_ret
  exact ⟨rfl, rfl⟩
set_option maxRecDepth 100000 in
theorem greatest2 (h : Fields w) : Calls Tryz.prog 166 #[.int .i64 2] w fun e w' => e = .returned (.int .i64 16777215) ∧ w = w' := by
  obtain ⟨c0, c1, c2, c3, c4, c5, c6, c7⟩ := h.cells
  clear h
  go_enter Tryz.func166, Tryz.ntmps166
  go_wp2_with fail
  go_ret
  exact ⟨rfl, rfl⟩
set_option maxRecDepth 100000 in
theorem greatest3 (h : Fields w) : Calls Tryz.prog 166 #[.int .i64 3] w fun e w' => e = .returned (.int .i64 16777215) ∧ w = w' := by
  obtain ⟨c0, c1, c2, c3, c4, c5, c6, c7⟩ := h.cells
  clear h
  go_enter Tryz.func166, Tryz.ntmps166
  go_wp2_with fail
  go_ret
  exact ⟨rfl, rfl⟩
theorem within_of (k m : Int) (hm0 : 0 ≤ m) (hm1 : m ≤ 16777215) (h : Calls Tryz.prog 166 #[.int .i64 k] w fun e w' => e = .returned (.int .i64 m) ∧ w = w') (v : Int) (h0 : -9223372036854775808 ≤ v) (h1 : v ≤ 9223372036854775807) :
    Calls Tryz.prog 168 #[.int .i64 k, .int .i64 v] w fun e w' => e = .returned (.bool (decide (0 ≤ v ∧ v ≤ m))) ∧ Kept [] w w' := by
  have H := Lib.hid h
  clear h
  by_cases hv : v < 0
  · have e : decide (0 ≤ v ∧ v ≤ m) = false := decide_eq_false (by omega)
    rw [e]; clear e H
    go_enter Tryz.func168, Tryz.ntmps168
    go_wp2_with fail
    go_ret
    exact ⟨rfl, Kept.refl [] w⟩
  · by_cases hw : v ≤ m
    · have e : decide (0 ≤ v ∧ v ≤ m) = true := decide_eq_true (by omega)
      rw [e]; clear e
      go_enter Tryz.func168, Tryz.ntmps168
      go_wp2_with fail
      refine H.out.mono ?_
      rintro e w1 ⟨rfl, rfl⟩
      go_wp2_with fail
      go_ret
      exact ⟨rfl, Kept.refl [] w⟩
    · have e : decide (0 ≤ v ∧ v ≤ m) = false := decide_eq_false (by omega)
      rw [e]; clear e
      go_enter Tryz.func168, Tryz.ntmps168
      go_wp2_with fail
      refine H.out.mono ?_
      rintro e w1 ⟨rfl, rfl⟩
      go_wp2_with fail
      go_ret
      exact ⟨ret_bool (decide_eq_false (by omega)), Kept.refl [] w⟩
theorem within1 (h : Fields w) (v : Int) (h0 : -9223372036854775808 ≤ v) (h1 : v ≤ 9223372036854775807) :
    Calls Tryz.prog 168 #[.int .i64 1, .int .i64 v] w fun e w' => e = .returned (.bool (decide (0 ≤ v ∧ v ≤ 4095))) ∧ Kept [] w w' := within_of 1 4095 (by decide) (by decide) (greatest1 h) v h0 h1
theorem within2 (h : Fields w) (v : Int) (h0 : -9223372036854775808 ≤ v) (h1 : v ≤ 9223372036854775807) :
    Calls Tryz.prog 168 #[.int .i64 2, .int .i64 v] w fun e w' => e = .returned (.bool (decide (0 ≤ v ∧ v ≤ 16777215))) ∧ Kept [] w w' := within_of 2 16777215 (by decide) (by decide) (greatest2 h) v h0 h1
theorem within3 (h : Fields w) (v : Int) (h0 : -9223372036854775808 ≤ v) (h1 : v ≤ 9223372036854775807) :
    Calls Tryz.prog 168 #[.int .i64 3, .int .i64 v] w fun e w' => e = .returned (.bool (decide (0 ≤ v ∧ v ≤ 16777215))) ∧ Kept [] w w' := within_of 3 16777215 (by decide) (by decide) (greatest3 h) v h0 h1
/-- A header lies in memory: its cells. -/
theorem cells4 {w : World} {b : Nat} {t : TypeId} {v0 v1 v2 v3 : Value} (h : Has w b t [v0, v1, v2, v3]) : w.cell? ⟨b, 0, none⟩ = some v0 ∧ w.cell? ⟨b, 1, none⟩ = some v1 ∧ w.cell? ⟨b, 2, none⟩ = some v2 ∧ w.cell? ⟨b, 3, none⟩ = some v3 :=
  ⟨h.cell 0, h.cell 1, h.cell 2, h.cell 3⟩
set_option maxRecDepth 100000 in
theorem room_ok (h : Fields w) (x : Hd) (ok : x.ok) : Calls Tryz.prog 164 #[x.val] w fun e w' => e = .returned (.bool (decide x.room)) ∧ Kept [] w w' := by
  have hb := Has.new w 49 x.cells
  have hk : Kept [] w (w.alloc (.cells x.cells.toArray 49)) := (Kept.refl [] w).alloc _
  have HF := Lib.hid h
  have H1 := Lib.hid (fun y (k : Kept [] w y) => within1 (h.keep0 k) x.ty ok.t0 ok.t1)
  have H2 := Lib.hid (fun y (k : Kept [] w y) => within2 (h.keep0 k) x.ln ok.l0 ok.l1)
  have H3 := Lib.hid (fun y (k : Kept [] w y) => within3 (h.keep0 k) x.sz ok.s0 ok.s1)
  have he : decide x.room = (decide (0 ≤ x.ty ∧ x.ty ≤ 4095) && decide (0 ≤ x.ln ∧ x.ln ≤ 16777215) && decide (0 ≤ x.sz ∧ x.sz ≤ 16777215)) := by
    rw [Bool.eq_iff_iff]; simp only [decide_eq_true_eq, Bool.and_eq_true]; unfold Hd.room; omega
  rw [he]
  clear he h ok
  generalize decide (0 ≤ x.ty ∧ x.ty ≤ 4095) = b1 at *
  generalize decide (0 ≤ x.ln ∧ x.ln ≤ 16777215) = b2 at *
  generalize decide (0 ≤ x.sz ∧ x.sz ≤ 16777215) = b3 at *
  unfold Hd.cells at *
  unfold Hd.val
  generalize x.tg = g at *
  generalize x.ty = t at *
  generalize x.ln = n at *
  generalize x.sz = s at *
  have HB := Lib.hid hb
  have HK := Lib.hid hk
  clear hb hk
  clear HF
  cases b1 with
  | false =>
    go_enter Tryz.func164, Tryz.ntmps164
    go_wp2_with fail
    refine (H1.out _ HK.out).mono ?_
    rintro e w1 ⟨rfl, k1⟩
    have K1 := Lib.hid (HK.out.trans k1)
    clear k1 H1 H2 H3 HB HK
    go_wp2_with fail
    go_ret
    exact ⟨rfl, K1.out⟩
  | true =>
    go_enter Tryz.func164, Tryz.ntmps164
    go_wp2_with fail
    refine (H1.out _ HK.out).mono ?_
    rintro e w1 ⟨rfl, k1⟩
    obtain ⟨c0, c1, c2, c3⟩ := cells4 (HB.out.keep0 k1)
    have HB1 := Lib.hid (HB.out.keep0 k1)
    have K1 := Lib.hid (HK.out.trans k1)
    clear k1 H1 HB HK
    cases b2 with
    | false =>
      go_wp2_with fail
      refine (H2.out _ K1.out).mono ?_
      rintro e w2 ⟨rfl, k2⟩
      have K2 := Lib.hid (K1.out.trans k2)
      clear k2 H2 H3 HB1 K1 c0 c1 c2 c3
      go_wp2_with fail
      go_ret
      exact ⟨rfl, K2.out⟩
    | true =>
      go_wp2_with fail
      refine (H2.out _ K1.out).mono ?_
      rintro e w2 ⟨rfl, k2⟩
      clear c0 c1 c2 c3
      obtain ⟨c0, c1, c2, c3⟩ := cells4 (HB1.out.keep0 k2)
      have K2 := Lib.hid (K1.out.trans k2)
      clear k2 H2 HB1 K1
      go_wp2_with fail
      refine (H3.out _ K2.out).mono ?_
      rintro e w3 ⟨rfl, k3⟩
      have K3 := Lib.hid (K2.out.trans k3)
      clear k3 H3 K2 c0 c1 c2 c3
      go_wp2_with fail
      go_ret
      exact ⟨rfl, K3.out⟩
/-- Is it valid, of one that has room? -/
theorem can_of_room (x : Hd) : decide x.can = (decide x.room && !decide (x.sz < 1) && ((decide (x.tg = 1) && decide (1 ≤ x.ty)) || ((decide (x.tg = 2) || decide (x.tg = 3)) && decide (x.ty = 0) && decide (x.ln = 0)))) := by
  rw [Bool.eq_iff_iff]
  simp only [decide_eq_true_eq, Bool.and_eq_true, Bool.or_eq_true, Bool.not_eq_true', decide_eq_false_iff_not]
  unfold Hd.can Hd.room
  omega
set_option maxRecDepth 100000 in
theorem valid_ok (h : Fields w) (x : Hd) (ok : x.ok) : Calls Tryz.prog 152 #[x.val] w fun e w' => e = .returned (.bool (decide x.can)) ∧ Kept [] w w' := by
  have hb := Has.new w 49 x.cells
  have hk : Kept [] w (w.alloc (.cells x.cells.toArray 49)) := (Kept.refl [] w).alloc _
  have H1 := Lib.hid (fun y (k : Kept [] w y) => room_ok (h.keep0 k) x ok)
  have hc := can_of_room x
  clear h
  generalize decide x.room = b at *
  generalize decide x.can = r at *
  have ok' := ok
  obtain ⟨g0, g1, t0, t1, l0, l1, s0, s1⟩ := ok'
  clear ok
  unfold Hd.cells at *
  unfold Hd.val at *
  generalize x.tg = g at *
  generalize x.ty = t at *
  generalize x.ln = n at *
  generalize x.sz = s at *
  have HB := Lib.hid hb
  have HK := Lib.hid hk
  have HC := Lib.hid hc
  clear hb hk hc
  cases b with
  | false =>
    have hr := HC.out
    simp only [Bool.false_and] at hr
    subst hr
    go_enter Tryz.func152, Tryz.ntmps152
    go_wp2_with fail
    refine (H1.out _ HK.out).mono ?_
    rintro e w1 ⟨rfl, k1⟩
    have K1 := Lib.hid (HK.out.trans k1)
    clear k1 H1 HB HK
    go_wp2_with fail
    go_ret
    exact ⟨rfl, K1.out⟩
  | true =>
    go_enter Tryz.func152, Tryz.ntmps152
    go_wp2_with fail
    refine (H1.out _ HK.out).mono ?_
    rintro e w1 ⟨rfl, k1⟩
    obtain ⟨c0, c1, c2, c3⟩ := cells4 (HB.out.keep0 k1)
    have K1 := Lib.hid (HK.out.trans k1)
    clear k1 H1 HB HK
    by_cases hs : s < 1
    · have hr := HC.out
      have e1 : decide (s < 1) = true := decide_eq_true hs
      rw [e1] at hr
      simp only [Bool.not_true, Bool.and_false, Bool.false_and] at hr
      subst hr
      clear HC e1
      go_wp2_with fail
      go_ret
      exact ⟨rfl, K1.out⟩
    · have e1 : decide (s < 1) = false := decide_eq_false hs
      have hr := HC.out
      rw [e1] at hr
      simp only [Bool.not_false, Bool.true_and] at hr
      clear HC e1
      by_cases hg1 : g = 1
      · subst hg1
        have e2 : r = decide (1 ≤ t) := by rw [hr]; simp
        subst e2
        clear hr
        go_wp2_with fail
        go_ret
        exact ⟨rfl, K1.out⟩
      · by_cases hg2 : g = 2
        · subst hg2
          by_cases ht : t = 0
          · subst ht
            have e2 : r = decide (n = 0) := by rw [hr]; simp
            subst e2
            clear hr
            go_wp2_with fail
            go_ret
            exact ⟨ret_bool (by first | rfl | simp), K1.out⟩
          · have e2 : r = false := by rw [hr]; simp [ht]
            subst e2
            clear hr
            go_wp2_with fail
            go_ret
            exact ⟨ret_bool (by first | rfl | simp), K1.out⟩
        · by_cases hg3 : g = 3
          · subst hg3
            by_cases ht : t = 0
            · subst ht
              have e2 : r = decide (n = 0) := by rw [hr]; simp
              subst e2
              clear hr
              go_wp2_with fail
              go_ret
              exact ⟨ret_bool (by first | rfl | simp), K1.out⟩
            · have e2 : r = false := by rw [hr]; simp [ht]
              subst e2
              clear hr
              go_wp2_with fail
              go_ret
              exact ⟨ret_bool (by first | rfl | simp), K1.out⟩
          · have e2 : r = false := by rw [hr]; simp [hg1, hg2, hg3]
            subst e2
            clear hr
            go_wp2_with fail
            go_ret
            exact ⟨rfl, K1.out⟩
/-- The error of a header. -/
theorem errH_of (x : Hd) : errH x = if decide x.can then 0 else 2 := by unfold errH; simp
set_option maxRecDepth 100000 in
theorem check_ok (h : Fields w) (x : Hd) (ok : x.ok) : Calls Tryz.prog 120 #[x.val] w fun e w' => e = .returned (.int .i64 (errH x)) ∧ Kept [] w w' := by
  have hk : Kept [] w (w.alloc (.cells x.cells.toArray 49)) := (Kept.refl [] w).alloc _
  have H1 := Lib.hid (fun y (k : Kept [] w y) => valid_ok (h.keep0 k) x ok)
  rw [errH_of]
  clear h ok
  generalize decide x.can = b at *
  unfold Hd.cells at *
  unfold Hd.val at *
  generalize x.tg = g at *
  generalize x.ty = t at *
  generalize x.ln = n at *
  generalize x.sz = s at *
  have HK := Lib.hid hk
  clear hk
  cases b with
  | false =>
    go_enter Tryz.func120, Tryz.ntmps120
    go_wp2_with fail
    refine (H1.out _ HK.out).mono ?_
    rintro e w1 ⟨rfl, k1⟩
    have K1 := Lib.hid (HK.out.trans k1)
    clear k1 H1 HK
    go_wp2_with fail
    go_ret
    exact ⟨rfl, K1.out⟩
  | true =>
    go_enter Tryz.func120, Tryz.ntmps120
    go_wp2_with fail
    refine (H1.out _ HK.out).mono ?_
    rintro e w1 ⟨rfl, k1⟩
    have K1 := Lib.hid (HK.out.trans k1)
    clear k1 H1 HK
    go_wp2_with fail
    go_ret
    exact ⟨rfl, K1.out⟩
end
end Go.Proofs.YtoagghileebokaaGreatDoor.Hd

/-
  The contracts of headOf and of its closure.
-/
namespace Go.Proofs.YtoagghileebokaaGreatDoor.Hd
open Go.RowKit Go.Proofs.YtoagghileebokaaGreatDoor.Ar
set_option linter.unusedVariables false

theorem wrap_mod (z : Int) (m : Int) (h : 18446744073709551616 % m = 0) (hm : 9223372036854775808 % m = 0) : IntKind.i64.wrap z % m = z % m := by
  rw [IntKind.wrap_i64]
  have h1 : (m : Int) ∣ 18446744073709551616 := Int.dvd_of_emod_eq_zero h
  have h2 : (m : Int) ∣ 9223372036854775808 := Int.dvd_of_emod_eq_zero hm
  rw [Int.sub_emod, Int.emod_emod_of_dvd _ h1, Int.emod_eq_zero_of_dvd h2, Int.sub_zero, Int.emod_emod, Int.add_emod, Int.emod_eq_zero_of_dvd h2, Int.add_zero, Int.emod_emod]
section
variable {w : World}
set_option maxRecDepth 100000 in
set_option maxHeartbeats 1000000 in
theorem cut_0 (h : Fields w) {B : Nat} {u : Int} (hB : Has w B 55 [.int .u64 u]) (hu0 : 0 ≤ u) (hu : u ≤ 18446744073709551615) :
    Calls Tryz.prog 165 #[.int .i64 0, .pointer (some ⟨B, 0, none⟩)] w fun e w' => e = .returned (.int .i64 (u % 4)) ∧ Kept [] w w' := by
  obtain ⟨c0, c1, c2, c3, c4, c5, c6, c7⟩ := h.cells
  have d0 := hB.cell 0
  simp only [List.getElem?_cons_zero] at d0
  have HG := Lib.hid (fun y (e : y.heap = w.heap) => greatest0 (w := y) (by unfold Fields at *; rw [e]; exact h))
  have HL : Hid (bits .and .i64 (IntKind.i64.wrap (u)) 3 = u % 4) := Lib.hid (by rw [and3, wrap_mod _ _ (by decide) (by decide)])
  have HM : Hid (bits .and .i64 (u) 3 = u % 4) := Lib.hid (by rw [and3])
  clear hB h
  go_enter Tryz.func165, Tryz.ntmps165
  go_wp2_with fail
  go_region_with ((refine (HG.out _ (by rfl)).mono ?_; rintro e w1 ⟨rfl, rfl⟩))
  all_goals first | rw [HL.out] | rw [HM.out]
  all_goals go_wp2_with fail
  all_goals go_ret
  all_goals exact ⟨rfl, by first | exact Kept.refl [] w | exact (Kept.refl [] w).drew⟩
set_option maxRecDepth 100000 in
set_option maxHeartbeats 1000000 in
theorem cut_1 (h : Fields w) {B : Nat} {u : Int} (hB : Has w B 55 [.int .u64 u]) (hu0 : 0 ≤ u) (hu : u ≤ 18446744073709551615) :
    Calls Tryz.prog 165 #[.int .i64 1, .pointer (some ⟨B, 0, none⟩)] w fun e w' => e = .returned (.int .i64 (u / 4 % 4096)) ∧ Kept [] w w' := by
  obtain ⟨c0, c1, c2, c3, c4, c5, c6, c7⟩ := h.cells
  have d0 := hB.cell 0
  simp only [List.getElem?_cons_zero] at d0
  have HG := Lib.hid (fun y (e : y.heap = w.heap) => greatest1 (w := y) (by unfold Fields at *; rw [e]; exact h))
  have HL : Hid (bits .and .i64 (IntKind.i64.wrap (u / 4)) 4095 = u / 4 % 4096) := Lib.hid (by rw [and4095, wrap_mod _ _ (by decide) (by decide)])
  have HM : Hid (bits .and .i64 (u / 4) 4095 = u / 4 % 4096) := Lib.hid (by rw [and4095])
  clear hB h
  go_enter Tryz.func165, Tryz.ntmps165
  go_wp2_with fail
  go_region_with ((refine (HG.out _ (by rfl)).mono ?_; rintro e w1 ⟨rfl, rfl⟩))
  all_goals first | rw [HL.out] | rw [HM.out]
  all_goals go_wp2_with fail
  all_goals go_ret
  all_goals exact ⟨rfl, by first | exact Kept.refl [] w | exact (Kept.refl [] w).drew⟩
set_option maxRecDepth 100000 in
set_option maxHeartbeats 1000000 in
theorem cut_2 (h : Fields w) {B : Nat} {u : Int} (hB : Has w B 55 [.int .u64 u]) (hu0 : 0 ≤ u) (hu : u ≤ 18446744073709551615) :
    Calls Tryz.prog 165 #[.int .i64 2, .pointer (some ⟨B, 0, none⟩)] w fun e w' => e = .returned (.int .i64 (u / 65536 % 16777216)) ∧ Kept [] w w' := by
  obtain ⟨c0, c1, c2, c3, c4, c5, c6, c7⟩ := h.cells
  have d0 := hB.cell 0
  simp only [List.getElem?_cons_zero] at d0
  have HG := Lib.hid (fun y (e : y.heap = w.heap) => greatest2 (w := y) (by unfold Fields at *; rw [e]; exact h))
  have HL : Hid (bits .and .i64 (IntKind.i64.wrap (u / 65536)) 16777215 = u / 65536 % 16777216) := Lib.hid (by rw [and24, wrap_mod _ _ (by decide) (by decide)])
  have HM : Hid (bits .and .i64 (u / 65536) 16777215 = u / 65536 % 16777216) := Lib.hid (by rw [and24])
  clear hB h
  go_enter Tryz.func165, Tryz.ntmps165
  go_wp2_with fail
  go_region_with ((refine (HG.out _ (by rfl)).mono ?_; rintro e w1 ⟨rfl, rfl⟩))
  all_goals first | rw [HL.out] | rw [HM.out]
  all_goals go_wp2_with fail
  all_goals go_ret
  all_goals exact ⟨rfl, by first | exact Kept.refl [] w | exact (Kept.refl [] w).drew⟩
set_option maxRecDepth 100000 in
set_option maxHeartbeats 1000000 in
theorem cut_3 (h : Fields w) {B : Nat} {u : Int} (hB : Has w B 55 [.int .u64 u]) (hu0 : 0 ≤ u) (hu : u ≤ 18446744073709551615) :
    Calls Tryz.prog 165 #[.int .i64 3, .pointer (some ⟨B, 0, none⟩)] w fun e w' => e = .returned (.int .i64 (u / 1099511627776)) ∧ Kept [] w w' := by
  obtain ⟨c0, c1, c2, c3, c4, c5, c6, c7⟩ := h.cells
  have d0 := hB.cell 0
  simp only [List.getElem?_cons_zero] at d0
  have HG := Lib.hid (fun y (e : y.heap = w.heap) => greatest3 (w := y) (by unfold Fields at *; rw [e]; exact h))
  have HL : Hid (bits .and .i64 (IntKind.i64.wrap (u / 1099511627776)) 16777215 = u / 1099511627776) := Lib.hid (by rw [and24, wrap_mod _ _ (by decide) (by decide)]; omega)
  have HM : Hid (bits .and .i64 (u / 1099511627776) 16777215 = u / 1099511627776) := Lib.hid (by rw [and24]; omega)
  clear hB h
  go_enter Tryz.func165, Tryz.ntmps165
  go_wp2_with fail
  go_region_with ((refine (HG.out _ (by rfl)).mono ?_; rintro e w1 ⟨rfl, rfl⟩))
  all_goals first | rw [HL.out] | rw [HM.out]
  all_goals go_wp2_with fail
  all_goals go_ret
  all_goals exact ⟨rfl, by first | exact Kept.refl [] w | exact (Kept.refl [] w).drew⟩
end
end Go.Proofs.YtoagghileebokaaGreatDoor.Hd
